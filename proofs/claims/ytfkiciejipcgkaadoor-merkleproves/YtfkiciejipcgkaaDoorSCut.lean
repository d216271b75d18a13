/-
  Three operations more as laws that leave the world under a name: a copy into a row that is known whole; a number stored into one cell of it; a slice cut from a place on.
-/
import Derived.Test.YtfkiciejipcgkaaDoorSMem
import Derived.Laws.CopyOwn
namespace Go.Proofs.YtfkiciejipcgkaaDoor.Sh
open Go.RowKit Mt
variable {P : Program} {ops : Array Oper} {rest : List Oper} {o : Oper} {a : Act} {w : World} {Q : Exit → Act → World → Prop}
theorem blk_setRow {g : Nat} {t : TypeId} {vs vs' : List Value} (h : Blk w g t vs) : Blk (w.setRow g vs'.toArray) g t vs' := setRow_heap w g _ _ t _ h
theorem grown_setRow (w : World) (g : Nat) (cs : Array Value) : w.grownBy (w.setRow g cs) (some g) :=
  ⟨rfl, rfl, rfl, by simp, fun k _ hk => setRow_other w g k cs (fun e => hk (by rw [e]))⟩
theorem cp_row (hgd : o.guard = none) (d s : Operand) (dT sT : TypeId) (ho : o.op = .call { callee := .builtin .copy, args := #[d, s], argTypes := #[dT, sT] }) (elem : TypeId) (hu : P.underlying dT = some (.slice elem)) (hsz : (P.info? elem).map (·.size) = some 1)
    (g off dLen dCap : Nat) (ad : Addr) (sLen sCap : Nat) (hd : a.eval d = .slice (some ⟨g, off, none⟩) dLen dCap) (hs : a.eval s = .slice (some ad) sLen sCap)
    (t : TypeId) (p m q cs : List Value) (hp : p.length = off) (hb : Blk w g t (p ++ (m ++ q))) (hl : cs.length = m.length) (hn : cs.length = Nat.min sLen dLen)
    (hsrc : ∀ j v, cs[j]? = some v → w.cell? (ad.add j) = some v) (h1 : ∀ v ∈ cs, v.oneCell' = true)
    (h : ∀ w', Blk w' g t (p ++ (cs ++ q)) → w.grownBy w' (some g) → wpList P ops Q rest (a.put o.dst (goInt cs.length)) w') : wpList P ops Q (o :: rest) a w := by
  subst hp
  refine wpList_copy_own hgd d s dT sT ho elem hu hsz g p.length dLen dCap ad sLen sCap hd hs (p ++ (m ++ q)).toArray t hb cs hn hsrc (by simp; omega) h1 ?_
  have e : (p ++ (m ++ q)).take p.length ++ (cs ++ (p ++ (m ++ q)).drop (p.length + cs.length)) = p ++ (cs ++ q) := by
    rw [List.take_left, hl, List.drop_append, List.drop_of_length_le (by omega), Nat.add_sub_cancel_left, List.drop_left, List.nil_append]
  rw [show (p ++ (m ++ q)).toArray.toList = p ++ (m ++ q) from rfl, e]
  exact h _ (blk_setRow hb) (grown_setRow w g _)
theorem st_cell (hg : o.guard = none) (ty : TypeId) (x y : Operand) (ho : o.op = .store ty x y) (b i : Nat) (t : TypeId) (k : IntKind) (p q : List Value) (old : Value) (v : Int) (n : Nat)
    (hx : a.eval x = .pointer (some ⟨b, i, none⟩)) (hy : a.eval y = .int k v) (hv : v = (n : Int)) (hp : p.length = i) (hb : Blk w b t (p ++ old :: q)) (hs : (P.info? ty).map (·.size) = some 1)
    (h : ∀ w', Blk w' b t (p ++ .int k (n : Int) :: q) → w.grownBy w' (some b) → wpList P ops Q rest (a.put o.dst undef) w') : wpList P ops Q (o :: rest) a w := by
  subst hv hp
  have hst := run_storeCells_cells (P := P) b p.length [.int k (n : Int)] 0 w (fun j hj => by
      have : j = 0 := by simpa using hj
      subst this
      rw [Nat.add_zero, hb.cell, List.getElem?_append_right (Nat.le_refl _), Nat.sub_self]; rfl) (fun j hj => hb.frozen _) (by simp [Value.oneCell'])
  refine wpList_plain hg fun K hK => ?_
  unfold Oper.wp execOp
  cases hq : P.info? ty with
  | none => simp [hq] at hs
  | some q1 =>
    have hq1 : q1.size = 1 := by simpa [hq] using hs
    simp only [Nat.add_zero] at hst
    have hsv : (storeVar ty ⟨b, p.length, none⟩ (.int k (n : Int))).run P w = .ok () (w.setCells b p.length [.int k (n : Int)]) := by
      simp [storeVar, Go.sizeOf, typeInfo, hq, Value.cells, hq1, hst]
    simp only [ho, hx, hy, Instr.storeAt, Instr.sureAddr, Sem.run_bind, Sem.run_pure, Result.andThen_ok, hsv]
    refine hK _ _ (h _ ?_ (grown_setCell w _ _))
    have := hb.set p.length (.int k (n : Int))
    rwa [List.set_append_right _ _ (Nat.le_refl _), Nat.sub_self] at this
theorem sl_from (hg : o.guard = none) (T : TypeId) (x y : Operand) (ho : o.op = .slice T x (some y) none none) (elem : TypeId) (hu : P.underlying T = some (.slice elem)) (hsz : ∀ w, (Go.sizeOf elem).run P w = .ok 1 w)
    (b off len cap n : Nat) (hx : a.eval x = .slice (some ⟨b, off, none⟩) len cap) (hy : a.eval y = .int .i64 (n : Int)) (hn : n ≤ len) (hc : len ≤ cap)
    (h : ∀ A, (n < len → A = some ⟨b, off + n, none⟩) → wpList P ops Q rest (a.put o.dst (.slice A (len - n) (cap - n))) w) : wpList P ops Q (o :: rest) a w := by
  refine wpList_plain hg fun K hK => ?_
  unfold Oper.wp execOp
  have h0 : (0 : Int) ≤ (n : Int) ∧ (n : Int) ≤ (len : Int) := ⟨by omega, by omega⟩
  have hr : (Instr.sliceAt T (.slice (some ⟨b, off, none⟩) len cap) (some (.int .i64 (n : Int))) none none).run P w = .ok (.slice (if cap = n then some ⟨b, off, none⟩ else some ⟨b, off + n, none⟩) (len - n) (cap - n)) w := by
    simp [Instr.sliceAt, Instr.slice, Instr.sliceBounds, Instr.sliceBound, asIntOf, run_underlying hu, h0, hsz, Addr.add_mid]
    omega
  simp only [ho, hx, hy, Option.map_some, Option.map_none, hr, Sem.run_bind, Result.andThen_ok]
  exact hK _ _ (h _ fun hlt => by rw [if_neg (by omega)])
#print axioms sl_from
end Go.Proofs.YtfkiciejipcgkaaDoor.Sh
