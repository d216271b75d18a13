/-
  One operation of a region that draws its order: a call by its contract; an empty slice; an append onto bytes, onto files, of the call's own; a store.
-/
import Derived.Test.YtmpnceicodfifaaGreatRfb
import Derived.Test.YtmpnceicodfifaaGreatOrz
import Derived.Laws.BytesArg
namespace Go.Proofs.YtmpnceicodfifaaGreat
open Go.RowKit Go.Maps
set_option linter.unusedVariables false
theorem oper_call {o : Oper} {a : Act} {w : World} {K : Act → World → Prop} {Q : Exit → Act → World → Prop} (k : Nat) (xs : Array Operand) (ts : Array TypeId)
    (hop : o.op = Op.call { callee := Callee.value (Operand.func k), args := xs, argTypes := ts }) (args : Array Value) (hargs : xs.map a.eval = args)
    (hent : ∀ (args : Array Value) (w : World), (callFunc k args).run Tryz.prog w = .ok (.enter k args) w) (v : Value) (R : World → Prop)
    (hc : Calls Tryz.prog k args w fun e w' => e = .returned v ∧ R w') (hK : ∀ w', R w' → K (a.put o.dst v) w') : Oper.wp Tryz.prog o a w K Q := by
  unfold Oper.wp
  have : (execOp a.eval o).run Tryz.prog w = .ok (.enter k args) w := by
    simp [execOp, hop, resolve, invoke, Act.eval, hargs, hent, Deferred.ofValue]
  rw [this, Oper.upon_enter]
  refine hc.mono ?_
  rintro e w' ⟨rfl, hr⟩
  exact hK w' hr
theorem oper_empty {o : Oper} {K : Act → World → Prop} {Q : Exit → Act → World → Prop} {a : Act} {w : World} (ho : o.op = .buildSlice 32 0 #[]) (hK : K (a.put o.dst (.slice (some ⟨w.heap.size, 0, none⟩) 0 0)) (w.alloc (.cells #[] 5))) : Oper.wp Tryz.prog o a w K Q := by
  unfold Oper.wp execOp
  simp only [ho]
  go_simp
  exact hK
theorem oper_app {o : Oper} {a : Act} {w : World} {K : Act → World → Prop} {Q : Exit → Act → World → Prop} (s x : Operand)
    (ho : o.op = .call { callee := .builtin .append, args := #[s, x], argTypes := #[32, 32] })
    (base : Nat) (v : Value) (l : List Nat) (hs : a.eval s = v) (hown : Own w base v l) (ax : Option Addr) (m c : Nat) (l2 : List Nat) (hm : m = l2.length) (hx : a.eval x = .slice ax m c) (hsrc : Byt w ax l2) (hnil : ax = none → c = 0)
    (hb : l.length + l2.length ≤ 4294967296) (hbase : base ≤ w.heap.size)
    (h : ∀ v' w', Own w' base v' (l ++ l2) → w.grownBy w' v.ownBlock → (∀ g, v'.ownBlock = some g → v.ownBlock = some g ∨ w.heap.size ≤ g) → K (a.put o.dst v') w') :
    Oper.wp Tryz.prog o a w K Q := by
  obtain ⟨v', w', h1, h2, h3, h4⟩ : ∃ v' w', (Builtin.append_ #[32, 32] o.type #[v, .slice ax m c]).run Tryz.prog w = .ok v' w' ∧ Own w' base v' (l ++ l2) ∧ w.grownBy w' v.ownBlock ∧ (∀ g, v'.ownBlock = some g → v.ownBlock = some g ∨ w.heap.size ≤ g) := by
    subst hm
    obtain ⟨i, hi, hz0, hz1, hz2⟩ := info_parts Tryz.info5
    cases ax with
    | none =>
      obtain rfl := hnil rfl
      have hl : l2 = [] := by
        rcases hsrc with h | ⟨_, _, h, _⟩
        · exact h
        · cases h
      subst hl
      exact ⟨v, w, run_append_owned_none (P := Tryz.prog) (w := w) base 32 o.type 5 i 1 Tryz.underlying32 hi v _ _ hown, by simpa using hown, World.grownBy.refl _ _, fun _ h => .inl h⟩
    | some ad =>
      obtain ⟨v', w', r1, r2, r3, _, r5⟩ := run_append_own_at (P := Tryz.prog) w base 32 o.type 5 i (.int .u8 0) 1 1 Tryz.underlying32 hi hz0 hz1 hz2 rfl (by decide) v _ _ hown ad l2.length c (vals l2) (by simp [vals_length]) (by
        intro j u hj
        have hjl : j < l2.length := by
          have := (List.getElem?_eq_some_iff.1 hj).1
          simpa [vals_length] using this
        rcases hsrc with rfl | ⟨b, off, he, hc⟩
        · simp at hjl
        · obtain rfl := Option.some.inj he
          rw [vals_get l2 j hjl] at hj
          rw [Addr.add_lit, hc j hjl]
          exact hj) (vals_one l2) (by unfold maxLen; omega) (by omega) hbase
      refine ⟨v', w', r1, ?_, r3, fun g hg => ?_⟩
      · unfold Own
        rw [List.length_append, show vals (l ++ l2) = vals l ++ vals l2 by simp [vals]]
        exact r2
      · rcases r5 with h4 | h4
        · left; rw [← h4]; exact hg
        · right; rw [h4] at hg; cases hg; exact Nat.le_refl _
  unfold Oper.wp execOp
  simp only [ho, resolve, invoke, builtin, Sem.run_bind, Sem.run_pure, Result.andThen_ok, List.map_toArray, List.map_cons, List.map_nil, hs, hx, h1]
  exact h v' w' h2 h3 h4

theorem oper_empty57 {o : Oper} {K : Act → World → Prop} {Q : Exit → Act → World → Prop} {a : Act} {w : World} (ho : o.op = .buildSlice 50 0 #[]) (hK : K (a.put o.dst (.slice (some ⟨w.heap.size, 0, none⟩) 0 0)) (w.alloc (.cells #[] 57))) : Oper.wp Tryz.prog o a w K Q := by
  unfold Oper.wp execOp
  simp only [ho]
  go_simp
  exact hK
theorem oper_store {o : Oper} {K : Act → World → Prop} {Q : Exit → Act → World → Prop} {a : Act} {w : World} (T : TypeId) (x y : Operand) (ho : o.op = .store T x y) (b k : Nat) (u : Value) (p : Option Addr) (n c : Nat) (hx : a.eval x = .pointer (some ⟨b, k, none⟩)) (hy : a.eval y = .slice p n c) (hT : T = 32 ∨ T = 50)
    (hc : w.cell? ⟨b, k, none⟩ = some u) (hz : w.frozen? ⟨b, k, none⟩ = false) (hK : K (a.put o.dst undef) (w.setCell ⟨b, k, none⟩ (.slice p n c))) : Oper.wp Tryz.prog o a w K Q := by
  unfold Oper.wp execOp
  rcases hT with rfl | rfl <;> simp only [ho, hx, hy] <;> go_simp <;> exact hK
theorem q_val {C : World → Prop} {a : Act} {o : Oper} {K : Act → Prop} (v : Value) (hrun : ∀ w, C w → (execOp a.eval o).run Tryz.prog w = .ok (.value v) w) (hk : K (a.put o.dst v)) : o.quiet Tryz.prog a C K :=
  ⟨v, fun w hw => by unfold Oper.quietAt; rw [hrun w hw]; exact ⟨rfl, rfl⟩, hk⟩
theorem q_load {C : World → Prop} {a : Act} {o : Oper} {K : Act → Prop} (T : TypeId) (x : Operand) (ho : o.op = .load T x) (b k : Nat) (hx : a.eval x = .pointer (some ⟨b, k, none⟩)) (y : Option Addr) (n c : Nat) (hT : T = 32 ∨ T = 50) (hS : ∀ w, C w → w.cell? ⟨b, k, none⟩ = some (.slice y n c))
    (hk : K (a.put o.dst (.slice y n c))) : o.quiet Tryz.prog a C K :=
  ⟨_, fun w hw => by
    have h := hS w hw
    unfold Oper.quietAt execOp
    rcases hT with rfl | rfl <;> simp only [ho, hx] <;> go_simp, hk⟩
theorem run_to {P : Program} (T elem : TypeId) (hu : P.underlying T = some (.slice elem)) (sz : Nat) (hsz : ∀ w, (Go.sizeOf elem).run P w = .ok sz w) (A : Option Addr) (len cap n : Nat) (hn : n ≤ cap) (w : World) :
    (Instr.sliceAt T (.slice A len cap) none (some (.int .i64 (n : Int))) none).run P w = .ok (.slice A n cap) w := by
  have h0 : (0 : Int) ≤ (n : Int) ∧ (n : Int) ≤ (cap : Int) := ⟨by omega, by omega⟩
  have e : (A.map fun p => p.add 0) = A := by cases A <;> simp [Addr.add]
  simp [Instr.sliceAt, Instr.slice, Instr.sliceBounds, Instr.sliceBound, asIntOf, run_underlying hu, h0, hsz]
  rw [if_pos hn, e]
  simp
theorem q_to {C : World → Prop} {a : Act} {o : Oper} {K : Act → Prop} (T elem : TypeId) (hu : Tryz.prog.underlying T = some (.slice elem)) (sz : Nat) (hsz : ∀ w, (Go.sizeOf elem).run Tryz.prog w = .ok sz w) (x y : Operand) (ho : o.op = .slice T x none (some y) none) (A : Option Addr) (len cap n : Nat)
    (hx : a.eval x = .slice A len cap) (hy : a.eval y = .int .i64 (n : Int)) (hn : n ≤ cap) (hk : K (a.put o.dst (.slice A n cap))) : o.quiet Tryz.prog a C K :=
  q_val _ (fun w hw => by
    unfold execOp
    simp only [ho, hx, hy, Option.map_some, Option.map_none, run_to T elem hu sz hsz A len cap n hn w, Sem.run_bind, Result.andThen_ok, Sem.run_pure]) hk
end Go.Proofs.YtmpnceicodfifaaGreat
