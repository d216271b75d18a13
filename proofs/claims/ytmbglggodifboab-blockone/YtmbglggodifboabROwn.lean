/-
  Values that the call made: which blocks they take, and that no two of these are one. Operations on whole blocks.
-/
import Derived.Test.YtmbglggodifboabRGrt
import Derived.Maps.AppendAt
import Derived.Laws.AppendOwnNone
namespace Go.Proofs.Ytmbglggodifboab
open Go.RowKit
set_option linter.unusedVariables false
theorem Try.info9 : (Try.prog.info? 9).map (fun i => (i.zero, i.size, i.bytes)) = some (some (.string ByteArray.empty), 1, 16) := by kernel_rfl
theorem Try.info25 : (Try.prog.info? 41).map (fun i => (i.zero, i.size, i.bytes)) = some (some (.agg #[.int .i64 0, .int .i64 0, .int .i64 0, .string ByteArray.empty, .slice none 0 0, .slice none 0 0]), 6, 88) := by kernel_rfl
/-! ### blocks -/
theorem Blk.there {w : World} {b : Nat} {t : TypeId} {vs : List Value} (h : Blk w b t vs) (o n : Nat) (hn : o + n ≤ vs.length) : w.there b o n := fun j hj => by
  refine ⟨?_, h.frozen _⟩
  rw [h.cell, List.getElem?_eq_getElem (by omega)]; rfl
theorem Blk.below {w w' : World} {b B : Nat} {t : TypeId} {vs : List Value} (h : Blk w b t vs) (hg : Below B w w') (hb : b < B) : Blk w' b t vs := by
  unfold Blk; rw [hg.block b hb]; exact h
theorem grown_setCells (b : Nat) : ∀ (vs : List Value) (o : Nat) (w : World), w.grownBy (w.setCells b o vs) (some b)
  | [], _, w => World.grownBy.refl w _
  | v :: r, o, w => (grown_setCell w ⟨b, o, none⟩ v).trans (grown_setCells b r (o + 1) _)
theorem Blk.setCells {b : Nat} {t : TypeId} (q : List Value) : ∀ (m' m p : List Value) (w : World), m'.length = m.length → Blk w b t (p ++ (m ++ q)) → Blk (w.setCells b p.length m') b t (p ++ (m' ++ q))
  | [], [], p, w, _, h => h
  | v :: r, u :: m, p, w, hl, h => by
    have h1 := h.set p.length v
    have e : (p ++ (u :: m ++ q)).set p.length v = (p ++ [v]) ++ (m ++ q) := by
      rw [List.set_append_right _ _ (Nat.le_refl _), Nat.sub_self]; simp
    rw [e] at h1
    have h2 := Blk.setCells q r m (p ++ [v]) _ (by simpa using hl) h1
    rw [World.setCells]
    simpa using h2
section
variable {P : Program} {ops : Array Oper} {rest : List Oper} {o : Oper} {a : Act} {w : World} {Q : Exit → Act → World → Prop}
theorem st_row (hg : o.guard = none) (ty : TypeId) (x y : Operand) (ho : o.op = .store ty x y) (b off : Nat) (t : TypeId) (p m q m' : List Value)
    (hx : a.eval x = .pointer (some ⟨b, off, none⟩)) (hy : a.eval y = .agg m'.toArray) (hp : p.length = off) (hb : Blk w b t (p ++ (m ++ q))) (hl : m'.length = m.length)
    (hi : (P.info? ty).map (·.size) = some m'.length) (h1 : ∀ v ∈ m', v.oneCell' = true)
    (h : ∀ w', Blk w' b t (p ++ (m' ++ q)) → w.grownBy w' (some b) → wpList P ops Q rest (a.put o.dst undef) w') : wpList P ops Q (o :: rest) a w := by
  subst hp
  refine wpList_store_mid hg ty x y ho b p.length m'.toArray hx hy (hb.there _ _ (by simp; omega)) (by simpa using hi) (all_oneCell_toArray h1) ?_
  exact h _ (by simpa using Blk.setCells q m' m p w hl hb) (by simpa using grown_setCells b m' p.length w)
theorem st_all (hg : o.guard = none) (ty : TypeId) (x y : Operand) (ho : o.op = .store ty x y) (b : Nat) (t : TypeId) (m m' : List Value)
    (hx : a.eval x = .pointer (some ⟨b, 0, none⟩)) (hy : a.eval y = .agg m'.toArray) (hb : Blk w b t m) (hl : m'.length = m.length)
    (hi : (P.info? ty).map (·.size) = some m'.length) (h1 : ∀ v ∈ m', v.oneCell' = true)
    (h : ∀ w', Blk w' b t m' → w.grownBy w' (some b) → wpList P ops Q rest (a.put o.dst undef) w') : wpList P ops Q (o :: rest) a w :=
  st_row hg ty x y ho b 0 t [] m [] m' hx hy rfl (by simpa using hb) hl hi h1 (fun w' h2 h3 => h w' (by simpa using h2) h3)
/-- One cell of a block is stored. -/
theorem st_one (hg : o.guard = none) (ty : TypeId) (x y : Operand) (ho : o.op = .store ty x y) (b i : Nat) (t : TypeId) (vs : List Value) (v : Value)
    (hx : a.eval x = .pointer (some ⟨b, i, none⟩)) (hy : a.eval y = v) (hv : v.cells = #[v]) (hv1 : v.oneCell' = true) (hi : i < vs.length) (hb : Blk w b t vs) (hs : (P.info? ty).map (·.size) = some 1)
    (h : ∀ w', Blk w' b t (vs.set i v) → w.grownBy w' (some b) → wpList P ops Q rest (a.put o.dst undef) w') : wpList P ops Q (o :: rest) a w := by
  have hst := run_storeCells_cells (P := P) b i [v] 0 w (fun j hj => by
      have : j = 0 := by simpa using hj
      subst this
      rw [Nat.add_zero, hb.cell, List.getElem?_eq_getElem hi]; rfl) (fun j hj => hb.frozen _) (by simp [hv1])
  refine wpList_plain hg fun K hK => ?_
  unfold Oper.wp execOp
  cases hq : P.info? ty with
  | none => simp [hq] at hs
  | some q1 =>
    have hq1 : q1.size = 1 := by simpa [hq] using hs
    simp only [Nat.add_zero] at hst
    have hsv : (storeVar ty ⟨b, i, none⟩ v).run P w = .ok () (w.setCells b i [v]) := by
      simp [storeVar, Go.sizeOf, typeInfo, hq, hv, hq1, hst]
    simp only [ho, hx, hy, Instr.storeAt, Instr.sureAddr, Sem.run_bind, Sem.run_pure, Result.andThen_ok, hsv]
    exact hK _ _ (h _ (hb.set i v) (grown_setCell w _ _))
end
/-! ### names and values that the call made -/
/-- A block may be written. -/
def Fre (w : World) (b : Nat) : Prop := ∀ i, w.frozen? ⟨b, i, none⟩ = false
def NmL (w : World) (na : Option Addr) (ns : List ByteArray) (L : List Nat) : Prop :=
  (ns = [] ∧ L = []) ∨ ∃ b o, na = some ⟨b, o, none⟩ ∧ L = [b] ∧ Fre w b ∧ ∀ i x, ns[i]? = some x → w.cell? ⟨b, o + i, none⟩ = some (.string x)
def Lay (w : World) : Fo → List Value → List Nat → Prop
  | .nil, cs, L => cs = [] ∧ L = []
  | .cons h k r, cs, L => ∃ na nc ka kc cs' Ln Lk L2, cs = six h na nc ka k.list.length kc ++ cs' ∧ L = Ln ++ Lk ++ L2 ∧ NmL w na h.ns Ln ∧ Cap na h.ns.length nc ∧ Cap ka k.list.length kc ∧
      ((k = .nil ∧ Lk = []) ∨ ∃ b o ks L', ka = some ⟨b, o, none⟩ ∧ Lk = b :: L' ∧ Fre w b ∧ (∀ j u, ks[j]? = some u → w.cell? ⟨b, o + j, none⟩ = some u) ∧ Lay w k ks L') ∧ Lay w r cs' L2
/-- A value that the call made, and its blocks. -/
def VlL (w : World) (p : Vt) (na : Option Addr) (nc : Nat) (ka : Option Addr) (kc : Nat) (L : List Nat) : Prop :=
  ∃ Ln Lk, L = Ln ++ Lk ∧ NmL w na p.1.ns Ln ∧ Cap na p.1.ns.length nc ∧ Cap ka p.2.list.length kc ∧
    ((p.2 = .nil ∧ Lk = []) ∨ ∃ b o ks L', ka = some ⟨b, o, none⟩ ∧ Lk = b :: L' ∧ Fre w b ∧ (∀ j u, ks[j]? = some u → w.cell? ⟨b, o + j, none⟩ = some u) ∧ Lay w p.2 ks L')
theorem lay_cons {w : World} {q : Vt} {r : Fo} {cs : List Value} {L : List Nat} : Lay w (.cons q.1 q.2 r) cs L ↔ ∃ na nc ka kc cs' L1 L2, cs = six q.1 na nc ka q.2.list.length kc ++ cs' ∧ L = L1 ++ L2 ∧ VlL w q na nc ka kc L1 ∧ Lay w r cs' L2 := by
  constructor
  · rintro ⟨na, nc, ka, kc, cs', Ln, Lk, L2, h1, h2, h3, h4, h5, h6, h7⟩
    exact ⟨na, nc, ka, kc, cs', Ln ++ Lk, L2, h1, h2, ⟨Ln, Lk, rfl, h3, h4, h5, h6⟩, h7⟩
  · rintro ⟨na, nc, ka, kc, cs', L1, L2, h1, h2, ⟨Ln, Lk, h0, h3, h4, h5, h6⟩, h7⟩
    exact ⟨na, nc, ka, kc, cs', Ln, Lk, L2, h1, by rw [h2, h0], h3, h4, h5, h6, h7⟩
theorem cell_keep {w w' : World} {b i : Nat} (h : w'.heap[b]? = w.heap[b]?) : w'.cell? ⟨b, i, none⟩ = w.cell? ⟨b, i, none⟩ := World.cell?_of_block h
theorem Fre.keep {w w' : World} {b : Nat} (h : Fre w b) (hk : w'.heap[b]? = w.heap[b]?) : Fre w' b := fun i => (World.frozen?_of_block (a := ⟨b, i, none⟩) hk).trans (h i)
theorem NmL.keep {w w' : World} {na : Option Addr} {ns : List ByteArray} {L : List Nat} (h : NmL w na ns L) (hk : ∀ x ∈ L, w'.heap[x]? = w.heap[x]?) : NmL w' na ns L := by
  rcases h with h | ⟨b, o, e, rfl, hf, hc⟩
  · exact .inl h
  · have hb := hk b (by simp)
    exact .inr ⟨b, o, e, rfl, hf.keep hb, fun i x hx => (cell_keep hb).trans (hc i x hx)⟩
theorem Lay.keep {w w' : World} (f : Fo) : ∀ {cs : List Value} {L : List Nat}, Lay w f cs L → (∀ x ∈ L, w'.heap[x]? = w.heap[x]?) → Lay w' f cs L := by
  induction f with
  | nil => intro cs L h _; exact h
  | cons h k r ihk ihr =>
    rintro cs L ⟨na, nc, ka, kc, cs', Ln, Lk, L2, h1, rfl, h3, h4, h5, h6, h7⟩ hk
    refine ⟨na, nc, ka, kc, cs', Ln, Lk, L2, h1, rfl, h3.keep (fun x hx => hk x (by simp [hx])), h4, h5, ?_, ihr h7 fun x hx => hk x (by simp [hx])⟩
    rcases h6 with h6 | ⟨b, o, ks, L', e, rfl, hf, hc, hl⟩
    · exact .inl h6
    · have hb := hk b (by simp)
      exact .inr ⟨b, o, ks, L', e, rfl, hf.keep hb, fun j u hj => (cell_keep hb).trans (hc j u hj), ihk hl fun x hx => hk x (by simp [hx])⟩
theorem VlL.keep {w w' : World} {p : Vt} {na ka : Option Addr} {nc kc : Nat} {L : List Nat} (h : VlL w p na nc ka kc L) (hk : ∀ x ∈ L, w'.heap[x]? = w.heap[x]?) : VlL w' p na nc ka kc L := by
  obtain ⟨Ln, Lk, rfl, h3, h4, h5, h6⟩ := h
  refine ⟨Ln, Lk, rfl, h3.keep fun x hx => hk x (by simp [hx]), h4, h5, ?_⟩
  rcases h6 with h6 | ⟨b, o, ks, L', e, rfl, hf, hc, hl⟩
  · exact .inl h6
  · have hb := hk b (by simp)
    exact .inr ⟨b, o, ks, L', e, rfl, hf.keep hb, fun j u hj => (cell_keep hb).trans (hc j u hj), Lay.keep _ hl fun x hx => hk x (by simp [hx])⟩
theorem NmL.nms {w : World} {na : Option Addr} {ns : List ByteArray} {L : List Nat} (h : NmL w na ns L) : Nms w na ns := by
  rcases h with h | ⟨b, o, e, _, _, hc⟩
  · exact .inl h.1
  · exact .inr ⟨b, o, e, hc⟩
theorem six_length (h : Hd) (na : Option Addr) (nc : Nat) (ka : Option Addr) (kl kc : Nat) : (six h na nc ka kl kc).length = 6 := rfl
theorem nd_six {w : World} {b o : Nat} {h : Hd} {na ka : Option Addr} {nc kl kc : Nat} (hc : ∀ j u, (six h na nc ka kl kc)[j]? = some u → w.cell? ⟨b, o + j, none⟩ = some u) : Nd w b o h na nc ka kl kc :=
  ⟨hc 0 _ rfl, hc 1 _ rfl, hc 2 _ rfl, hc 3 _ rfl, hc 4 _ rfl, hc 5 _ rfl⟩
theorem Lay.at {w : World} (f : Fo) : ∀ {cs : List Value} {L : List Nat} {b o : Nat}, Lay w f cs L → (∀ j u, cs[j]? = some u → w.cell? ⟨b, o + j, none⟩ = some u) → At w f b o := by
  induction f with
  | nil => intro _ _ _ _ _ _; trivial
  | cons h k r ihk ihr =>
    rintro cs L b o ⟨na, nc, ka, kc, cs', Ln, Lk, L2, rfl, rfl, h3, h4, h5, h6, h7⟩ hc
    refine ⟨⟨na, nc, ka, kc, nd_six fun j u hj => hc j u ?_, h3.nms, h4, ?_, h5⟩, ihr h7 fun j u hj => ?_⟩
    · rw [List.getElem?_append_left (List.getElem?_eq_some_iff.1 hj).1]; exact hj
    · rcases h6 with h6 | ⟨b', o', ks, L', e, rfl, hf, hc', hl⟩
      · exact .inl h6.1
      · exact .inr ⟨b', o', e, ihk hl hc'⟩
    · rw [Nat.add_assoc]
      refine hc (6 + j) u ?_
      rw [List.getElem?_append_right (by rw [six_length]; omega), six_length, Nat.add_sub_cancel_left]
      exact hj
theorem VlL.vl {w : World} {p : Vt} {na ka : Option Addr} {nc kc : Nat} {L : List Nat} (h : VlL w p na nc ka kc L) : Vl w p na nc ka kc := by
  obtain ⟨Ln, Lk, rfl, h3, h4, h5, h6⟩ := h
  refine ⟨h3.nms, h4, ?_, h5⟩
  rcases h6 with h6 | ⟨b, o, ks, L', e, rfl, hf, hc, hl⟩
  · exact .inl h6.1
  · exact .inr ⟨b, o, e, hl.at _ hc⟩
theorem Lay.len {w : World} (f : Fo) : ∀ {cs : List Value} {L : List Nat}, Lay w f cs L → cs.length = f.list.length * 6 := by
  induction f with
  | nil => rintro cs L ⟨rfl, _⟩; rfl
  | cons h k r ihk ihr =>
    rintro cs L ⟨na, nc, ka, kc, cs', Ln, Lk, L2, rfl, rfl, h3, h4, h5, h6, h7⟩
    rw [List.length_append, ihr h7, six_length]
    simp only [Fo.list, List.length_cons]
    omega
theorem six_one (h : Hd) (na : Option Addr) (nc : Nat) (ka : Option Addr) (kl kc : Nat) : ∀ u ∈ six h na nc ka kl kc, u.oneCell' = true := by
  intro u hu
  simp only [six, List.mem_cons, List.not_mem_nil, or_false] at hu
  rcases hu with rfl | rfl | rfl | rfl | rfl | rfl <;> rfl
def Fo.take : Nat → Fo → Fo
  | 0, _ => .nil
  | _ + 1, .nil => .nil
  | n + 1, .cons h k r => .cons h k (Fo.take n r)
theorem Fo.take_all : ∀ (f : Fo) (n : Nat), f.list.length ≤ n → f.take n = f
  | .nil, 0, _ => rfl
  | .nil, _ + 1, _ => rfl
  | .cons h k r, 0, hl => by simp [Fo.list] at hl
  | .cons h k r, n + 1, hl => by
    simp only [Fo.list, List.length_cons] at hl
    simp only [Fo.take]
    rw [Fo.take_all r n (by omega)]
theorem Lay.snoc {w : World} {q : Vt} {na : Option Addr} {nc : Nat} {ka : Option Addr} {kc : Nat} {Lq : List Nat} (hq : VlL w q na nc ka kc Lq) : ∀ (f : Fo) (k : Nat) {cs : List Value} {L : List Nat}, f.list[k]? = some q → Lay w (f.take k) cs L → Lay w (f.take (k + 1)) (cs ++ six q.1 na nc ka q.2.list.length kc) (L ++ Lq)
  | .nil, k, _, _, hk, _ => by simp [Fo.list] at hk
  | .cons h kk r, 0, cs, L, hk, hl => by
    simp only [Fo.list, List.getElem?_cons_zero, Option.some.injEq] at hk
    subst hk
    obtain ⟨rfl, rfl⟩ := hl
    exact (lay_cons (q := (h, kk))).2 ⟨na, nc, ka, kc, [], Lq, [], by simp, by simp, hq, ⟨rfl, rfl⟩⟩
  | .cons h kk r, k + 1, cs, L, hk, hl => by
    simp only [Fo.list, List.getElem?_cons_succ] at hk
    obtain ⟨na1, nc1, ka1, kc1, cs', L1, L2, rfl, rfl, hv, h7⟩ := (lay_cons (q := (h, kk))).1 hl
    exact (lay_cons (q := (h, kk))).2 ⟨na1, nc1, ka1, kc1, _, L1, _, by rw [List.append_assoc], by rw [List.append_assoc], hv, Lay.snoc hq r k hk h7⟩
/-! ### append -/
theorem app_kids {ops : Array Oper} {rest : List Oper} {o : Oper} {a : Act} {Q : Exit → Act → World → Prop} {w : World} (hgd : o.guard = none) (s x : Operand)
    (ho : o.op = .call { callee := .builtin .append, args := #[s, x], argTypes := #[39, 39] })
    (base : Nat) (v : Value) (n : Nat) (xs : List Value) (hs : a.eval s = v) (hown : w.ownsRow base 41 6 v n xs) (b : Nat) (m c : Nat) (news : List Value) (hx : a.eval x = .slice (some ⟨b, 0, none⟩) m c) (hl : news.length = m * 6) (hc : ∀ j u, news[j]? = some u → w.cell? ⟨b, j, none⟩ = some u) (h1 : ∀ u ∈ news, u.oneCell' = true)
    (hb : n + m ≤ 100000) (hbase : base ≤ w.heap.size)
    (h : ∀ v' w', w'.ownsRow base 41 6 v' (n + m) (xs ++ news) → w.grownBy w' v.ownBlock → (v'.ownBlock = v.ownBlock ∨ v'.ownBlock = some w.heap.size) → wpList Try.prog ops Q rest (a.put o.dst v') w') : wpList Try.prog ops Q (o :: rest) a w := by
  obtain ⟨i, hi, hz0, hz1, hz2⟩ := info_parts Try.info25
  refine wpList_append_own_at _ hgd s x 39 ho base 41 i _ 6 88 Try.underlying39 hi hz0 hz1 hz2 rfl (by decide) v _ _ hs hown ⟨b, 0, none⟩ m c news hx hl (fun j u hj => by rw [Addr.add_lit, Nat.zero_add]; exact hc j u hj) h1 (by unfold maxLen; omega) (by omega) hbase ?_
  intro v' w' h1 h2 _ h4
  exact h v' w' h1 h2 h4
/-- A row of names that the call made. -/
theorem nml_of {w : World} {base : Nat} {v : Value} {ns : List ByteArray} (h : w.ownsRow base 9 1 v ns.length (ns.map Value.string)) : ∃ na nc L, v = .slice na ns.length nc ∧ NmL w na ns L ∧ Cap na ns.length nc ∧ (∀ x ∈ L, v.ownBlock = some x) ∧ L.Nodup := by
  have h' := h
  rcases h with ⟨h1, ⟨rfl, h0⟩ | ⟨g, cap, cur, rfl, hg, hh, hle, hm, h5, h6⟩⟩
  · have e : ns = [] := List.eq_nil_of_length_eq_zero h0
    subst e
    exact ⟨none, 0, [], rfl, .inl ⟨rfl, rfl⟩, ⟨by simp, fun _ => rfl, by omega⟩, by simp, List.nodup_nil⟩
  · refine ⟨_, cap, [g], rfl, .inr ⟨g, 0, rfl, rfl, fun i => frozen_of_row w g i cur 9 hh, fun i x hx => ?_⟩, ⟨hle, fun e => by simp at e, hm⟩, by simp [Value.ownBlock], by simp⟩
    have hlt := (List.getElem?_eq_some_iff.1 hx).1
    rw [Nat.zero_add, World.ownsRow.cellAt h' i (by omega), List.getElem?_map, hx]
    rfl
end Go.Proofs.Ytmbglggodifboab
