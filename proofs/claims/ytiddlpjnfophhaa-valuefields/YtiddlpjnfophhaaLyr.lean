/-
  What the document's own Lay makes.
-/
import Derived.Test.YtiddlpjnfophhaaWth
namespace Go.Proofs.Ytiddlpjnfophhaa
open Go.RowKit
set_option linter.unusedVariables false
theorem Src.below {w w' : World} (hb : Below w.heap.size w w') : ∀ {f : Fo} {cs : List Value}, Src w f cs → Src w' f cs
  | .nil, cs, h => h
  | .cons h k r, cs, ⟨na, nc, ka, kc, cs', e, hv, hs⟩ => ⟨na, nc, ka, kc, cs', e, hv.below hb, hs.below hb⟩
theorem Src.app {w : World} : ∀ {f g : Fo} {c1 c2 : List Value}, Src w f c1 → Src w g c2 → Src w (f.app g) (c1 ++ c2)
  | .nil, g, c1, c2, h1, h2 => by rw [show c1 = [] from h1]; exact h2
  | .cons h k r, g, c1, c2, ⟨na, nc, ka, kc, cs', e, hv, hs⟩, h2 => ⟨na, nc, ka, kc, cs' ++ c2, by rw [e, List.append_assoc], hv, hs.app h2⟩
theorem Src.take {w : World} : ∀ {f : Fo} {cs : List Value} (k : Nat), Src w f cs → Src w (f.take k) (cs.take (k * 6))
  | f, cs, 0, h => by cases f <;> (show cs.take (0 * 6) = []; simp)
  | .nil, cs, k + 1, h => by show cs.take _ = []; rw [show cs = [] from h]; simp
  | .cons hd kk r, cs, k + 1, ⟨na, nc, ka, kc, cs', e, hv, hs⟩ => by
    refine ⟨na, nc, ka, kc, cs'.take (k * 6), ?_, hv, hs.take k⟩
    rw [e, List.take_append, List.take_of_length_le (by rw [six_length]; omega), six_length]
    congr 2
    omega
theorem Src.drop {w : World} : ∀ {f : Fo} {cs : List Value} (k : Nat), Src w f cs → Src w (f.drop k) (cs.drop (k * 6))
  | f, cs, 0, h => by simpa [Fo.drop] using h
  | .nil, cs, k + 1, h => by show cs.drop _ = []; rw [show cs = [] from h]; simp
  | .cons hd kk r, cs, k + 1, ⟨na, nc, ka, kc, cs', e, hv, hs⟩ => by
    have : (six hd na nc ka kk.list.length kc ++ cs').drop ((k + 1) * 6) = cs'.drop (k * 6) := by
      rw [List.drop_append, List.drop_of_length_le (by rw [six_length]; omega), List.nil_append, six_length]
      congr 1
      omega
    rw [e, this]
    exact hs.drop k
theorem Src.at {w : World} : ∀ {f : Fo} {cs : List Value} {b o : Nat}, Src w f cs → (∀ j u, cs[j]? = some u → w.cell? ⟨b, o + j, none⟩ = some u) → At w f b o
  | .nil, _, _, _, _, _ => trivial
  | .cons h k r, cs, b, o, ⟨na, nc, ka, kc, cs', e, hv, hs⟩, hc => by
    subst e
    refine ⟨⟨na, nc, ka, kc, nd_six fun j u hj => hc j u ?_, hv.nms, hv.nc, hv.slc, hv.kc⟩, hs.at fun j u hj => ?_⟩
    · rw [List.getElem?_append_left (List.getElem?_eq_some_iff.1 hj).1]; exact hj
    · rw [Nat.add_assoc]
      refine hc (6 + j) u ?_
      rw [List.getElem?_append_right (by rw [six_length]; omega), six_length, Nat.add_sub_cancel_left]
      exact hj
theorem Lay.src {w : World} : ∀ {f : Fo} {cs : List Value} {L : List Nat}, Lay w f cs L → Src w f cs
  | .nil, cs, L, h => h.1
  | .cons hd k r, cs, L, h => by
    obtain ⟨na, nc, ka, kc, cs', La, Lb, e, _, hv, hr⟩ := (lay_cons (q := (hd, k))).1 h
    exact ⟨na, nc, ka, kc, cs', e, hv.vl, hr.src⟩
theorem Nms.take {w : World} {a : Option Addr} {ns : List ByteArray} (h : Nms w a ns) (k : Nat) : Nms w a (ns.take k) := by
  rcases h with h | ⟨b, o, e, h⟩
  · left; rw [h]; simp
  · refine .inr ⟨b, o, e, fun i x hx => ?_⟩
    rw [List.getElem?_take] at hx
    split at hx
    · exact h i x hx
    · cases hx
theorem cnt_stop {name x : ByteArray} : ∀ {ns : List ByteArray}, ns[cnt ns name]? = some x → lss x name = false
  | [], h => by simp [cnt] at h
  | y :: r, h => by
    unfold cnt at h
    by_cases hy : lss y name = true
    · simp only [List.takeWhile_cons, hy, if_true, List.length_cons, List.getElem?_cons_succ] at h
      exact cnt_stop (ns := r) h
    · simp only [List.takeWhile_cons, hy, if_false, List.length_nil, List.getElem?_cons_zero, Option.some.injEq, Bool.false_eq_true] at h
      rw [← h]
      simpa using hy
/-! ### two rows that the call makes -/
structure Lst (W : World) (bx by' : List Value) (vN : Value) (nN : Nat) (xN : List Value) (vK : Value) (nK : Nat) (xK : List Value) (w : World) : Prop where
  below : Below W.heap.size W w
  b1 : Blk w W.heap.size 25 bx
  b2 : Blk w (W.heap.size + 1) 25 by'
  b3 : Blk w (W.heap.size + 1 + 1) 25 zer
  ownN : w.ownsRow (W.heap.size + 3) 9 1 vN nN xN
  ownK : w.ownsRow (W.heap.size + 3) 25 6 vK nK xK
  ne : ∀ x, vN.ownBlock = some x → vK.ownBlock ≠ some x
section
variable {W : World} {bx by' : List Value} {vN : Value} {nN : Nat} {xN : List Value} {vK : Value} {nK : Nat} {xK : List Value} {w w' : World}
theorem own_other {B e size n : Nat} {v : Value} {xs : List Value} {row : Option Nat} (h : w.ownsRow B e size v n xs) (g : w.grownBy w' row) (hne : ∀ x, row = some x → v.ownBlock ≠ some x) : w'.ownsRow B e size v n xs := by
  refine World.ownsRow.kept h g ?_
  cases hob : v.ownBlock with
  | none => exact .inl rfl
  | some x => exact .inr fun c => hne x c.symm hob
theorem Lst.names (h : Lst W bx by' vN nN xN vK nK xK w) {vN' : Value} {nN' : Nat} {xN' : List Value} (ho : w'.ownsRow (W.heap.size + 3) 9 1 vN' nN' xN') (g : w.grownBy w' vN.ownBlock) (hat : vN'.ownBlock = vN.ownBlock ∨ vN'.ownBlock = some w.heap.size) : Lst W bx by' vN' nN' xN' vK nK xK w' := by
  have lN := World.ownsRow.lt h.ownN
  have lK := World.ownsRow.lt h.ownK
  have hb : ∀ x, vN.ownBlock = some x → W.heap.size + 3 ≤ x := fun x hx => (lN x hx).1
  refine ⟨h.below.grown g h.below.size (fun k hk => by have := hb k hk; omega), h.b1.kept g (fun c => by have := hb _ c.symm; omega), h.b2.kept g (fun c => by have := hb _ c.symm; omega), h.b3.kept g (fun c => by have := hb _ c.symm; omega), ho, own_other h.ownK g h.ne, fun x hx => ?_⟩
  rcases hat with e | e
  · rw [e] at hx; exact h.ne x hx
  · rw [e] at hx; injection hx with hx; intro c; have := (lK x c).2; omega
theorem Lst.kids (h : Lst W bx by' vN nN xN vK nK xK w) {vK' : Value} {nK' : Nat} {xK' : List Value} (ho : w'.ownsRow (W.heap.size + 3) 25 6 vK' nK' xK') (g : w.grownBy w' vK.ownBlock) (hat : vK'.ownBlock = vK.ownBlock ∨ vK'.ownBlock = some w.heap.size) : Lst W bx by' vN nN xN vK' nK' xK' w' := by
  have lN := World.ownsRow.lt h.ownN
  have lK := World.ownsRow.lt h.ownK
  have hb : ∀ x, vK.ownBlock = some x → W.heap.size + 3 ≤ x := fun x hx => (lK x hx).1
  refine ⟨h.below.grown g h.below.size (fun k hk => by have := hb k hk; omega), h.b1.kept g (fun c => by have := hb _ c.symm; omega), h.b2.kept g (fun c => by have := hb _ c.symm; omega), h.b3.kept g (fun c => by have := hb _ c.symm; omega), own_other h.ownN g (fun x hx c => h.ne x c hx), ho, fun x hx => ?_⟩
  rcases hat with e | e
  · rw [e]; exact h.ne x hx
  · rw [e]; intro c; injection c with c; have := (lN x hx).2; omega
theorem Lst.grow (h : Lst W bx by' vN nN xN vK nK xK w) (g : w.grownBy w' none) : Lst W bx by' vN nN xN vK nK xK w' :=
  ⟨h.below.grown g h.below.size (fun k hk => by cases hk), h.b1.kept g (by simp), h.b2.kept g (by simp), h.b3.kept g (by simp), own_none h.ownN g, own_none h.ownK g, h.ne⟩
theorem Lst.alloc (h : Lst W bx by' vN nN xN vK nK xK w) (o : Obj) : Lst W bx by' vN nN xN vK nK xK (w.alloc o) := h.grow (World.grownBy_alloc w o none)
theorem Lst.box (h : Lst W bx by' vN nN xN vK nK xK w) {bx' : List Value} (hb : Blk w' W.heap.size 25 bx') (g : w.grownBy w' (some W.heap.size)) : Lst W bx' by' vN nN xN vK nK xK w' :=
  ⟨h.below.grown g h.below.size (by intro x hx; injection hx with hx; omega), hb, h.b2.kept g (by simp), h.b3.kept g (by simp; omega), own_kept h.ownN g (by omega), own_kept h.ownK g (by omega), h.ne⟩
theorem Lst.room (h : Lst W bx by' vN nN xN vK nK xK w) : W.heap.size + 3 ≤ w.heap.size := by have := h.b3.lt; omega
end
section
variable {ops : Array Oper} {rest : List Oper} {o : Oper} {a : Act} {Q : Exit → Act → World → Prop} {w : World}
theorem app_names2 (hgd : o.guard = none) (s x : Operand)
    (ho : o.op = .call { callee := .builtin .append, args := #[s, x], argTypes := #[22, 22] })
    (base : Nat) (v : Value) (n : Nat) (xs : List Value) (hs : a.eval s = v) (hown : w.ownsRow base 9 1 v n xs) (ax : Option Addr) (m c : Nat) (ns : List ByteArray) (hm : m = ns.length) (hx : a.eval x = .slice ax m c) (hsrc : Nms w ax ns) (hnil : ax = none → c = 0)
    (hb : n + m ≤ 100000) (hbase : base ≤ w.heap.size)
    (h : ∀ v' w', w'.ownsRow base 9 1 v' (n + m) (xs ++ ns.map Value.string) → w.grownBy w' v.ownBlock → (v'.ownBlock = v.ownBlock ∨ v'.ownBlock = some w.heap.size) → wpList Try.prog ops Q rest (a.put o.dst v') w') : wpList Try.prog ops Q (o :: rest) a w := by
  subst hm
  exact app_names hgd s x ho base v n xs hs hown ax c ns hx hsrc hnil hb hbase h
theorem sl_pre {P : Program} {d : Option Tmp} {T : TypeId} {x y : Operand} {ty : TypeId} {ps : String} {af : Array Edge} {gd : Option (Nat × Bool)} (h : wpList P ops Q ({ dst := d, op := .slice T x (some y) none none, type := ty, pos := ps, after := af, guard := gd } :: rest) a w) : wpList P ops Q ({ dst := d, op := .slice T x (some y) none none, type := ty, pos := ps, after := af, guard := gd } :: rest) a w := h
/-- Where a slice's rest stands. -/
def SlP (A A' : Option Addr) (n len sz : Nat) : Prop := (A' = none → A = none) ∧ (n < len → ∀ b off, A = some ⟨b, off, none⟩ → A' = some ⟨b, off + n * sz, none⟩)
theorem sl_part {P : Program} (hg : o.guard = none) (T : TypeId) (x y : Operand) (ho : o.op = .slice T x (some y) none none) (elem : TypeId) (hu : P.underlying T = some (.slice elem)) (sz : Nat) (hsz : ∀ w, (Go.sizeOf elem).run P w = .ok sz w)
    (A : Option Addr) (len cap n : Nat) (z : Int) (hz : z = (n : Int)) (hx : a.eval x = .slice A len cap) (hy : a.eval y = .int .i64 z) (hn : n ≤ len) (hc : len ≤ cap)
    (h : ∀ A', SlP A A' n len sz → wpList P ops Q rest (a.put o.dst (.slice A' (len - n) (cap - n))) w) : wpList P ops Q (o :: rest) a w := by
  subst hz
  refine wpList_plain hg fun K hK => ?_
  unfold Oper.wp execOp
  simp only [ho, hx, hy, Option.map_some, Option.map_none, run_fromW T elem hu sz hsz A len cap n hn w, Sem.run_bind, Result.andThen_ok, Sem.run_pure]
  refine hK _ _ (h _ ⟨fun e => ?_, fun hl b off e => ?_⟩)
  · split at e
    · exact e
    · cases A with
      | none => rfl
      | some p => cases e
  · subst e
    rw [if_neg (by omega)]
    simp [Addr.add_lit]
end
end Go.Proofs.Ytiddlpjnfophhaa
