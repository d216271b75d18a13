/-
  What With makes, step by step.
-/
import Derived.Test.YtiddlpjnfophhaaLyv
namespace Go.Proofs.Ytiddlpjnfophhaa
open Go.RowKit
set_option linter.unusedVariables false
section
variable {S0 : Nat} {p : Vt} {B4 : Nat} {nsx : List ByteArray} {na : Option Addr} {nc kn : Nat} {ka : Option Addr} {kc : Nat} {cells ks : List Value} {L : List Nat} {w w' : World}
theorem Tst.grow (h : Tst S0 p B4 nsx na nc kn ka kc cells ks L w) (g : w.grownBy w' none) : Tst S0 p B4 nsx na nc kn ka kc cells ks L w' :=
  ⟨h.lo, h.b4.kept g (by simp), own_none h.ownN g, own_none h.ownK g, Lay.keep _ h.lay fun x hx => g.block x (h.rng x hx).2 (by simp), fun x hx => ⟨(h.rng x hx).1, Nat.lt_of_lt_of_le (h.rng x hx).2 g.size⟩, h.nd, h.bL, h.obN, h.obK⟩
theorem Tst.alloc (h : Tst S0 p B4 nsx na nc kn ka kc cells ks L w) (o : Obj) : Tst S0 p B4 nsx na nc kn ka kc cells ks L (w.alloc o) := h.grow (World.grownBy_alloc w o none)
/-- The names have changed, and their place in the variable. -/
theorem Tst.names (h : Tst S0 p B4 nsx na nc kn ka kc cells ks L w) {w1 w2 : World} {nsy : List ByteArray} {na' : Option Addr} {nc' : Nat} (ho : w1.ownsRow S0 9 1 (.slice na' nsy.length nc') nsy.length (nsy.map Value.string)) (g1 : w.grownBy w1 (Value.slice na nsx.length nc).ownBlock)
    (hat : (Value.slice na' nsy.length nc').ownBlock = (Value.slice na nsx.length nc).ownBlock ∨ ∃ g, (Value.slice na' nsy.length nc').ownBlock = some g ∧ w.heap.size ≤ g) (hb : Blk w2 B4 25 (six { p.1 with ns := nsy } na' nc' ka kn kc)) (g2 : w1.grownBy w2 (some B4)) :
    Tst S0 p B4 nsy na' nc' kn ka kc cells ks L w2 := by
  have hB := h.b4.lt
  have lK := World.ownsRow.lt h.ownK
  have keep : ∀ x, x < w.heap.size → (Value.slice na nsx.length nc).ownBlock ≠ some x → x ≠ B4 → w2.heap[x]? = w.heap[x]? := fun x hx h1 h2 => by
    rw [g2.block x (Nat.lt_of_lt_of_le hx g1.size) (by intro c; injection c with c; exact h2 c), g1.block x hx (fun c => h1 c.symm)]
  have nN : ∀ x, (Value.slice na' nsy.length nc').ownBlock = some x → x ∉ L ∧ x ≠ B4 ∧ (Value.slice ka kn kc).ownBlock ≠ some x := fun x hx => by
    rcases hat with e | ⟨g, e, hg⟩
    · rw [e] at hx; exact h.obN x hx
    · rw [e] at hx
      injection hx with hx
      subst hx
      exact ⟨fun c => by have := (h.rng _ c).2; omega, by omega, fun c => by have := (lK _ c).2; omega⟩
  have s1 := g1.size
  have s2 := g2.size
  refine ⟨h.lo, hb, World.ownsRow.kept ho g2 ?_, ?_, Lay.keep _ h.lay fun x hx => keep x (h.rng x hx).2 (fun c => (h.obN x c).1 hx) (fun c => h.bL (c ▸ hx)), fun x hx => ?_, h.nd, h.bL, nN, h.obK⟩
  · cases hob : (Value.slice na' nsy.length nc').ownBlock with
    | none => exact .inl rfl
    | some x => exact .inr fun c => by injection c with c; exact (nN x hob).2.1 c
  · refine ⟨h.ownK.1, ?_⟩
    rcases h.ownK.2 with e | ⟨g, cap, cur, e1, e2, e3, e4⟩
    · exact .inl e
    · have hgo : (Value.slice ka kn kc).ownBlock = some g := by rw [e1]; rfl
      refine .inr ⟨g, cap, cur, e1, e2, (keep g (lK g hgo).2 (fun c => (h.obN g c).2.2 hgo) (h.obK g hgo).2).trans e3, e4⟩
  · have := h.rng x hx
    omega
/-- The kids' row has changed, and its place in the variable. -/
theorem Tst.kids (h : Tst S0 p B4 nsx na nc kn ka kc cells ks L w) {w1 w2 : World} {kn' : Nat} {ka' : Option Addr} {kc' : Nat} {cells' : List Value} (ho : w1.ownsRow S0 25 6 (.slice ka' kn' kc') kn' cells') (g1 : w.grownBy w1 (Value.slice ka kn kc).ownBlock)
    (hat : (Value.slice ka' kn' kc').ownBlock = (Value.slice ka kn kc).ownBlock ∨ ∃ g, (Value.slice ka' kn' kc').ownBlock = some g ∧ w.heap.size ≤ g) (hb : Blk w2 B4 25 (six { p.1 with ns := nsx } na nc ka' kn' kc')) (g2 : w1.grownBy w2 (some B4)) :
    Tst S0 p B4 nsx na nc kn' ka' kc' cells' ks L w2 := by
  have hB := h.b4.lt
  have lN := World.ownsRow.lt h.ownN
  have keep : ∀ x, x < w.heap.size → (Value.slice ka kn kc).ownBlock ≠ some x → x ≠ B4 → w2.heap[x]? = w.heap[x]? := fun x hx h1 h2 => by
    rw [g2.block x (Nat.lt_of_lt_of_le hx g1.size) (by intro c; injection c with c; exact h2 c), g1.block x hx (fun c => h1 c.symm)]
  have nK : ∀ x, (Value.slice ka' kn' kc').ownBlock = some x → x ∉ L ∧ x ≠ B4 ∧ (Value.slice na nsx.length nc).ownBlock ≠ some x := fun x hx => by
    rcases hat with e | ⟨g, e, hg⟩
    · rw [e] at hx; exact ⟨(h.obK x hx).1, (h.obK x hx).2, fun c => (h.obN x c).2.2 hx⟩
    · rw [e] at hx
      injection hx with hx
      subst hx
      exact ⟨fun c => by have := (h.rng _ c).2; omega, by omega, fun c => by have := (lN _ c).2; omega⟩
  have s1 := g1.size
  have s2 := g2.size
  refine ⟨h.lo, hb, ?_, World.ownsRow.kept ho g2 ?_, Lay.keep _ h.lay fun x hx => keep x (h.rng x hx).2 (fun c => (h.obK x c).1 hx) (fun c => h.bL (c ▸ hx)), fun x hx => ?_, h.nd, h.bL, fun x hx => ⟨(h.obN x hx).1, (h.obN x hx).2.1, fun c => (nK x c).2.2 hx⟩, fun x hx => ⟨(nK x hx).1, (nK x hx).2.1⟩⟩
  · refine ⟨h.ownN.1, ?_⟩
    rcases h.ownN.2 with e | ⟨g, cap, cur, e1, e2, e3, e4⟩
    · exact .inl e
    · have hgo : (Value.slice na nsx.length nc).ownBlock = some g := by rw [e1]; rfl
      refine .inr ⟨g, cap, cur, e1, e2, (keep g (lN g hgo).2 (fun c => (h.obN g hgo).2.2 c) (h.obN g hgo).2.1).trans e3, e4⟩
  · cases hob : (Value.slice ka' kn' kc').ownBlock with
    | none => exact .inl rfl
    | some x => exact .inr fun c => by injection c with c; exact (nK x hob).2.1 c
  · have := h.rng x hx
    omega
end
/-- The field's kid is to be laid. -/
structure Mst (S0 : Nat) (p : Vt) (name : ByteArray) (B4 : Nat) (na : Option Addr) (nc : Nat) (g : Nat) (kc : Nat) (c1 m c3 sp : List Value) (L1 L3 : List Nat) (w : World) : Prop where
  lo : S0 ≤ B4 ∧ S0 ≤ g
  b4 : Blk w B4 25 (six (layH p name) na nc (some ⟨g, 0, none⟩) (layN p name).length kc)
  own : w.ownsRow S0 9 1 (.slice na (layN p name).length nc) (layN p name).length ((layN p name).map Value.string)
  cap : Cap (some ⟨g, 0, none⟩) (layN p name).length kc
  row : Blk w g 25 (c1 ++ (m ++ (c3 ++ sp)))
  lm : m.length = 6
  lc : c1.length = cnt p.1.ns name * 6
  l1 : Lay w (p.2.take (cnt p.1.ns name)) c1 L1
  l3 : Lay w (p.2.drop (lyT p name)) c3 L3
  rng : ∀ x ∈ L1 ++ L3, S0 ≤ x ∧ x < w.heap.size
  nd : (L1 ++ L3).Nodup
  gN : g ∉ L1 ++ L3
  bN : B4 ∉ L1 ++ L3
  gB : g ≠ B4
  ob : ∀ x, (Value.slice na (layN p name).length nc).ownBlock = some x → x ∉ L1 ++ L3 ∧ x ≠ g ∧ x ≠ B4
theorem Mst.done {S0 : Nat} {p x : Vt} {name : ByteArray} {B4 : Nat} {na : Option Addr} {nc g kc : Nat} {c1 m c3 sp : List Value} {L1 L3 Lx : List Nat} {w w1 w2 : World} {na' : Option Addr} {nc' : Nat} {ka' : Option Addr} {kc' : Nat}
    (h : Mst S0 p name B4 na nc g kc c1 m c3 sp L1 L3 w) (hnk : p.1.ns.length = p.2.list.length) (hb : Below w.heap.size w w1) (hv : VlL w1 x na' nc' ka' kc' Lx) (hr : ∀ y ∈ Lx, w.heap.size ≤ y ∧ y < w1.heap.size) (hn : Lx.Nodup) (gr : w1.grownBy w2 (some g)) (hrow : Blk w2 g 25 (c1 ++ (six x.1 na' nc' ka' x.2.list.length kc' ++ (c3 ++ sp)))) :
    Blk w2 B4 25 (six (layV p name x).1 na nc (some ⟨g, 0, none⟩) (layV p name x).2.list.length kc) ∧ ∃ L, VlL w2 (layV p name x) na nc (some ⟨g, 0, none⟩) kc L ∧ (∀ y ∈ L, S0 ≤ y ∧ y < w2.heap.size) ∧ L.Nodup := by
  have s1 := hb.size
  have s2 := gr.size
  have hB := h.b4.lt
  have hg := h.row.lt
  have lN := World.ownsRow.lt h.own
  have hlen := lay_len p name x hnk
  have keep : ∀ y, y < w.heap.size → y ≠ g → w2.heap[y]? = w.heap[y]? := fun y hy hne => by rw [gr.block y (by omega) (by intro c; injection c with c; exact hne c), hb.block y hy]
  have keepx : ∀ y ∈ Lx, w2.heap[y]? = w1.heap[y]? := fun y hy => gr.block y (hr y hy).2 (by intro c; injection c with c; have := (hr y hy).1; omega)
  have hneg : ∀ y ∈ L1 ++ L3, y ≠ g := fun y hy c => h.gN (c ▸ hy)
  obtain ⟨na2, nc2, Ln, e, hnm, hcp, hob, hnn⟩ := nml_of h.own
  injection e with e1 _ e3
  subst e1 e3
  have hnm2 : NmL w2 na (layN p name) Ln := hnm.keep fun y hy => keep y (lN y (hob y hy)).2 (h.ob y (hob y hy)).2.1
  have hlay : Lay w2 (layV p name x).2 (c1 ++ (six x.1 na' nc' ka' x.2.list.length kc' ++ c3)) (L1 ++ (Lx ++ L3)) :=
    Lay.app (Lay.keep _ h.l1 fun y hy => keep y (h.rng y (by simp [hy])).2 (hneg y (by simp [hy]))) (lay_cons.2 ⟨na', nc', ka', kc', c3, Lx, L3, rfl, rfl, hv.keep keepx, Lay.keep _ h.l3 fun y hy => keep y (h.rng y (by simp [hy])).2 (hneg y (by simp [hy]))⟩)
  have n0 := List.nodup_append.1 h.nd
  refine ⟨?_, Ln ++ (g :: (L1 ++ (Lx ++ L3))), ⟨Ln, g :: (L1 ++ (Lx ++ L3)), rfl, hnm2, hcp, by rw [hlen]; exact h.cap, .inr ⟨g, 0, _, _, rfl, rfl, fun i => hrow.frozen i, fun j u hj => ?_, hlay⟩⟩, ?_, ?_⟩
  · unfold Blk
    rw [keep B4 hB (fun c => h.gB c.symm), hlen]
    exact h.b4
  · rw [Nat.zero_add, hrow.cell]
    have : c1 ++ (six x.1 na' nc' ka' x.2.list.length kc' ++ (c3 ++ sp)) = (c1 ++ (six x.1 na' nc' ka' x.2.list.length kc' ++ c3)) ++ sp := by simp
    rw [this, List.getElem?_append_left (List.getElem?_eq_some_iff.1 hj).1]
    exact hj
  · intro y hy
    have hlo := h.lo
    simp only [List.mem_append, List.mem_cons] at hy
    rcases hy with hy | rfl | hy | hy | hy
    · have := lN y (hob y hy); omega
    · omega
    · have := h.rng y (by simp [hy]); omega
    · have := hr y hy; omega
    · have := h.rng y (by simp [hy]); omega
  · have hd : (L1 ++ (Lx ++ L3)).Nodup := by
      rw [List.nodup_append, List.nodup_append]
      refine ⟨n0.1, ⟨hn, n0.2.1, fun a ha b hb' c => ?_⟩, fun a ha b hb' c => ?_⟩
      · subst c; have := (hr a ha).1; have := (h.rng a (by simp [hb'])).2; omega
      · subst c
        rcases List.mem_append.1 hb' with hb' | hb'
        · have := (hr a hb').1; have := (h.rng a (by simp [ha])).2; omega
        · exact n0.2.2 a ha a hb' rfl
    have hx : ∀ y, y < w.heap.size → y ∉ L1 ++ L3 → y ∉ L1 ++ (Lx ++ L3) := fun y hy h1 h2 => by
      simp only [List.mem_append] at h1 h2
      rcases h2 with h2 | h2 | h2
      · exact h1 (.inl h2)
      · have := (hr y h2).1; omega
      · exact h1 (.inr h2)
    rw [List.nodup_append]
    refine ⟨hnn, List.nodup_cons.2 ⟨hx g hg h.gN, hd⟩, fun a ha b hb' c => ?_⟩
    subst c
    have h2 := h.ob a (hob a ha)
    rcases List.mem_cons.1 hb' with e | e
    · exact h2.2.1 e
    · exact hx a (lN a (hob a ha)).2 h2.1 e
theorem layN_has {p : Vt} {name : ByteArray} (h : p.1.ns[cnt p.1.ns name]? = some name) : layN p name = p.1.ns ∧ layH p name = p.1 ∧ lyT p name = cnt p.1.ns name + 1 := by
  have e1 : lyT p name = cnt p.1.ns name + 1 := by unfold lyT; rw [if_pos h]
  have e2 : layN p name = p.1.ns := by
    unfold layN
    rw [e1]
    obtain ⟨hl, hg⟩ := List.getElem?_eq_some_iff.1 h
    have := List.drop_eq_getElem_cons hl
    rw [hg] at this
    rw [← this, List.take_append_drop]
  exact ⟨e2, by unfold layH; rw [e2], e1⟩
theorem Tst.mst_has {S0 : Nat} {p : Vt} {name : ByteArray} {B4 : Nat} {na : Option Addr} {nc : Nat} {ka : Option Addr} {kc : Nat} {ks : List Value} {L : List Nat} {w : World} (h : Tst S0 p B4 p.1.ns na nc p.2.list.length ka kc ks ks L w) (hnk : p.1.ns.length = p.2.list.length) (hh : p.1.ns[cnt p.1.ns name]? = some name) :
    ∃ g c1 m c3 sp L1 L3, ka = some ⟨g, 0, none⟩ ∧ Mst S0 p name B4 na nc g kc c1 m c3 sp L1 L3 w := by
  obtain ⟨e1, e2, e3⟩ := layN_has hh
  have hK : cnt p.1.ns name < p.2.list.length := by rw [← hnk]; exact (List.getElem?_eq_some_iff.1 hh).1
  obtain ⟨q, hq⟩ : ∃ q, p.2.list[cnt p.1.ns name]? = some q := ⟨_, List.getElem?_eq_getElem hK⟩
  obtain ⟨ka2, kc2, sp, ee, cp, hrow⟩ := row_of h.ownK
  injection ee with x1 _ x3
  subst x1 x3
  obtain ⟨g, rfl, hg, hg2, _, _⟩ : ∃ g, ka = some ⟨g, 0, none⟩ ∧ Blk w g 25 (ks ++ sp) ∧ S0 ≤ g ∧ (ks ++ sp).length = kc * 6 ∧ kc ≤ maxLen := by
    rcases hrow with hr | hr
    · omega
    · exact hr
  obtain ⟨L1, L2, rfl, l1, l2⟩ := h.lay.split (cnt p.1.ns name)
  rw [Fo.drop_one hq] at l2
  obtain ⟨na', nc', ka', kc', cs', Lq, L3, hc, rfl, hv, l3⟩ := lay_cons.1 l2
  have n0 := List.nodup_append.1 h.nd
  have n1 := List.nodup_append.1 n0.2.1
  have hsub : ∀ x ∈ L1 ++ L3, x ∈ L1 ++ (Lq ++ L3) := fun x hx => by
    simp only [List.mem_append] at hx ⊢
    rcases hx with hx | hx
    · exact .inl hx
    · exact .inr (.inr hx)
  have hob : (Value.slice (some ⟨g, 0, none⟩) p.2.list.length kc).ownBlock = some g := rfl
  refine ⟨g, ks.take (cnt p.1.ns name * 6), six q.1 na' nc' ka' q.2.list.length kc', cs', sp, L1, L3, rfl, ⟨⟨h.lo, hg2⟩, ?_, ?_, ?_, ?_, rfl, ?_, l1, ?_, fun x hx => h.rng x (hsub x hx), ?_, fun c => (h.obK g hob).1 (hsub g c), fun c => h.bL (hsub _ c), (h.obK g hob).2, ?_⟩⟩
  · rw [e1, e2, hnk]; exact h.b4
  · rw [e1]; exact h.ownN
  · rw [e1, hnk]; exact cp
  · have : ks ++ sp = ks.take (cnt p.1.ns name * 6) ++ (six q.1 na' nc' ka' q.2.list.length kc' ++ (cs' ++ sp)) := by
      conv => lhs; rw [← List.take_append_drop (cnt p.1.ns name * 6) ks, hc]
      simp
    rw [← this]
    exact hg
  · rw [List.length_take, h.lay.len]; omega
  · rw [e3]; exact l3
  · rw [List.nodup_append]
    exact ⟨n0.1, n1.2.1, fun a ha b hb c => n0.2.2 a ha b (by simp [hb]) c⟩
  · intro x hx
    rw [e1] at hx
    obtain ⟨o1, o2, o3⟩ := h.obN x hx
    exact ⟨fun c => o1 (hsub x c), fun c => o3 (by rw [c]; rfl), o2⟩
theorem layN_new {p : Vt} {name : ByteArray} (h : ¬ p.1.ns[cnt p.1.ns name]? = some name) : lyT p name = cnt p.1.ns name ∧ (layN p name).length = p.1.ns.length + 1 := by
  have e1 : lyT p name = cnt p.1.ns name := by unfold lyT; rw [if_neg h]
  have := cnt_le p.1.ns name
  refine ⟨e1, ?_⟩
  simp only [layN, e1, List.length_append, List.length_take, List.length_cons, List.length_drop]
  omega
theorem Tst.mst_new {S0 : Nat} {p : Vt} {name : ByteArray} {B4 : Nat} {na : Option Addr} {nc : Nat} {ka : Option Addr} {kc : Nat} {ks : List Value} {L : List Nat} {w : World} (h : Tst S0 p B4 (layN p name) na nc (p.2.list.length + 1) ka kc (ks.take (cnt p.1.ns name * 6) ++ (zer ++ ks.drop (cnt p.1.ns name * 6))) ks L w) (hnk : p.1.ns.length = p.2.list.length) (hh : ¬ p.1.ns[cnt p.1.ns name]? = some name) :
    ∃ g c1 m c3 sp L1 L3, ka = some ⟨g, 0, none⟩ ∧ Mst S0 p name B4 na nc g kc c1 m c3 sp L1 L3 w := by
  obtain ⟨e3, e1⟩ := layN_new hh
  have hK := cnt_le p.1.ns name
  obtain ⟨ka2, kc2, sp, ee, cp, hrow⟩ := row_of h.ownK
  injection ee with x1 _ x3
  subst x1 x3
  obtain ⟨g, rfl, hg, hg2, _, _⟩ : ∃ g, ka = some ⟨g, 0, none⟩ ∧ Blk w g 25 ((ks.take (cnt p.1.ns name * 6) ++ (zer ++ ks.drop (cnt p.1.ns name * 6))) ++ sp) ∧ S0 ≤ g ∧ ((ks.take (cnt p.1.ns name * 6) ++ (zer ++ ks.drop (cnt p.1.ns name * 6))) ++ sp).length = kc * 6 ∧ kc ≤ maxLen := by
    rcases hrow with hr | hr
    · omega
    · exact hr
  obtain ⟨L1, L2, rfl, l1, l2⟩ := h.lay.split (cnt p.1.ns name)
  have hob : (Value.slice (some ⟨g, 0, none⟩) (p.2.list.length + 1) kc).ownBlock = some g := rfl
  refine ⟨g, ks.take (cnt p.1.ns name * 6), zer, ks.drop (cnt p.1.ns name * 6), sp, L1, L2, rfl, ⟨⟨h.lo, hg2⟩, ?_, h.ownN, ?_, ?_, rfl, ?_, l1, ?_, h.rng, h.nd, (h.obK g hob).1, h.bL, (h.obK g hob).2, ?_⟩⟩
  · rw [e1, hnk]; exact h.b4
  · rw [e1, hnk]; exact cp
  · have : ks.take (cnt p.1.ns name * 6) ++ (zer ++ (ks.drop (cnt p.1.ns name * 6) ++ sp)) = (ks.take (cnt p.1.ns name * 6) ++ (zer ++ ks.drop (cnt p.1.ns name * 6))) ++ sp := by simp
    rw [this]
    exact hg
  · rw [List.length_take, h.lay.len]; omega
  · rw [e3]; exact l2
  · intro x hx
    obtain ⟨o1, o2, o3⟩ := h.obN x hx
    exact ⟨o1, fun c => o3 (by rw [c]; rfl), o2⟩
end Go.Proofs.Ytiddlpjnfophhaa
