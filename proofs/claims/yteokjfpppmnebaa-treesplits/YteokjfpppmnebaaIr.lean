/-
  TreeSplits: the boxes beside the tree, before and behind a range.
-/
import Derived.Test.YteokjfpppmnebaaIm
namespace Go.Proofs.Yteokjfpppmnebaa
open Go.RowKit Go.Shelf
set_option linter.unusedVariables false
set_option linter.unusedSimpArgs false
/-- A tree that the call has made. -/
structure QI (w W : World) (g : Nat) (T : Option (Nat × B)) (M : List E) : Prop where
  ts : TreeS W g T M
  fp : ∀ y ∈ fpO T, w.heap.size ≤ y
  hg : w.heap.size ≤ g
  bl : Below w.heap.size w W
theorem QI.step {w W W' : World} {g : Nat} {T T' : Option (Nat × B)} {M M' : List E} (h : QI w W g T M) (t : TreeS W' g T' M') (hf : ∀ y ∈ fpO T', y ∈ fpO T ∨ W.heap.size ≤ y) (u : Upd (g :: fpO T) W W') : QI w W' g T' M' :=
  ⟨t, fun y hy => (hf y hy).elim (h.fp y) (fun q => Nat.le_trans h.bl.size q), h.hg, Upd.below h.bl u (Nat.le_refl _) (fun x hx => by
    rcases List.mem_cons.1 hx with rfl | hx
    · exact h.hg
    · exact h.fp x hx)⟩
theorem QI.below {w W W' : World} {g : Nat} {T : Option (Nat × B)} {M : List E} (h : QI w W g T M) (b : Below W.heap.size W W') : QI w W' g T M := by
  have u : Upd [] W W' := Upd.of_below [] b
  exact ⟨h.ts.upd u (by simp) (by simp), h.fp, h.hg, Upd.below h.bl u (Nat.le_refl _) (by simp)⟩
abbrev Bxe := Nat × Value × List Value
def BoxOk (W : World) (p : Bxe) : Prop := Blk W p.1 28 [p.2.1] ∧ W.ownsRow 0 9 1 p.2.1 p.2.2.length p.2.2
def Apart (p q : Bxe) : Prop := p.1 ≠ q.1 ∧ ∀ k, p.2.1.ownBlock = some k → q.2.1.ownBlock ≠ some k
theorem Apart.symm {p q : Bxe} (h : Apart p q) : Apart q p := ⟨Ne.symm h.1, fun k h1 h2 => h.2 k h2 h1⟩
theorem box_row {W : World} {p q : Bxe} (h : BoxOk W p) (h' : BoxOk W q) : q.2.1.ownBlock ≠ some p.1 := fun e => by
  obtain ⟨hbl, _⟩ := h
  rcases h'.2.2 with ⟨hv, _⟩ | ⟨g, cap, cur, hv, _, ho, _⟩
  · rw [hv] at e; simp [Value.ownBlock] at e
  · rw [hv] at e
    simp [Value.ownBlock] at e
    subst e
    unfold Blk at hbl
    rw [hbl] at ho
    injection ho with ho
    injection ho with _ ho _
    exact absurd ho (by decide)
theorem own_kp {A : Nat → Prop} {w w' : World} {v : Value} {n : Nat} {xs : List Value} (h : w.ownsRow 0 9 1 v n xs) (u : Kp A w w') (hA : ∀ k, v.ownBlock = some k → A k) : w'.ownsRow 0 9 1 v n xs := by
  refine ⟨h.1, ?_⟩
  rcases h.2 with hn | ⟨g, cap, cur, rfl, hb, hgg, rest⟩
  · exact .inl hn
  · refine .inr ⟨g, cap, cur, rfl, hb, ?_, rest⟩
    rw [u.block g (Array.getElem?_eq_some_iff.1 hgg).1 (hA g rfl)]
    exact hgg
structure S3 (w W : World) (g : Nat) (T : Option (Nat × B)) (M : List E) (ps : List Bxe) (Ds : List Nat) : Prop where
  q : QI w W g T M
  ok : ∀ p ∈ ps, BoxOk W p ∧ (w.heap.size ≤ p.1 ∧ p.1 ≠ g ∧ p.1 ∉ fpO T) ∧ ∀ k, p.2.1.ownBlock = some k → w.heap.size ≤ k ∧ k ≠ g ∧ k ∉ fpO T
  nd : ps.Pairwise Apart
  ds : ∀ D ∈ Ds, W.heap[D]? = some (.deferred (some [])) ∧ w.heap.size ≤ D ∧ D ≠ g ∧ D ∉ fpO T
  dn : Ds.Nodup
theorem S3.perm {w W : World} {g : Nat} {T : Option (Nat × B)} {M : List E} {ps qs : List Bxe} {Ds : List Nat} (h : S3 w W g T M ps Ds) (hp : qs.Perm ps) : S3 w W g T M qs Ds :=
  ⟨h.q, fun p hm => h.ok p (hp.mem_iff.1 hm), (hp.pairwise_iff Apart.symm).2 h.nd, h.ds, h.dn⟩
theorem S3.below {w W W' : World} {g : Nat} {T : Option (Nat × B)} {M : List E} {ps : List Bxe} {Ds : List Nat} (h : S3 w W g T M ps Ds) (b : Below W.heap.size W W') : S3 w W' g T M ps Ds := by
  have u : Kp (fun _ => True) W W' := Kp.of_below b
  exact ⟨h.q.below b, fun p hm => ⟨⟨(h.ok p hm).1.1.kp u trivial, own_kp (h.ok p hm).1.2 u fun _ _ => trivial⟩, (h.ok p hm).2⟩, h.nd, fun D hD => ⟨def_below (h.ds D hD).1 b, (h.ds D hD).2⟩, h.dn⟩
def NN (g : Nat) (T : Option (Nat × B)) (c3 c4 c5 : Nat) (k : Nat) : Prop := k ∈ fpO T ∨ k = g ∨ k = c3 ∨ k = c4 ∨ k = c5
def AA (w : World) (os : List Bxe) (Ds : List Nat) (k : Nat) : Prop := k < w.heap.size ∨ (∃ p ∈ os, k = p.1 ∨ p.2.1.ownBlock = some k) ∨ k ∈ Ds
structure Ent (w w5 w6 : World) (g : Nat) (T : Option (Nat × B)) (c3 c4 c5 b : Nat) (xs : List Value) (os : List Bxe) (Ds : List Nat) : Prop where
  hN : ∀ k, NN g T c3 c4 c5 k → k < w6.heap.size
  hA : ∀ k, AA w os Ds k → k < w6.heap.size
  hb : b < w6.heap.size
  hbN : ¬ NN g T c3 c4 c5 b
  hbA : ¬ AA w os Ds b
  r0 : ∀ hi, RowI (NN g T c3 c4 c5) (AA w os Ds) w6.heap.size b xs w6 hi [] w6
  rN : ∀ r, r = g ∨ r ∈ fpO T → r < w6.heap.size ∧ NN g T c3 c4 c5 r ∧ ¬ AA w os Ds r ∧ b ≠ r
theorem S3.enter {w w5 w6 : World} {g : Nat} {T : Option (Nat × B)} {M : List E} {b : Nat} {v : Value} {xs : List Value} {os : List Bxe} {Ds : List Nat} {c3 c4 c5 : Nat} (h : S3 w w5 g T M ((b, v, xs) :: os) Ds) (hb : Below w5.heap.size w5 w6)
    (l3 : w5.heap.size ≤ c3 ∧ c3 < w6.heap.size) (l4 : w5.heap.size ≤ c4 ∧ c4 < w6.heap.size) (l5 : w5.heap.size ≤ c5 ∧ c5 < w6.heap.size) : Ent w w5 w6 g T c3 c4 c5 b xs os Ds := by
  have hs := hb.size
  have h6 := h.below hb
  have hgl := h.q.ts.glt
  have hfl := h.q.ts.flt
  have hwl := h.q.bl.size
  have ho := h.ok (b, v, xs) (by simp)
  have hbl : b < w5.heap.size := ho.1.1.lt
  have hrl : ∀ p ∈ (b, v, xs) :: os, ∀ k, p.2.1.ownBlock = some k → k < w5.heap.size := fun p hp k hk => ((h.ok p hp).1.2.lt k hk).2
  have hpl : ∀ p ∈ (b, v, xs) :: os, p.1 < w5.heap.size := fun p hp => (h.ok p hp).1.1.lt
  have hdl : ∀ D ∈ Ds, D < w5.heap.size := fun D hD => (Array.getElem?_eq_some_iff.1 (h.ds D hD).1).1
  have hap := (List.pairwise_cons.1 h.nd).1
  have hnc : ∀ p ∈ (b, v, xs) :: os, p.1 ∉ Ds := fun p hp hD => by
    have h1 := (h.ok p hp).1.1
    have h2 := (h.ds _ hD).1
    unfold Blk at h1
    rw [h1] at h2
    cases h2
  have hrc : ∀ p ∈ (b, v, xs) :: os, ∀ k, p.2.1.ownBlock = some k → k ∉ Ds := fun p hp k hk hD => by
    have := own_cells (h.ok p hp).1.2 hk (h.ds _ hD).1
    cases this
  have hNk : ∀ k, k < w5.heap.size → k ≠ g → k ∉ fpO T → ¬ NN g T c3 c4 c5 k := fun k h1 h2 h3 h4 => by
    rcases h4 with q | q | q | q | q
    · exact h3 q
    · exact h2 q
    · omega
    · omega
    · omega
  refine ⟨fun k hk => ?_, fun k hk => ?_, by omega, hNk b hbl ho.2.1.2.1 ho.2.1.2.2, fun hk => ?_, fun hi => ?_, fun r hr => ?_⟩
  · rcases hk with q | rfl | rfl | rfl | rfl
    · have := hfl k q; omega
    · omega
    · omega
    · omega
    · omega
  · rcases hk with q | ⟨p, hp, q | q⟩ | q
    · omega
    · have := hpl p (List.mem_cons_of_mem _ hp); omega
    · have := hrl p (List.mem_cons_of_mem _ hp) k q; omega
    · have := hdl k q; omega
  · rcases hk with q | ⟨p, hp, q | q⟩ | q
    · have := ho.2.1.1; simp only at this; omega
    · exact (hap p hp).1 q
    · exact box_row ho.1 (h.ok p (List.mem_cons_of_mem _ hp)).1 q
    · exact hnc (b, v, xs) (by simp) q
  · have h6o := h6.ok (b, v, xs) (by simp)
    refine ⟨v, h6o.1.1, by simpa [txs] using h6o.1.2, fun k hk => .inl ⟨?_, hNk k (hrl (b, v, xs) (by simp) k hk) (ho.2.2 k hk).2.1 (ho.2.2 k hk).2.2, fun hA => ?_⟩, by simpa [txs] using own_form h6o.1.2, Kp.refl _ _⟩
    · have := hrl (b, v, xs) (by simp) k hk; omega
    · rcases hA with q | ⟨p, hp, q | q⟩ | q
      · have := (ho.2.2 k hk).1; omega
      · rw [q] at hk
        exact box_row (h.ok p (List.mem_cons_of_mem _ hp)).1 ho.1 hk
      · exact (hap p hp).2 k hk q
      · exact hrc (b, v, xs) (by simp) k hk q
  · have hrg : r < w5.heap.size := by
      rcases hr with rfl | q
      · exact hgl
      · exact hfl r q
    refine ⟨by omega, hr.elim (fun e => .inr (.inl e)) .inl, fun hA => ?_, fun e => ?_⟩
    · rcases hA with q | ⟨p, hp, q | q⟩ | q
      · rcases hr with rfl | e
        · have := h.q.hg; omega
        · have := h.q.fp r e; omega
      · have ho' := (h.ok p (List.mem_cons_of_mem _ hp)).2.1
        rw [← q] at ho'
        rcases hr with e | e
        · exact ho'.2.1 e
        · exact ho'.2.2 e
      · have ho' := (h.ok p (List.mem_cons_of_mem _ hp)).2.2 r q
        rcases hr with e | e
        · exact ho'.2.1 e
        · exact ho'.2.2 e
      · have ho' := (h.ds r q).2
        rcases hr with e | e
        · exact ho'.2.1 e
        · exact ho'.2.2 e
    · subst e
      rcases hr with e | e
      · exact ho.2.1.2.1 e
      · exact ho.2.1.2.2 e
theorem S3.leave {w w5 w6 W : World} {g : Nat} {T : Option (Nat × B)} {M X : List E} {b : Nat} {v : Value} {xs : List Value} {os : List Bxe} {Ds : List Nat} {c3 c4 c5 hi D : Nat} (h : S3 w w6 g T M ((b, v, xs) :: os) Ds)
    (hent : Ent w w5 w6 g T c3 c4 c5 b xs os Ds) (hr : RowI (NN g T c3 c4 c5) (AA w os Ds) w6.heap.size b xs w6 hi X W) (hhi : w6.heap.size ≤ hi) (hk : Kp (NN g T c3 c4 c5) w6 W) (hD : w6.heap.size ≤ D) (hd : W.heap[D]? = some (.deferred (some []))) :
    ∃ v', S3 w W g T M ((b, v', xs ++ txs X) :: os) (D :: Ds) := by
  obtain ⟨v', p1, p2, p3, p4, p5⟩ := hr
  have hgl := h.q.ts.glt
  have hfl := h.q.ts.flt
  have hwl := h.q.bl.size
  have ho := h.ok (b, v, xs) (by simp)
  have hdl : ∀ D ∈ Ds, D < w6.heap.size := fun D hD => (Array.getElem?_eq_some_iff.1 (h.ds D hD).1).1
  have hrl : ∀ p ∈ os, ∀ k, p.2.1.ownBlock = some k → k < w6.heap.size := fun p hp k hk => ((h.ok p (List.mem_cons_of_mem _ hp)).1.2.lt k hk).2
  refine ⟨v', ⟨h.q.ts.kp hk (.inr (.inl rfl)) (fun y hy => .inl hy), h.q.fp, h.q.hg, ⟨p5.os.trans h.q.bl.os, p5.tape.trans h.q.bl.tape, p5.output.trans h.q.bl.output, Nat.le_trans h.q.bl.size p5.size, fun k hk => ?_⟩⟩, fun p hp => ?_, ?_, fun D' hD' => ?_, ?_⟩
  · rw [p5.block k (by omega) (.inl hk)]
    exact h.q.bl.block k hk
  · rcases List.mem_cons.1 hp with rfl | hp
    · refine ⟨⟨p1, p2⟩, ho.2.1, fun k e => ?_⟩
      rcases p3 k e with ⟨q1, q2, q3⟩ | q
      · exact ⟨Nat.le_of_not_lt fun c => q3 (.inl c), fun c => q2 (.inr (.inl c)), fun c => q2 (.inl c)⟩
      · exact ⟨by omega, by omega, fun c => by have := hfl k c; omega⟩
    · have hop := h.ok p (List.mem_cons_of_mem _ hp)
      exact ⟨⟨hop.1.1.kp p5 (.inr (.inl ⟨p, hp, .inl rfl⟩)), own_kp hop.1.2 p5 fun k e => .inr (.inl ⟨p, hp, .inr e⟩)⟩, hop.2⟩
  · obtain ⟨n1, n2⟩ := List.pairwise_cons.1 h.nd
    refine List.pairwise_cons.2 ⟨fun p hp => ⟨(n1 p hp).1, fun k e1 e2 => ?_⟩, n2⟩
    rcases p3 k e1 with ⟨q1, q2, q3⟩ | q
    · exact q3 (.inr (.inl ⟨p, hp, .inr e2⟩))
    · have := hrl p hp k e2; omega
  · rcases List.mem_cons.1 hD' with rfl | hD'
    · exact ⟨hd, by omega, by omega, fun c => by have := hfl _ c; omega⟩
    · have q := h.ds D' hD'
      refine ⟨?_, q.2⟩
      rw [p5.block D' (hdl D' hD') (.inr (.inr hD'))]
      exact q.1
  · exact List.nodup_cons.2 ⟨fun c => by have := hdl D c; omega, h.dn⟩
theorem row_sl {w : World} {v : Value} {n : Nat} {xs : List Value} (h : w.ownsRow 0 9 1 v n xs) : ∃ a c, v = .slice a n c ∧ (0 < n → ∃ g, a = some ⟨g, 0, none⟩ ∧ ∀ i u, xs[i]? = some u → w.cell? ⟨g, i, none⟩ = some u) := by
  rcases h.2 with ⟨rfl, rfl⟩ | ⟨g, cap, cur, rfl, _, hg, _, _, _, ht⟩
  · exact ⟨none, 0, rfl, fun h => absurd h (by omega)⟩
  · refine ⟨_, _, rfl, fun _ => ⟨g, rfl, fun i u hu => ?_⟩⟩
    rw [← ht, List.getElem?_take] at hu
    split at hu
    · simp [World.cell?, hg]
      simpa using hu
    · cases hu
theorem app_in {F : Fence} {n : Nat} {ops : Array Oper} {rest : List Oper} {o : Oper} {a : Act} {Q : Exit → Act → World → Prop} (w : World) (hgd : o.guard = none) (s x : Operand) (ho : o.op = .call { callee := .builtin .append, args := #[s, x], argTypes := #[28, 28] })
    (v : Value) (k : Nat) (xs : List Value) (hs : a.eval s = v) (hown : w.ownsRow 0 9 1 v k xs) (ad : Addr) (y : ByteArray) (hx : a.eval x = .slice (some ad) 1 1) (hc : w.cell? ad = some (.string y)) (hb : k + 1 ≤ 100000)
    (h : ∀ v' w', w'.ownsRow 0 9 1 v' (k + 1) (xs ++ [.string y]) → w.grownBy w' v.ownBlock → (v'.ownBlock = v.ownBlock ∨ v'.ownBlock = some w.heap.size) → wpListIn F n Try.prog ops Q rest (a.put o.dst v') w') :
    wpListIn F n Try.prog ops Q (o :: rest) a w := by
  have hI : (Try.prog.info? 9).map (fun i => (i.zero.map (·.cells.size), i.size, decide (i.bytes ≤ 1000))) = some (some 1, 1, true) := by kernel_rfl
  cases hq : Try.prog.info? 9 with
  | none => rw [hq] at hI; cases hI
  | some i =>
    rw [hq] at hI
    simp only [Option.map_some, Option.some.injEq, Prod.mk.injEq] at hI
    obtain ⟨h0, hz1, hz2⟩ := hI
    obtain ⟨z, hz, hzs⟩ : ∃ z, i.zero = some z ∧ z.cells.size = 1 := by
      cases hzz : i.zero with
      | none => rw [hzz] at h0; cases h0
      | some z => rw [hzz] at h0; exact ⟨z, rfl, by simpa using h0⟩
    have hby : i.bytes ≤ 1000 := of_decide_eq_true hz2
    have hmul : (k + 1) * i.bytes ≤ 100000 * 1000 := Nat.mul_le_mul hb hby
    refine wpListIn_append_own_at w hgd s x 28 ho 0 9 i z 1 i.bytes Try.underlying28 hq hz hz1 rfl hzs (by decide) v k xs hs hown ad 1 1 [.string y] hx rfl (fun j u hj => ?_) (fun u hu => ?_) (by unfold maxLen; omega) (by omega) (Nat.zero_le _) (fun v' w' h1 h2 _ h4 => h v' w' h1 h2 h4)
    · match j, hj with
      | 0, hj =>
        simp at hj
        subst hj
        simpa [Addr.add] using hc
    · simp at hu
      subst hu
      rfl
end Go.Proofs.Yteokjfpppmnebaa
