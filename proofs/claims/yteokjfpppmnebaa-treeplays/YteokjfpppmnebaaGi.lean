/-
  The law's ranges: what a tree hands on is what the document's list has.
-/
import Derived.Test.YteokjfpppmnebaaGx
import Derived.Test.YteokjfpppmnebaaIk
namespace Go.Proofs.Yteokjfpppmnebaa
open Go.RowKit Go.Shelf
set_option linter.unusedVariables false
set_option linter.unusedSimpArgs false
attribute [local go_sem] Oper.semAt_some
attribute [local go_sem] bo_geq bo_leq
theorem filt_take : ∀ (L : List E) (p : E → Bool) (m : Nat), (∀ j x, L[j]? = some x → (p x = true ↔ j < m)) → L.filter p = L.take m
  | [], _, m, _ => by simp
  | x :: r, p, 0, h => by
    have h0 : ¬ p x = true := fun q => by have := (h 0 x rfl).1 q; omega
    rw [List.filter_cons_of_neg h0, filt_take r p 0 (fun j y hj => by
      have := h (j + 1) y (by simpa using hj)
      constructor
      · intro q; have := this.1 q; omega
      · intro q; omega)]
    simp
  | x :: r, p, m + 1, h => by
    have h0 : p x = true := (h 0 x rfl).2 (by omega)
    rw [List.filter_cons_of_pos h0, List.take_succ_cons, filt_take r p m (fun j y hj => by
      have := h (j + 1) y (by simpa using hj)
      rw [this]; omega)]
theorem ub_le (M : List E) (to : ByteArray) : ub M to ≤ M.length := by
  unfold ub
  split
  · exact Nat.le_refl _
  · have := lb_le (ksL M) to; simpa [ksL] using this
theorem lb_len (M : List E) (k : ByteArray) : lb (ksL M) k ≤ M.length := by have := lb_le (ksL M) k; simpa [ksL] using this
theorem rng_cut {M : List E} (hs : Srt (ksL M)) (fr to : ByteArray) : rngL M fr to = (M.drop (lb (ksL M) fr)).take (max (lb (ksL M) fr) (ub M to) - lb (ksL M) fr) := by
  rw [← rng_eq hs fr to, upto_srt to (List.Pairwise.sublist ((List.drop_sublist _ M).map _) hs)]
  refine filt_take _ _ _ (fun j x hj => ?_)
  rw [List.getElem?_drop] at hj
  have hlt := (List.getElem?_eq_some_iff.1 hj).1
  unfold ub
  by_cases ht : to.toList = []
  · rw [if_pos ht]
    simp only [ht, List.isEmpty_nil, Bool.true_or, true_iff]
    omega
  · rw [if_neg ht]
    have he : to.toList.isEmpty = false := by simpa using ht
    rw [he, Bool.false_or, srt_lb hs to _ x.1 (by rw [List.getElem?_map, hj]; rfl)]
    show _ < lb (ksL M) to ↔ _ < max _ (lb (ksL M) to) - _
    omega
theorem rng_len {M : List E} (hs : Srt (ksL M)) (fr to : ByteArray) : (rngL M fr to).length = max (lb (ksL M) fr) (ub M to) - lb (ksL M) fr := by
  have h1 := ub_le M to
  have h2 := lb_len M fr
  rw [rng_cut hs, List.length_take, List.length_drop]
  omega
theorem rng_at {M : List E} (hs : Srt (ksL M)) (fr to : ByteArray) {c : Nat} {x : E} (h : (rngL M fr to)[c]? = some x) : M[lb (ksL M) fr + c]? = some x := by
  rw [rng_cut hs] at h
  have hl := (List.getElem?_eq_some_iff.1 h).1
  rw [List.length_take] at hl
  rw [List.getElem?_take_of_lt (by omega), List.getElem?_drop] at h
  exact h
theorem rev_at {M : List E} (hs : Srt (ksL M)) (fr to : ByteArray) {c : Nat} {x : E} (h : (rngL M fr to).reverse[c]? = some x) : M[max (lb (ksL M) fr) (ub M to) - 1 - c]? = some x := by
  have hl := (List.getElem?_eq_some_iff.1 h).1
  rw [List.length_reverse] at hl
  rw [List.getElem?_reverse hl] at h
  have h2 := rng_at hs fr to h
  have hn := rng_len hs fr to
  rw [← h2]
  congr 1
  omega
/-- What the rounds hold: the boxes of the answer and of the count; all else but the tree's root as it was. -/
def RgI (y : World) (r b12 b16 : Nat) (v : Bool) (n : Nat) (W : World) : Prop := Blk W b12 4 [.bool v] ∧ Blk W b16 3 [.int .i64 (n : Int)] ∧ Upd [r, b12, b16] y W
theorem RgI.own {y : World} {r b12 b16 B : Nat} {α : Type} {v : Bool} {n : α → Nat} (hy : y.heap.size ≤ B) (h12 : b12 ≠ r) (h16 : b16 ≠ r) : OwnT r B (fun s => RgI y r b12 b16 v (n s)) := by
  rintro s X Y row ⟨q1, q2, q3⟩ g hq
  refine ⟨blk_ownT q1 g hq h12, blk_ownT q2 g hq h16, ⟨g.os.trans q3.os, g.tape.trans q3.tape, g.output.trans q3.output, Nat.le_trans q3.size g.size, fun k hk hn => (g.block k (Nat.lt_of_lt_of_le hk q3.size) (fun e => ?_)).trans (q3.block k hk hn)⟩⟩
  rcases hq k e.symm with rfl | ⟨h1, _⟩
  · exact hn (by simp)
  · omega
theorem below_none {B : Nat} {w0 w w' : World} (h : Below B w0 w) (hB : B ≤ w.heap.size) (g : w.grownBy w' none) : Below B w0 w' := h.grown g hB (fun k e => by cases e)
theorem sBool : (Try.prog.info? 4).map (·.size) = some 1 := by kernel_rfl
theorem TreeS.below0 {w w' : World} {g : Nat} {T : Option (Nat × B)} {M : List E} (h : TreeS w g T M) (z : Below w.heap.size w w') : TreeS w' g T M := h.upd (Upd.of_below [] z) (by simp) (by simp)
set_option maxRecDepth 100000 in
set_option maxHeartbeats 2000000 in
theorem ranges_up (w : World) (g : Nat) (T : Option (Nat × B)) (M : List E) (a : Nat) (K N : Value) (fr to : ByteArray) (n : Int) (hS : TreeS w g T M) (hO : RO w a K N M) (hdis : ∀ x ∈ fpR a K N, x ≠ g ∧ x ∉ fpO T) (hfr : fr.size ≤ 281474976710656) (hto : to.size ≤ 281474976710656) (hsz : ∀ e ∈ M, e.1.size ≤ 281474976710656) (hM : M.length < 50000) :
    Calls Try.prog 17 #[.pointer (some ⟨g, 0, none⟩), .pointer (some ⟨a, 0, none⟩), .string fr, .string to, .int .i64 n, .bool false] w fun e w' => e = .returned (.bool true) ∧ Hid (Below w.heap.size w w') := by
  have HS : Hid (TreeS w g T M ∧ ∀ e ∈ M, e.1.size ≤ 281474976710656) := ⟨hS, hsz⟩
  have HO : Hid (RO w a K N M ∧ ∀ x ∈ fpR a K N, x ≠ g ∧ x ∉ fpO T) := ⟨hO, hdis⟩
  have HFT : Hid (fr.size ≤ 281474976710656 ∧ to.size ≤ 281474976710656 ∧ M.length < 50000) := ⟨hfr, hto, hM⟩
  clear hS hO hdis hfr hto hsz hM
  refine (callsIn_wide (n := 3)).1 ?_
  refine callsIn_of_wp_marks Try.func17 rfl trivial ?_ rfl
  simp only [Try.ntmps17, List.size_toArray, List.length_cons, List.length_nil, Nat.reduceAdd, Nat.reduceSub, Array.replicate_succ, Array.replicate_zero, List.push_toArray, List.append_toArray, List.nil_append, List.cons_append]
  refine wpIn_wide.2 ?_
  go_wp2_with (refine al_boxv rfl 27 (.tmp 1) rfl (.pointer (some ⟨a, 0, none⟩)) rfl rfl ?_)
  intro b7 w1 l1 B7 G1
  go_wp2_with (refine al_boxv rfl 3 (.tmp 4) rfl (.int .i64 n) rfl rfl ?_)
  intro b10 w2 l2 B10 G2
  go_wp2_with (refine al_boxv rfl 4 (.tmp 5) rfl (.bool false) rfl rfl ?_)
  intro b11 w3 l3 B11 G3
  go_wp2_with (refine al_zero rfl 4 rfl [.bool false] (by kernel_rfl) ?_)
  intro b12 w4 l4 B12 G4
  have HV : Hid (Blk w4 b7 27 [.pointer (some ⟨a, 0, none⟩)] ∧ Blk w4 b10 3 [.int .i64 n] ∧ Blk w4 b11 4 [.bool false] ∧ Blk w4 b12 4 [.bool false]) :=
    ⟨((B7.kept G2 (by simp)).kept G3 (by simp)).kept G4 (by simp), (B10.kept G3 (by simp)).kept G4 (by simp), B11.kept G4 (by simp), B12⟩
  have HB : Hid (Below w.heap.size w w4 ∧ w.heap.size ≤ b7 ∧ b7 < b10 ∧ b10 < b11 ∧ b11 < b12 ∧ b12 < w4.heap.size) := by
    have h1 := G1.size
    have h2 := G2.size
    have h3 := G3.size
    refine ⟨(((below_none (Below.refl _ _) (Nat.le_refl _) G1).trans (below_none (Below.refl _ _) (Nat.le_refl _) G2 |>.mono h1)).trans (below_none (Below.refl _ _) (Nat.le_refl _) G3 |>.mono (by omega))).trans (below_none (Below.refl _ _) (Nat.le_refl _) G4 |>.mono (by omega)), l1, ?_, ?_, ?_, B12.lt⟩
    · have := B7.lt; omega
    · have := B10.lt; omega
    · have := B11.lt; omega
  clear B7 G1 B10 G2 B11 G3 B12 G4 l1 l2 l3 l4
  have K1 := rends_O fr to (HO.out.1.below HB.out.1) HS.out.1.srt (by have := HFT.out.2.2; omega)
  obtain ⟨i, hi⟩ : ∃ i, lb (ksL M) fr = i := ⟨_, rfl⟩
  obtain ⟨k, hk⟩ : ∃ k, max i (ub M to) = k := ⟨_, rfl⟩
  obtain ⟨L, hL⟩ : ∃ L, rngL M fr to = L := ⟨_, rfl⟩
  have HIK : Hid (i ≤ k ∧ k ≤ M.length ∧ L.length = k - i ∧ k < 50000 ∧ ∀ c x, L[c]? = some x → c < k - i ∧ M[i + c]? = some x) := by
    have h1 := ub_le M to
    have h2 := lb_len M fr
    have h3 := rng_len HS.out.1.srt fr to
    have h4 := HFT.out.2.2
    rw [hi] at h2 h3
    rw [hk] at h3
    have h5 : L.length = k - i := by rw [← hL]; exact h3
    refine ⟨by omega, by omega, h5, by omega, fun c x hx => ⟨by rw [← h5]; exact (List.getElem?_eq_some_iff.1 hx).1, ?_⟩⟩
    rw [← hL] at hx
    have := rng_at HS.out.1.srt fr to hx
    rw [hi] at this
    skip
    exact this
  rw [hi] at K1
  have hkI : (max i (ub M to) : Nat) = k := hk
  rw [hkI] at K1
  have HL0 : Hid (rngL M fr to = L) := hL
  clear hi hk hkI hL
  have c7 : w4.cell? ⟨b7, 0, none⟩ = some (.pointer (some ⟨a, 0, none⟩)) := HV.out.1.cell 0
  go_wp2_with fail
  refine K1.mono ?_
  clear K1 c7
  rintro e w5 ⟨rfl, H⟩
  go_wp2_with (refine al_zero rfl 3 rfl [.int .i64 0] (by kernel_rfl) ?_)
  intro b13 w6 l6 B13 G6
  go_wp2_with (refine al_zero rfl 3 rfl [.int .i64 0] (by kernel_rfl) ?_)
  intro b14 w7 l7 B14 G7
  go_wp2_with (refine st_one rfl 3 (.tmp 13) (.tmp 25) rfl b13 0 3 _ (.int .i64 (i : Int)) rfl rfl rfl rfl (by show 0 < 1; decide) (B13.kept G7 (by simp)) s3' ?_)
  intro w8 B13b G8
  have n134 : b13 ≠ b14 := by have := B13.lt; omega
  go_wp2_with (refine st_one rfl 3 (.tmp 14) (.tmp 26) rfl b14 0 3 _ (.int .i64 (k : Int)) rfl rfl rfl rfl (by show 0 < 1; decide) (B14.kept G8 (by simpa using Ne.symm n134)) s3' ?_)
  intro w9 B14b G9
  have HV9 : Hid (Blk w9 b7 27 [.pointer (some ⟨a, 0, none⟩)] ∧ Blk w9 b10 3 [.int .i64 n] ∧ Blk w9 b11 4 [.bool false] ∧ Blk w9 b12 4 [.bool false] ∧ Blk w9 b13 3 [.int .i64 (i : Int)] ∧ Blk w9 b14 3 [.int .i64 (k : Int)]) := by
    obtain ⟨q1, q2, q3, q4⟩ := HV.out
    have hs := H.out.size
    have s6 := G6.size
    have hb := HB.out
    have mv : ∀ b t vs, b < w4.heap.size → Blk w4 b t vs → Blk w9 b t vs := fun b t vs hl h =>
      (((((h.below H.out hl).kept G6 (by simp)).kept G7 (by simp)).kept G8 (by simp; omega)).kept G9 (by simp; omega))
    exact ⟨mv _ _ _ (by omega) q1, mv _ _ _ (by omega) q2, mv _ _ _ (by omega) q3, mv _ _ _ (by omega) q4, B13b.kept G9 (by simpa using n134), B14b⟩
  have HB9 : Hid (Below w.heap.size w w9 ∧ w.heap.size ≤ b7 ∧ b7 < b10 ∧ b10 < b11 ∧ b11 < b12 ∧ b12 < b13 ∧ b13 < b14 ∧ b14 < w9.heap.size) := by
    obtain ⟨h0, h1, h2, h3, h4, h5⟩ := HB.out
    have hs := H.out.size
    have s6 := G6.size
    have s7 := G7.size
    have hB13 := B13.lt
    have e6 : Below w.heap.size w w5 := h0.trans (H.out.mono (by omega))
    have e7 := below_none e6 e6.size G6
    have e8 := below_none e7 e7.size G7
    have e9 := e8.grown G8 e8.size (fun r e => by injection e with e; have := e6.size; omega)
    have e10 := e9.grown G9 e9.size (fun r e => by injection e with e; have := e6.size; omega)
    exact ⟨e10, h1, h2, h3, h4, by omega, by omega, B14b.lt⟩
  clear B13 G6 B14 G7 B13b G8 B14b G9 HV HB H l6 l7 n134
  have K1 := range_any (some ⟨g, 0, none⟩) fr to HFT.out.1 HFT.out.2.1 w9
  go_wp2_with fail
  refine K1.mono ?_
  clear K1
  rintro e w10 ⟨c3, c4, c5, rfl, H⟩
  have c11 : w10.cell? ⟨b11, 0, none⟩ = some (.bool false) := by
    have h := HV9.out.2.2.1
    exact (h.below H.out.2.1 h.lt).cell 0
  have HC : Hid (Cap w10 c3 c4 c5 (some ⟨g, 0, none⟩) fr to ∧ Below w9.heap.size w9 w10 ∧ w9.heap.size ≤ c3 ∧ w9.heap.size ≤ c4 ∧ w9.heap.size ≤ c5) := H.out
  clear H
  have q1 := eq_nilf 34 #[.pointer (some ⟨c3, 0, none⟩), .pointer (some ⟨c4, 0, none⟩), .pointer (some ⟨c5, 0, none⟩)] w10
  go_wp2_with (refine al_zero rfl 3 rfl [.int .i64 0] (by kernel_rfl) ?_)
  intro b16 w12 l12 B16 G12
  clear c11 q1
  go_wp2_with (refine st_one rfl 3 (.tmp 16) (.const (.int .i64 0)) rfl b16 0 3 _ (.int .i64 0) rfl rfl rfl rfl (by show 0 < 1; decide) B16 s3' ?_)
  intro y B16b G13
  have HY : Hid (Blk y b7 27 [.pointer (some ⟨a, 0, none⟩)] ∧ Blk y b10 3 [.int .i64 n] ∧ Blk y b11 4 [.bool false] ∧ Blk y b12 4 [.bool false] ∧ Blk y b13 3 [.int .i64 (i : Int)] ∧ Blk y b14 3 [.int .i64 (k : Int)] ∧ Blk y b16 3 [.int .i64 ((0 : Nat) : Int)]) := by
    obtain ⟨q1, q2, q3, q4, q5, q6⟩ := HV9.out
    have hs := HC.out.2.1.size
    have hb := HB9.out
    have mv : ∀ b t vs, b < w9.heap.size → Blk w9 b t vs → Blk y b t vs := fun b t vs hl h => ((h.below HC.out.2.1 hl).kept G12 (by simp)).kept G13 (by simp; omega)
    exact ⟨mv _ _ _ (by omega) q1, mv _ _ _ (by omega) q2, mv _ _ _ (by omega) q3, mv _ _ _ (by omega) q4, mv _ _ _ (by omega) q5, mv _ _ _ (by omega) q6, B16b⟩
  have HBY : Hid (Below w.heap.size w y ∧ w.heap.size ≤ b7 ∧ b7 < b10 ∧ b10 < b11 ∧ b11 < b12 ∧ b12 < b13 ∧ b13 < b14 ∧ b14 < b16 ∧ b16 < y.heap.size) := by
    obtain ⟨h0, h1, h2, h3, h4, h5, h6, h7⟩ := HB9.out
    have hs := HC.out.2.1.size
    have hs0 := h0.size
    have e10 := h0.trans (HC.out.2.1.mono hs0)
    have e11 := below_none e10 e10.size G12
    have e12 := e11.grown G13 e11.size (fun r e => by injection e with e; omega)
    exact ⟨e12, h1, h2, h3, h4, h5, h6, by omega, B16b.lt⟩
  have HCY : Hid (Cap y c3 c4 c5 (some ⟨g, 0, none⟩) fr to ∧ b14 < c3 ∧ b14 < c4 ∧ b14 < c5 ∧ c3 < b16 ∧ c4 < b16 ∧ c5 < b16) := by
    obtain ⟨h1, h2, h3, h4, h5⟩ := HC.out
    have h7 := HB9.out.2.2.2.2.2.2.2
    have t3 := h1.t.lt
    have t4 := h1.x.lt
    have t5 := h1.y.lt
    refine ⟨⟨(h1.t.kept G12 (by simp)).kept G13 (by simp; omega), (h1.x.kept G12 (by simp)).kept G13 (by simp; omega), (h1.y.kept G12 (by simp)).kept G13 (by simp; omega)⟩, by omega, by omega, by omega, by omega, by omega, by omega⟩
  clear B16 G12 B16b G13 HV9 HB9 HC l12
  obtain ⟨Nn, hNn⟩ : ∃ Nn : Nat → Prop, Nn = fun q => q < y.heap.size ∧ q ≠ b12 ∧ q ≠ b16 := ⟨_, rfl⟩
  have hyw := HBY.out.1.size
  have hNlow : ∀ q, q < w.heap.size → Nn q := fun q hq => by
    have hb := HBY.out
    rw [hNn]
    exact ⟨by omega, by omega, by omega⟩
  have hflt := HS.out.1.flt
  have hglt := HS.out.1.glt
  have hcc : Nn c3 ∧ Nn c4 ∧ Nn c5 := by
    have hb := HBY.out
    have hc := HCY.out
    rw [hNn]
    exact ⟨⟨by omega, by omega, by omega⟩, ⟨by omega, by omega, by omega⟩, ⟨by omega, by omega, by omega⟩⟩
  have hSY : TreeS y g T M := HS.out.1.below0 HBY.out.1
  obtain ⟨r, hr, hgv⟩ := range_S y g T M hSY HS.out.2 c3 c4 c5 fr to HCY.out.1 Nn (fun x hx => hNlow x (hflt x hx)) (hNlow g hglt) hcc.1 hcc.2.1 hcc.2.2
  rw [HL0.out] at hgv
  have hrw : r < w.heap.size := by
    rcases hr with rfl | h
    · exact hglt
    · exact hflt r h
  have hro : ∀ x ∈ fpR a K N, x ≠ r := fun x hx q => by
    obtain ⟨h1, h2⟩ := HO.out.2 x hx
    rcases hr with h | h
    · exact h1 (q.trans h)
    · exact h2 (q ▸ h)
  have HROY : Hid (RO y a K N M ∧ (∀ x ∈ fpR a K N, x ≠ r ∧ x < w.heap.size)) := ⟨HO.out.1.below HBY.out.1, fun x hx => ⟨hro x hx, HO.out.1.lt x hx⟩⟩
  have HB' : Hid (r < w.heap.size ∧ w.heap.size ≤ b7 ∧ b7 < b10 ∧ b10 < b11 ∧ b11 < b12 ∧ b12 < b13 ∧ b13 < b14 ∧ b14 < b16 ∧ b16 < y.heap.size) := ⟨hrw, HBY.out.2⟩
  have HNN : Hid (Nn = fun q => q < y.heap.size ∧ q ≠ b12 ∧ q ≠ b16) := hNn
  have HBW : Hid (Below w.heap.size w y) := HBY.out.1
  have hNlt : ∀ q, Nn q → q < y.heap.size := fun q hq => by rw [hNn] at hq; exact hq.1
  have hry : r < y.heap.size := by omega
  have h12 : b12 ≠ r := by have := HB'.out; omega
  have h16 : b16 ≠ r := by have := HB'.out; omega
  clear HS HO HFT HL0 HCY HBY hcc hSY hro hflt hglt hNlow hr hNn hyw
  go_wp2_with fail
  refine (wpIn_wide (n := 3)).1 ?_
  refine range_law (gf := 34) (lb := #[.pointer (some ⟨c3, 0, none⟩), .pointer (some ⟨c4, 0, none⟩), .pointer (some ⟨c5, 0, none⟩)]) rfl (enters Try.func34 (by kernel_rfl) rfl) hgv hry hNlt (Kp.refl _ _) rfl
    (fun _ pre => RgI y r b12 b16 false pre.length) (fun _ _ pre => RgI y r b12 b16 true (pre.length - 1)) (fun _ => RgI.own (n := List.length) (Nat.le_refl _) h12 h16) (fun _ _ => RgI.own (n := fun p => List.length p - 1) (Nat.le_refl _) h12 h16) (fun _ _ => ⟨HY.out.2.2.2.1, HY.out.2.2.2.2.2.2, Upd.refl _ _⟩) ?round ?done ?stop
  case round =>
    intro hh kk ll pre x W hx
    clear hgv hNlt hry h12 h16
    gi_wp2_with fail
    refine ⟨(by first | rfl | trivial), fun W2 hsz hI => ?_⟩
    obtain ⟨c, hc⟩ : ∃ c, pre.length = c := ⟨_, rfl⟩
    rw [hc] at hI
    obtain ⟨v12, v16, u⟩ := hI
    have HX : Hid (c < k - i ∧ ∃ j, (i + c = j) ∧ i ≤ j ∧ j < k ∧ M[j]? = some x ∧ (i : Int) + (c : Int) = (j : Int)) := by
      obtain ⟨post, e⟩ := hx
      have h1 : L[c]? = some x := by rw [e, ← hc]; simp
      obtain ⟨h2, h3⟩ := HIK.out.2.2.2.2 c x h1
      have hb := HIK.out
      exact ⟨h2, _, rfl, by omega, by omega, h3, by omega⟩
    obtain ⟨hck, j, hj, hij, hjk, hMj, hjI⟩ := HX.out
    have hkm := HIK.out.2.1
    have hk5 := HIK.out.2.2.2.1
    have hk1 : wrap64 ((k : Int) - 1) = (k : Int) - 1 := by
      clear HX hx hMj hjI
      exact (wrap_small (n := k - 1) (by omega) (by omega)).trans (by omega)
    have hjm : j < M.length := by omega
    have HW2 : Hid (RO W2 a K N M) := HROY.out.1.upd u (fun x hx q => by
      obtain ⟨h1, h2⟩ := HROY.out.2 x hx
      have hb := HB'.out
      simp only [List.mem_cons, List.not_mem_nil, or_false] at q
      rcases q with q | q | q
      · exact h1 q
      · omega
      · omega)
    obtain ⟨gK, cK, spK, hK1, hK2, hK3⟩ := row_form HW2.out.key (by omega)
    obtain ⟨gN, cN, spN, hN1, hN2, hN3⟩ := row_form HW2.out.num (by omega)
    have d0 : W2.cell? ⟨a, 0, none⟩ = some (.slice (some ⟨gK, 0, none⟩) M.length cK) := by rw [← hK1]; exact HW2.out.tree.cell 0
    have d1 : W2.cell? ⟨a, 1, none⟩ = some (.slice (some ⟨gN, 0, none⟩) M.length cN) := by rw [← hN1]; exact HW2.out.tree.cell 1
    have d2 : W2.cell? ⟨gK, j, none⟩ = some (.string x.1) := by
      rw [hK2.cell, List.getElem?_append_left (by rw [strs_len]; exact hjm)]
      simp [strs, hMj]
    have d3 : W2.cell? ⟨gN, j, none⟩ = some (.int .i64 x.2) := by
      rw [hN2.cell, List.getElem?_append_left (by rw [ints_len]; exact hjm)]
      simp [ints, hMj]
    have mv : ∀ b t vs, b < y.heap.size → b ≠ r → b ≠ b12 → b ≠ b16 → Blk y b t vs → Blk W2 b t vs := fun b t vs hl n1 n2 n3 h => h.upd u (by simp [n1, n2, n3])
    have hb := HB'.out
    have c7 : W2.cell? ⟨b7, 0, none⟩ = some (.pointer (some ⟨a, 0, none⟩)) := (mv _ _ _ (by omega) (by omega) (by omega) (by omega) HY.out.1).cell 0
    have c10 : W2.cell? ⟨b10, 0, none⟩ = some (.int .i64 n) := (mv _ _ _ (by omega) (by omega) (by omega) (by omega) HY.out.2.1).cell 0
    have c11 : W2.cell? ⟨b11, 0, none⟩ = some (.bool false) := (mv _ _ _ (by omega) (by omega) (by omega) (by omega) HY.out.2.2.1).cell 0
    have c13 : W2.cell? ⟨b13, 0, none⟩ = some (.int .i64 (i : Int)) := (mv _ _ _ (by omega) (by omega) (by omega) (by omega) HY.out.2.2.2.2.1).cell 0
    have c14 : W2.cell? ⟨b14, 0, none⟩ = some (.int .i64 (k : Int)) := (mv _ _ _ (by omega) (by omega) (by omega) (by omega) HY.out.2.2.2.2.2.1).cell 0
    have c16 : W2.cell? ⟨b16, 0, none⟩ = some (.int .i64 (c : Int)) := v16.cell 0
    have f12 : W2.frozen? ⟨b12, 0, none⟩ = false := v12.frozen 0
    have c12 : W2.cell? ⟨b12, 0, none⟩ = some (.bool false) := v12.cell 0
    have f16 : W2.frozen? ⟨b16, 0, none⟩ = false := v16.frozen 0
    have HNB : Hid (¬ Nn b12 ∧ ¬ Nn b16 ∧ b12 < y.heap.size ∧ b16 < y.heap.size) := by
      rw [HNN.out]
      exact ⟨fun q => q.2.1 rfl, fun q => q.2.2 rfl, by omega, by omega⟩
    have n126 : b12 ≠ b16 := by omega
    have HGO : Hid (∀ W3, W3 = W2.setCell ⟨b16, 0, none⟩ (.int .i64 ((c : Int) + 1)) → Word Nn y.heap.size hh W2 W3 ∧ RgI y r b12 b16 false (pre ++ [x]).length W3) := by
      rintro W3 rfl
      refine ⟨word_set _ HNB.out.2.2.2 HNB.out.2.1, v12.setOther (Ne.symm n126) _, ?_, u.trans (Upd.of_by (grown_setCell W2 ⟨b16, 0, none⟩ _)) (fun x hx _ => by rw [List.mem_singleton.1 hx]; simp)⟩
      have := v16.set 0 (.int .i64 ((c : Int) + 1))
      rw [List.length_append, hc]
      exact this
    have HOUT : Hid (∀ W3, W3 = W2.setCell ⟨b12, 0, none⟩ (.bool true) → Word Nn y.heap.size hh W2 W3 ∧ RgI y r b12 b16 true ((pre ++ [x]).length - 1) W3) := by
      rintro W3 rfl
      refine ⟨word_set _ HNB.out.2.2.1 HNB.out.1, v12.set 0 _, ?_, u.trans (Upd.of_by (grown_setCell W2 ⟨b12, 0, none⟩ _)) (fun x hx _ => by rw [List.mem_singleton.1 hx]; simp)⟩
      rw [List.length_append, hc]
      exact v16.setOther n126 _
    have hx1 : ¬ ((j : Int) < 0) := by omega
    have hx2 : ¬ ((M.length : Int) ≤ (j : Int)) := by omega
    have hx3 : ¬ ((j : Int) < (i : Int)) := by omega
    have hx4 : ¬ ((k : Int) ≤ (j : Int)) := by omega
    have e0 : wrap64 ((c : Int) + 1) = (c : Int) + 1 := wrap_small (n := c + 1) (by omega) (by omega)
    have e1 : wrap64 ((i : Int) + (c : Int)) = (j : Int) := wrap_small (n := j) hjI (Nat.lt_trans hjk (Nat.lt_trans hk5 (by decide)))
    have hcase : (¬ 0 ≤ n) ∨ (0 ≤ n ∧ ¬ n ≤ (c : Int)) ∨ (0 ≤ n ∧ n ≤ (c : Int)) := by
      by_cases z1 : (0 : Int) ≤ n
      · by_cases z2 : n ≤ (c : Int)
        · exact .inr (.inr ⟨z1, z2⟩)
        · exact .inr (.inl ⟨z1, z2⟩)
      · exact .inl z1
    generalize M.length = ml at *
    clear v12 v16 u HW2 hK1 hK2 hN1 hN2 hK3 hN3 hb hc mv hMj HX hx HNB HY HROY HIK hsz hij hjk hjm hck hkm hk5 hj hjI hk1
    rcases hcase with h1 | ⟨h1, h2⟩ | ⟨h1, h2⟩
    · gi_wp2_with fail
      exact HGO.out _ rfl
    · gi_wp2_with fail
      exact HGO.out _ rfl
    · gi_wp2_with fail
      exact HOUT.out _ rfl
  case done =>
    intro D hh W hD hI hk hdf
    obtain ⟨v12, v16, u⟩ := hI
    have hb := HB'.out
    have hl := HIK.out.2.2.1
    have hk5 := HIK.out.2.2.2.1
    have hik := HIK.out.1
    rw [hl] at v16
    have mv : ∀ b t vs, b < y.heap.size → b ≠ r → b ≠ b12 → b ≠ b16 → Blk y b t vs → Blk W b t vs := fun b t vs hl n1 n2 n3 h => h.upd u (by simp [n1, n2, n3])
    have c13 : W.cell? ⟨b13, 0, none⟩ = some (.int .i64 (i : Int)) := (mv _ _ _ (by omega) (by omega) (by omega) (by omega) HY.out.2.2.2.2.1).cell 0
    have c14 : W.cell? ⟨b14, 0, none⟩ = some (.int .i64 (k : Int)) := (mv _ _ _ (by omega) (by omega) (by omega) (by omega) HY.out.2.2.2.2.2.1).cell 0
    have c16 : W.cell? ⟨b16, 0, none⟩ = some (.int .i64 ((k - i : Nat) : Int)) := v16.cell 0
    have e1 : wrap64 ((k : Int) - (i : Int)) = ((k - i : Nat) : Int) := wrap_small (n := k - i) (by omega) (by omega)
    have HBE : Hid (Below w.heap.size w W) := HBW.out.trans ⟨hk.os, hk.tape, hk.output, hk.size, fun q hq => hk.block q (by have := HBW.out.size; omega) (by rw [HNN.out]; exact ⟨by have := HBW.out.size; omega, by omega, by omega⟩)⟩
    have HV12 : Hid (Blk W b12 4 [.bool false] ∧ W.heap[D]? = some (.deferred (some [])) ∧ D ≠ b12 ∧ w.heap.size ≤ D ∧ w.heap.size ≤ b12) := ⟨v12, hdf, by omega, by have := HBW.out.size; omega, by omega⟩
    generalize k - i = ki at *
    clear v12 v16 u mv hk hdf hb hl hk5 hik hD hgv hNlt hry h12 h16 HB' HROY HIK HY HNN HBW
    dsimp only [Exit.inBlock, Exit.then]
    go_wp2_with (refine st_one rfl 4 (.tmp 12) (.tmp 92) rfl b12 0 4 _ (.bool true) rfl rfl rfl rfl (by show 0 < 1; decide) HV12.out.1 sBool ?_)
    intro W3 B3 G3
    have HE : Hid (Blk W3 b12 4 [.bool true] ∧ W3.heap[D]? = some (.deferred (some [])) ∧ D ≠ b12 ∧ w.heap.size ≤ D ∧ Below w.heap.size w W3) := by
      obtain ⟨q1, q2, q3, q4, q5⟩ := HV12.out
      refine ⟨B3, ?_, q3, q4, HBE.out.grown G3 HBE.out.size (fun k e => by injection e with e; omega)⟩
      rw [G3.block D (Array.getElem?_eq_some_iff.1 q2).1 (fun e => q3 (Option.some.inj e))]
      exact q2
    clear B3 G3 HV12 HBE c13 c14 c16 e1
    go_wp2
    obtain ⟨q1, q2, q3, q4, q5⟩ := HE.out
    refine ⟨by simp, .inl ⟨_, _, rfl, run_takeDeferred q2, ?_⟩⟩
    have q6 : Blk (W3.putObj D (.deferred none)) b12 4 [.bool true] := (World.putObj_heap_other (Ne.symm q3)).trans q1
    exact ⟨_, res_one rfl _ b12 (.bool true) rfl (q6.cell 0), rfl, q5.grown (grownBy_putObj' W3 D (.deferred none)) q5.size (fun k e => by injection e with e; omega)⟩
  case stop =>
    intro D hh pre x W hD hx hI hk hdf
    obtain ⟨v12, v16, u⟩ := hI
    have hb := HB'.out
    have HE : Hid (Blk W b12 4 [.bool true] ∧ W.heap[D]? = some (.deferred (some [])) ∧ D ≠ b12 ∧ w.heap.size ≤ D ∧ Below w.heap.size w W) := by
      refine ⟨v12, hdf, by omega, by have := HBW.out.size; omega, ?_⟩
      exact HBW.out.trans ⟨hk.os, hk.tape, hk.output, hk.size, fun q hq => hk.block q (by have := HBW.out.size; omega) (by rw [HNN.out]; exact ⟨by have := HBW.out.size; omega, by omega, by omega⟩)⟩
    clear v12 v16 u hk hdf hb hD hgv hNlt hry h12 h16 HB' HROY HIK HY HNN HBW hx
    refine wpIn_wide.2 ?_
    go_wp2
    obtain ⟨q1, q2, q3, q4, q5⟩ := HE.out
    refine ⟨by simp, .inl ⟨_, _, rfl, run_takeDeferred q2, ?_⟩⟩
    have q6 : Blk (W.putObj D (.deferred none)) b12 4 [.bool true] := (World.putObj_heap_other (Ne.symm q3)).trans q1
    exact ⟨_, res_one rfl _ b12 (.bool true) rfl (q6.cell 0), rfl, q5.grown (grownBy_putObj' W D (.deferred none)) q5.size (fun k e => by injection e with e; omega)⟩
set_option maxRecDepth 100000 in
set_option maxHeartbeats 2000000 in
theorem ranges_back (w : World) (g : Nat) (T : Option (Nat × B)) (M : List E) (a : Nat) (K N : Value) (fr to : ByteArray) (n : Int) (hS : TreeS w g T M) (hO : RO w a K N M) (hdis : ∀ x ∈ fpR a K N, x ≠ g ∧ x ∉ fpO T) (hfr : fr.size ≤ 281474976710656) (hto : to.size ≤ 281474976710656) (hsz : ∀ e ∈ M, e.1.size ≤ 281474976710656) (hM : M.length < 50000) :
    Calls Try.prog 17 #[.pointer (some ⟨g, 0, none⟩), .pointer (some ⟨a, 0, none⟩), .string fr, .string to, .int .i64 n, .bool true] w fun e w' => e = .returned (.bool true) ∧ Hid (Below w.heap.size w w') := by
  have HS : Hid (TreeS w g T M ∧ ∀ e ∈ M, e.1.size ≤ 281474976710656) := ⟨hS, hsz⟩
  have HO : Hid (RO w a K N M ∧ ∀ x ∈ fpR a K N, x ≠ g ∧ x ∉ fpO T) := ⟨hO, hdis⟩
  have HFT : Hid (fr.size ≤ 281474976710656 ∧ to.size ≤ 281474976710656 ∧ M.length < 50000) := ⟨hfr, hto, hM⟩
  clear hS hO hdis hfr hto hsz hM
  refine (callsIn_wide (n := 3)).1 ?_
  refine callsIn_of_wp_marks Try.func17 rfl trivial ?_ rfl
  simp only [Try.ntmps17, List.size_toArray, List.length_cons, List.length_nil, Nat.reduceAdd, Nat.reduceSub, Array.replicate_succ, Array.replicate_zero, List.push_toArray, List.append_toArray, List.nil_append, List.cons_append]
  refine wpIn_wide.2 ?_
  go_wp2_with (refine al_boxv rfl 27 (.tmp 1) rfl (.pointer (some ⟨a, 0, none⟩)) rfl rfl ?_)
  intro b7 w1 l1 B7 G1
  go_wp2_with (refine al_boxv rfl 3 (.tmp 4) rfl (.int .i64 n) rfl rfl ?_)
  intro b10 w2 l2 B10 G2
  go_wp2_with (refine al_boxv rfl 4 (.tmp 5) rfl (.bool true) rfl rfl ?_)
  intro b11 w3 l3 B11 G3
  go_wp2_with (refine al_zero rfl 4 rfl [.bool false] (by kernel_rfl) ?_)
  intro b12 w4 l4 B12 G4
  have HV : Hid (Blk w4 b7 27 [.pointer (some ⟨a, 0, none⟩)] ∧ Blk w4 b10 3 [.int .i64 n] ∧ Blk w4 b11 4 [.bool true] ∧ Blk w4 b12 4 [.bool false]) :=
    ⟨((B7.kept G2 (by simp)).kept G3 (by simp)).kept G4 (by simp), (B10.kept G3 (by simp)).kept G4 (by simp), B11.kept G4 (by simp), B12⟩
  have HB : Hid (Below w.heap.size w w4 ∧ w.heap.size ≤ b7 ∧ b7 < b10 ∧ b10 < b11 ∧ b11 < b12 ∧ b12 < w4.heap.size) := by
    have h1 := G1.size
    have h2 := G2.size
    have h3 := G3.size
    refine ⟨(((below_none (Below.refl _ _) (Nat.le_refl _) G1).trans (below_none (Below.refl _ _) (Nat.le_refl _) G2 |>.mono h1)).trans (below_none (Below.refl _ _) (Nat.le_refl _) G3 |>.mono (by omega))).trans (below_none (Below.refl _ _) (Nat.le_refl _) G4 |>.mono (by omega)), l1, ?_, ?_, ?_, B12.lt⟩
    · have := B7.lt; omega
    · have := B10.lt; omega
    · have := B11.lt; omega
  clear B7 G1 B10 G2 B11 G3 B12 G4 l1 l2 l3 l4
  have K1 := rends_O fr to (HO.out.1.below HB.out.1) HS.out.1.srt (by have := HFT.out.2.2; omega)
  obtain ⟨i, hi⟩ : ∃ i, lb (ksL M) fr = i := ⟨_, rfl⟩
  obtain ⟨k, hk⟩ : ∃ k, max i (ub M to) = k := ⟨_, rfl⟩
  obtain ⟨L, hL⟩ : ∃ L, (rngL M fr to).reverse = L := ⟨_, rfl⟩
  have HIK : Hid (i ≤ k ∧ k ≤ M.length ∧ L.length = k - i ∧ k < 50000 ∧ ∀ c x, L[c]? = some x → c < k - i ∧ M[k - 1 - c]? = some x) := by
    have h1 := ub_le M to
    have h2 := lb_len M fr
    have h3 := rng_len HS.out.1.srt fr to
    have h4 := HFT.out.2.2
    rw [hi] at h2 h3
    rw [hk] at h3
    have h5 : L.length = k - i := by rw [← hL, List.length_reverse]; exact h3
    refine ⟨by omega, by omega, h5, by omega, fun c x hx => ⟨by rw [← h5]; exact (List.getElem?_eq_some_iff.1 hx).1, ?_⟩⟩
    rw [← hL] at hx
    have := rev_at HS.out.1.srt fr to hx
    rw [hi] at this
    rw [hk] at this
    exact this
  rw [hi] at K1
  have hkI : (max i (ub M to) : Nat) = k := hk
  rw [hkI] at K1
  have HL0 : Hid ((rngL M fr to).reverse = L) := hL
  clear hi hk hkI hL
  have c7 : w4.cell? ⟨b7, 0, none⟩ = some (.pointer (some ⟨a, 0, none⟩)) := HV.out.1.cell 0
  go_wp2_with fail
  refine K1.mono ?_
  clear K1 c7
  rintro e w5 ⟨rfl, H⟩
  go_wp2_with (refine al_zero rfl 3 rfl [.int .i64 0] (by kernel_rfl) ?_)
  intro b13 w6 l6 B13 G6
  go_wp2_with (refine al_zero rfl 3 rfl [.int .i64 0] (by kernel_rfl) ?_)
  intro b14 w7 l7 B14 G7
  go_wp2_with (refine st_one rfl 3 (.tmp 13) (.tmp 25) rfl b13 0 3 _ (.int .i64 (i : Int)) rfl rfl rfl rfl (by show 0 < 1; decide) (B13.kept G7 (by simp)) s3' ?_)
  intro w8 B13b G8
  have n134 : b13 ≠ b14 := by have := B13.lt; omega
  go_wp2_with (refine st_one rfl 3 (.tmp 14) (.tmp 26) rfl b14 0 3 _ (.int .i64 (k : Int)) rfl rfl rfl rfl (by show 0 < 1; decide) (B14.kept G8 (by simpa using Ne.symm n134)) s3' ?_)
  intro w9 B14b G9
  have HV9 : Hid (Blk w9 b7 27 [.pointer (some ⟨a, 0, none⟩)] ∧ Blk w9 b10 3 [.int .i64 n] ∧ Blk w9 b11 4 [.bool true] ∧ Blk w9 b12 4 [.bool false] ∧ Blk w9 b13 3 [.int .i64 (i : Int)] ∧ Blk w9 b14 3 [.int .i64 (k : Int)]) := by
    obtain ⟨q1, q2, q3, q4⟩ := HV.out
    have hs := H.out.size
    have s6 := G6.size
    have hb := HB.out
    have mv : ∀ b t vs, b < w4.heap.size → Blk w4 b t vs → Blk w9 b t vs := fun b t vs hl h =>
      (((((h.below H.out hl).kept G6 (by simp)).kept G7 (by simp)).kept G8 (by simp; omega)).kept G9 (by simp; omega))
    exact ⟨mv _ _ _ (by omega) q1, mv _ _ _ (by omega) q2, mv _ _ _ (by omega) q3, mv _ _ _ (by omega) q4, B13b.kept G9 (by simpa using n134), B14b⟩
  have HB9 : Hid (Below w.heap.size w w9 ∧ w.heap.size ≤ b7 ∧ b7 < b10 ∧ b10 < b11 ∧ b11 < b12 ∧ b12 < b13 ∧ b13 < b14 ∧ b14 < w9.heap.size) := by
    obtain ⟨h0, h1, h2, h3, h4, h5⟩ := HB.out
    have hs := H.out.size
    have s6 := G6.size
    have s7 := G7.size
    have hB13 := B13.lt
    have e6 : Below w.heap.size w w5 := h0.trans (H.out.mono (by omega))
    have e7 := below_none e6 e6.size G6
    have e8 := below_none e7 e7.size G7
    have e9 := e8.grown G8 e8.size (fun r e => by injection e with e; have := e6.size; omega)
    have e10 := e9.grown G9 e9.size (fun r e => by injection e with e; have := e6.size; omega)
    exact ⟨e10, h1, h2, h3, h4, by omega, by omega, B14b.lt⟩
  clear B13 G6 B14 G7 B13b G8 B14b G9 HV HB H l6 l7 n134
  have K1 := range_any (some ⟨g, 0, none⟩) fr to HFT.out.1 HFT.out.2.1 w9
  go_wp2_with fail
  refine K1.mono ?_
  clear K1
  rintro e w10 ⟨c3, c4, c5, rfl, H⟩
  have c11 : w10.cell? ⟨b11, 0, none⟩ = some (.bool true) := by
    have h := HV9.out.2.2.1
    exact (h.below H.out.2.1 h.lt).cell 0
  have H10 : Hid (Below w9.heap.size w9 w10) := H.out.2.1
  clear H
  have K1 := back_any (some ⟨g, 0, none⟩) fr to HFT.out.1 HFT.out.2.1 w10
  go_wp2_with fail
  refine K1.mono ?_
  clear K1 c11
  rintro e w11 ⟨c3, c4, c5, rfl, H⟩
  have HC : Hid (Cap w11 c3 c4 c5 (some ⟨g, 0, none⟩) fr to ∧ Below w9.heap.size w9 w11 ∧ w9.heap.size ≤ c3 ∧ w9.heap.size ≤ c4 ∧ w9.heap.size ≤ c5) := by
    obtain ⟨h1, h2, h3, h4, h5⟩ := H.out
    have := H10.out.size
    exact ⟨h1, H10.out.trans (h2.mono this), by omega, by omega, by omega⟩
  clear H H10
  have q1 := eq_nilf 38 #[.pointer (some ⟨c3, 0, none⟩), .pointer (some ⟨c4, 0, none⟩), .pointer (some ⟨c5, 0, none⟩)] w11
  go_wp2_with (refine al_zero rfl 3 rfl [.int .i64 0] (by kernel_rfl) ?_)
  intro b16 w12 l12 B16 G12
  clear q1
  go_wp2_with (refine st_one rfl 3 (.tmp 16) (.const (.int .i64 0)) rfl b16 0 3 _ (.int .i64 0) rfl rfl rfl rfl (by show 0 < 1; decide) B16 s3' ?_)
  intro y B16b G13
  have HY : Hid (Blk y b7 27 [.pointer (some ⟨a, 0, none⟩)] ∧ Blk y b10 3 [.int .i64 n] ∧ Blk y b11 4 [.bool true] ∧ Blk y b12 4 [.bool false] ∧ Blk y b13 3 [.int .i64 (i : Int)] ∧ Blk y b14 3 [.int .i64 (k : Int)] ∧ Blk y b16 3 [.int .i64 ((0 : Nat) : Int)]) := by
    obtain ⟨q1, q2, q3, q4, q5, q6⟩ := HV9.out
    have hs := HC.out.2.1.size
    have hb := HB9.out
    have mv : ∀ b t vs, b < w9.heap.size → Blk w9 b t vs → Blk y b t vs := fun b t vs hl h => ((h.below HC.out.2.1 hl).kept G12 (by simp)).kept G13 (by simp; omega)
    exact ⟨mv _ _ _ (by omega) q1, mv _ _ _ (by omega) q2, mv _ _ _ (by omega) q3, mv _ _ _ (by omega) q4, mv _ _ _ (by omega) q5, mv _ _ _ (by omega) q6, B16b⟩
  have HBY : Hid (Below w.heap.size w y ∧ w.heap.size ≤ b7 ∧ b7 < b10 ∧ b10 < b11 ∧ b11 < b12 ∧ b12 < b13 ∧ b13 < b14 ∧ b14 < b16 ∧ b16 < y.heap.size) := by
    obtain ⟨h0, h1, h2, h3, h4, h5, h6, h7⟩ := HB9.out
    have hs := HC.out.2.1.size
    have hs0 := h0.size
    have e10 := h0.trans (HC.out.2.1.mono hs0)
    have e11 := below_none e10 e10.size G12
    have e12 := e11.grown G13 e11.size (fun r e => by injection e with e; omega)
    exact ⟨e12, h1, h2, h3, h4, h5, h6, by omega, B16b.lt⟩
  have HCY : Hid (Cap y c3 c4 c5 (some ⟨g, 0, none⟩) fr to ∧ b14 < c3 ∧ b14 < c4 ∧ b14 < c5 ∧ c3 < b16 ∧ c4 < b16 ∧ c5 < b16) := by
    obtain ⟨h1, h2, h3, h4, h5⟩ := HC.out
    have h7 := HB9.out.2.2.2.2.2.2.2
    have t3 := h1.t.lt
    have t4 := h1.x.lt
    have t5 := h1.y.lt
    refine ⟨⟨(h1.t.kept G12 (by simp)).kept G13 (by simp; omega), (h1.x.kept G12 (by simp)).kept G13 (by simp; omega), (h1.y.kept G12 (by simp)).kept G13 (by simp; omega)⟩, by omega, by omega, by omega, by omega, by omega, by omega⟩
  clear B16 G12 B16b G13 HV9 HB9 HC l12
  obtain ⟨Nn, hNn⟩ : ∃ Nn : Nat → Prop, Nn = fun q => q < y.heap.size ∧ q ≠ b12 ∧ q ≠ b16 := ⟨_, rfl⟩
  have hyw := HBY.out.1.size
  have hNlow : ∀ q, q < w.heap.size → Nn q := fun q hq => by
    have hb := HBY.out
    rw [hNn]
    exact ⟨by omega, by omega, by omega⟩
  have hflt := HS.out.1.flt
  have hglt := HS.out.1.glt
  have hcc : Nn c3 ∧ Nn c4 ∧ Nn c5 := by
    have hb := HBY.out
    have hc := HCY.out
    rw [hNn]
    exact ⟨⟨by omega, by omega, by omega⟩, ⟨by omega, by omega, by omega⟩, ⟨by omega, by omega, by omega⟩⟩
  have hSY : TreeS y g T M := HS.out.1.below0 HBY.out.1
  obtain ⟨r, hr, hgv⟩ := back_S y g T M hSY HS.out.2 c3 c4 c5 fr to HCY.out.1 Nn (fun x hx => hNlow x (hflt x hx)) (hNlow g hglt) hcc.1 hcc.2.1 hcc.2.2
  rw [HL0.out] at hgv
  have hrw : r < w.heap.size := by
    rcases hr with rfl | h
    · exact hglt
    · exact hflt r h
  have hro : ∀ x ∈ fpR a K N, x ≠ r := fun x hx q => by
    obtain ⟨h1, h2⟩ := HO.out.2 x hx
    rcases hr with h | h
    · exact h1 (q.trans h)
    · exact h2 (q ▸ h)
  have HROY : Hid (RO y a K N M ∧ (∀ x ∈ fpR a K N, x ≠ r ∧ x < w.heap.size)) := ⟨HO.out.1.below HBY.out.1, fun x hx => ⟨hro x hx, HO.out.1.lt x hx⟩⟩
  have HB' : Hid (r < w.heap.size ∧ w.heap.size ≤ b7 ∧ b7 < b10 ∧ b10 < b11 ∧ b11 < b12 ∧ b12 < b13 ∧ b13 < b14 ∧ b14 < b16 ∧ b16 < y.heap.size) := ⟨hrw, HBY.out.2⟩
  have HNN : Hid (Nn = fun q => q < y.heap.size ∧ q ≠ b12 ∧ q ≠ b16) := hNn
  have HBW : Hid (Below w.heap.size w y) := HBY.out.1
  have hNlt : ∀ q, Nn q → q < y.heap.size := fun q hq => by rw [hNn] at hq; exact hq.1
  have hry : r < y.heap.size := by omega
  have h12 : b12 ≠ r := by have := HB'.out; omega
  have h16 : b16 ≠ r := by have := HB'.out; omega
  clear HS HO HFT HL0 HCY HBY hcc hSY hro hflt hglt hNlow hr hNn hyw
  go_wp2_with fail
  refine (wpIn_wide (n := 3)).1 ?_
  refine range_law (gf := 38) (lb := #[.pointer (some ⟨c3, 0, none⟩), .pointer (some ⟨c4, 0, none⟩), .pointer (some ⟨c5, 0, none⟩)]) rfl (enters Try.func38 (by kernel_rfl) rfl) hgv hry hNlt (Kp.refl _ _) rfl
    (fun _ pre => RgI y r b12 b16 false pre.length) (fun _ _ pre => RgI y r b12 b16 true (pre.length - 1)) (fun _ => RgI.own (n := List.length) (Nat.le_refl _) h12 h16) (fun _ _ => RgI.own (n := fun p => List.length p - 1) (Nat.le_refl _) h12 h16) (fun _ _ => ⟨HY.out.2.2.2.1, HY.out.2.2.2.2.2.2, Upd.refl _ _⟩) ?round ?done ?stop
  case round =>
    intro hh kk ll pre x W hx
    clear hgv hNlt hry h12 h16
    gi_wp2_with fail
    refine ⟨(by first | rfl | trivial), fun W2 hsz hI => ?_⟩
    obtain ⟨c, hc⟩ : ∃ c, pre.length = c := ⟨_, rfl⟩
    rw [hc] at hI
    obtain ⟨v12, v16, u⟩ := hI
    have HX : Hid (c < k - i ∧ ∃ j, (k - 1 - c = j) ∧ i ≤ j ∧ j < k ∧ M[j]? = some x ∧ (k : Int) - 1 - (c : Int) = (j : Int)) := by
      obtain ⟨post, e⟩ := hx
      have h1 : L[c]? = some x := by rw [e, ← hc]; simp
      obtain ⟨h2, h3⟩ := HIK.out.2.2.2.2 c x h1
      have hb := HIK.out
      exact ⟨h2, _, rfl, by omega, by omega, h3, by omega⟩
    obtain ⟨hck, j, hj, hij, hjk, hMj, hjI⟩ := HX.out
    have hkm := HIK.out.2.1
    have hk5 := HIK.out.2.2.2.1
    have hk1 : wrap64 ((k : Int) - 1) = (k : Int) - 1 := by
      clear HX hx hMj hjI
      exact (wrap_small (n := k - 1) (by omega) (by omega)).trans (by omega)
    have hjm : j < M.length := by omega
    have HW2 : Hid (RO W2 a K N M) := HROY.out.1.upd u (fun x hx q => by
      obtain ⟨h1, h2⟩ := HROY.out.2 x hx
      have hb := HB'.out
      simp only [List.mem_cons, List.not_mem_nil, or_false] at q
      rcases q with q | q | q
      · exact h1 q
      · omega
      · omega)
    obtain ⟨gK, cK, spK, hK1, hK2, hK3⟩ := row_form HW2.out.key (by omega)
    obtain ⟨gN, cN, spN, hN1, hN2, hN3⟩ := row_form HW2.out.num (by omega)
    have d0 : W2.cell? ⟨a, 0, none⟩ = some (.slice (some ⟨gK, 0, none⟩) M.length cK) := by rw [← hK1]; exact HW2.out.tree.cell 0
    have d1 : W2.cell? ⟨a, 1, none⟩ = some (.slice (some ⟨gN, 0, none⟩) M.length cN) := by rw [← hN1]; exact HW2.out.tree.cell 1
    have d2 : W2.cell? ⟨gK, j, none⟩ = some (.string x.1) := by
      rw [hK2.cell, List.getElem?_append_left (by rw [strs_len]; exact hjm)]
      simp [strs, hMj]
    have d3 : W2.cell? ⟨gN, j, none⟩ = some (.int .i64 x.2) := by
      rw [hN2.cell, List.getElem?_append_left (by rw [ints_len]; exact hjm)]
      simp [ints, hMj]
    have mv : ∀ b t vs, b < y.heap.size → b ≠ r → b ≠ b12 → b ≠ b16 → Blk y b t vs → Blk W2 b t vs := fun b t vs hl n1 n2 n3 h => h.upd u (by simp [n1, n2, n3])
    have hb := HB'.out
    have c7 : W2.cell? ⟨b7, 0, none⟩ = some (.pointer (some ⟨a, 0, none⟩)) := (mv _ _ _ (by omega) (by omega) (by omega) (by omega) HY.out.1).cell 0
    have c10 : W2.cell? ⟨b10, 0, none⟩ = some (.int .i64 n) := (mv _ _ _ (by omega) (by omega) (by omega) (by omega) HY.out.2.1).cell 0
    have c11 : W2.cell? ⟨b11, 0, none⟩ = some (.bool true) := (mv _ _ _ (by omega) (by omega) (by omega) (by omega) HY.out.2.2.1).cell 0
    have c13 : W2.cell? ⟨b13, 0, none⟩ = some (.int .i64 (i : Int)) := (mv _ _ _ (by omega) (by omega) (by omega) (by omega) HY.out.2.2.2.2.1).cell 0
    have c14 : W2.cell? ⟨b14, 0, none⟩ = some (.int .i64 (k : Int)) := (mv _ _ _ (by omega) (by omega) (by omega) (by omega) HY.out.2.2.2.2.2.1).cell 0
    have c16 : W2.cell? ⟨b16, 0, none⟩ = some (.int .i64 (c : Int)) := v16.cell 0
    have f12 : W2.frozen? ⟨b12, 0, none⟩ = false := v12.frozen 0
    have c12 : W2.cell? ⟨b12, 0, none⟩ = some (.bool false) := v12.cell 0
    have f16 : W2.frozen? ⟨b16, 0, none⟩ = false := v16.frozen 0
    have HNB : Hid (¬ Nn b12 ∧ ¬ Nn b16 ∧ b12 < y.heap.size ∧ b16 < y.heap.size) := by
      rw [HNN.out]
      exact ⟨fun q => q.2.1 rfl, fun q => q.2.2 rfl, by omega, by omega⟩
    have n126 : b12 ≠ b16 := by omega
    have HGO : Hid (∀ W3, W3 = W2.setCell ⟨b16, 0, none⟩ (.int .i64 ((c : Int) + 1)) → Word Nn y.heap.size hh W2 W3 ∧ RgI y r b12 b16 false (pre ++ [x]).length W3) := by
      rintro W3 rfl
      refine ⟨word_set _ HNB.out.2.2.2 HNB.out.2.1, v12.setOther (Ne.symm n126) _, ?_, u.trans (Upd.of_by (grown_setCell W2 ⟨b16, 0, none⟩ _)) (fun x hx _ => by rw [List.mem_singleton.1 hx]; simp)⟩
      have := v16.set 0 (.int .i64 ((c : Int) + 1))
      rw [List.length_append, hc]
      exact this
    have HOUT : Hid (∀ W3, W3 = W2.setCell ⟨b12, 0, none⟩ (.bool true) → Word Nn y.heap.size hh W2 W3 ∧ RgI y r b12 b16 true ((pre ++ [x]).length - 1) W3) := by
      rintro W3 rfl
      refine ⟨word_set _ HNB.out.2.2.1 HNB.out.1, v12.set 0 _, ?_, u.trans (Upd.of_by (grown_setCell W2 ⟨b12, 0, none⟩ _)) (fun x hx _ => by rw [List.mem_singleton.1 hx]; simp)⟩
      rw [List.length_append, hc]
      exact v16.setOther n126 _
    have hx1 : ¬ ((j : Int) < 0) := by omega
    have hx2 : ¬ ((M.length : Int) ≤ (j : Int)) := by omega
    have hx3 : ¬ ((j : Int) < (i : Int)) := by omega
    have hx4 : ¬ ((k : Int) ≤ (j : Int)) := by omega
    have e0 : wrap64 ((c : Int) + 1) = (c : Int) + 1 := wrap_small (n := c + 1) (by omega) (by omega)
    have e1 : wrap64 ((k : Int) - 1) = (k : Int) - 1 := hk1
    have e2 : wrap64 ((k : Int) - 1 - (c : Int)) = (j : Int) := wrap_small (n := j) hjI (Nat.lt_trans hjk (Nat.lt_trans hk5 (by decide)))
    have hcase : (¬ 0 ≤ n) ∨ (0 ≤ n ∧ ¬ n ≤ (c : Int)) ∨ (0 ≤ n ∧ n ≤ (c : Int)) := by
      by_cases z1 : (0 : Int) ≤ n
      · by_cases z2 : n ≤ (c : Int)
        · exact .inr (.inr ⟨z1, z2⟩)
        · exact .inr (.inl ⟨z1, z2⟩)
      · exact .inl z1
    generalize M.length = ml at *
    clear v12 v16 u HW2 hK1 hK2 hN1 hN2 hK3 hN3 hb hc mv hMj HX hx HNB HY HROY HIK hsz hij hjk hjm hck hkm hk5 hj hjI hk1
    rcases hcase with h1 | ⟨h1, h2⟩ | ⟨h1, h2⟩
    · gi_wp2_with fail
      exact HGO.out _ rfl
    · gi_wp2_with fail
      exact HGO.out _ rfl
    · gi_wp2_with fail
      exact HOUT.out _ rfl
  case done =>
    intro D hh W hD hI hk hdf
    obtain ⟨v12, v16, u⟩ := hI
    have hb := HB'.out
    have hl := HIK.out.2.2.1
    have hk5 := HIK.out.2.2.2.1
    have hik := HIK.out.1
    rw [hl] at v16
    have mv : ∀ b t vs, b < y.heap.size → b ≠ r → b ≠ b12 → b ≠ b16 → Blk y b t vs → Blk W b t vs := fun b t vs hl n1 n2 n3 h => h.upd u (by simp [n1, n2, n3])
    have c13 : W.cell? ⟨b13, 0, none⟩ = some (.int .i64 (i : Int)) := (mv _ _ _ (by omega) (by omega) (by omega) (by omega) HY.out.2.2.2.2.1).cell 0
    have c14 : W.cell? ⟨b14, 0, none⟩ = some (.int .i64 (k : Int)) := (mv _ _ _ (by omega) (by omega) (by omega) (by omega) HY.out.2.2.2.2.2.1).cell 0
    have c16 : W.cell? ⟨b16, 0, none⟩ = some (.int .i64 ((k - i : Nat) : Int)) := v16.cell 0
    have e1 : wrap64 ((k : Int) - (i : Int)) = ((k - i : Nat) : Int) := wrap_small (n := k - i) (by omega) (by omega)
    have HBE : Hid (Below w.heap.size w W) := HBW.out.trans ⟨hk.os, hk.tape, hk.output, hk.size, fun q hq => hk.block q (by have := HBW.out.size; omega) (by rw [HNN.out]; exact ⟨by have := HBW.out.size; omega, by omega, by omega⟩)⟩
    have HV12 : Hid (Blk W b12 4 [.bool false] ∧ W.heap[D]? = some (.deferred (some [])) ∧ D ≠ b12 ∧ w.heap.size ≤ D ∧ w.heap.size ≤ b12) := ⟨v12, hdf, by omega, by have := HBW.out.size; omega, by omega⟩
    generalize k - i = ki at *
    clear v12 v16 u mv hk hdf hb hl hk5 hik hD hgv hNlt hry h12 h16 HB' HROY HIK HY HNN HBW
    dsimp only [Exit.inBlock, Exit.then]
    go_wp2_with (refine st_one rfl 4 (.tmp 12) (.tmp 92) rfl b12 0 4 _ (.bool true) rfl rfl rfl rfl (by show 0 < 1; decide) HV12.out.1 sBool ?_)
    intro W3 B3 G3
    have HE : Hid (Blk W3 b12 4 [.bool true] ∧ W3.heap[D]? = some (.deferred (some [])) ∧ D ≠ b12 ∧ w.heap.size ≤ D ∧ Below w.heap.size w W3) := by
      obtain ⟨q1, q2, q3, q4, q5⟩ := HV12.out
      refine ⟨B3, ?_, q3, q4, HBE.out.grown G3 HBE.out.size (fun k e => by injection e with e; omega)⟩
      rw [G3.block D (Array.getElem?_eq_some_iff.1 q2).1 (fun e => q3 (Option.some.inj e))]
      exact q2
    clear B3 G3 HV12 HBE c13 c14 c16 e1
    go_wp2
    obtain ⟨q1, q2, q3, q4, q5⟩ := HE.out
    refine ⟨by simp, .inl ⟨_, _, rfl, run_takeDeferred q2, ?_⟩⟩
    have q6 : Blk (W3.putObj D (.deferred none)) b12 4 [.bool true] := (World.putObj_heap_other (Ne.symm q3)).trans q1
    exact ⟨_, res_one rfl _ b12 (.bool true) rfl (q6.cell 0), rfl, q5.grown (grownBy_putObj' W3 D (.deferred none)) q5.size (fun k e => by injection e with e; omega)⟩
  case stop =>
    intro D hh pre x W hD hx hI hk hdf
    obtain ⟨v12, v16, u⟩ := hI
    have hb := HB'.out
    have HE : Hid (Blk W b12 4 [.bool true] ∧ W.heap[D]? = some (.deferred (some [])) ∧ D ≠ b12 ∧ w.heap.size ≤ D ∧ Below w.heap.size w W) := by
      refine ⟨v12, hdf, by omega, by have := HBW.out.size; omega, ?_⟩
      exact HBW.out.trans ⟨hk.os, hk.tape, hk.output, hk.size, fun q hq => hk.block q (by have := HBW.out.size; omega) (by rw [HNN.out]; exact ⟨by have := HBW.out.size; omega, by omega, by omega⟩)⟩
    clear v12 v16 u hk hdf hb hD hgv hNlt hry h12 h16 HB' HROY HIK HY HNN HBW hx
    refine wpIn_wide.2 ?_
    go_wp2
    obtain ⟨q1, q2, q3, q4, q5⟩ := HE.out
    refine ⟨by simp, .inl ⟨_, _, rfl, run_takeDeferred q2, ?_⟩⟩
    have q6 : Blk (W.putObj D (.deferred none)) b12 4 [.bool true] := (World.putObj_heap_other (Ne.symm q3)).trans q1
    exact ⟨_, res_one rfl _ b12 (.bool true) rfl (q6.cell 0), rfl, q5.grown (grownBy_putObj' W D (.deferred none)) q5.size (fun k e => by injection e with e; omega)⟩
#print axioms ranges_back
end Go.Proofs.Yteokjfpppmnebaa
