/-
  The contracts of headOf, of frame.Encode and of the document's own Encode: each makes the record of its bytes.
-/
import Derived.Test.YthgicnfhclfcjaaRec
import Derived.Test.YthgicnfhclfcjaaSum
import Derived.OwnWalk
namespace Go.Proofs.Ythgicnfhclfcjaa
open Go.RowKit Math
theorem Own.below {w w' : World} {base : Nat} {v : Value} {l : List Nat} (h : Own w base v l) (hb : Below w.heap.size w w') : Own w' base v l :=
  World.ownsRow.kept (row := none) h ⟨hb.os, hb.tape, hb.output, hb.size, fun k hk _ => hb.block k hk⟩ (by simpa using Classical.em _)
theorem Own.shape {w : World} {base : Nat} {v : Value} {l : List Nat} (h : Own w base v l) :
    ∃ a c, v = .slice a l.length c ∧ l.length ≤ c ∧ c ≤ maxLen ∧ (a = none → c = 0) ∧ Byt w a l ∧ (∀ x, a = some x → base ≤ x.block ∧ x.block < w.heap.size) := by
  by_cases hl : 0 < l.length
  · obtain ⟨g, cap, rfl, h1, h2, h3, h4, h5⟩ := h.form hl
    exact ⟨_, _, rfl, h3, h4, (fun e => by cases e), .inr ⟨g, 0, rfl, h5⟩, fun x hx => by cases hx; exact ⟨h1, h2⟩⟩
  · have e : l = [] := List.eq_nil_of_length_eq_zero (by omega)
    subst e
    rcases h with ⟨_, ⟨rfl, h0⟩ | ⟨g, cap, cur, rfl, hg, hh, hle, hm, _⟩⟩
    · exact ⟨none, 0, rfl, Nat.le_refl _, by unfold maxLen; omega, fun _ => rfl, .inl rfl, fun x hx => by cases hx⟩
    · exact ⟨_, cap, rfl, hle, hm, (fun e => by cases e), .inl rfl, fun x hx => by cases hx; exact ⟨hg, (Array.getElem?_eq_some_iff.1 hh).1⟩⟩
theorem own_nil (w : World) (base : Nat) : Own w base (.slice none 0 0) [] := ⟨by simp [vals], .inl ⟨rfl, rfl⟩⟩
theorem own_mono {w : World} {base b2 : Nat} {v : Value} {l : List Nat} (h : Own w base v l) (hb : b2 ≤ base) : Own w b2 v l := by
  rcases h with ⟨h1, ⟨rfl, h0⟩ | ⟨g, cap, cur, rfl, hg, hh, hle, hm, h5⟩⟩
  · exact ⟨h1, .inl ⟨rfl, h0⟩⟩
  · exact ⟨h1, .inr ⟨g, cap, cur, rfl, by omega, hh, hle, hm, h5⟩⟩
theorem own_cells {W : World} {base g c n : Nat} {l : List Nat} (h : Own W base (.slice (some ⟨g, 0, none⟩) n c) l) (hl : 0 < l.length) : Cells W g 0 l := by
  obtain ⟨g', c', he, _, _, _, _, hc⟩ := h.form hl
  simp only [Value.slice.injEq, Option.some.injEq, Addr.mk.injEq, and_true] at he
  obtain ⟨rfl, _, _⟩ := he
  exact hc
theorem below_tab (w : World) : Below w.heap.size w (tabW w) := (Below.refl _ _).alloc (Nat.le_refl _) _
theorem sum_n (a : Option Addr) (n cap : Nat) (l : List Nat) (hl : l.length = n) (hn : l.length ≤ 1000000) (w : World) (hc : Byt w a l) (hb : Oct l) :
    Calls Try.prog 24 #[.slice a n cap] w fun e w' => e = .returned (.int .u32 ((sm l : Nat) : Int)) ∧ w' = tabW w := by
  subst hl; exact sum_any a cap l hn w hc hb
theorem sumr_n (a : Option Addr) (n cap : Nat) (l : List Nat) (hl : l.length = n) (hn : l.length ≤ 1000000) (w : World) (hc : Byt w a l) (hb : Oct l) :
    Calls Try.prog 26 #[.slice a n cap] w fun e w' => e = .returned (.int .u32 ((sm l : Nat) : Int)) ∧ w' = w := by
  subst hl; rw [← sm_eq]; exact sumr_any a cap l hn w hc hb
set_option maxRecDepth 8000 in
set_option maxHeartbeats 400000 in
theorem head_any (v : Nat) (hv : v < 4294967296) (w : World) :
    Calls Try.prog 22 #[.int .u32 v] w fun e w' => e = .returned (.int .u64 ((v * 4294967296 + sm (hf v 4) : Nat) : Int)) ∧ Below w.heap.size w w' := by
  have HS : Hid (∀ g W, Cells W g 0 (hf v 4) → Calls Try.prog 24 #[.slice (some ⟨g, 0, none⟩) 4 4] W fun e w' => e = .returned (.int .u32 ((sm (hf v 4) : Nat) : Int)) ∧ w' = tabW W) :=
    fun g W h => sum_n _ 4 4 (hf v 4) (hf_length _ _) (by rw [hf_length]; decide) W (.inr ⟨g, 0, rfl, h⟩) (hf_oct _ _)
  have hs := sm_lt (hf v 4)
  generalize sm (hf v 4) = s at HS hs
  obtain ⟨y, hy, HY⟩ : ∃ y : Nat, bits .or .u64 ((v : Int) * 4294967296) (s : Int) = (y : Int) ∧ Hid (y = v * 4294967296 + s) :=
    ⟨v * 4294967296 + s, by rw [show ((v : Int) * 4294967296) = ((v * 4294967296 : Nat) : Int) by omega]; exact or_u64 32 _ s (by omega) (by omega) (by omega) (by omega), rfl⟩
  go_enter Try.func22, Try.ntmps22
  go_wp2_with fail
  refine (short_any v hv w).mono ?_
  rintro e w1 ⟨g, rfl, o1, b1⟩
  have c1 := own_cells o1 (by rw [hf_length]; decide)
  clear o1
  go_wp2_with fail
  refine (HS.out g w1 c1).mono ?_
  rintro e w2 ⟨rfl, rfl⟩
  clear HS c1
  go_wp2
  go_ret
  exact ⟨ret_int (by rw [HY.out]), b1.trans ((below_tab w1).mono b1.size)⟩
theorem hd_big (n : Nat) : hf (n * 4294967296 + sm (hf n 4)) 8 = hd n := by
  have := sm_lt (hf n 4)
  rw [← hf_join, show (n * 4294967296 + sm (hf n 4)) / 4294967296 = n by omega, show (n * 4294967296 + sm (hf n 4)) % 4294967296 = sm (hf n 4) by omega]
  rfl
set_option maxRecDepth 8000 in
set_option maxHeartbeats 1000000 in
theorem enc_any (a : Option Addr) (cap : Nat) (l : List Nat) (hn : l.length ≤ 524288) (w : World) (hc : Byt w a l) (hb : Oct l) (hnil : a = none → cap = 0) :
    Calls Try.prog 10 #[.slice a l.length cap] w fun e w' => ∃ g c, e = .returned (.tuple #[.slice (some ⟨g, 0, none⟩) (l.length + 12) c, .int .i64 0]) ∧ Own w' w.heap.size (.slice (some ⟨g, 0, none⟩) (l.length + 12) c) (rcd l) ∧ Below w.heap.size w w' := by
  obtain ⟨i0, hi, hz0, hz1, hz2⟩ := info_parts Try.info5
  have HH : Hid (∀ W : World, Calls Try.prog 22 #[.int .u32 l.length] W fun e w' => e = .returned (.int .u64 ((l.length * 4294967296 + sm (hf l.length 4) : Nat) : Int)) ∧ Below W.heap.size W w') := fun W => head_any l.length (by omega) W
  have HB : Hid (∀ W : World, Calls Try.prog 21 #[.int .u64 ((l.length * 4294967296 + sm (hf l.length 4) : Nat) : Int)] W fun e w' => ∃ g, e = .returned (.slice (some ⟨g, 0, none⟩) 8 8) ∧ Own w' W.heap.size (.slice (some ⟨g, 0, none⟩) 8 8) (hd l.length) ∧ Below W.heap.size W w') := fun W => by
    have := sm_lt (hf l.length 4)
    rw [← hd_big _]
    exact big_any _ (by omega) W
  have HR : Hid (rcd l = (hd l.length ++ l) ++ hf (sm (hd l.length ++ l)) 4) := rfl
  have HS : Hid (∀ g c W, Cells W g 0 (hd l.length ++ l) → Calls Try.prog 24 #[.slice (some ⟨g, 0, none⟩) (8 + l.length) c] W fun e w' => e = .returned (.int .u32 ((sm (hd l.length ++ l) : Nat) : Int)) ∧ w' = tabW W) :=
    fun g c W h => sum_n _ (8 + l.length) c (hd l.length ++ l) (by simp [hd_length]) (by simp [hd_length]; omega) W (.inr ⟨g, 0, rfl, h⟩) (oct_app (hd_oct _) hb)
  have HT : Hid (∀ W : World, Calls Try.prog 23 #[.int .u32 ((sm (hd l.length ++ l) : Nat) : Int)] W fun e w' => ∃ g, e = .returned (.slice (some ⟨g, 0, none⟩) 4 4) ∧ Own w' W.heap.size (.slice (some ⟨g, 0, none⟩) 4 4) (hf (sm (hd l.length ++ l)) 4) ∧ Below W.heap.size W w') := fun W => short_any _ (sm_lt _) W
  have hl8 := hd_length l.length
  have hl4 := hf_length (sm (hd l.length ++ l)) 4
  generalize hd l.length = H at HB HS HT HR hl8 hl4
  generalize l.length * 4294967296 + sm (hf l.length 4) = x at HH HB
  generalize hf (sm (H ++ l)) 4 = T at HR HT hl4
  generalize sm (H ++ l) = s at HS HT
  clear hb
  have HC : Hid (Byt w a l) := hc
  clear hc
  go_enter Try.func10, Try.ntmps10
  go_wp2_with (at_make; go_must (refine wpList_make_own _ rfl _ _ 22 rfl w.heap.size 5 i0 (.int .u8 0) 1 Try.underlying22 hi hz0 hz1 _ _ _ (l.length + 12) rfl rfl (by go_num) (by rw [hz2]; omega) (by unfold maxLen; omega) (Nat.le_refl _) ?_))
  intro w1 o1 g1
  have b1 : Below w.heap.size w w1 := (Below.refl _ _).grown g1 (Nat.le_refl _) (by simp)
  have o1' : Own w1 w.heap.size (.slice (some ⟨w.heap.size, 0, none⟩) 0 (l.length + 12)) [] := o1
  clear o1 g1 hi hz0 hz1 hz2
  go_wp2_with fail
  refine (HH.out w1).mono ?_
  rintro e w2 ⟨rfl, d2⟩
  clear HH
  go_wp2_with fail
  refine (HB.out w2).mono ?_
  rintro e w3 ⟨g3, rfl, o3, d3⟩
  clear HB
  have b2 := b1.trans (d2.mono b1.size)
  have b3 := b2.trans (d3.mono b2.size)
  have o1'' := (o1'.below d2).below d3
  have c3 : Byt w3 (some ⟨g3, 0, none⟩) H := .inr ⟨g3, 0, rfl, own_cells o3 (by omega)⟩
  clear o3 o1' d2 d3 b1 b2
  have s3 := b3.size
  go_wp2_with (at_builtin; go_must (refine app_bytes rfl (.tmp 13) (.tmp 18) rfl w.heap.size _ [] rfl o1'' _ _ _ H hl8.symm rfl c3 (by simp) (by simp; omega) s3 ?_))
  intro v4 w4 o4 g4
  have b4 := below_app b3 s3 o1'' g4
  have s4 := b4.size
  have HC4 : Hid (Byt w4 a l) := HC.out.below b4
  clear g4 o1'' c3 b3 s3
  go_wp2_with (at_builtin; go_must (refine app_bytes rfl (.tmp 20) (.tmp 21) rfl w.heap.size _ H rfl o4 a _ cap l rfl rfl HC4.out hnil (by omega) s4 ?_))
  intro v5 w5 o5 g5
  have b5 := below_app b4 s4 o4 g5
  have s5 := b5.size
  clear g5 o4 b4 s4 HC4
  obtain ⟨g, c, rfl, hg, hgs, hlc, hcm, hcell⟩ := o5.form (by simp; omega)
  have hl' : (H ++ l).length = 8 + l.length := by simp; omega
  rw [hl'] at o5
  rw [hl']
  go_wp2_with fail
  refine (HS.out g c w5 hcell).mono ?_
  rintro e w6 ⟨rfl, rfl⟩
  clear HS hcell
  go_wp2_with fail
  refine (HT.out (tabW w5)).mono ?_
  rintro e w7 ⟨g7, rfl, o7, d7⟩
  clear HT
  have b6 := b5.trans ((below_tab w5).mono s5)
  have b7 := b6.trans (d7.mono b6.size)
  have s7 := b7.size
  have o5' := (o5.below (below_tab w5)).below d7
  have c7 : Byt w7 (some ⟨g7, 0, none⟩) T := .inr ⟨g7, 0, rfl, own_cells o7 (by omega)⟩
  clear o7 o5 d7 b5 b6
  go_wp2_with (at_builtin; go_must (refine app_bytes rfl (.tmp 23) (.tmp 26) rfl w.heap.size _ (H ++ l) rfl o5' _ _ _ T hl4.symm rfl c7 (by simp) (by omega) s7 ?_))
  intro v8 w8 o8 g8
  have b8 := below_app b7 s7 o5' g8
  clear g8 o5' b7 s7 c7
  rw [← List.append_assoc, ← HR.out] at o8
  obtain ⟨g9, c9, rfl, _⟩ := o8.form (by rw [rcd_length]; omega)
  rw [rcd_length] at *
  go_wp2
  go_ret2
  exact ⟨g9, c9, rfl, o8, b8⟩
set_option maxRecDepth 8000 in
set_option maxHeartbeats 1000000 in
theorem encr_any (a : Option Addr) (cap : Nat) (l : List Nat) (hn : l.length ≤ 524288) (w : World) (hc : Byt w a l) (hb : Oct l) (hnil : a = none → cap = 0) :
    Calls Try.prog 11 #[.slice a l.length cap] w fun e w' => ∃ g c, e = .returned (.tuple #[.slice (some ⟨g, 0, none⟩) (l.length + 12) c, .int .i64 0]) ∧ Own w' w.heap.size (.slice (some ⟨g, 0, none⟩) (l.length + 12) c) (rcd l) ∧ Below w.heap.size w w' := by
  have H1 : Hid (∀ W : World, Calls Try.prog 25 #[.int .u32 l.length] W fun e w' => e = .returned (.slice (some ⟨W.heap.size, 0, none⟩) 4 4) ∧ Own w' W.heap.size (.slice (some ⟨W.heap.size, 0, none⟩) 4 4) (hf l.length 4) ∧ Below W.heap.size W w') := fun W => shortr_any _ (by omega) W
  have H2 : Hid (∀ g W, Cells W g 0 (hf l.length 4) → Calls Try.prog 26 #[.slice (some ⟨g, 0, none⟩) 4 4] W fun e w' => e = .returned (.int .u32 ((sm (hf l.length 4) : Nat) : Int)) ∧ w' = W) :=
    fun g W h => sumr_n _ 4 4 (hf l.length 4) (hf_length _ _) (by rw [hf_length]; decide) W (.inr ⟨g, 0, rfl, h⟩) (hf_oct _ _)
  have H3 : Hid (∀ W : World, Calls Try.prog 25 #[.int .u32 ((sm (hf l.length 4) : Nat) : Int)] W fun e w' => e = .returned (.slice (some ⟨W.heap.size, 0, none⟩) 4 4) ∧ Own w' W.heap.size (.slice (some ⟨W.heap.size, 0, none⟩) 4 4) (hf (sm (hf l.length 4)) 4) ∧ Below W.heap.size W w') := fun W => shortr_any _ (sm_lt _) W
  have HR : Hid (rcd l = (hd l.length ++ l) ++ hf (sm (hd l.length ++ l)) 4) := rfl
  have HD : Hid (hf l.length 4 ++ hf (sm (hf l.length 4)) 4 = hd l.length) := rfl
  have HS : Hid (∀ g c W, Cells W g 0 (hd l.length ++ l) → Calls Try.prog 26 #[.slice (some ⟨g, 0, none⟩) (8 + l.length) c] W fun e w' => e = .returned (.int .u32 ((sm (hd l.length ++ l) : Nat) : Int)) ∧ w' = W) :=
    fun g c W h => sumr_n _ (8 + l.length) c (hd l.length ++ l) (by simp [hd_length]) (by simp [hd_length]; omega) W (.inr ⟨g, 0, rfl, h⟩) (oct_app (hd_oct _) hb)
  have HT : Hid (∀ W : World, Calls Try.prog 25 #[.int .u32 ((sm (hd l.length ++ l) : Nat) : Int)] W fun e w' => e = .returned (.slice (some ⟨W.heap.size, 0, none⟩) 4 4) ∧ Own w' W.heap.size (.slice (some ⟨W.heap.size, 0, none⟩) 4 4) (hf (sm (hd l.length ++ l)) 4) ∧ Below W.heap.size W w') := fun W => shortr_any _ (sm_lt _) W
  have hl8 := hd_length l.length
  have hl4 := hf_length (sm (hd l.length ++ l)) 4
  have hA := hf_length l.length 4
  have hB := hf_length (sm (hf l.length 4)) 4
  generalize hd l.length = H at HS HT HR hl8 hl4 HD
  generalize hf (sm (H ++ l)) 4 = T at HR HT hl4
  generalize sm (H ++ l) = s at HS HT
  generalize hf (sm (hf l.length 4)) 4 = B at HD H3 hB
  generalize sm (hf l.length 4) = s2 at H2 H3
  generalize hf l.length 4 = A at HD H1 H2 hA
  clear hb
  have HC : Hid (Byt w a l) := hc
  clear hc
  go_enter Try.func11, Try.ntmps11
  go_wp2_with fail
  refine (H1.out w).mono ?_
  rintro e w1 ⟨rfl, o1, b1⟩
  clear H1
  have s1 := b1.size
  go_wp2_with fail
  refine (H2.out _ w1 (own_cells o1 (by omega))).mono ?_
  rintro e wx ⟨rfl, hw⟩
  rw [hw]
  clear hw wx
  clear H2
  go_wp2_with fail
  refine (H3.out w1).mono ?_
  rintro e w2 ⟨rfl, o2, d2⟩
  clear H3
  have b2 := b1.trans (d2.mono s1)
  have s2 := b2.size
  have o1' := o1.below d2
  have c2 : Byt w2 (some ⟨w1.heap.size, 0, none⟩) B := .inr ⟨_, 0, rfl, own_cells o2 (by omega)⟩
  clear o1 o2 d2 b1
  go_wp2_with (at_builtin; go_must (refine app_bytes rfl (.tmp 12) (.tmp 15) rfl w.heap.size _ A rfl o1' _ _ _ B hB.symm rfl c2 (by simp) (by omega) s2 ?_))
  intro v4 w4 o4 g4
  have b4 := below_app b2 s2 o1' g4
  have s4 := b4.size
  have HC4 : Hid (Byt w4 a l) := HC.out.below b4
  clear g4 o1' c2 b2 s2
  rw [HD.out] at o4
  go_wp2_with (at_builtin; go_must (refine app_bytes rfl (.tmp 17) (.tmp 18) rfl w.heap.size _ H rfl o4 a _ cap l rfl rfl HC4.out hnil (by omega) s4 ?_))
  intro v5 w5 o5 g5
  have b5 := below_app b4 s4 o4 g5
  have s5 := b5.size
  clear g5 o4 b4 s4 HC4
  obtain ⟨g, c, rfl, hg, hgs, hlc, hcm, hcell⟩ := o5.form (by simp; omega)
  have hl' : (H ++ l).length = 8 + l.length := by simp; omega
  rw [hl'] at o5
  rw [hl']
  go_wp2_with fail
  refine (HS.out g c w5 hcell).mono ?_
  rintro e wx ⟨rfl, hw⟩
  rw [hw]
  clear HS hcell hw wx
  go_wp2_with fail
  refine (HT.out w5).mono ?_
  rintro e w7 ⟨rfl, o7, d7⟩
  clear HT
  have b7 := b5.trans (d7.mono s5)
  have s7 := b7.size
  have o5' := o5.below d7
  have c7 : Byt w7 (some ⟨w5.heap.size, 0, none⟩) T := .inr ⟨_, 0, rfl, own_cells o7 (by omega)⟩
  clear o7 o5 d7 b5
  go_wp2_with (at_builtin; go_must (refine app_bytes rfl (.tmp 20) (.tmp 23) rfl w.heap.size _ (H ++ l) rfl o5' _ _ _ T hl4.symm rfl c7 (by simp) (by omega) s7 ?_))
  intro v8 w8 o8 g8
  have b8 := below_app b7 s7 o5' g8
  clear g8 o5' b7 s7 c7
  rw [← List.append_assoc, ← HR.out] at o8
  obtain ⟨g9, c9, rfl, _⟩ := o8.form (by rw [rcd_length]; omega)
  rw [rcd_length] at *
  go_wp2
  go_ret2
  exact ⟨g9, c9, rfl, o8, b8⟩
end Go.Proofs.Ythgicnfhclfcjaa
