/-
  order's reader: number, walked.
-/
import Derived.Test.YtmlfhplhiedfjaaGreatDoorOG24x
namespace Go.Proofs.YtmlfhplhiedfjaaGreatDoor
open Go.RowKit Math
set_option linter.unusedVariables false
set_option linter.unusedSimpArgs false
theorem lit_cells (w : World) : Cells (w.alloc (.cells #[.int .u8 0] 5)) w.heap.size 0 [0] := fun i hi => by
  have : i = 0 := by simpa using hi
  subst this
  exact (blk_new w 5 [.int .u8 0]).cell 0
theorem lit_fz (w : World) : ∀ i, i < [0].length → (w.alloc (.cells #[.int .u8 0] 5)).frozen? ⟨w.heap.size, i, none⟩ = false := fun i hi => (blk_new w 5 [.int .u8 0]).frozen i
/-- A number's value in the end. -/
def hdR (R : D6.Rs) : Hd := ⟨R.k, R.n, R.s, ⟨#[]⟩, []⟩
def h0 : Hd := ⟨0, 0, 0, ⟨#[]⟩, []⟩
theorem nuH0 : NuH h0 := ⟨⟨by decide, by decide, by decide, by decide, by decide, by decide, by decide, by decide, fun x hx => by cases hx⟩, rfl, rfl, .inl rfl⟩
theorem nuH3 : NuH ⟨3, 0, 0, ⟨#[]⟩, []⟩ := ⟨⟨by decide, by decide, by decide, by decide, by decide, by decide, by decide, by decide, fun x hx => by cases hx⟩, rfl, rfl, .inr (.inl rfl)⟩
abbrev RdN (l : List Nat) (bad : Bool) (l' : List Nat) (bad' : Bool) (h : Hd) : Prop := Rd (fun h : Hd => numB h.n h.s) (fun _ => True) NumOk l bad l' bad' h
theorem grown_two {W w1 w2 : World} {r : Nat} (h1 : W.grownBy w1 none) (h2 : w1.grownBy w2 (some r)) : W.grownBy w2 (some r) :=
  ⟨h2.os.trans h1.os, h2.tape.trans h1.tape, h2.output.trans h1.output, Nat.le_trans h1.size h2.size, fun y hy hne => (h2.block y (Nat.lt_of_lt_of_le hy h1.size) hne).trans (h1.block y hy (by simp))⟩
theorem grown_three {W w1 w2 : World} {r g : Nat} (h1 : W.grownBy w1 (some r)) (h2 : w1.grownBy w2 (some g)) (hg : W.heap.size ≤ g) : W.grownBy w2 (some r) :=
  ⟨h2.os.trans h1.os, h2.tape.trans h1.tape, h2.output.trans h1.output, Nat.le_trans h1.size h2.size, fun y hy hne => (h2.block y (Nat.lt_of_lt_of_le hy h1.size) (by intro e; injection e with e; omega)).trans (h1.block y hy hne)⟩
set_option maxRecDepth 8000 in
set_option maxHeartbeats 4000000 in
theorem number_any (r : Nat) (k : ByteArray) (i : Nat) (hi : i ≤ k.size) (hN : k.size ≤ 1000000000) (hr : r ≠ 0) (bad : Bool) (W : World) (hm : Mx W) (hb : Blk W r 58 [.string k, .int .i64 (i : Int), .bool bad]) :
    Calls Tryz.prog 43 #[.pointer (some ⟨r, 0, none⟩)] W fun e w' => ∃ h j bad', e = .returned (.agg #[.int .i64 h.k, .int .i64 h.n, .int .i64 h.s, .string ⟨#[]⟩, .slice none 0 0, .slice none 0 0]) ∧ Hid (Ko r k W w' j bad' ∧ NuH h ∧ RdN ((bts k).drop i) bad ((bts k).drop j) bad' h) := by
  have hrW : r < W.heap.size := hb.lt
  have HM : Hid (Mx W) := hm
  have HB : Hid (Blk W r 58 [.string k, .int .i64 (i : Int), .bool bad]) := hb
  clear hb hm
  go_enter Tryz.func43, Tryz.ntmps43
  go_wp2_with (refine al_zero rfl 38 rfl zer zV ?_)
  intro gv w1 hgv hb1 hg1
  have HV1 : Hid (Blk w1 gv 38 zer) := hb1
  have HG1 : Hid (W.grownBy w1 none) := hg1
  have HB1 : Hid (Blk w1 r 58 [.string k, .int .i64 (i : Int), .bool bad]) := HB.out.kept hg1 (by simp)
  have HM1 : Hid (Mx w1) := HM.out.kept hg1 (by simp)
  clear hb1 hg1 HB HM
  by_cases hsk : ∃ h : i < k.size, (k[i]'h).toNat = 128
  · obtain ⟨hlt, hx⟩ := hsk
    have K := skip_yes r k i 128 hlt hx hN bad w1 HB1.out
    have hd := bts_drop k i hlt
    rw [hx] at hd
    have HF : Hid (RdN ((bts k).drop i) bad ((bts k).drop (i + 1)) bad ⟨3, 0, 0, ⟨#[]⟩, []⟩) := by
      refine ⟨⟨[128], hd⟩, fun hbb => ⟨hbb, fun _ => hd⟩, fun hbb h m H hl => ⟨hbb, ?_⟩⟩
      rw [hd] at hl
      by_cases hn : h.n = 0
      · rw [zero_num H hn] at hl ⊢
        injection hl with _ hl
        exact ⟨rfl, hl⟩
      · obtain ⟨x', D', e1, e2, _⟩ := numB_shape H hn
        rw [e1] at hl
        injection hl with hl _
        exact absurd hl.symm e2
    clear hd
    go_wp2_with fail
    refine K.mono ?_
    rintro e w2 ⟨rfl, H2⟩
    have HV2 : Hid (Blk w2 gv 38 zer) := HV1.out.kept H2.out.gr (by intro e; injection e with e; omega)
    have HG2 : Hid (W.grownBy w2 (some r)) := grown_two HG1.out H2.out.gr
    clear K HB1 HV1 HM1 HG1
    go_wp2_with (refine st_all rfl 38 (.tmp 2) (.tmp 11) rfl gv 38 zer [.int .i64 3, .int .i64 0, .int .i64 0, .string ⟨#[]⟩, .slice none 0 0, .slice none 0 0] rfl rfl HV2.out rfl sV (D6.ones rfl) ?_)
    intro w3 b3 g3
    have HB3 : Hid (Blk w3 gv 38 [.int .i64 3, .int .i64 0, .int .i64 0, .string ⟨#[]⟩, .slice none 0 0, .slice none 0 0]) := b3
    have HK3 : Hid (Ko r k W w3 (i + 1) bad) := ⟨H2.out.blk.kept g3 (by intro e; injection e with e; omega), H2.out.le, grown_three HG2.out g3 hgv⟩
    clear b3 g3 HV2 HG2 H2
    go_wp2
    exact bodyPost_ret (D6.res_row rfl _ gv 38 _ _ rfl HB3.out Tryz.underlying38 rfl sV) rfl ⟨⟨3, 0, 0, ⟨#[]⟩, []⟩, i + 1, bad, rfl, HK3.out, nuH3, HF.out⟩
  have K := skip_no r k i 128 hi (fun h e => hsk ⟨h, e⟩) hN bad w1 HB1.out
  have HNe : Hid (∀ t, (bts k).drop i ≠ 128 :: t) := fun t e => by
    by_cases hlt : i < k.size
    · rw [bts_drop k i hlt] at e
      injection e with e _
      exact hsk ⟨hlt, e⟩
    · rw [List.drop_of_length_le (by rw [bts_len]; omega)] at e
      cases e
  clear hsk
  go_wp2_with fail
  refine K.mono ?_
  rintro e w2 ⟨rfl, H2⟩
  have HV2 : Hid (Blk w2 gv 38 zer) := HV1.out.kept H2.out.gr (by intro e; injection e with e; omega)
  have HG2 : Hid (W.grownBy w2 (some r)) := grown_two HG1.out H2.out.gr
  have HM2 : Hid (Mx w2) := HM1.out.kept H2.out.gr (by intro e; injection e with e; exact hr e)
  have d1 : w2.cell? ⟨r, 1, none⟩ = some (.int .i64 (i : Int)) := H2.out.blk.cell 1
  clear K HB1 HV1 HM1 HG1
  have K := next_any r k i hi hN bad w2 H2.out.blk
  go_wp2_with fail
  refine K.mono ?_
  rintro e w3 ⟨x, j1, bad1, rfl, hx, H3⟩
  have HV3 : Hid (Blk w3 gv 38 zer) := HV2.out.kept H3.out.1.gr (by intro e; injection e with e; omega)
  have HK3 : Hid (Ko r k W w3 j1 bad1) := ⟨H3.out.1.blk, H3.out.1.le, HG2.out.trans H3.out.1.gr⟩
  have HM3 : Hid (Mx w3) := HM2.out.kept H3.out.1.gr (by intro e; injection e with e; exact hr e)
  have HR1 : Hid (Rb ((bts k).drop i) bad ((bts k).drop j1) bad1 x) := H3.out.2
  clear K HV2 HG2 HM2 H2 H3 d1
  have hw3 : W.heap.size ≤ w3.heap.size := HK3.out.gr.size
  obtain ⟨w4, HW4⟩ : ∃ w4, Hid (w3.alloc (.cells #[.int .u8 0] 5) = w4) := ⟨_, rfl⟩
  have HC4 : Hid (Cells w4 w3.heap.size 0 [0] ∧ ∀ i, i < [0].length → w4.frozen? ⟨w3.heap.size, i, none⟩ = false) := by rw [← HW4.out]; exact ⟨lit_cells w3, lit_fz w3⟩
  have hB4 : Below w3.heap.size w3 w4 := by rw [← HW4.out]; exact (Below.refl _ _).alloc (Nat.le_refl _) _
  have HK4 : Hid (Ko r k W w4 j1 bad1) := HK3.out.below hB4
  have HV4 : Hid (Blk w4 gv 38 zer) := HV3.out.below hB4 HV3.out.lt
  have HM4 : Hid (Mx w4) := HM3.out.below hB4 HM3.out.pos
  have hgv3 : gv < w3.heap.size := HV3.out.lt
  clear hB4 HK3 HV3 HM3
  by_cases hxb : x < 128
  case pos =>
    have hxd : decide ((x : Int) < 128) = true := by simp; omega
    have K := trc_any w3.heap.size 1 [0] w4 HC4.out.1 HC4.out.2 (by intro y hy; simp at hy; omega) (by simp) (by omega) (by simp)
    go_wp2_with fail
    generalize hWW : World.alloc w3 _ = W9
    obtain rfl : w4 = W9 := by rw [← hWW, ← HW4.out]
    clear hWW HW4
    refine K.mono ?_
    rintro e w5 ⟨rfl, H5⟩
    have HC5 : Hid (Cells w5 w3.heap.size 0 [255]) := H5.out.1
    have HK5 : Hid (Ko r k W w5 j1 bad1) := HK4.out.kept H5.out.2 (by omega) hrW
    have HV5 : Hid (Blk w5 gv 38 zer) := HV4.out.kept H5.out.2 (by intro e; injection e with e; omega)
    have HM5 : Hid (Mx w5) := HM4.out.kept H5.out.2 (by intro e; injection e with e; omega)
    clear K H5 HC4 HK4 HV4 HM4
    have hcv := conv_byt (w := w5) (a := some ⟨w3.heap.size, 0, none⟩) (l := [255]) (c := 1) (.inr ⟨_, _, rfl, HC5.out⟩) (by intro y hy; simp at hy; omega) (by simp)
    simp only [List.length_singleton] at hcv
    have K := until_any r k j1 HK5.out.le hN hr bad1 (ofB [255]) (by decide) w5 HM5.out HK5.out.blk
    have hbm : bts (ofB [255]) = [255] := by decide
    rw [hbm] at K
    go_wp2_with fail
    refine K.mono ?_
    rintro e w6 ⟨s, j2, bad2, rfl, H6⟩
    have HK6 : Hid (Ko r k W w6 j2 bad2) := HK5.out.trans H6.out.1
    have HV6 : Hid (Blk w6 gv 38 zer) := HV5.out.kept H6.out.1.gr (by intro e; injection e with e; omega)
    have HM6 : Hid (Mx w6) := HM5.out.kept H6.out.1.gr (by intro e; injection e with e; exact hr e)
    have HU : Hid (Un [if x < 128 then 255 else 0] ((bts k).drop j1) bad1 ((bts k).drop j2) bad2 s) := by
      have := H6.out.2.2
      rw [if_pos hxb]
      exact this
    clear K hcv hbm HC5 HK5 HV5 HM5 H6
    have d2 : w6.cell? ⟨r, 2, none⟩ = some (.bool bad2) := HK6.out.blk.cell 2
    cases bad2 with
    | true =>
      have HF : Hid (RdN ((bts k).drop i) bad ((bts k).drop j2) true h0) := by
        refine ⟨?_, fun e => (by cases e), fun hbb h m H hl => ?_⟩
        · obtain ⟨c1, e1⟩ := HR1.out.suf
          obtain ⟨c2, e2⟩ := HU.out.suf
          exact ⟨c1 ++ c2, by rw [e1, e2, List.append_assoc]⟩
        · have := (num_co HNe.out HR1.out HU.out hbb H hl).1
          cases this
      clear HU HR1 HNe HM6
      go_wp2_with (refine st_all rfl 38 (.tmp 2) (.tmp 31) rfl gv 38 zer [.int .i64 0, .int .i64 0, .int .i64 0, .string ⟨#[]⟩, .slice none 0 0, .slice none 0 0] rfl rfl HV6.out rfl sV (D6.ones rfl) ?_)
      intro w7 b7 g7
      have HB7 : Hid (Blk w7 gv 38 [.int .i64 0, .int .i64 0, .int .i64 0, .string ⟨#[]⟩, .slice none 0 0, .slice none 0 0]) := b7
      have HK7 : Hid (Ko r k W w7 j2 true) := HK6.out.kept g7 hgv hrW
      clear b7 g7 HV6 HK6
      go_wp2
      exact bodyPost_ret (D6.res_row rfl _ gv 38 _ _ rfl HB7.out Tryz.underlying38 rfl sV) rfl ⟨h0, j2, true, rfl, HK7.out, nuH0, HF.out⟩
    | false =>
      obtain ⟨u1, u2⟩ := HU.out.so rfl
      obtain ⟨v1, v2⟩ := HR1.out.so u1
      have v3 := v2 trivial
      rw [if_pos hxb] at u2
      have e0 : (bts k).drop i = (x :: (bts s ++ [255])) ++ (bts k).drop j2 := by
        rw [v3, u2]
        simp
      have hj2 : j2 ≤ k.size := HK6.out.le
      have hlen : j2 = i + (s.size + 2) := by
        have := congrArg List.length e0
        simp only [List.length_append, List.length_cons, List.length_drop, bts_len, List.length_singleton, List.length_nil] at this
        omega
      have hij : i ≤ j2 := by omega
      have hG : bts (k.extract i j2) = x :: (bts s ++ [255]) := by
        rw [hlen, bts_mid k i (s.size + 2) (by omega), e0, List.take_left']
        simp [bts_len]
      have hGs : (k.extract i j2).size = s.size + 2 := by rw [← bts_len, hG]; simp [bts_len]
      have hss : s.size + 2 ≤ k.size := by omega
      have HE0 : Hid ((bts k).drop i = (x :: (bts s ++ [255])) ++ (bts k).drop j2) := e0
      have HG6 : Hid (bts (k.extract i j2) = x :: (bts s ++ [255])) := hG
      clear u2 v2 v3 e0 hG hlen
      have d0 : w6.cell? ⟨r, 0, none⟩ = some (.string k) := HK6.out.blk.cell 0
      have d1 : w6.cell? ⟨r, 1, none⟩ = some (.int .i64 (j2 : Int)) := HK6.out.blk.cell 1
      go_wp2
      go_quiet (fail)
      have HK7 : Hid (Ko r k W (w6.drewN nq) j2 false) := ⟨HK6.out.blk.dq nq, HK6.out.le, HK6.out.gr.trans (grown_dq _ _ _)⟩
      have HV7 : Hid (Blk (w6.drewN nq) gv 38 zer) := HV6.out.dq nq
      have HM7 : Hid (Mx (w6.drewN nq)) := HM6.out.dq nq
      have hsz7 : gv < (w6.drewN nq).heap.size := HV7.out.lt
      generalize w6.drewN nq = w7 at *
      clear HK6 HV6 HM6 d0 d1 d2
      generalize k.extract i j2 = S at *
      obtain ⟨c, w8, hcv, hc1, hc2, hbl, hcl, hfz⟩ := conv_sb S (by omega) w7
      have HK8 : Hid (Ko r k W w8 j2 false) := HK7.out.below hbl
      have HV8 : Hid (Blk w8 gv 38 zer) := HV7.out.below hbl HV7.out.lt
      have hw78 : W.heap.size ≤ w7.heap.size := HK7.out.gr.size
      rw [HG6.out] at hcl
      rw [hGs] at hfz
      have hlG : (x :: (bts s ++ [255])).length = S.size := by rw [hGs]; simp [bts_len]
      have K := numO_true w7.heap.size c (x :: (bts s ++ [255])) (255 - x) (turnB (bts s)) 0 w8 (by simp [turnB]) hcl (by rw [hlG, hGs]; exact hfz) (by rw [← HG6.out]; exact bts_oct S) (by rw [hlG, hGs]; omega) hc2 (by rw [hlG]; exact hc1)
      rw [hlG, hGs] at K
      obtain ⟨R, hR⟩ : ∃ R, D6.mkR (nuF true (szF (255 - x) (turnB (bts s)))) (scF (255 - x) (turnB (bts s))) = R := ⟨_, rfl⟩
      have HO : Hid ((R.e = 0 ∧ (R.k = 3 ∨ R.k = 4) ∧ -9223372036854775808 ≤ R.n ∧ R.n < 9223372036854775808 ∧ 0 ≤ R.s ∧ R.s ≤ 18) ∨ (R.e ≠ 0 ∧ R.k = 0 ∧ R.n = 0 ∧ R.s = 0)) := by rw [← hR]; exact mkR_out _ _
      have HNu : Hid (NuH (hdR R)) := by rw [← hR]; exact nuH_mk _ _
      have HCo : Hid (∀ h m, bad = false → NumOk h → (bts k).drop i = numB h.n h.s ++ m → (bts k).drop j2 = m ∧ bts S = numB h.n h.s ∧ R = .ok h.n h.s.toNat) := fun h m hbb H hl => by
        obtain ⟨a1, a2, a3, a4⟩ := num_co HNe.out HR1.out HU.out hbb H hl
        simp only [if_pos hxb, decide_eq_true hxb] at a3 a4
        exact ⟨a2, by rw [HG6.out]; exact a3, by rw [← hR]; exact a4⟩
      rw [hR] at K
      clear hR hcl hfz hbl HU HR1 HNe HV7 HK7 HM7
      go_wp2_with fail
      refine K.mono ?_
      rintro e w9 ⟨rfl, H9⟩
      have HK9 : Hid (Ko r k W w9 j2 false) := HK8.out.kept H9.out (by omega) hrW
      have HV9 : Hid (Blk w9 gv 38 zer) := HV8.out.kept H9.out (by intro e; injection e with e; omega)
      clear K H9 HK8 HV8 hcv
      go_wp2_with (refine al_zero rfl 38 rfl zer zV ?_)
      intro gx w10 hgx hb10 hg10
      have HK10 : Hid (Ko r k W w10 j2 false) := HK9.out.grown hg10
      have HV10 : Hid (Blk w10 gv 38 zer) := HV9.out.kept hg10 (by simp)
      have hsz9 := HK9.out.gr.size
      have hsz9' := HV9.out.lt
      clear HK9 HV9 hg10
      go_wp2_with (refine st_all rfl 38 (.tmp 7) (.tmp 47) rfl gx 38 zer [.int .i64 R.k, .int .i64 R.n, .int .i64 R.s, .string ⟨#[]⟩, .slice none 0 0, .slice none 0 0] rfl rfl hb10 rfl sV (D6.ones rfl) ?_)
      intro w11 b11 g11
      have HX11 : Hid (Blk w11 gx 38 [.int .i64 R.k, .int .i64 R.n, .int .i64 R.s, .string ⟨#[]⟩, .slice none 0 0, .slice none 0 0]) := b11
      have HK11 : Hid (Ko r k W w11 j2 false) := HK10.out.kept g11 (by omega) hrW
      have HV11 : Hid (Blk w11 gv 38 zer) := HV10.out.kept g11 (by intro e; injection e with e; omega)
      clear b11 g11 hb10 HK10 HV10
      by_cases hRe : R.e = 0
      case neg =>
        have hne : (R.e != 0) = true := by simpa using hRe
        have HF : Hid (RdN ((bts k).drop i) bad ((bts k).drop j2) true (hdR R)) := by
          refine ⟨⟨_, HE0.out⟩, fun e => (by cases e), fun hbb h m H hl => ?_⟩
          exfalso
          have := (HCo.out h m hbb H hl).2.2
          rw [this] at hRe
          exact hRe rfl
        clear HO HCo HE0
        go_wp2_with (refine st_one rfl 4 (.tmp 60) (.const (.bool true)) rfl r 2 58 _ (.bool true) rfl rfl rfl rfl (by simp) HK11.out.blk s4 ?_)
        intro w12 b12 g12
        have HK12 : Hid (Ko r k W w12 j2 true) := ⟨b12, HK11.out.le, HK11.out.gr.trans g12⟩
        have HX12 : Hid (Blk w12 gx 38 [.int .i64 R.k, .int .i64 R.n, .int .i64 R.s, .string ⟨#[]⟩, .slice none 0 0, .slice none 0 0]) := HX11.out.kept g12 (by intro e; injection e with e; omega)
        have HV12 : Hid (Blk w12 gv 38 zer) := HV11.out.kept g12 (by intro e; injection e with e; omega)
        clear b12 g12 HK11 HX11 HV11
        go_wp2_with (first
          | refine D6.ld_all rfl 38 (.tmp 7) rfl gx 38 _ _ rfl HX12.out Tryz.underlying38 rfl sV ?_
          | refine st_all rfl 38 (.tmp 2) (.tmp 61) rfl gv 38 zer [.int .i64 R.k, .int .i64 R.n, .int .i64 R.s, .string ⟨#[]⟩, .slice none 0 0, .slice none 0 0] rfl rfl HV12.out rfl sV (D6.ones rfl) ?_)
        intro w13 b13 g13
        have HB13 : Hid (Blk w13 gv 38 [.int .i64 R.k, .int .i64 R.n, .int .i64 R.s, .string ⟨#[]⟩, .slice none 0 0, .slice none 0 0]) := b13
        have HK13 : Hid (Ko r k W w13 j2 true) := HK12.out.kept g13 hgv hrW
        clear b13 g13 HV12 HK12 HX12
        go_wp2
        exact bodyPost_ret (D6.res_row rfl _ gv 38 _ _ rfl HB13.out Tryz.underlying38 rfl sV) rfl ⟨hdR R, j2, true, rfl, HK13.out, HNu.out, HF.out⟩
      have hR2 : (R.k = 3 ∨ R.k = 4) ∧ -9223372036854775808 ≤ R.n ∧ R.n < 9223372036854775808 ∧ 0 ≤ R.s ∧ R.s ≤ 18 := by
        rcases HO.out with ⟨_, h⟩ | ⟨h, _⟩
        · exact h
        · exact absurd hRe h
      have hne : (R.e != 0) = false := by simpa using hRe
      have K := kNum R.k R.n R.s ⟨#[]⟩ none 0 0 none 0 0 (.slice none 0 0) [] w11.heap.size w11 (own_nil w11 _ (Nat.le_refl _)) (Nat.le_refl _) (by simp) hR2.2.1 hR2.2.2.1 hR2.2.2.2.1 hR2.2.2.2.2
      have HOc : Hid (Oct (numB R.n R.s)) := numB_oct _ _ hR2.2.1 hR2.2.2.1 hR2.2.2.2.1 hR2.2.2.2.2
      rw [List.nil_append] at K
      clear hR2 HO
      have x0 : w11.cell? ⟨gx, 0, none⟩ = some (.int .i64 R.k) := HX11.out.cell 0
      have x1 : w11.cell? ⟨gx, 1, none⟩ = some (.int .i64 R.n) := HX11.out.cell 1
      have x2 : w11.cell? ⟨gx, 2, none⟩ = some (.int .i64 R.s) := HX11.out.cell 2
      have x3 : w11.cell? ⟨gx, 3, none⟩ = some (.string ⟨#[]⟩) := HX11.out.cell 3
      have x4 : w11.cell? ⟨gx, 4, none⟩ = some (.slice none 0 0) := HX11.out.cell 4
      have x5 : w11.cell? ⟨gx, 5, none⟩ = some (.slice none 0 0) := HX11.out.cell 5
      go_wp2_with fail
      refine K.mono ?_
      rintro e w12 ⟨v', rfl, A⟩
      obtain ⟨va, vc, rfl, hvb, hvn, hvl, hvm⟩ := A.own.byt
      have hcv2 := conv_byt (c := vc) hvb HOc.out hvn
      have g12 : w11.grownBy w12 none := A.gr
      have HK12 : Hid (Ko r k W w12 j2 false) := HK11.out.grown g12
      have HX12 : Hid (Blk w12 gx 38 [.int .i64 R.k, .int .i64 R.n, .int .i64 R.s, .string ⟨#[]⟩, .slice none 0 0, .slice none 0 0]) := HX11.out.kept g12 (by simp)
      have HV12 : Hid (Blk w12 gv 38 zer) := HV11.out.kept g12 (by simp)
      have HNS : Hid (bts (ofB (numB R.n R.s)) = numB R.n R.s) := bts_ofB _ HOc.out
      clear K A hvb hvn hvl hvm g12 HK11 HX11 HV11 x0 x1 x2 x3 x4 x5 HOc
      generalize (numB R.n R.s).length = nl at *
      generalize hQ : ofB (numB R.n R.s) = Q at *
      by_cases hQS : Q = S
      case neg =>
        have hz : (Q.toList == S.toList) = false := by
          rw [beq_eq_false_iff_ne]
          exact fun e => hQS (by rw [← ofB_bts Q, ← ofB_bts S]; unfold bts; rw [ByteArray.toList_eq, ByteArray.toList_eq] at e; rw [e])
        have HF : Hid (RdN ((bts k).drop i) bad ((bts k).drop j2) true (hdR R)) := by
          refine ⟨⟨_, HE0.out⟩, fun e => (by cases e), fun hbb h m H hl => ?_⟩
          exfalso
          obtain ⟨_, a2, a3⟩ := HCo.out h m hbb H hl
          have hs0 := (num_parts H).2.2.1
          have e1 : R.n = h.n := by rw [a3]; rfl
          have e2 : R.s = h.s := by rw [a3]; show ((h.s.toNat : Nat) : Int) = h.s; omega
          exact hQS (bts_inj (by rw [HNS.out, a2, e1, e2]))
        clear HCo HE0 HNS hQ
        go_wp2_with (refine st_one rfl 4 (.tmp 60) (.const (.bool true)) rfl r 2 58 _ (.bool true) rfl rfl rfl rfl (by simp) HK12.out.blk s4 ?_)
        intro w13 b13 g13
        have HK13 : Hid (Ko r k W w13 j2 true) := ⟨b13, HK12.out.le, HK12.out.gr.trans g13⟩
        have HX13 : Hid (Blk w13 gx 38 [.int .i64 R.k, .int .i64 R.n, .int .i64 R.s, .string ⟨#[]⟩, .slice none 0 0, .slice none 0 0]) := HX12.out.kept g13 (by intro e; injection e with e; omega)
        have HV13 : Hid (Blk w13 gv 38 zer) := HV12.out.kept g13 (by intro e; injection e with e; omega)
        clear b13 g13 HK12 HX12 HV12
        go_wp2_with (first
          | refine D6.ld_all rfl 38 (.tmp 7) rfl gx 38 _ _ rfl HX13.out Tryz.underlying38 rfl sV ?_
          | refine st_all rfl 38 (.tmp 2) (.tmp 61) rfl gv 38 zer [.int .i64 R.k, .int .i64 R.n, .int .i64 R.s, .string ⟨#[]⟩, .slice none 0 0, .slice none 0 0] rfl rfl HV13.out rfl sV (D6.ones rfl) ?_)
        intro w14 b14 g14
        have HB14 : Hid (Blk w14 gv 38 [.int .i64 R.k, .int .i64 R.n, .int .i64 R.s, .string ⟨#[]⟩, .slice none 0 0, .slice none 0 0]) := b14
        have HK14 : Hid (Ko r k W w14 j2 true) := HK13.out.kept g14 hgv hrW
        clear b14 g14 HV13 HK13 HX13
        go_wp2
        exact bodyPost_ret (D6.res_row rfl _ gv 38 _ _ rfl HB14.out Tryz.underlying38 rfl sV) rfl ⟨hdR R, j2, true, rfl, HK14.out, HNu.out, HF.out⟩
      subst hQS
      have hz : (Q.toList == Q.toList) = true := by simp
      have HF : Hid (RdN ((bts k).drop i) bad ((bts k).drop j2) false (hdR R)) := by
        refine ⟨⟨_, HE0.out⟩, fun _ => ⟨v1, fun _ => ?_⟩, fun hbb h m H hl => ⟨rfl, ?_⟩⟩
        · rw [HE0.out, ← HG6.out, HNS.out]
          rfl
        · obtain ⟨a1, a2, a3⟩ := HCo.out h m hbb H hl
          exact ⟨by unfold hdR; rw [a3]; exact ok_hd H, a1⟩
      clear HCo HE0 HNS hQ HG6
      go_wp2_with (first
        | refine D6.ld_all rfl 38 (.tmp 7) rfl gx 38 _ _ rfl HX12.out Tryz.underlying38 rfl sV ?_
        | refine st_all rfl 38 (.tmp 2) (.tmp 61) rfl gv 38 zer [.int .i64 R.k, .int .i64 R.n, .int .i64 R.s, .string ⟨#[]⟩, .slice none 0 0, .slice none 0 0] rfl rfl HV12.out rfl sV (D6.ones rfl) ?_)
      intro w13 b13 g13
      have HB13 : Hid (Blk w13 gv 38 [.int .i64 R.k, .int .i64 R.n, .int .i64 R.s, .string ⟨#[]⟩, .slice none 0 0, .slice none 0 0]) := b13
      have HK13 : Hid (Ko r k W w13 j2 false) := HK12.out.kept g13 hgv hrW
      clear b13 g13 HV12 HK12 HX12
      go_wp2
      exact bodyPost_ret (D6.res_row rfl _ gv 38 _ _ rfl HB13.out Tryz.underlying38 rfl sV) rfl ⟨hdR R, j2, false, rfl, HK13.out, HNu.out, HF.out⟩
  case neg =>
    have hxd : decide ((x : Int) < 128) = false := by simp; omega
    have HC5 : Hid (Cells w4 w3.heap.size 0 [0]) := HC4.out.1
    have hcv := conv_byt (w := w4) (a := some ⟨w3.heap.size, 0, none⟩) (l := [0]) (c := 1) (.inr ⟨_, _, rfl, HC5.out⟩) (by intro y hy; simp at hy; omega) (by simp)
    simp only [List.length_singleton] at hcv
    rw [← HW4.out] at hcv
    have K := until_any r k j1 HK4.out.le hN hr bad1 (ofB [0]) (by decide) w4 HM4.out HK4.out.blk
    have hbm : bts (ofB [0]) = [0] := by decide
    rw [hbm] at K
    go_wp2_with fail
    generalize hWW : World.alloc w3 _ = W9 at *
    obtain rfl : w4 = W9 := by first | exact HW4.out.symm | (rw [← HW4.out]; exact hWW)
    clear hWW HW4
    refine K.mono ?_
    rintro e w6 ⟨s, j2, bad2, rfl, H6⟩
    have HK6 : Hid (Ko r k W w6 j2 bad2) := HK4.out.trans H6.out.1
    have HV6 : Hid (Blk w6 gv 38 zer) := HV4.out.kept H6.out.1.gr (by intro e; injection e with e; omega)
    have HM6 : Hid (Mx w6) := HM4.out.kept H6.out.1.gr (by intro e; injection e with e; exact hr e)
    have HU : Hid (Un [if x < 128 then 255 else 0] ((bts k).drop j1) bad1 ((bts k).drop j2) bad2 s) := by
      have := H6.out.2.2
      rw [if_neg hxb]
      exact this
    clear K hcv hbm HC5 HK4 HV4 HM4 H6
    have d2 : w6.cell? ⟨r, 2, none⟩ = some (.bool bad2) := HK6.out.blk.cell 2
    cases bad2 with
    | true =>
      have HF : Hid (RdN ((bts k).drop i) bad ((bts k).drop j2) true h0) := by
        refine ⟨?_, fun e => (by cases e), fun hbb h m H hl => ?_⟩
        · obtain ⟨c1, e1⟩ := HR1.out.suf
          obtain ⟨c2, e2⟩ := HU.out.suf
          exact ⟨c1 ++ c2, by rw [e1, e2, List.append_assoc]⟩
        · have := (num_co HNe.out HR1.out HU.out hbb H hl).1
          cases this
      clear HU HR1 HNe HM6
      go_wp2_with (refine st_all rfl 38 (.tmp 2) (.tmp 31) rfl gv 38 zer [.int .i64 0, .int .i64 0, .int .i64 0, .string ⟨#[]⟩, .slice none 0 0, .slice none 0 0] rfl rfl HV6.out rfl sV (D6.ones rfl) ?_)
      intro w7 b7 g7
      have HB7 : Hid (Blk w7 gv 38 [.int .i64 0, .int .i64 0, .int .i64 0, .string ⟨#[]⟩, .slice none 0 0, .slice none 0 0]) := b7
      have HK7 : Hid (Ko r k W w7 j2 true) := HK6.out.kept g7 hgv hrW
      clear b7 g7 HV6 HK6
      go_wp2
      exact bodyPost_ret (D6.res_row rfl _ gv 38 _ _ rfl HB7.out Tryz.underlying38 rfl sV) rfl ⟨h0, j2, true, rfl, HK7.out, nuH0, HF.out⟩
    | false =>
      obtain ⟨u1, u2⟩ := HU.out.so rfl
      obtain ⟨v1, v2⟩ := HR1.out.so u1
      have v3 := v2 trivial
      rw [if_neg hxb] at u2
      have e0 : (bts k).drop i = (x :: (bts s ++ [0])) ++ (bts k).drop j2 := by
        rw [v3, u2]
        simp
      have hj2 : j2 ≤ k.size := HK6.out.le
      have hlen : j2 = i + (s.size + 2) := by
        have := congrArg List.length e0
        simp only [List.length_append, List.length_cons, List.length_drop, bts_len, List.length_singleton, List.length_nil] at this
        omega
      have hij : i ≤ j2 := by omega
      have hG : bts (k.extract i j2) = x :: (bts s ++ [0]) := by
        rw [hlen, bts_mid k i (s.size + 2) (by omega), e0, List.take_left']
        simp [bts_len]
      have hGs : (k.extract i j2).size = s.size + 2 := by rw [← bts_len, hG]; simp [bts_len]
      have hss : s.size + 2 ≤ k.size := by omega
      have HE0 : Hid ((bts k).drop i = (x :: (bts s ++ [0])) ++ (bts k).drop j2) := e0
      have HG6 : Hid (bts (k.extract i j2) = x :: (bts s ++ [0])) := hG
      clear u2 v2 v3 e0 hG hlen
      have d0 : w6.cell? ⟨r, 0, none⟩ = some (.string k) := HK6.out.blk.cell 0
      have d1 : w6.cell? ⟨r, 1, none⟩ = some (.int .i64 (j2 : Int)) := HK6.out.blk.cell 1
      go_wp2
      go_quiet (fail)
      have HK7 : Hid (Ko r k W (w6.drewN nq) j2 false) := ⟨HK6.out.blk.dq nq, HK6.out.le, HK6.out.gr.trans (grown_dq _ _ _)⟩
      have HV7 : Hid (Blk (w6.drewN nq) gv 38 zer) := HV6.out.dq nq
      have HM7 : Hid (Mx (w6.drewN nq)) := HM6.out.dq nq
      have hsz7 : gv < (w6.drewN nq).heap.size := HV7.out.lt
      generalize w6.drewN nq = w7 at *
      clear HK6 HV6 HM6 d0 d1 d2
      generalize k.extract i j2 = S at *
      obtain ⟨c, w8, hcv, hc1, hc2, hbl, hcl, hfz⟩ := conv_sb S (by omega) w7
      have HK8 : Hid (Ko r k W w8 j2 false) := HK7.out.below hbl
      have HV8 : Hid (Blk w8 gv 38 zer) := HV7.out.below hbl HV7.out.lt
      have hw78 : W.heap.size ≤ w7.heap.size := HK7.out.gr.size
      rw [HG6.out] at hcl
      rw [hGs] at hfz
      have hlG : (x :: (bts s ++ [0])).length = S.size := by rw [hGs]; simp [bts_len]
      have K := numO_false w7.heap.size c (x :: (bts s ++ [0])) x (bts s) 0 w8 (by rfl) hcl (by rw [hlG, hGs]; exact hfz) (by rw [← HG6.out]; exact bts_oct S) (by rw [hlG, hGs]; omega) hc2 (by rw [hlG]; exact hc1)
      rw [hlG, hGs] at K
      obtain ⟨R, hR⟩ : ∃ R, D6.mkR (nuF false (szF x (bts s))) (scF x (bts s)) = R := ⟨_, rfl⟩
      have HO : Hid ((R.e = 0 ∧ (R.k = 3 ∨ R.k = 4) ∧ -9223372036854775808 ≤ R.n ∧ R.n < 9223372036854775808 ∧ 0 ≤ R.s ∧ R.s ≤ 18) ∨ (R.e ≠ 0 ∧ R.k = 0 ∧ R.n = 0 ∧ R.s = 0)) := by rw [← hR]; exact mkR_out _ _
      have HNu : Hid (NuH (hdR R)) := by rw [← hR]; exact nuH_mk _ _
      have HCo : Hid (∀ h m, bad = false → NumOk h → (bts k).drop i = numB h.n h.s ++ m → (bts k).drop j2 = m ∧ bts S = numB h.n h.s ∧ R = .ok h.n h.s.toNat) := fun h m hbb H hl => by
        obtain ⟨a1, a2, a3, a4⟩ := num_co HNe.out HR1.out HU.out hbb H hl
        simp only [if_neg hxb, decide_eq_false hxb] at a3 a4
        exact ⟨a2, by rw [HG6.out]; exact a3, by rw [← hR]; exact a4⟩
      rw [hR] at K
      clear hR hcl hfz hbl HU HR1 HNe HV7 HK7 HM7
      go_wp2_with fail
      refine K.mono ?_
      rintro e w9 ⟨rfl, H9⟩
      have HK9 : Hid (Ko r k W w9 j2 false) := HK8.out.kept H9.out (by omega) hrW
      have HV9 : Hid (Blk w9 gv 38 zer) := HV8.out.kept H9.out (by intro e; injection e with e; omega)
      clear K H9 HK8 HV8 hcv
      go_wp2_with (refine al_zero rfl 38 rfl zer zV ?_)
      intro gx w10 hgx hb10 hg10
      have HK10 : Hid (Ko r k W w10 j2 false) := HK9.out.grown hg10
      have HV10 : Hid (Blk w10 gv 38 zer) := HV9.out.kept hg10 (by simp)
      have hsz9 := HK9.out.gr.size
      have hsz9' := HV9.out.lt
      clear HK9 HV9 hg10
      go_wp2_with (refine st_all rfl 38 (.tmp 7) (.tmp 47) rfl gx 38 zer [.int .i64 R.k, .int .i64 R.n, .int .i64 R.s, .string ⟨#[]⟩, .slice none 0 0, .slice none 0 0] rfl rfl hb10 rfl sV (D6.ones rfl) ?_)
      intro w11 b11 g11
      have HX11 : Hid (Blk w11 gx 38 [.int .i64 R.k, .int .i64 R.n, .int .i64 R.s, .string ⟨#[]⟩, .slice none 0 0, .slice none 0 0]) := b11
      have HK11 : Hid (Ko r k W w11 j2 false) := HK10.out.kept g11 (by omega) hrW
      have HV11 : Hid (Blk w11 gv 38 zer) := HV10.out.kept g11 (by intro e; injection e with e; omega)
      clear b11 g11 hb10 HK10 HV10
      by_cases hRe : R.e = 0
      case neg =>
        have hne : (R.e != 0) = true := by simpa using hRe
        have HF : Hid (RdN ((bts k).drop i) bad ((bts k).drop j2) true (hdR R)) := by
          refine ⟨⟨_, HE0.out⟩, fun e => (by cases e), fun hbb h m H hl => ?_⟩
          exfalso
          have := (HCo.out h m hbb H hl).2.2
          rw [this] at hRe
          exact hRe rfl
        clear HO HCo HE0
        go_wp2_with (refine st_one rfl 4 (.tmp 60) (.const (.bool true)) rfl r 2 58 _ (.bool true) rfl rfl rfl rfl (by simp) HK11.out.blk s4 ?_)
        intro w12 b12 g12
        have HK12 : Hid (Ko r k W w12 j2 true) := ⟨b12, HK11.out.le, HK11.out.gr.trans g12⟩
        have HX12 : Hid (Blk w12 gx 38 [.int .i64 R.k, .int .i64 R.n, .int .i64 R.s, .string ⟨#[]⟩, .slice none 0 0, .slice none 0 0]) := HX11.out.kept g12 (by intro e; injection e with e; omega)
        have HV12 : Hid (Blk w12 gv 38 zer) := HV11.out.kept g12 (by intro e; injection e with e; omega)
        clear b12 g12 HK11 HX11 HV11
        go_wp2_with (first
          | refine D6.ld_all rfl 38 (.tmp 7) rfl gx 38 _ _ rfl HX12.out Tryz.underlying38 rfl sV ?_
          | refine st_all rfl 38 (.tmp 2) (.tmp 61) rfl gv 38 zer [.int .i64 R.k, .int .i64 R.n, .int .i64 R.s, .string ⟨#[]⟩, .slice none 0 0, .slice none 0 0] rfl rfl HV12.out rfl sV (D6.ones rfl) ?_)
        intro w13 b13 g13
        have HB13 : Hid (Blk w13 gv 38 [.int .i64 R.k, .int .i64 R.n, .int .i64 R.s, .string ⟨#[]⟩, .slice none 0 0, .slice none 0 0]) := b13
        have HK13 : Hid (Ko r k W w13 j2 true) := HK12.out.kept g13 hgv hrW
        clear b13 g13 HV12 HK12 HX12
        go_wp2
        exact bodyPost_ret (D6.res_row rfl _ gv 38 _ _ rfl HB13.out Tryz.underlying38 rfl sV) rfl ⟨hdR R, j2, true, rfl, HK13.out, HNu.out, HF.out⟩
      have hR2 : (R.k = 3 ∨ R.k = 4) ∧ -9223372036854775808 ≤ R.n ∧ R.n < 9223372036854775808 ∧ 0 ≤ R.s ∧ R.s ≤ 18 := by
        rcases HO.out with ⟨_, h⟩ | ⟨h, _⟩
        · exact h
        · exact absurd hRe h
      have hne : (R.e != 0) = false := by simpa using hRe
      have K := kNum R.k R.n R.s ⟨#[]⟩ none 0 0 none 0 0 (.slice none 0 0) [] w11.heap.size w11 (own_nil w11 _ (Nat.le_refl _)) (Nat.le_refl _) (by simp) hR2.2.1 hR2.2.2.1 hR2.2.2.2.1 hR2.2.2.2.2
      have HOc : Hid (Oct (numB R.n R.s)) := numB_oct _ _ hR2.2.1 hR2.2.2.1 hR2.2.2.2.1 hR2.2.2.2.2
      rw [List.nil_append] at K
      clear hR2 HO
      have x0 : w11.cell? ⟨gx, 0, none⟩ = some (.int .i64 R.k) := HX11.out.cell 0
      have x1 : w11.cell? ⟨gx, 1, none⟩ = some (.int .i64 R.n) := HX11.out.cell 1
      have x2 : w11.cell? ⟨gx, 2, none⟩ = some (.int .i64 R.s) := HX11.out.cell 2
      have x3 : w11.cell? ⟨gx, 3, none⟩ = some (.string ⟨#[]⟩) := HX11.out.cell 3
      have x4 : w11.cell? ⟨gx, 4, none⟩ = some (.slice none 0 0) := HX11.out.cell 4
      have x5 : w11.cell? ⟨gx, 5, none⟩ = some (.slice none 0 0) := HX11.out.cell 5
      go_wp2_with fail
      refine K.mono ?_
      rintro e w12 ⟨v', rfl, A⟩
      obtain ⟨va, vc, rfl, hvb, hvn, hvl, hvm⟩ := A.own.byt
      have hcv2 := conv_byt (c := vc) hvb HOc.out hvn
      have g12 : w11.grownBy w12 none := A.gr
      have HK12 : Hid (Ko r k W w12 j2 false) := HK11.out.grown g12
      have HX12 : Hid (Blk w12 gx 38 [.int .i64 R.k, .int .i64 R.n, .int .i64 R.s, .string ⟨#[]⟩, .slice none 0 0, .slice none 0 0]) := HX11.out.kept g12 (by simp)
      have HV12 : Hid (Blk w12 gv 38 zer) := HV11.out.kept g12 (by simp)
      have HNS : Hid (bts (ofB (numB R.n R.s)) = numB R.n R.s) := bts_ofB _ HOc.out
      clear K A hvb hvn hvl hvm g12 HK11 HX11 HV11 x0 x1 x2 x3 x4 x5 HOc
      generalize (numB R.n R.s).length = nl at *
      generalize hQ : ofB (numB R.n R.s) = Q at *
      by_cases hQS : Q = S
      case neg =>
        have hz : (Q.toList == S.toList) = false := by
          rw [beq_eq_false_iff_ne]
          exact fun e => hQS (by rw [← ofB_bts Q, ← ofB_bts S]; unfold bts; rw [ByteArray.toList_eq, ByteArray.toList_eq] at e; rw [e])
        have HF : Hid (RdN ((bts k).drop i) bad ((bts k).drop j2) true (hdR R)) := by
          refine ⟨⟨_, HE0.out⟩, fun e => (by cases e), fun hbb h m H hl => ?_⟩
          exfalso
          obtain ⟨_, a2, a3⟩ := HCo.out h m hbb H hl
          have hs0 := (num_parts H).2.2.1
          have e1 : R.n = h.n := by rw [a3]; rfl
          have e2 : R.s = h.s := by rw [a3]; show ((h.s.toNat : Nat) : Int) = h.s; omega
          exact hQS (bts_inj (by rw [HNS.out, a2, e1, e2]))
        clear HCo HE0 HNS hQ
        go_wp2_with (refine st_one rfl 4 (.tmp 60) (.const (.bool true)) rfl r 2 58 _ (.bool true) rfl rfl rfl rfl (by simp) HK12.out.blk s4 ?_)
        intro w13 b13 g13
        have HK13 : Hid (Ko r k W w13 j2 true) := ⟨b13, HK12.out.le, HK12.out.gr.trans g13⟩
        have HX13 : Hid (Blk w13 gx 38 [.int .i64 R.k, .int .i64 R.n, .int .i64 R.s, .string ⟨#[]⟩, .slice none 0 0, .slice none 0 0]) := HX12.out.kept g13 (by intro e; injection e with e; omega)
        have HV13 : Hid (Blk w13 gv 38 zer) := HV12.out.kept g13 (by intro e; injection e with e; omega)
        clear b13 g13 HK12 HX12 HV12
        go_wp2_with (first
          | refine D6.ld_all rfl 38 (.tmp 7) rfl gx 38 _ _ rfl HX13.out Tryz.underlying38 rfl sV ?_
          | refine st_all rfl 38 (.tmp 2) (.tmp 61) rfl gv 38 zer [.int .i64 R.k, .int .i64 R.n, .int .i64 R.s, .string ⟨#[]⟩, .slice none 0 0, .slice none 0 0] rfl rfl HV13.out rfl sV (D6.ones rfl) ?_)
        intro w14 b14 g14
        have HB14 : Hid (Blk w14 gv 38 [.int .i64 R.k, .int .i64 R.n, .int .i64 R.s, .string ⟨#[]⟩, .slice none 0 0, .slice none 0 0]) := b14
        have HK14 : Hid (Ko r k W w14 j2 true) := HK13.out.kept g14 hgv hrW
        clear b14 g14 HV13 HK13 HX13
        go_wp2
        exact bodyPost_ret (D6.res_row rfl _ gv 38 _ _ rfl HB14.out Tryz.underlying38 rfl sV) rfl ⟨hdR R, j2, true, rfl, HK14.out, HNu.out, HF.out⟩
      subst hQS
      have hz : (Q.toList == Q.toList) = true := by simp
      have HF : Hid (RdN ((bts k).drop i) bad ((bts k).drop j2) false (hdR R)) := by
        refine ⟨⟨_, HE0.out⟩, fun _ => ⟨v1, fun _ => ?_⟩, fun hbb h m H hl => ⟨rfl, ?_⟩⟩
        · rw [HE0.out, ← HG6.out, HNS.out]
          rfl
        · obtain ⟨a1, a2, a3⟩ := HCo.out h m hbb H hl
          exact ⟨by unfold hdR; rw [a3]; exact ok_hd H, a1⟩
      clear HCo HE0 HNS hQ HG6
      go_wp2_with (first
        | refine D6.ld_all rfl 38 (.tmp 7) rfl gx 38 _ _ rfl HX12.out Tryz.underlying38 rfl sV ?_
        | refine st_all rfl 38 (.tmp 2) (.tmp 61) rfl gv 38 zer [.int .i64 R.k, .int .i64 R.n, .int .i64 R.s, .string ⟨#[]⟩, .slice none 0 0, .slice none 0 0] rfl rfl HV12.out rfl sV (D6.ones rfl) ?_)
      intro w13 b13 g13
      have HB13 : Hid (Blk w13 gv 38 [.int .i64 R.k, .int .i64 R.n, .int .i64 R.s, .string ⟨#[]⟩, .slice none 0 0, .slice none 0 0]) := b13
      have HK13 : Hid (Ko r k W w13 j2 false) := HK12.out.kept g13 hgv hrW
      clear b13 g13 HV12 HK12 HX12
      go_wp2
      exact bodyPost_ret (D6.res_row rfl _ gv 38 _ _ rfl HB13.out Tryz.underlying38 rfl sV) rfl ⟨hdR R, j2, false, rfl, HK13.out, HNu.out, HF.out⟩
end Go.Proofs.YtmlfhplhiedfjaaGreatDoor
