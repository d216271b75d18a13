/-
  text's reader: number, time. · text's reader: goesOn; what value, list and record answer.
-/
import Derived.Test.YtpfiejmhnkcjbaaGreatDoorFG42x
namespace Go.Proofs.YtpfiejmhnkcjbaaGreatDoor
open Go.RowKit Math
set_option linter.unusedVariables false
set_option linter.unusedSimpArgs false
/-- What decimal.Parse tells of a text. -/
structure Pz9 (x : ByteArray) (h : Hd) (E : Int) : Prop where
  t : h.t = em
  ns : h.ns = []
  k0 : 0 ≤ h.k ∧ h.k ≤ 4
  n0 : -9223372036854775808 ≤ h.n ∧ h.n < 9223372036854775808
  s0 : 0 ≤ h.s ∧ h.s ≤ 18
  co : ∀ y, Num9 y → bts x = pNh y → E = 0 ∧ h = y
theorem po_fits (b d : Bool) (R A B : ByteArray) : (0 ≤ D6.Po.k (D6.parseV b d R A B) ∧ D6.Po.k (D6.parseV b d R A B) ≤ 4) ∧ (-9223372036854775808 ≤ D6.Po.n (D6.parseV b d R A B) ∧ D6.Po.n (D6.parseV b d R A B) < 9223372036854775808) ∧ (0 ≤ D6.Po.s (D6.parseV b d R A B) ∧ D6.Po.s (D6.parseV b d R A B) ≤ 18) := by
  unfold D6.parseV
  split
  · split
    · simp [D6.Po.k, D6.Po.n, D6.Po.s, D6.Rs.k, D6.Rs.n, D6.Rs.s]
    · unfold D6.rs
      split
      · next y t hr =>
        have hN := (D6.res_some hr).1
        have h1 := hN.n0
        have h2 := hN.n1
        have h3 := hN.t1
        simp only [D6.Po.k, D6.Po.n, D6.Po.s, D6.Rs.k, D6.Rs.n, D6.Rs.s, D6.kd]
        refine ⟨by split <;> omega, by omega, by omega⟩
      · simp [D6.Po.k, D6.Po.n, D6.Po.s, D6.Rs.k, D6.Rs.n, D6.Rs.s]
  · simp [D6.Po.k, D6.Po.n, D6.Po.s]
theorem cuts_size {R A B : ByteArray} {d : Bool} (h : D6.Cuts R A B d) : A.size ≤ R.size ∧ B.size ≤ R.size ∧ (d = false → B = ⟨#[]⟩) := by
  cases h with
  | none h ha hb => subst ha hb; exact ⟨Nat.le_refl _, Nat.zero_le _, fun _ => rfl⟩
  | «at» h ha =>
    have := congrArg List.length h
    simp only [List.length_append, List.length_cons, Array.length_toList] at this
    refine ⟨?_, ?_, fun e => by cases e⟩
    · show A.data.size ≤ R.data.size; omega
    · show B.data.size ≤ R.data.size; omega
theorem parse9 (x : ByteArray) (hx : x.size ≤ 600000) (W : World) :
    Calls Tryz.prog 53 #[.string x] W fun e w' => ∃ (h : Hd) (E : Int), e = .returned (.tuple #[.agg #[.int .i64 h.k, .int .i64 h.n, .int .i64 h.s, .string ⟨#[]⟩, .slice none 0 0, .slice none 0 0], .int .i64 E]) ∧ Hid (Pz9 x h E ∧ Below W.heap.size W w') := by
  obtain ⟨R, b, hm, hR, CP⟩ := D6.minus_any x
  obtain ⟨A, B, d, hc, CT⟩ := D6.cut_any R (by omega)
  obtain ⟨z1, z2, z3⟩ := cuts_size hc
  have K := D6.dParse_any x R A B b d (by omega) (by omega) (by omega) z3 CP CT W
  obtain ⟨f1, f2, f3⟩ := po_fits b d R A B
  refine K.mono ?_
  rintro e w' ⟨rfl, g⟩
  refine ⟨⟨D6.Po.k (D6.parseV b d R A B), D6.Po.n (D6.parseV b d R A B), D6.Po.s (D6.parseV b d R A B), em, []⟩, D6.Po.e (D6.parseV b d R A B), rfl, ⟨rfl, rfl, f1, f2, f3, fun y hy e => ?_⟩, g⟩
  have hx2 : x = D6.txt y.n y.s.toNat (dcB y.n.natAbs) := by
    have h1 : bts x = bts (D6.txt y.n y.s.toNat (dcB y.n.natAbs)) := e
    rw [← ofB_bts x, h1, ofB_bts]
  rw [hx2] at hm
  have hp := D6.parse_txt y.n y.s.toNat hy.nu (dcB y.n.natAbs) (dcB_list _) R A B b d hm hc
  rw [hp]
  refine ⟨rfl, hd9 ?_ rfl ?_ hy.t.symm hy.ns.symm⟩
  · exact hy.k.symm
  · have := hy.s0
    show ((y.s.toNat : Nat) : Int) = y.s
    omega
theorem sI : (Tryz.prog.info? 3).map (·.size) = some 1 := by kernel_rfl
/-- A number that was read. -/
structure Nr (r : Nat) (W w' : World) (s s' : ByteArray) (bad bad' : Bool) (h : Hd) : Prop where
  kt : Kt r W w' s' bad'
  rt : Rt pNh (fun h m => Num9 h ∧ Stp m) (bts s) bad (bts s') bad' h
  le : s'.size ≤ s.size
  lt : (∃ c t, bts s = c :: t ∧ nsg c = true) → s'.size < s.size
  t : h.t = em
  ns : h.ns = []
  k0 : 0 ≤ h.k ∧ h.k ≤ 5
  n0 : -9223372036854775808 ≤ h.n ∧ h.n < 9223372036854775808
  s0 : 0 ≤ h.s ∧ h.s ≤ 18
set_option maxRecDepth 8000 in
set_option maxHeartbeats 2000000 in
theorem number9 (r : Nat) (s : ByteArray) (bad : Bool) (hs : s.size ≤ 600000) (W : World) (hb : Blk W r 106 [.string s, .bool bad]) :
    Calls Tryz.prog 104 #[.pointer (some ⟨r, 0, none⟩)] W fun e w' => ∃ (s' : ByteArray) (bad' : Bool) (h : Hd), e = .returned (.agg #[.int .i64 h.k, .int .i64 h.n, .int .i64 h.s, .string ⟨#[]⟩, .slice none 0 0, .slice none 0 0]) ∧ Hid (Nr r W w' s s' bad bad' h) := by
  have HB : Hid (Blk W r 106 [.string s, .bool bad]) := hb
  have hrW := hb.lt
  clear hb
  go_enter Tryz.func104, Tryz.ntmps104
  go_wp2_with (refine al_zero rfl 41 rfl zer z25 ?_)
  intro g2 w1 hg2 bz1 gr1
  have HZ1 : Hid (Blk w1 g2 41 zer ∧ W.grownBy w1 none) := ⟨bz1, gr1⟩
  have K := run9 r s bad hs w1 (HB.out.kept gr1 (by simp))
  have hg2l : g2 < w1.heap.size := bz1.lt
  clear bz1 gr1 HB
  go_wp2_with fail
  refine K.mono ?_
  rintro e w2 ⟨s2, x, rfl, H2⟩
  have hxs : x.size + s2.size = s.size := by
    have := congrArg List.length H2.out.2.1
    rw [List.length_append, bts_len, bts_len, bts_len] at this
    omega
  have K2 := parse9 x (by omega) w2
  clear K
  go_wp2_with fail
  refine K2.mono ?_
  rintro e w3 ⟨h, E, rfl, H3⟩
  have HB3 : Hid (Below w2.heap.size w2 w3) := H3.out.2
  have HP : Hid (Pz9 x h E) := H3.out.1
  have HT : Hid (W.grownBy w1 none ∧ Kt r w1 w2 s2 bad ∧ bts s = bts x ++ bts s2 ∧ (∀ y ∈ bts x, nsg y = true) ∧ (∀ c t, bts s2 = c :: t → nsg c = false)) := ⟨HZ1.out.2, H2.out⟩
  have HG2 : Hid (Blk w3 g2 41 zer) := by
    have h1 := HZ1.out.1.kept H2.out.1.gr (by intro c; injection c with c; omega)
    exact h1.below HB3.out h1.lt
  have HK3 : Hid (Kt r w1 w3 s2 bad) := H2.out.1.then HB3.out
  clear K2 H3 H2 HB3 HZ1
  have hz3 : w1.heap.size ≤ w3.heap.size := HK3.out.gr.size
  go_wp2_with (refine al_zero rfl 41 rfl zer z25 ?_)
  intro g3 w4 hg3 bz4 gr4
  go_wp2_with (refine st_all rfl 41 (.tmp 3) (.tmp 9) rfl g3 41 zer (six ⟨h.k, h.n, h.s, em, []⟩ none 0 none 0 0) rfl rfl bz4 rfl s25 (six_one _ _ _ _ _ _) ?_)
  intro w5 b5 gr5
  have HB5 : Hid (Below w3.heap.size w3 w5) := below_new gr4 hg3 gr5
  have HV5 : Hid (Blk w5 g3 41 (six ⟨h.k, h.n, h.s, em, []⟩ none 0 none 0 0)) := b5
  have HK5 : Hid (Kt r w1 w5 s2 bad) := HK3.out.then HB5.out
  have HG5 : Hid (Blk w5 g2 41 zer) := HG2.out.below HB5.out HG2.out.lt
  clear bz4 gr4 b5 gr5 HB5 HK3 HG2
  have HRT : Hid (∀ bad', (E = 0 → bad' = bad) → (E ≠ 0 → bad' = true) → Rt pNh (fun h m => Num9 h ∧ Stp m) (bts s) bad (bts s2) bad' h) := fun bad' e1 e2 => by
    obtain ⟨_, _, q1, q2, q3⟩ := HT.out
    refine ⟨⟨bts x, q1⟩, fun hb => ?_, fun hb y m ⟨hy, hm⟩ e => ?_⟩
    · by_cases hE : E = 0
      · rw [e1 hE, hb]
      · exact e2 hE
    · obtain ⟨c, t, ec, _, en⟩ := pN_first _ _ hy.nu
      rw [q1] at e
      obtain ⟨u1, u2⟩ := run_uni e q2 q3 (by unfold pNh; rw [ec]; exact en) hm
      obtain ⟨v1, v2⟩ := HP.out.co y hy u1
      exact ⟨by rw [e1 v1, hb], v2, u2⟩
  have HLT : Hid ((∃ c t, bts s = c :: t ∧ nsg c = true) → s2.size < s.size) := fun ⟨c, t, e, hc⟩ => by
    obtain ⟨_, _, q1, q2, q3⟩ := HT.out
    rcases Nat.eq_zero_or_pos x.size with h0 | h0
    · exfalso
      have hx0 : bts x = [] := List.eq_nil_of_length_eq_zero (by rw [bts_len]; exact h0)
      rw [hx0, List.nil_append, e] at q1
      have := q3 c t q1.symm
      rw [hc] at this
      cases this
    · omega
  have HW1 : Hid (W.grownBy w1 none) := HT.out.1
  have hne3 : g3 ≠ r := by have := HW1.out.size; omega
  have hne2 : g2 ≠ r := by omega
  clear HT
  have hW1 : W.heap.size ≤ w1.heap.size := HW1.out.size
  by_cases hE : E = 0
  · have hEb : (E != 0) = false := by simpa using hE
    have HQ := Lib.hid (HRT.out bad (fun _ => rfl) (fun h => absurd hE h))
    clear HRT hE
    go_wp2_with (first
      | refine D6.ld_all rfl 41 (.tmp 3) rfl g3 41 _ _ rfl HV5.out Tryz.underlying41 rfl s25 ?_
      | refine st_all rfl 41 (.tmp 2) (.tmp 16) rfl g2 41 zer (six ⟨h.k, h.n, h.s, em, []⟩ none 0 none 0 0) rfl rfl HG5.out rfl s25 (six_one _ _ _ _ _ _) ?_)
    intro w6 b6 gr6
    have HB6 : Hid (Blk w6 g2 41 (six ⟨h.k, h.n, h.s, em, []⟩ none 0 none 0 0)) := b6
    have HF : Hid (Nr r W w6 s s2 bad bad h) := by
      refine ⟨⟨HK5.out.blk.kept gr6 (by intro c; injection c with c; omega), ⟨gr6.os.trans (HK5.out.gr.os.trans HW1.out.os), gr6.tape.trans (HK5.out.gr.tape.trans HW1.out.tape), gr6.output.trans (HK5.out.gr.output.trans HW1.out.output), by have := HK5.out.gr.size; have := gr6.size; omega, fun q hq hne => ?_⟩⟩, HQ.out, by omega, HLT.out, HP.out.t, HP.out.ns, ⟨HP.out.k0.1, by have := HP.out.k0.2; omega⟩, HP.out.n0, HP.out.s0⟩
      have := HK5.out.gr.size
      rw [gr6.block q (by omega) (by intro c; injection c with c; omega), HK5.out.gr.block q (by omega) hne, HW1.out.block q hq (by simp)]
    clear b6 gr6 HV5 HK5 HG5 HP HQ HLT HW1
    go_wp2
    refine bodyPost_ret (D6.res_row rfl _ g2 41 _ _ rfl HB6.out Tryz.underlying41 rfl s25) rfl ?_
    exact ⟨s2, bad, h, rfl, HF.out⟩
  · have hEb : (E != 0) = true := by simpa using hE
    have HQ := Lib.hid (HRT.out true (fun h => absurd h hE) (fun _ => rfl))
    clear HRT hE
    go_wp2_with (refine st_one rfl 4 (.tmp 15) (.const (.bool true)) rfl r 1 106 [.string s2, .bool bad] (.bool true) rfl rfl rfl rfl (by simp) HK5.out.blk sz4 ?_)
    intro w8 b8 gr8
    have HK8 : Hid (Kt r w1 w8 s2 true) := HK5.out.trans ⟨b8, gr8⟩
    have HV8 : Hid (Blk w8 g3 41 (six ⟨h.k, h.n, h.s, em, []⟩ none 0 none 0 0)) := HV5.out.kept gr8 (by intro c; injection c with c; omega)
    have HG8 : Hid (Blk w8 g2 41 zer) := HG5.out.kept gr8 (by intro c; injection c with c; omega)
    clear b8 gr8 HK5 HV5 HG5
    go_wp2_with (first
      | refine D6.ld_all rfl 41 (.tmp 3) rfl g3 41 _ _ rfl HV8.out Tryz.underlying41 rfl s25 ?_
      | refine st_all rfl 41 (.tmp 2) (.tmp 16) rfl g2 41 zer (six ⟨h.k, h.n, h.s, em, []⟩ none 0 none 0 0) rfl rfl HG8.out rfl s25 (six_one _ _ _ _ _ _) ?_)
    intro w6 b6 gr6
    have HB6 : Hid (Blk w6 g2 41 (six ⟨h.k, h.n, h.s, em, []⟩ none 0 none 0 0)) := b6
    have HF : Hid (Nr r W w6 s s2 bad true h) := by
      refine ⟨⟨HK8.out.blk.kept gr6 (by intro c; injection c with c; omega), ⟨gr6.os.trans (HK8.out.gr.os.trans HW1.out.os), gr6.tape.trans (HK8.out.gr.tape.trans HW1.out.tape), gr6.output.trans (HK8.out.gr.output.trans HW1.out.output), by have := HK8.out.gr.size; have := gr6.size; omega, fun q hq hne => ?_⟩⟩, HQ.out, by omega, HLT.out, HP.out.t, HP.out.ns, ⟨HP.out.k0.1, by have := HP.out.k0.2; omega⟩, HP.out.n0, HP.out.s0⟩
      have := HK8.out.gr.size
      rw [gr6.block q (by omega) (by intro c; injection c with c; omega), HK8.out.gr.block q (by omega) hne, HW1.out.block q hq (by simp)]
    clear b6 gr6 HV8 HK8 HG8 HP HQ HLT HW1
    go_wp2
    refine bodyPost_ret (D6.res_row rfl _ g2 41 _ _ rfl HB6.out Tryz.underlying41 rfl s25) rfl ?_
    exact ⟨s2, true, h, rfl, HF.out⟩
/-- A Time that was read. -/
structure Tr (r : Nat) (W w' : World) (s s' : ByteArray) (bad bad' : Bool) (h : Hd) : Prop where
  kt : Kt r W w' s' bad'
  rt : ∃ l1 b1, Rm [64] (bts s) bad l1 b1 ∧ Rt pNh (fun h m => Num9 h ∧ Stp m) l1 b1 (bts s') bad' h
  le : s'.size ≤ s.size
  lt : bad' = false → s'.size < s.size
  t : h.t = em
  ns : h.ns = []
  n0 : -9223372036854775808 ≤ h.n ∧ h.n < 9223372036854775808
  s0 : 0 ≤ h.s ∧ h.s ≤ 18
set_option maxRecDepth 8000 in
set_option maxHeartbeats 2000000 in
theorem time9 (r : Nat) (s : ByteArray) (bad : Bool) (hs : s.size ≤ 600000) (W : World) (hb : Blk W r 106 [.string s, .bool bad]) :
    Calls Tryz.prog 105 #[.pointer (some ⟨r, 0, none⟩)] W fun e w' => ∃ (s' : ByteArray) (bad' : Bool) (h : Hd), e = .returned (.agg #[.int .i64 5, .int .i64 h.n, .int .i64 h.s, .string ⟨#[]⟩, .slice none 0 0, .slice none 0 0]) ∧ Hid (Tr r W w' s s' bad bad' h) := by
  have HB : Hid (Blk W r 106 [.string s, .bool bad]) := hb
  have hrW := hb.lt
  clear hb
  go_enter Tryz.func105, Tryz.ntmps105
  go_wp2_with (refine al_zero rfl 41 rfl zer z25 ?_)
  intro g2 w1 hg2 bz1 gr1
  have HZ1 : Hid (Blk w1 g2 41 zer ∧ W.grownBy w1 none) := ⟨bz1, gr1⟩
  have K := must9 r s ⟨#[64]⟩ bad w1 (HB.out.kept gr1 (by simp))
  have hg2l : g2 < w1.heap.size := bz1.lt
  clear bz1 gr1 HB
  go_wp2_with fail
  refine K.mono ?_
  rintro e w2 ⟨s2, b2, rfl, H2⟩
  have hs2 : s2.size ≤ s.size := H2.out.2.2.2
  have K2 := number9 r s2 b2 (by omega) w2 H2.out.1.blk
  clear K
  go_wp2_with fail
  refine K2.mono ?_
  rintro e w3 ⟨s3, b3, h, rfl, H3⟩
  have HN : Hid (Nr r w2 w3 s2 s3 b2 b3 h) := H3.out
  have HM : Hid (Rm [64] (bts s) bad (bts s2) b2 ∧ (b2 = false → bts s = bts ⟨#[64]⟩ ++ bts s2)) := ⟨H2.out.2.1, H2.out.2.2.1⟩
  have HK3 : Hid (Kt r w1 w3 s3 b3) := H2.out.1.trans H3.out.kt
  have HG2 : Hid (Blk w3 g2 41 zer) := HZ1.out.1.kept HK3.out.gr (by intro c; injection c with c; omega)
  have HW1 : Hid (W.grownBy w1 none) := HZ1.out.2
  clear K2 H3 H2 HZ1
  have hz3 : w1.heap.size ≤ w3.heap.size := HK3.out.gr.size
  go_wp2_with (refine al_zero rfl 41 rfl zer z25 ?_)
  intro g3 w4 hg3 bz4 gr4
  go_wp2_with (refine st_all rfl 41 (.tmp 3) (.tmp 7) rfl g3 41 zer (six ⟨h.k, h.n, h.s, em, []⟩ none 0 none 0 0) rfl rfl bz4 rfl s25 (six_one _ _ _ _ _ _) ?_)
  intro w5 b5 gr5
  have HB5 : Hid (Below w3.heap.size w3 w5) := below_new gr4 hg3 gr5
  have HV5 : Hid (Blk w5 g3 41 (six ⟨h.k, h.n, h.s, em, []⟩ none 0 none 0 0)) := b5
  have HK5 : Hid (Kt r w1 w5 s3 b3) := HK3.out.then HB5.out
  have HG5 : Hid (Blk w5 g2 41 zer) := HG2.out.below HB5.out HG2.out.lt
  have hne3 : g3 ≠ r := by have := HW1.out.size; omega
  have hne32 : g3 ≠ g2 := by omega
  clear bz4 gr4 b5 gr5 HB5 HK3 HG2
  go_wp2_with (refine st_one rfl 3 (.tmp 8) (.const (.int .i64 5)) rfl g3 0 41 (six ⟨h.k, h.n, h.s, em, []⟩ none 0 none 0 0) (.int .i64 5) rfl rfl rfl rfl (by simp [six]) HV5.out sI ?_)
  intro w6 b6 gr6
  have HV6 : Hid (Blk w6 g3 41 (six ⟨5, h.n, h.s, em, []⟩ none 0 none 0 0)) := b6
  have HK6 : Hid (Kt r w1 w6 s3 b3) := ⟨HK5.out.blk.kept gr6 (by intro c; injection c with c; omega), by
    refine ⟨gr6.os.trans HK5.out.gr.os, gr6.tape.trans HK5.out.gr.tape, gr6.output.trans HK5.out.gr.output, Nat.le_trans HK5.out.gr.size gr6.size, fun q hq hne => ?_⟩
    have := HK5.out.gr.size
    rw [gr6.block q (by omega) (by intro c; injection c with c; omega)]
    exact HK5.out.gr.block q hq hne⟩
  have HG6 : Hid (Blk w6 g2 41 zer) := HG5.out.kept gr6 (by intro c; injection c with c; omega)
  clear b6 gr6 HV5 HK5 HG5
  go_wp2_with (first
    | refine D6.ld_all rfl 41 (.tmp 3) rfl g3 41 _ _ rfl HV6.out Tryz.underlying41 rfl s25 ?_
    | refine st_all rfl 41 (.tmp 2) (.tmp 9) rfl g2 41 zer (six ⟨5, h.n, h.s, em, []⟩ none 0 none 0 0) rfl rfl HG6.out rfl s25 (six_one _ _ _ _ _ _) ?_)
  intro w7 b7 gr7
  have HB7 : Hid (Blk w7 g2 41 (six ⟨5, h.n, h.s, em, []⟩ none 0 none 0 0)) := b7
  have HF : Hid (Tr r W w7 s s3 bad b3 h) := by
    have hW1 := HW1.out.size
    refine ⟨⟨HK6.out.blk.kept gr7 (by intro c; injection c with c; omega), ⟨gr7.os.trans (HK6.out.gr.os.trans HW1.out.os), gr7.tape.trans (HK6.out.gr.tape.trans HW1.out.tape), gr7.output.trans (HK6.out.gr.output.trans HW1.out.output), by have := HK6.out.gr.size; have := gr7.size; omega, fun q hq hne => ?_⟩⟩, ⟨_, _, HM.out.1, HN.out.rt⟩, Nat.le_trans HN.out.le hs2, fun hb => ?_, HN.out.t, HN.out.ns, HN.out.n0, HN.out.s0⟩
    · have := HK6.out.gr.size
      rw [gr7.block q (by omega) (by intro c; injection c with c; omega), HK6.out.gr.block q (by omega) hne, HW1.out.block q hq (by simp)]
    · have h1 := HM.out.2 (HN.out.rt.stay hb)
      have h2 := congrArg List.length h1
      rw [List.length_append, bts_len, bts_len, bts_len] at h2
      have h3 : (⟨#[64]⟩ : ByteArray).size = 1 := rfl
      have := HN.out.le
      omega
  clear b7 gr7 HV6 HK6 HG6 HN HM HW1
  go_wp2
  refine bodyPost_ret (D6.res_row rfl _ g2 41 _ _ rfl HB7.out Tryz.underlying41 rfl s25) rfl ?_
  exact ⟨s3, b3, h, rfl, HF.out⟩
end Go.Proofs.YtpfiejmhnkcjbaaGreatDoor
namespace Go.Proofs.YtpfiejmhnkcjbaaGreatDoor
open Go.RowKit Math
set_option linter.unusedVariables false
set_option linter.unusedSimpArgs false
theorem oper_apn9 {o : Oper} {a : Act} {K : Act → World → Prop} {Q : Exit → Act → World → Prop} {w : World} (s x : Operand)
    (ho : o.op = .call { callee := .builtin .append, args := #[s, x], argTypes := #[38, 38] })
    (base : Nat) (v : Value) (n : Nat) (xs : List Value) (hs : a.eval s = v) (hown : w.ownsRow base 9 1 v n xs) (ax : Option Addr) (c : Nat) (ns : List ByteArray) (hx : a.eval x = .slice ax ns.length c) (hsrc : Nms w ax ns) (hnil : ax = none → c = 0)
    (hb : n + ns.length ≤ 1000000) (hbase : base ≤ w.heap.size)
    (h : ∀ v' w', w'.ownsRow base 9 1 v' (n + ns.length) (xs ++ ns.map Value.string) → w.grownBy w' v.ownBlock → (v'.ownBlock = v.ownBlock ∨ v'.ownBlock = some w.heap.size) → K (a.put o.dst v') w') : Oper.wp Tryz.prog o a w K Q := by
  obtain ⟨i, hi, hz0, hz1, hz2⟩ := info_parts Tryz.info9
  cases ax with
  | none =>
    obtain rfl := hnil rfl
    have hl : ns = [] := by
      rcases hsrc with h | ⟨_, _, h, _⟩
      · exact h
      · cases h
    subst hl
    have hr := run_append_owned_none (P := Tryz.prog) (w := w) base 38 o.type 9 i 1 Tryz.underlying38 hi v _ _ hown
    unfold Oper.wp execOp
    simp only [ho, resolve, invoke, builtin, Sem.run_bind, Sem.run_pure, Result.andThen_ok, List.map_toArray, List.map_cons, List.map_nil, hs, hx, List.length_nil, hr]
    exact (h v w (by simpa using hown) (World.grownBy.refl _ _) (.inl rfl))
  | some ad =>
    obtain ⟨v', w', r1, r2, r3, _, r5⟩ := run_append_own_at (P := Tryz.prog) w base 38 o.type 9 i _ 1 16 Tryz.underlying38 hi hz0 hz1 hz2 rfl (by decide) v _ _ hown ad ns.length c (ns.map Value.string) (by simp) (by
      intro j u hj
      rcases hsrc with rfl | ⟨b, off, he, hc⟩
      · simp at hj
      · obtain rfl := Option.some.inj he
        rw [Addr.add_lit]
        rw [List.getElem?_map] at hj
        cases hn : ns[j]? with
        | none => rw [hn] at hj; cases hj
        | some y => rw [hn] at hj; cases hj; exact hc j y hn) (by
      intro u hu
      obtain ⟨y, _, rfl⟩ := List.mem_map.1 hu
      rfl) (by unfold maxLen; omega) (by omega) hbase
    unfold Oper.wp execOp
    simp only [ho, resolve, invoke, builtin, Sem.run_bind, Sem.run_pure, Result.andThen_ok, List.map_toArray, List.map_cons, List.map_nil, hs, hx, r1]
    exact (h v' w' r2 r3 r5)
theorem oper_apk9 {o : Oper} {a : Act} {K : Act → World → Prop} {Q : Exit → Act → World → Prop} {w : World} (s x : Operand)
    (ho : o.op = .call { callee := .builtin .append, args := #[s, x], argTypes := #[39, 39] })
    (base : Nat) (v : Value) (n : Nat) (xs : List Value) (hs : a.eval s = v) (hown : w.ownsRow base 41 6 v n xs) (b : Nat) (m c : Nat) (news : List Value) (hx : a.eval x = .slice (some ⟨b, 0, none⟩) m c) (hl : news.length = m * 6) (hc : ∀ j u, news[j]? = some u → w.cell? ⟨b, j, none⟩ = some u) (h1 : ∀ u ∈ news, u.oneCell' = true)
    (hb : n + m ≤ 1000000) (hbase : base ≤ w.heap.size)
    (h : ∀ v' w', w'.ownsRow base 41 6 v' (n + m) (xs ++ news) → w.grownBy w' v.ownBlock → (v'.ownBlock = v.ownBlock ∨ v'.ownBlock = some w.heap.size) → K (a.put o.dst v') w') : Oper.wp Tryz.prog o a w K Q := by
  obtain ⟨i, hi, hz0, hz1, hz2⟩ := info_parts Tryz.info25
  obtain ⟨v', w', r1, r2, r3, _, r5⟩ := run_append_own_at (P := Tryz.prog) w base 39 o.type 41 i _ 6 88 Tryz.underlying39 hi hz0 hz1 hz2 rfl (by decide) v _ _ hown ⟨b, 0, none⟩ m c news hl (fun j u hj => by rw [Addr.add_lit, Nat.zero_add]; exact hc j u hj) h1 (by unfold maxLen; omega) (by omega) hbase
  unfold Oper.wp execOp
  simp only [ho, resolve, invoke, builtin, Sem.run_bind, Sem.run_pure, Result.andThen_ok, List.map_toArray, List.map_cons, List.map_nil, hs, hx, r1]
  exact (h v' w' r2 r3 r5)
/-- What goesOn tells. -/
inductive Go9 (s s' : ByteArray) (bad bad' : Bool) (en : List Nat) (sep : List Nat) : Bool → Prop
  | was (h : bad = true) (h2 : bad' = true) (h3 : s' = s) : Go9 s s' bad bad' en sep false
  | fin (h : bad = false) (h2 : bad' = false) (h3 : bts s = en ++ bts s') : Go9 s s' bad bad' en sep false
  | brk (h : bad = false) (h2 : bad' = true) (h3 : ∀ t, bts s ≠ en ++ t) (h4 : Rm sep (bts s) false (bts s') true) : Go9 s s' bad bad' en sep false
  | on (h : bad = false) (h2 : bad' = false) (h3 : ∀ t, bts s ≠ en ++ t) (h4 : Rm sep (bts s) false (bts s') false) : Go9 s s' bad bad' en sep true
set_option maxRecDepth 8000 in
set_option maxHeartbeats 2000000 in
theorem goesOn9 (r n : Nat) (s en : ByteArray) (bad : Bool) (hs : s.size ≤ 600000) (W : World) (hb : Blk W r 106 [.string s, .bool bad]) :
    Calls Tryz.prog 136 #[.pointer (some ⟨r, 0, none⟩), .int .i64 (n : Int), .string en] W fun e w' => ∃ (s' : ByteArray) (bad' t : Bool), e = .returned (.bool t) ∧ Hid (Kt r W w' s' bad' ∧ s'.size ≤ s.size ∧ Go9 s s' bad bad' (bts en) (if n = 0 then [] else [44, 32]) t) := by
  have HB : Hid (Blk W r 106 [.string s, .bool bad]) := hb
  have c1 : W.cell? ⟨r, 1, none⟩ = some (.bool bad) := hb.cell 1
  obtain ⟨SEP, hSEP⟩ : ∃ SEP : List Nat, (if n = 0 then [] else [44, 32]) = SEP := ⟨_, rfl⟩
  have HSP : Hid ((if n = 0 then [] else [44, 32]) = SEP) := hSEP
  rw [hSEP]
  clear hb hSEP
  go_enter Tryz.func136, Tryz.ntmps136
  cases bad with
  | true =>
    have HF : Hid (Kt r W W s true) := ⟨HB.out, World.grownBy.refl _ _⟩
    clear HB
    go_wp2
    go_ret
    exact ⟨s, true, false, rfl, HF.out, Nat.le_refl _, .was rfl rfl rfl⟩
  | false =>
    have K := skip9 r s en false W HB.out
    go_wp2_with fail
    refine K.mono ?_
    rintro e w1 ⟨s1, is, rfl, H1⟩
    clear K c1
    cases is with
    | true =>
      have HF : Hid (Kt r W w1 s1 false ∧ s1.size ≤ s.size ∧ Go9 s s1 false false (bts en) SEP false) := by
        rcases H1.out.2 with ⟨_, h⟩ | ⟨h, _⟩
        · refine ⟨H1.out.1, ?_, .fin rfl rfl h⟩
          have := congrArg List.length h
          rw [List.length_append, bts_len, bts_len, bts_len] at this
          omega
        · cases h
      clear H1 HB
      go_wp2
      go_ret
      exact ⟨s1, false, false, rfl, HF.out⟩
    | false =>
      have H1n : Hid (s1 = s ∧ ∀ t, bts s ≠ bts en ++ t) := by
        rcases H1.out.2 with ⟨h, _⟩ | ⟨_, h⟩
        · cases h
        · exact h
      have HK1 : Hid (Kt r W w1 s1 false) := H1.out.1
      obtain rfl : s1 = s := H1n.out.1
      clear H1 HB
      by_cases hn : n = 0
      · subst hn
        have d1 : w1.cell? ⟨r, 1, none⟩ = some (.bool false) := HK1.out.blk.cell 1
        have HF : Hid (Kt r W w1 s1 false ∧ s1.size ≤ s1.size ∧ Go9 s1 s1 false false (bts en) SEP true) := ⟨HK1.out, Nat.le_refl _, .on rfl rfl H1n.out.2 (by rw [← HSP.out]; exact rm_nil _ _)⟩
        clear HK1 H1n
        go_wp2
        go_ret
        exact ⟨s1, false, true, rfl, HF.out⟩
      · have hgt : (0 : Int) < (n : Int) := by omega
        have K2 := must9 r s1 ⟨#[44, 32]⟩ false w1 HK1.out.blk
        obtain rfl : [44, 32] = SEP := by rw [← HSP.out, if_neg hn]
        clear hn HSP
        go_wp2_with fail
        refine K2.mono ?_
        rintro e w2 ⟨s2, b2, rfl, H2⟩
        have HK2 : Hid (Kt r W w2 s2 b2) := HK1.out.trans H2.out.1
        have d1 : w2.cell? ⟨r, 1, none⟩ = some (.bool b2) := HK2.out.blk.cell 1
        have hz2 : s2.size ≤ s1.size := H2.out.2.2.2
        have HR : Hid (Rm [44, 32] (bts s1) false (bts s2) b2) := H2.out.2.1
        clear K2 H2 HK1
        cases b2 with
        | true =>
          go_wp2
          go_ret
          exact ⟨s2, true, false, rfl, HK2.out, hz2, .brk rfl rfl H1n.out.2 HR.out⟩
        | false =>
          go_wp2
          go_ret
          exact ⟨s2, false, true, rfl, HK2.out, hz2, .on rfl rfl H1n.out.2 HR.out⟩
/-- A value that was read. -/
structure Vo9 (dp : Int) (r : Nat) (W w' : World) (s s' : ByteArray) (bad bad' : Bool) (p : Vt) (na : Option Addr) (nc : Nat) (ka : Option Addr) (kc : Nat) : Prop where
  kt : Kt r W w' s' bad'
  vl : ∃ Lp, VlL w' p na nc ka kc Lp ∧ ∀ x ∈ Lp, W.heap.size ≤ x ∧ x < w'.heap.size
  wf : WfV p
  vx : Vx dp (bts s) bad (bts s') bad' p
def VvC (dp : Int) : Prop := ∀ (r : Nat) (s : ByteArray) (bad : Bool) (W : World), s.size ≤ 600000 → Blk W r 106 [.string s, .bool bad] →
  Calls Tryz.prog 79 #[.pointer (some ⟨r, 0, none⟩), .int .i64 dp] W fun e w' => ∃ (p : Vt) (na : Option Addr) (nc : Nat) (ka : Option Addr) (kc : Nat) (s' : ByteArray) (bad' : Bool), e = .returned (.agg #[.int .i64 p.1.k, .int .i64 p.1.n, .int .i64 p.1.s, .string p.1.t, .slice na p.1.ns.length nc, .slice ka p.2.list.length kc]) ∧ Hid (Vo9 dp r W w' s s' bad bad' p na nc ka kc)
theorem Vo9.le {dp : Int} {r : Nat} {W w' : World} {s s' : ByteArray} {bad bad' : Bool} {p : Vt} {na : Option Addr} {nc : Nat} {ka : Option Addr} {kc : Nat} (h : Vo9 dp r W w' s s' bad bad' p na nc ka kc) : s'.size ≤ s.size := by
  have := h.vx.rt.len
  rw [bts_len, bts_len] at this
  exact this
/-- A List, a Struct that was read. -/
structure Vp9 (b : Bool) (dp : Int) (kd : Int) (r : Nat) (W w' : World) (s s' : ByteArray) (bad bad' : Bool) (x : Fo × List ByteArray) (na : Option Addr) (nc : Nat) (ka : Option Addr) (kc : Nat) : Prop where
  kt : Kt r W w' s' bad'
  vl : ∃ Lp, VlL w' (nst kd x) na nc ka kc Lp ∧ ∀ y ∈ Lp, W.heap.size ≤ y ∧ y < w'.heap.size
  wf : WfV (nst kd x)
  rt : ∃ l1 b1, Rm [if b then 123 else 91] (bts s) bad l1 b1 ∧ Rt (encX b) (fun x m => NxOk b dp x ∧ Stp m) l1 b1 (bts s') bad' x
  pr : bad' = false → x.1.ws + x.2.length + 1 + s'.size ≤ s.size
  le : s'.size ≤ s.size
theorem nst_wf9 (kd : Int) (h0 : 0 ≤ kd) (h1 : kd ≤ 9) {f : Fo} {ns : List ByteArray} (hf : Wf f) (hl : f.list.length ≤ 1000000) (hn : ns.length ≤ 1000000) (hs : ∀ x ∈ ns, x.size ≤ 1000000000) : WfV (nst kd (f, ns)) :=
  ⟨⟨by show (-9223372036854775808 : Int) ≤ kd; omega, by show kd < 9223372036854775808; omega, by show (-9223372036854775808 : Int) ≤ 0; omega, by show (0 : Int) < 9223372036854775808; omega, by show (-9223372036854775808 : Int) ≤ 0; omega, by show (0 : Int) < 9223372036854775808; omega, by show em.size ≤ _; decide, by show ns.length ≤ _; omega, fun x hx => Nat.le_trans (hs x hx) (by omega)⟩, by show f.list.length ≤ _; omega, hf⟩
end Go.Proofs.YtpfiejmhnkcjbaaGreatDoor
