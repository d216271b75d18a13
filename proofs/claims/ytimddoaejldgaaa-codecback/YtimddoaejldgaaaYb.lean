/-
  The law CodecBack, walked.
-/
import Derived.Test.YtimddoaejldgaaaYa
namespace Go.Proofs.Ytimddoaejldgaaa
open Go.RowKit Go.ChangeShapes Go.WideShapes Math
set_option linter.unusedVariables false
set_option linter.unusedSimpArgs false
set_option maxRecDepth 8000 in
set_option maxHeartbeats 3000000 in
theorem back_walk (p : Vt) (hp : WfV p) (na : Option Addr) (nc : Nat) (ka : Option Addr) (kc : Nat) (ab : Option Addr) (cb : Nat) (l : List Nat) (hcap : l.length ≤ cb) (hcm1 : cb ≤ 140737488351232) (hnil : ab = none → cb = 0) (ho : Oct l) (W : World) (hv : Vl W p na nc ka kc) (hB : Byt W ab l) :
    Calls Try.prog 5 #[.agg #[.int .i64 p.1.k, .int .i64 p.1.n, .int .i64 p.1.s, .string p.1.t, .slice na p.1.ns.length nc, .slice ka p.2.list.length kc], .slice ab l.length cb] W fun e w' => e = .returned (.bool true) ∧ Below W.heap.size W w' := by
  have hcm : cb ≤ 9223372036854775807 := by omega
  obtain ⟨W3, HW3⟩ : ∃ W3, Hid ((W.alloc (.cells #[.int .i64 p.1.k, .int .i64 p.1.n, .int .i64 p.1.s, .string p.1.t, .slice na p.1.ns.length nc, .slice ka p.2.list.length kc] 25)).alloc (.cells #[.int .i64 (l.length : Int)] 3) = W3) := ⟨_, rfl⟩
  have HBW : Hid (Below W.heap.size W W3) := by rw [← HW3.out]; exact ((Below.refl _ _).alloc (Nat.le_refl _) _).alloc (by simp) _
  have HX : Hid (Blk W3 W.heap.size 25 (six p.1 na nc ka p.2.list.length kc)) := by rw [← HW3.out]; exact (blk_new W 25 (six p.1 na nc ka p.2.list.length kc)).alloc _
  have HZ : Hid (Blk W3 (W.heap.size + 1) 3 [.int .i64 (l.length : Int)]) := by
    rw [← HW3.out]
    have h := blk_new (W.alloc (.cells #[.int .i64 p.1.k, .int .i64 p.1.n, .int .i64 p.1.s, .string p.1.t, .slice na p.1.ns.length nc, .slice ka p.2.list.length kc] 25)) 3 [.int .i64 (l.length : Int)]
    rw [show (W.alloc (.cells #[.int .i64 p.1.k, .int .i64 p.1.n, .int .i64 p.1.s, .string p.1.t, .slice na p.1.ns.length nc, .slice ka p.2.list.length kc] 25)).heap.size = W.heap.size + 1 by simp] at h
    exact h
  have HV : Hid (Vl W p na nc ka kc) := hv
  have HWp : Hid (WfV p) := hp
  have HBy0 : Hid (Byt W ab l) := hB
  have HOl : Hid (Oct l) := ho
  have HNil : Hid (ab = none → cb = 0) := hnil
  clear hv hp hB ho hnil
  have c0 : W3.cell? ⟨W.heap.size, 0, none⟩ = some (.int .i64 p.1.k) := HX.out.cell 0
  have c1 : W3.cell? ⟨W.heap.size, 1, none⟩ = some (.int .i64 p.1.n) := HX.out.cell 1
  have c2 : W3.cell? ⟨W.heap.size, 2, none⟩ = some (.int .i64 p.1.s) := HX.out.cell 2
  have c3 : W3.cell? ⟨W.heap.size, 3, none⟩ = some (.string p.1.t) := HX.out.cell 3
  have c4 : W3.cell? ⟨W.heap.size, 4, none⟩ = some (.slice na p.1.ns.length nc) := HX.out.cell 4
  have c5 : W3.cell? ⟨W.heap.size, 5, none⟩ = some (.slice ka p.2.list.length kc) := HX.out.cell 5
  by_cases hbig : 3000 < l.length
  · have KG := great_big p HWp.out na nc ka kc (W.heap.size + 1) l.length W W3 HV.out HBW.out (by omega) HZ.out (by omega) hbig
    go_enter Try.func5, Try.ntmps5
    go_wp2_with fail
    generalize hWW : World.alloc (World.alloc W _) _ = W9
    obtain rfl : W3 = W9 := by rw [← hWW, ← HW3.out]
    clear hWW HW3
    refine KG.mono ?_
    clear KG c0 c1 c2 c3 c4 c5
    rintro e w4 ⟨rfl, H4⟩
    have HB4 : Hid (Below W.heap.size W w4) := HBW.out.grown H4.out HBW.out.size (fun x e => by injection e with e; omega)
    go_wp2
    go_ret
    exact ⟨rfl, HB4.out⟩
  have KG := great_any _ p (Nat.le_refl _) HWp.out na nc ka kc (W.heap.size + 1) l.length W W3 HV.out HBW.out (by omega) HZ.out (by omega)
  go_enter Try.func5, Try.ntmps5
  go_wp2_with fail
  generalize hWW : World.alloc (World.alloc W _) _ = W9
  obtain rfl : W3 = W9 := by rw [← hWW, ← HW3.out]
  clear hWW HW3
  refine KG.mono ?_
  clear KG c0 c1 c2 c3 c4 c5
  rintro e w4 ⟨m4, rfl, H4⟩
  have HB4 : Hid (Below W.heap.size W w4) := HBW.out.grown H4.out.gr HBW.out.size (fun x e => by injection e with e; omega)
  have HX4 : Hid (Blk w4 W.heap.size 25 (six p.1 na nc ka p.2.list.length kc)) := HX.out.kept H4.out.gr (by intro c; injection c with c; omega)
  have HM4 : Hid (m4 ≤ 3000 → ws p ≤ m4) := fun h => by have := H4.out.ge h; omega
  clear H4 HX HZ HBW
  by_cases hg : 3000 < m4
  · have hgb : decide (3000 < m4) = true := by simp [hg]
    go_wp2
    go_ret
    exact ⟨rfl, HB4.out⟩
  have hgb : decide (3000 < m4) = false := by simp [hg]
  have hwp : ws p ≤ 100000 := by have := HM4.out (by omega); omega
  have KE := encode_any p HWp.out hwp na nc ka kc w4 (HV.out.below HB4.out)
  have HOk : Hid (encE p = 0 → chkV p 1 = 0 ∧ encB p = encV p ∧ (encV p).length ≤ 65536) := enc_ok
  have HDs : Hid (encE p = 0 → decE (encV p) = 0 ∧ decP (encV p) = p) := dec_self HWp.out
  have HRs : Hid (encE p = 0 → reaE (encV p ++ l) = 0 ∧ reaP (encV p ++ l) = p ∧ reaN (encV p ++ l) = (encV p).length) := fun h => rea_self HWp.out h l
  have c0 : w4.cell? ⟨W.heap.size, 0, none⟩ = some (.int .i64 p.1.k) := HX4.out.cell 0
  have c1 : w4.cell? ⟨W.heap.size, 1, none⟩ = some (.int .i64 p.1.n) := HX4.out.cell 1
  have c2 : w4.cell? ⟨W.heap.size, 2, none⟩ = some (.int .i64 p.1.s) := HX4.out.cell 2
  have c3 : w4.cell? ⟨W.heap.size, 3, none⟩ = some (.string p.1.t) := HX4.out.cell 3
  have c4 : w4.cell? ⟨W.heap.size, 4, none⟩ = some (.slice na p.1.ns.length nc) := HX4.out.cell 4
  have c5 : w4.cell? ⟨W.heap.size, 5, none⟩ = some (.slice ka p.2.list.length kc) := HX4.out.cell 5
  clear HM4
  go_wp2_with fail
  refine KE.mono ?_
  clear KE c0 c1 c2 c3 c4 c5
  rintro e w6 ⟨v6, rfl, H6⟩
  have HB6 : Hid (Below W.heap.size W w6) := HB4.out.trans (H6.out.2.mono HB4.out.size)
  have HX6 : Hid (Blk w6 W.heap.size 25 (six p.1 na nc ka p.2.list.length kc)) := HX4.out.below H6.out.2 HX4.out.lt
  obtain ⟨a6, k6, rfl, hb6, hn6, hlc6, hcm6⟩ := H6.out.1.byt
  have HBy : Hid (Byt w6 a6 (encB p)) := hb6
  have HNl : Hid (a6 = none → k6 = 0) := hn6
  clear H6 HX4 HB4 hb6 hn6
  have hcm7 : k6 ≤ 9223372036854775807 := by simpa [maxLen] using hcm6
  clear hcm6
  generalize encE p = E1 at *
  by_cases h1 : E1 = 0
  case neg =>
    have hb : (E1 == 0) = false := by simpa using h1
    have HBz : Hid (Below W.heap.size W w6) := HB6.out
    clear HB6 HX6 HBy HOk HDs HRs
    have HBl : Hid (Byt w6 ab l) := HBy0.out.below HBz.out
    have HI : Hid (decE l = 0 → WfV (decP l) ∧ encE (decP l) = 0 ∧ encB (decP l) = l) := fun h => dec_inv HOl.out (by omega) h
    have KD := decode_any l (valL_any (sm_short (by omega))) ab cb w6 HBl.out HOl.out (by omega) hcap hcm HNil.out
    generalize decE l = E2 at *
    generalize decP l = q at *
    go_wp2_with fail
    refine KD.mono ?_
    clear KD
    rintro e y1 ⟨na5, nc5, ka5, kc5, rfl, H5⟩
    go_wp2_with (refine al_zero rfl 25 rfl zer z25 ?_)
    intro g13 y2 hg13 B13 gr13
    go_wp2_with (refine st_all rfl 25 (.tmp 13) (.tmp 70) rfl g13 25 zer (six q.1 na5 nc5 ka5 q.2.list.length kc5) rfl rfl B13 rfl s25 (six_one _ _ _ _ _ _) ?_)
    intro y3 B14 gr14
    have GY3 : Hid (Below y1.heap.size y1 y3) := below_new gr13 hg13 gr14
    have HB13 : Hid (Blk y3 g13 25 (six q.1 na5 nc5 ka5 q.2.list.length kc5)) := B14
    have HVq : Hid (Vl y3 q na5 nc5 ka5 kc5) := by
      obtain ⟨Lp, a1, _⟩ := H5.out.vl
      exact a1.vl.below GY3.out
    have HBl3 : Hid (Byt y3 ab l) := (HBl.out.below H5.out.bl).below GY3.out
    have HBz3 : Hid (Below W.heap.size W y3) := by
      have h7 := HBz.out.trans (H5.out.bl.mono HBz.out.size)
      exact h7.trans (GY3.out.mono h7.size)
    clear B13 gr13 B14 gr14 GY3 H5 HBz HBl
    by_cases h2 : E2 = 0
    case neg =>
      have KK := known_any y3
      have hb2 : (E2 != 0) = true := by simpa using h2
      go_wp2_with fail
      refine KK.mono ?_
      clear KK
      rintro e y8 ⟨rfl, H8⟩
      have HB8 : Hid (Below W.heap.size W y8) := HBz3.out.trans (H8.out.mono HBz3.out.size)
      go_wp2
      go_ret
      exact ⟨rfl, HB8.out⟩
    subst h2
    obtain ⟨hwq, heq, hbq⟩ := HI.out rfl
    have KE := encode_all q hwq (fun h => by
      have := (enc_ok heq).2.1
      rw [← this, hbq]
      omega) na5 nc5 ka5 kc5 y3 HVq.out
    rw [heq, hbq] at KE
    clear HI hwq heq hbq HVq
    have c0 : y3.cell? ⟨g13, 0, none⟩ = some (.int .i64 q.1.k) := HB13.out.cell 0
    have c1 : y3.cell? ⟨g13, 1, none⟩ = some (.int .i64 q.1.n) := HB13.out.cell 1
    have c2 : y3.cell? ⟨g13, 2, none⟩ = some (.int .i64 q.1.s) := HB13.out.cell 2
    have c3 : y3.cell? ⟨g13, 3, none⟩ = some (.string q.1.t) := HB13.out.cell 3
    have c4 : y3.cell? ⟨g13, 4, none⟩ = some (.slice na5 q.1.ns.length nc5) := HB13.out.cell 4
    have c5 : y3.cell? ⟨g13, 5, none⟩ = some (.slice ka5 q.2.list.length kc5) := HB13.out.cell 5
    go_wp2_with fail
    refine KE.mono ?_
    clear KE c0 c1 c2 c3 c4 c5
    rintro e y4 ⟨v4, rfl, H4⟩
    obtain ⟨a4, k4, rfl, hb4, hn4, hlc4, hcm4⟩ := H4.out.1.byt
    have HBz4 : Hid (Below W.heap.size W y4) := HBz3.out.trans (H4.out.2.mono HBz3.out.size)
    have KS := same_any a4 ab k4 cb l (by omega) y4 hb4 (HBl3.out.below H4.out.2) HOl.out
    clear H4 hb4 hn4 hcm4 HBz3 HBl3 HB13
    go_wp2_with fail
    refine KS.mono ?_
    clear KS
    rintro e y5 ⟨rfl, nq, hq5⟩
    have HBz5 : Hid (Below W.heap.size W y5) := by rw [hq5]; exact below_drewN HBz4.out nq
    clear hq5
    have KK := known_any y5
    go_wp2_with fail
    refine KK.mono ?_
    clear KK
    rintro e y6 ⟨rfl, H8⟩
    have HB8 : Hid (Below W.heap.size W y6) := HBz5.out.trans (H8.out.mono HBz5.out.size)
    go_wp2
    go_ret
    exact ⟨rfl, HB8.out⟩
  subst h1
  obtain ⟨hc1, hbv, hl65⟩ := HOk.out rfl
  obtain ⟨hd1, hd2⟩ := HDs.out rfl
  obtain ⟨hr1, hr2, hr3⟩ := HRs.out rfl
  have HOc : Hid (Oct (encV p)) := encV_oct p (chk1 hc1)
  have HSm : Hid (Sm (rdV 16) (encV p ++ l) 0) := sm_enc HWp.out hc1 hl65 l
  rw [hbv] at HBy hlc6 ⊢
  have KD := decode_any (encV p) (valL_any (sm_short hl65)) a6 k6 w6 HBy.out HOc.out (by omega) hlc6 hcm7 HNl.out
  rw [hd1, hd2] at KD
  have KR : Hid (∀ (a : Option Addr) (c : Nat) (w : World), Byt w a (encV p ++ l) → Oct (encV p ++ l) → (encV p ++ l).length ≤ c → c ≤ 9223372036854775807 → (a = none → c = 0) →
      Calls Try.prog 20 #[.slice a (encV p ++ l).length c] w fun e w' => ∃ na nc ka kc, e = .returned (.tuple #[.agg #[.int .i64 p.1.k, .int .i64 p.1.n, .int .i64 p.1.s, .string p.1.t, .slice na p.1.ns.length nc, .slice ka p.2.list.length kc], .int .i64 ((encV p).length : Int), .int .i64 0]) ∧ Hid (New1 w w' p na nc ka kc)) := fun a c w x1 x2 x3 x4 x5 => by
    have := read_any (encV p ++ l) (valL_any HSm.out) a c w x1 x2 (by rw [List.length_append]; omega) x3 x4 x5
    rw [hr1, hr2, hr3] at this
    exact this
  clear HOk HDs HRs hc1 hbv hd1 hd2 hr1 hr2 hr3 HSm
  generalize encV p = l1 at *
  go_wp2_with fail
  refine KD.mono ?_
  clear KD
  rintro e w7 ⟨na2, nc2, ka2, kc2, rfl, H7⟩
  go_wp2_with (refine al_zero rfl 25 rfl zer z25 ?_)
  intro g8 w8 hg8 B8 gr8
  go_wp2_with (refine st_all rfl 25 (.tmp 8) (.tmp 31) rfl g8 25 zer (six p.1 na2 nc2 ka2 p.2.list.length kc2) rfl rfl B8 rfl s25 (six_one _ _ _ _ _ _) ?_)
  intro w9 B9 gr9
  have G9 : Hid (Below w7.heap.size w7 w9) := below_new gr8 hg8 gr9
  have G67 : Hid (Below w6.heap.size w6 w9) := H7.out.bl.trans (G9.out.mono H7.out.bl.size)
  have HB9 : Hid (Below W.heap.size W w9) := HB6.out.trans (G67.out.mono HB6.out.size)
  have HBy9 : Hid (Byt w9 a6 l1) := HBy.out.below G67.out
  have HX9 : Hid (Blk w9 W.heap.size 25 (six p.1 na nc ka p.2.list.length kc)) := HX6.out.below G67.out HX6.out.lt
  have HY9 : Hid (Blk w9 g8 25 (six p.1 na2 nc2 ka2 p.2.list.length kc2)) := B9
  have HV9 : Hid (Vl w9 p na2 nc2 ka2 kc2) := by
    obtain ⟨Lp, a1, _⟩ := H7.out.vl
    exact a1.vl.below G9.out
  clear B8 gr8 B9 gr9 G9 H7 HB6 HBy HX6 G67
  obtain ⟨x1, HX1⟩ : ∃ x1, Hid (w9.alloc (.cells #[] 5) = x1) := ⟨_, rfl⟩
  have HOe : Hid (Own x1 w9.heap.size (.slice (some ⟨w9.heap.size, 0, none⟩) 0 0) []) := by rw [← HX1.out]; exact own_empty w9 _ (Nat.le_refl _)
  have GX1 : Hid (Below w9.heap.size w9 x1) := by rw [← HX1.out]; exact (Below.refl _ _).alloc (Nat.le_refl _) _
  have HByx : Hid (Byt x1 a6 l1) := HBy9.out.below GX1.out
  have hsx : w9.heap.size ≤ x1.heap.size := GX1.out.size
  go_wp2_with (at_builtin; go_must (generalize hWW : World.alloc w9 _ = W9; obtain rfl : x1 = W9 := (by rw [← hWW, ← HX1.out]); clear hWW HX1; refine app_bytes rfl (.tmp 34) (.tmp 35) rfl w9.heap.size _ [] rfl HOe.out a6 l1.length k6 l1 rfl rfl HByx.out HNl.out (by simp; omega) hsx ?_))
  intro v2 x2 o2 gx2
  have HO2 : Hid (Own x2 w9.heap.size v2 l1) := o2
  have GX2 : Hid (Below w9.heap.size w9 x2) := below_app GX1.out GX1.out.size HOe.out gx2
  have HBl2 : Hid (Byt x2 ab l) := (HBy0.out.below HB9.out).below GX2.out
  have hsx2 : w9.heap.size ≤ x2.heap.size := GX2.out.size
  clear o2 gx2 GX1 HByx HOe hsx
  go_wp2_with (at_builtin; go_must (refine app_bytes rfl (.tmp 36) (.tmp 37) rfl w9.heap.size v2 l1 rfl HO2.out ab l.length cb l rfl rfl HBl2.out HNil.out (by omega) hsx2 ?_))
  intro v4 x4 o4 gx4
  have GX4 : Hid (Below w9.heap.size w9 x4) := below_app GX2.out GX2.out.size HO2.out gx4
  obtain ⟨a4, k4, rfl, hb4, hn4, hlc4, hcm4⟩ := o4.byt
  have KRd := KR.out a4 k4 x4 hb4 (by
    intro x hx
    rcases List.mem_append.1 hx with hx | hx
    · exact HOc.out x hx
    · exact HOl.out x hx) hlc4 (by simpa [maxLen] using hcm4) hn4
  have hl1 : (l1 ++ l).length = l1.length + l.length := by simp
  rw [hl1] at KRd hlc4
  clear o4 gx4 HO2 GX2 HBl2 hsx2 hb4 hn4 hcm4 KR
  go_wp2_with fail
  refine KRd.mono ?_
  clear KRd
  rintro e x5 ⟨na3, nc3, ka3, kc3, rfl, H5⟩
  go_wp2_with (refine al_zero rfl 25 rfl zer z25 ?_)
  intro g10 x6 hg10 B10 gr10
  go_wp2_with (refine st_all rfl 25 (.tmp 10) (.tmp 40) rfl g10 25 zer (six p.1 na3 nc3 ka3 p.2.list.length kc3) rfl rfl B10 rfl s25 (six_one _ _ _ _ _ _) ?_)
  intro x7 B11 gr11
  have G7 : Hid (Below x5.heap.size x5 x7) := below_new gr10 hg10 gr11
  have G97 : Hid (Below w9.heap.size w9 x7) := by
    have h7 := GX4.out.trans (H5.out.bl.mono GX4.out.size)
    exact h7.trans (G7.out.mono h7.size)
  have HB7 : Hid (Below W.heap.size W x7) := HB9.out.trans (G97.out.mono HB9.out.size)
  have HX7 : Hid (Blk x7 W.heap.size 25 (six p.1 na nc ka p.2.list.length kc)) := HX9.out.below G97.out HX9.out.lt
  have HY7 : Hid (Blk x7 g8 25 (six p.1 na2 nc2 ka2 p.2.list.length kc2)) := HY9.out.below G97.out HY9.out.lt
  have HZ7 : Hid (Blk x7 g10 25 (six p.1 na3 nc3 ka3 p.2.list.length kc3)) := B11
  have HV7 : Hid (Vl x7 p na2 nc2 ka2 kc2) := HV9.out.below G97.out
  have HW7 : Hid (Vl x7 p na3 nc3 ka3 kc3) := by
    obtain ⟨Lp, a1, _⟩ := H5.out.vl
    exact a1.vl.below G7.out
  clear B10 gr10 B11 gr11 G7 H5 GX4 G97 HX9 HY9 HV9 HB9 HBy9
  have KQ := equal_any _ p (Nat.le_refl _) HWp.out p HWp.out na2 nc2 ka2 kc2 na nc ka kc x7 HV7.out (HV.out.below HB7.out)
  have c0 : x7.cell? ⟨W.heap.size, 0, none⟩ = some (.int .i64 p.1.k) := HX7.out.cell 0
  have c1 : x7.cell? ⟨W.heap.size, 1, none⟩ = some (.int .i64 p.1.n) := HX7.out.cell 1
  have c2 : x7.cell? ⟨W.heap.size, 2, none⟩ = some (.int .i64 p.1.s) := HX7.out.cell 2
  have c3 : x7.cell? ⟨W.heap.size, 3, none⟩ = some (.string p.1.t) := HX7.out.cell 3
  have c4 : x7.cell? ⟨W.heap.size, 4, none⟩ = some (.slice na p.1.ns.length nc) := HX7.out.cell 4
  have c5 : x7.cell? ⟨W.heap.size, 5, none⟩ = some (.slice ka p.2.list.length kc) := HX7.out.cell 5
  have d0 : x7.cell? ⟨g8, 0, none⟩ = some (.int .i64 p.1.k) := HY7.out.cell 0
  have d1 : x7.cell? ⟨g8, 1, none⟩ = some (.int .i64 p.1.n) := HY7.out.cell 1
  have d2 : x7.cell? ⟨g8, 2, none⟩ = some (.int .i64 p.1.s) := HY7.out.cell 2
  have d3 : x7.cell? ⟨g8, 3, none⟩ = some (.string p.1.t) := HY7.out.cell 3
  have d4 : x7.cell? ⟨g8, 4, none⟩ = some (.slice na2 p.1.ns.length nc2) := HY7.out.cell 4
  have d5 : x7.cell? ⟨g8, 5, none⟩ = some (.slice ka2 p.2.list.length kc2) := HY7.out.cell 5
  go_wp2_with fail
  refine KQ.mono ?_
  clear KQ c0 c1 c2 c3 c4 c5 d0 d1 d2 d3 d4 d5
  rintro e x8 ⟨t8, rfl, H8⟩
  obtain rfl : t8 = true := H8.out.1.2 (by first | rfl | trivial)
  have HB8 : Hid (Below W.heap.size W x8) := HB7.out.trans (H8.out.2.mono HB7.out.size)
  have HX8 : Hid (Blk x8 W.heap.size 25 (six p.1 na nc ka p.2.list.length kc)) := HX7.out.below H8.out.2 HX7.out.lt
  have HZ8 : Hid (Blk x8 g10 25 (six p.1 na3 nc3 ka3 p.2.list.length kc3)) := HZ7.out.below H8.out.2 HZ7.out.lt
  have HW8 : Hid (Vl x8 p na3 nc3 ka3 kc3) := HW7.out.below H8.out.2
  clear H8 HB7 HX7 HY7 HZ7 HV7 HW7
  have KQ := equal_any _ p (Nat.le_refl _) HWp.out p HWp.out na3 nc3 ka3 kc3 na nc ka kc x8 HW8.out (HV.out.below HB8.out)
  have c0 : x8.cell? ⟨W.heap.size, 0, none⟩ = some (.int .i64 p.1.k) := HX8.out.cell 0
  have c1 : x8.cell? ⟨W.heap.size, 1, none⟩ = some (.int .i64 p.1.n) := HX8.out.cell 1
  have c2 : x8.cell? ⟨W.heap.size, 2, none⟩ = some (.int .i64 p.1.s) := HX8.out.cell 2
  have c3 : x8.cell? ⟨W.heap.size, 3, none⟩ = some (.string p.1.t) := HX8.out.cell 3
  have c4 : x8.cell? ⟨W.heap.size, 4, none⟩ = some (.slice na p.1.ns.length nc) := HX8.out.cell 4
  have c5 : x8.cell? ⟨W.heap.size, 5, none⟩ = some (.slice ka p.2.list.length kc) := HX8.out.cell 5
  have d0 : x8.cell? ⟨g10, 0, none⟩ = some (.int .i64 p.1.k) := HZ8.out.cell 0
  have d1 : x8.cell? ⟨g10, 1, none⟩ = some (.int .i64 p.1.n) := HZ8.out.cell 1
  have d2 : x8.cell? ⟨g10, 2, none⟩ = some (.int .i64 p.1.s) := HZ8.out.cell 2
  have d3 : x8.cell? ⟨g10, 3, none⟩ = some (.string p.1.t) := HZ8.out.cell 3
  have d4 : x8.cell? ⟨g10, 4, none⟩ = some (.slice na3 p.1.ns.length nc3) := HZ8.out.cell 4
  have d5 : x8.cell? ⟨g10, 5, none⟩ = some (.slice ka3 p.2.list.length kc3) := HZ8.out.cell 5
  go_wp2_with fail
  refine KQ.mono ?_
  clear KQ c0 c1 c2 c3 c4 c5 d0 d1 d2 d3 d4 d5
  rintro e x9 ⟨t9, rfl, H9⟩
  obtain rfl : t9 = true := H9.out.1.2 (by first | rfl | trivial)
  have HBz : Hid (Below W.heap.size W x9) := HB8.out.trans (H9.out.2.mono HB8.out.size)
  clear H9 HB8 HX8 HZ8 HW8
  have HBl : Hid (Byt x9 ab l) := HBy0.out.below HBz.out
  have HI : Hid (decE l = 0 → WfV (decP l) ∧ encE (decP l) = 0 ∧ encB (decP l) = l) := fun h => dec_inv HOl.out (by omega) h
  have KD := decode_any l (valL_any (sm_short (by omega))) ab cb x9 HBl.out HOl.out (by omega) hcap hcm HNil.out
  generalize decE l = E2 at *
  generalize decP l = q at *
  go_wp2_with fail
  refine KD.mono ?_
  clear KD
  rintro e y1 ⟨na5, nc5, ka5, kc5, rfl, H5⟩
  go_wp2_with (refine al_zero rfl 25 rfl zer z25 ?_)
  intro g13 y2 hg13 B13 gr13
  go_wp2_with (refine st_all rfl 25 (.tmp 13) (.tmp 70) rfl g13 25 zer (six q.1 na5 nc5 ka5 q.2.list.length kc5) rfl rfl B13 rfl s25 (six_one _ _ _ _ _ _) ?_)
  intro y3 B14 gr14
  have GY3 : Hid (Below y1.heap.size y1 y3) := below_new gr13 hg13 gr14
  have HB13 : Hid (Blk y3 g13 25 (six q.1 na5 nc5 ka5 q.2.list.length kc5)) := B14
  have HVq : Hid (Vl y3 q na5 nc5 ka5 kc5) := by
    obtain ⟨Lp, a1, _⟩ := H5.out.vl
    exact a1.vl.below GY3.out
  have HBl3 : Hid (Byt y3 ab l) := (HBl.out.below H5.out.bl).below GY3.out
  have HBz3 : Hid (Below W.heap.size W y3) := by
    have h7 := HBz.out.trans (H5.out.bl.mono HBz.out.size)
    exact h7.trans (GY3.out.mono h7.size)
  clear B13 gr13 B14 gr14 GY3 H5 HBz HBl
  by_cases h2 : E2 = 0
  case neg =>
    have KK := known_any y3
    have hb2 : (E2 != 0) = true := by simpa using h2
    go_wp2_with fail
    refine KK.mono ?_
    clear KK
    rintro e y8 ⟨rfl, H8⟩
    have HB8 : Hid (Below W.heap.size W y8) := HBz3.out.trans (H8.out.mono HBz3.out.size)
    go_wp2
    go_ret
    exact ⟨rfl, HB8.out⟩
  subst h2
  obtain ⟨hwq, heq, hbq⟩ := HI.out rfl
  have KE := encode_all q hwq (fun h => by
    have := (enc_ok heq).2.1
    rw [← this, hbq]
    omega) na5 nc5 ka5 kc5 y3 HVq.out
  rw [heq, hbq] at KE
  clear HI hwq heq hbq HVq
  have c0 : y3.cell? ⟨g13, 0, none⟩ = some (.int .i64 q.1.k) := HB13.out.cell 0
  have c1 : y3.cell? ⟨g13, 1, none⟩ = some (.int .i64 q.1.n) := HB13.out.cell 1
  have c2 : y3.cell? ⟨g13, 2, none⟩ = some (.int .i64 q.1.s) := HB13.out.cell 2
  have c3 : y3.cell? ⟨g13, 3, none⟩ = some (.string q.1.t) := HB13.out.cell 3
  have c4 : y3.cell? ⟨g13, 4, none⟩ = some (.slice na5 q.1.ns.length nc5) := HB13.out.cell 4
  have c5 : y3.cell? ⟨g13, 5, none⟩ = some (.slice ka5 q.2.list.length kc5) := HB13.out.cell 5
  go_wp2_with fail
  refine KE.mono ?_
  clear KE c0 c1 c2 c3 c4 c5
  rintro e y4 ⟨v4, rfl, H4⟩
  obtain ⟨a4, k4, rfl, hb4, hn4, hlc4, hcm4⟩ := H4.out.1.byt
  have HBz4 : Hid (Below W.heap.size W y4) := HBz3.out.trans (H4.out.2.mono HBz3.out.size)
  have KS := same_any a4 ab k4 cb l (by omega) y4 hb4 (HBl3.out.below H4.out.2) HOl.out
  clear H4 hb4 hn4 hcm4 HBz3 HBl3 HB13
  go_wp2_with fail
  refine KS.mono ?_
  clear KS
  rintro e y5 ⟨rfl, nq, hq5⟩
  have HBz5 : Hid (Below W.heap.size W y5) := by rw [hq5]; exact below_drewN HBz4.out nq
  clear hq5
  have KK := known_any y5
  go_wp2_with fail
  refine KK.mono ?_
  clear KK
  rintro e y6 ⟨rfl, H8⟩
  have HB8 : Hid (Below W.heap.size W y6) := HBz5.out.trans (H8.out.mono HBz5.out.size)
  go_wp2
  go_ret
  exact ⟨rfl, HB8.out⟩
theorem bytes5 : Try.prog.bytesOf 5 = 1 := by kernel_rfl
theorem back_row (p : Vt) (hp : WfV p) (na : Option Addr) (nc : Nat) (ka : Option Addr) (kc : Nat) (ab : Option Addr) (len cb : Nat) (zs : List Int) (W : World) (hv : Vl W p na nc ka kc) (h : IsRow .u8 W ab len cb zs) (hcm : cb ≤ 140737488351232) :
    Calls Try.prog 5 #[.agg #[.int .i64 p.1.k, .int .i64 p.1.n, .int .i64 p.1.s, .string p.1.t, .slice na p.1.ns.length nc, .slice ka p.2.list.length kc], .slice ab len cb] W fun e w' => e = .returned (.bool true) ∧ Below W.heap.size W w' := by
  obtain ⟨l, rfl, h1, h2, h3, _⟩ := row_byt h
  refine back_walk p hp na nc ka kc ab cb l ?_ hcm h3 h2 W hv h1
  rcases h with ⟨_, h, _, _⟩ | ⟨_, _, h, _⟩
  · omega
  · exact h
end Go.Proofs.Ytimddoaejldgaaa
