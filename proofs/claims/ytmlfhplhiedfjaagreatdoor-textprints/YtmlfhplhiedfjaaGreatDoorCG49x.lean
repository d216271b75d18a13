/-
  The law TextPrints, walked. · The law TextOne, walked. · The table of tens, out of what the rows of chapter 9 list.
-/
import Derived.Test.YtmlfhplhiedfjaaGreatDoorCG48x
import Derived.Test.YtmlfhplhiedfjaaGreatDoorCG40x
import Derived.Test.YtmlfhplhiedfjaaGreatDoorCClo
import Derived.MakeChecks
import Derived.Stop.LaidErr
namespace Go.Proofs.YtmlfhplhiedfjaaGreatDoor
open Go.RowKit Math
set_option linter.unusedVariables false
set_option linter.unusedSimpArgs false
set_option maxRecDepth 8000 in
set_option maxHeartbeats 2000000 in
theorem prints_walk9 (p : Vt) (hp : WfV p) (na : Option Addr) (nc : Nat) (ka : Option Addr) (kc : Nat) (W : World) (hv : Vl W p na nc ka kc) (ht : D6.Ptab W) :
    Calls Tryz.prog 4 #[.agg #[.int .i64 p.1.k, .int .i64 p.1.n, .int .i64 p.1.s, .string p.1.t, .slice na p.1.ns.length nc, .slice ka p.2.list.length kc]] W fun e w' => e = .returned (.bool true) ∧ Below W.heap.size W w' := by
  obtain ⟨W3, HW3⟩ : ∃ W3, Hid ((W.alloc (.cells #[.int .i64 p.1.k, .int .i64 p.1.n, .int .i64 p.1.s, .string p.1.t, .slice na p.1.ns.length nc, .slice ka p.2.list.length kc] 38)).alloc (.cells #[.int .i64 0] 3) = W3) := ⟨_, rfl⟩
  have HBW : Hid (Below W.heap.size W W3) := by rw [← HW3.out]; exact ((Below.refl _ _).alloc (Nat.le_refl _) _).alloc (by simp) _
  have HX : Hid (Blk W3 W.heap.size 38 (six p.1 na nc ka p.2.list.length kc)) := by rw [← HW3.out]; exact (blk_new W 38 (six p.1 na nc ka p.2.list.length kc)).alloc _
  have HZ : Hid (Blk W3 (W.heap.size + 1) 3 [.int .i64 ((0 : Nat) : Int)]) := by
    rw [← HW3.out]
    have h := blk_new (W.alloc (.cells #[.int .i64 p.1.k, .int .i64 p.1.n, .int .i64 p.1.s, .string p.1.t, .slice na p.1.ns.length nc, .slice ka p.2.list.length kc] 38)) 3 [.int .i64 0]
    rw [show (W.alloc (.cells #[.int .i64 p.1.k, .int .i64 p.1.n, .int .i64 p.1.s, .string p.1.t, .slice na p.1.ns.length nc, .slice ka p.2.list.length kc] 38)).heap.size = W.heap.size + 1 by simp] at h
    exact h
  have HV : Hid (Vl W p na nc ka kc) := hv
  have HWp : Hid (WfV p) := hp
  have HTb : Hid (D6.Ptab W) := ht
  clear hv hp ht
  have KG := great_any9 _ p (Nat.le_refl _) HWp.out na nc ka kc (W.heap.size + 1) 0 W W3 HV.out HBW.out (by omega) HZ.out (by omega)
  have c0 : W3.cell? ⟨W.heap.size, 0, none⟩ = some (.int .i64 p.1.k) := HX.out.cell 0
  have c1 : W3.cell? ⟨W.heap.size, 1, none⟩ = some (.int .i64 p.1.n) := HX.out.cell 1
  have c2 : W3.cell? ⟨W.heap.size, 2, none⟩ = some (.int .i64 p.1.s) := HX.out.cell 2
  have c3 : W3.cell? ⟨W.heap.size, 3, none⟩ = some (.string p.1.t) := HX.out.cell 3
  have c4 : W3.cell? ⟨W.heap.size, 4, none⟩ = some (.slice na p.1.ns.length nc) := HX.out.cell 4
  have c5 : W3.cell? ⟨W.heap.size, 5, none⟩ = some (.slice ka p.2.list.length kc) := HX.out.cell 5
  go_enter Tryz.func4, Tryz.ntmps4
  go_wp2_with fail
  generalize hWW : World.alloc (World.alloc W _) _ = W9
  obtain rfl : W3 = W9 := by rw [← hWW, ← HW3.out]
  clear hWW HW3
  refine KG.mono ?_
  clear KG c0 c1 c2 c3 c4 c5
  rintro e w4 ⟨m4, rfl, H4⟩
  have HB4 : Hid (Below W.heap.size W w4) := HBW.out.grown H4.out.gr HBW.out.size (fun x e => by injection e with e; omega)
  have HX4 : Hid (Blk w4 W.heap.size 38 (six p.1 na nc ka p.2.list.length kc)) := HX.out.kept H4.out.gr (by intro c; injection c with c; omega)
  have HM4 : Hid (m4 ≤ 2000 → ws p ≤ m4) := fun h => by have := H4.out.ge h; omega
  clear H4 HX HZ HBW
  by_cases hg : 2000 < m4
  · have hgb : decide (2000 < m4) = true := by simp [hg]
    go_wp2
    go_ret
    exact ⟨rfl, HB4.out⟩
  have hgb : decide (2000 < m4) = false := by simp [hg]
  have hwp : ws p ≤ 2000 := by have := HM4.out (by omega); omega
  have KC := clone_any _ p (Nat.le_refl _) HWp.out (by omega) na nc ka kc w4 (HV.out.below HB4.out)
  have c0 : w4.cell? ⟨W.heap.size, 0, none⟩ = some (.int .i64 p.1.k) := HX4.out.cell 0
  have c1 : w4.cell? ⟨W.heap.size, 1, none⟩ = some (.int .i64 p.1.n) := HX4.out.cell 1
  have c2 : w4.cell? ⟨W.heap.size, 2, none⟩ = some (.int .i64 p.1.s) := HX4.out.cell 2
  have c3 : w4.cell? ⟨W.heap.size, 3, none⟩ = some (.string p.1.t) := HX4.out.cell 3
  have c4 : w4.cell? ⟨W.heap.size, 4, none⟩ = some (.slice na p.1.ns.length nc) := HX4.out.cell 4
  have c5 : w4.cell? ⟨W.heap.size, 5, none⟩ = some (.slice ka p.2.list.length kc) := HX4.out.cell 5
  clear HM4 hg
  go_wp2_with fail
  refine KC.mono ?_
  clear KC c0 c1 c2 c3 c4 c5
  rintro e w5 ⟨na2, nc2, ka2, kc2, rfl, H5⟩
  have HB45 : Hid (Below w4.heap.size w4 w5) := by obtain ⟨L, _, _, _, h⟩ := H5.out; exact h
  have HC5 : Hid (Vl w5 p na2 nc2 ka2 kc2) := by obtain ⟨L, h, _, _, _⟩ := H5.out; exact h.vl
  clear H5
  go_wp2_with (refine al_zero rfl 38 rfl zer z25 ?_)
  intro g w6 hg bz6 gr6
  go_wp2_with (refine st_all rfl 38 (.tmp 4) (.tmp 14) rfl g 38 zer (six p.1 na2 nc2 ka2 p.2.list.length kc2) rfl rfl bz6 rfl s25 (six_one _ _ _ _ _ _) ?_)
  intro w7 b7 gr7
  have HB57 : Hid (Below w5.heap.size w5 w7) := below_new gr6 hg gr7
  have HB47 : Hid (Below w4.heap.size w4 w7) := HB45.out.trans (HB57.out.mono HB45.out.size)
  have HB7 : Hid (Below W.heap.size W w7) := HB4.out.trans (HB47.out.mono HB4.out.size)
  have HX7 : Hid (Blk w7 W.heap.size 38 (six p.1 na nc ka p.2.list.length kc)) := HX4.out.below HB47.out HX4.out.lt
  have HD7 : Hid (Blk w7 g 38 (six p.1 na2 nc2 ka2 p.2.list.length kc2)) := b7
  have HC7 : Hid (Vl w7 p na2 nc2 ka2 kc2) := HC5.out.below HB57.out
  clear bz6 gr6 gr7 b7 hg HB45 HB57 HB47 HX4 HC5 HB4
  have KP := print_any p HWp.out (by omega) na2 nc2 ka2 kc2 w7 HC7.out (ptab_below HTb.out HB7.out)
  have KR : Hid (∀ w, Below w7.heap.size w7 w → Calls Tryz.prog 19 #[.agg #[.int .i64 p.1.k, .int .i64 p.1.n, .int .i64 p.1.s, .string p.1.t, .slice na p.1.ns.length nc, .slice ka p.2.list.length kc]] w fun e w' => e = .returned (.tuple #[.string (prT p), .int .i64 (encE p)]) ∧ Below w.heap.size w w') := fun w h => rprint_any p HWp.out (by omega) na nc ka kc w (HV.out.below (HB7.out.trans (h.mono HB7.out.size)))
  have HS : Hid (encE p = 0 → bts (prT p) = prV p ∧ (prT p).size ≤ 400000) := fun h => by
    have e := prT_yes HWp.out h
    refine ⟨e, ?_⟩
    have := prV_len p HWp.out (encE_chk0 h)
    rw [← e, bts_len] at this
    omega
  have HEE : Hid (∃ E, E = encE p) := ⟨_, rfl⟩
  have HPE : Hid (∀ y : Int, encE p = y → encE p = y) := fun _ h => h
  obtain ⟨E, hE⟩ : ∃ E, encE p = E := ⟨_, rfl⟩
  obtain ⟨S, hS⟩ : ∃ S, prT p = S := ⟨_, rfl⟩
  have HEp : Hid (encE p = E) := hE
  rw [hE, hS] at KP
  have KR2 : Hid (∀ w, Below w7.heap.size w7 w → Calls Tryz.prog 19 #[.agg #[.int .i64 p.1.k, .int .i64 p.1.n, .int .i64 p.1.s, .string p.1.t, .slice na p.1.ns.length nc, .slice ka p.2.list.length kc]] w fun e w' => e = .returned (.tuple #[.string S, .int .i64 E]) ∧ Below w.heap.size w w') := fun w h => by rw [← hE, ← hS]; exact KR.out w h
  have HS2 : Hid (E = 0 → bts S = prV p ∧ S.size ≤ 400000) := fun h => by rw [← hS]; exact HS.out (by rw [hE, h])
  clear HEE HPE hE hS KR HS
  have c0 : w7.cell? ⟨g, 0, none⟩ = some (.int .i64 p.1.k) := HD7.out.cell 0
  have c1 : w7.cell? ⟨g, 1, none⟩ = some (.int .i64 p.1.n) := HD7.out.cell 1
  have c2 : w7.cell? ⟨g, 2, none⟩ = some (.int .i64 p.1.s) := HD7.out.cell 2
  have c3 : w7.cell? ⟨g, 3, none⟩ = some (.string p.1.t) := HD7.out.cell 3
  have c4 : w7.cell? ⟨g, 4, none⟩ = some (.slice na2 p.1.ns.length nc2) := HD7.out.cell 4
  have c5 : w7.cell? ⟨g, 5, none⟩ = some (.slice ka2 p.2.list.length kc2) := HD7.out.cell 5
  go_wp2_with fail
  refine KP.mono ?_
  clear KP c0 c1 c2 c3 c4 c5
  rintro e w8 ⟨rfl, b8⟩
  have HB78 : Hid (Below w7.heap.size w7 w8) := b8
  have HX8 : Hid (Blk w8 W.heap.size 38 (six p.1 na nc ka p.2.list.length kc)) := HX7.out.below b8 HX7.out.lt
  have KR := KR2.out w8 b8
  have c0 : w8.cell? ⟨W.heap.size, 0, none⟩ = some (.int .i64 p.1.k) := HX8.out.cell 0
  have c1 : w8.cell? ⟨W.heap.size, 1, none⟩ = some (.int .i64 p.1.n) := HX8.out.cell 1
  have c2 : w8.cell? ⟨W.heap.size, 2, none⟩ = some (.int .i64 p.1.s) := HX8.out.cell 2
  have c3 : w8.cell? ⟨W.heap.size, 3, none⟩ = some (.string p.1.t) := HX8.out.cell 3
  have c4 : w8.cell? ⟨W.heap.size, 4, none⟩ = some (.slice na p.1.ns.length nc) := HX8.out.cell 4
  have c5 : w8.cell? ⟨W.heap.size, 5, none⟩ = some (.slice ka p.2.list.length kc) := HX8.out.cell 5
  clear b8 KR2
  go_wp2_with fail
  refine KR.mono ?_
  clear KR c0 c1 c2 c3 c4 c5 HX8
  rintro e w9 ⟨rfl, b9⟩
  have HB79 : Hid (Below w7.heap.size w7 w9) := HB78.out.trans (b9.mono HB78.out.size)
  clear b9 HB78
  have HB9 : Hid (Below W.heap.size W w9) := HB7.out.trans (HB79.out.mono HB7.out.size)
  have HX9 : Hid (Blk w9 W.heap.size 38 (six p.1 na nc ka p.2.list.length kc)) := HX7.out.below HB79.out HX7.out.lt
  have HD9 : Hid (Blk w9 g 38 (six p.1 na2 nc2 ka2 p.2.list.length kc2)) := HD7.out.below HB79.out HD7.out.lt
  have KQ := equal_any _ p (Nat.le_refl _) HWp.out p HWp.out na2 nc2 ka2 kc2 na nc ka kc w9 (HC7.out.below HB79.out) (HV.out.below HB9.out)
  clear HX7 HD7 HC7 HB79 HB7
  have c0 : w9.cell? ⟨W.heap.size, 0, none⟩ = some (.int .i64 p.1.k) := HX9.out.cell 0
  have c1 : w9.cell? ⟨W.heap.size, 1, none⟩ = some (.int .i64 p.1.n) := HX9.out.cell 1
  have c2 : w9.cell? ⟨W.heap.size, 2, none⟩ = some (.int .i64 p.1.s) := HX9.out.cell 2
  have c3 : w9.cell? ⟨W.heap.size, 3, none⟩ = some (.string p.1.t) := HX9.out.cell 3
  have c4 : w9.cell? ⟨W.heap.size, 4, none⟩ = some (.slice na p.1.ns.length nc) := HX9.out.cell 4
  have c5 : w9.cell? ⟨W.heap.size, 5, none⟩ = some (.slice ka p.2.list.length kc) := HX9.out.cell 5
  have d0 : w9.cell? ⟨g, 0, none⟩ = some (.int .i64 p.1.k) := HD9.out.cell 0
  have d1 : w9.cell? ⟨g, 1, none⟩ = some (.int .i64 p.1.n) := HD9.out.cell 1
  have d2 : w9.cell? ⟨g, 2, none⟩ = some (.int .i64 p.1.s) := HD9.out.cell 2
  have d3 : w9.cell? ⟨g, 3, none⟩ = some (.string p.1.t) := HD9.out.cell 3
  have d4 : w9.cell? ⟨g, 4, none⟩ = some (.slice na2 p.1.ns.length nc2) := HD9.out.cell 4
  have d5 : w9.cell? ⟨g, 5, none⟩ = some (.slice ka2 p.2.list.length kc2) := HD9.out.cell 5
  go_wp2_with fail
  refine KQ.mono ?_
  clear KQ c0 c1 c2 c3 c4 c5 d0 d1 d2 d3 d4 d5 HD9
  rintro e w10 ⟨t, rfl, H10⟩
  obtain rfl : t = true := H10.out.1.2 (by first | trivial | rfl)
  have HB10 : Hid (Below W.heap.size W w10) := HB9.out.trans (H10.out.2.mono HB9.out.size)
  have HX10 : Hid (Blk w10 W.heap.size 38 (six p.1 na nc ka p.2.list.length kc)) := HX9.out.below H10.out.2 HX9.out.lt
  clear H10 HX9 HB9
  have KN : Hid (∀ w, Below W.heap.size W w → Calls Tryz.prog 21 #[] w fun e w' => e = .returned (.bool true) ∧ Below w.heap.size w w') := fun w hb => known9 w (ptab_below HTb.out hb)
  by_cases hE0 : E = 0
  case neg =>
    have hb : (E != 0) = true := by simpa using hE0
    have KN10 := KN.out w10 HB10.out
    clear HS2 HEp hE0
    go_wp2_with fail
    refine KN10.mono ?_
    rintro e w11 ⟨rfl, b11⟩
    have HF : Hid (Below W.heap.size W w11) := HB10.out.trans (b11.mono HB10.out.size)
    clear KN10 b11 HB10 HX10 KN
    go_wp2
    go_ret
    exact ⟨rfl, HF.out⟩
  subst hE0
  have hsz := (HS2.out (by first | trivial | rfl)).2
  have KT := tparse_any S (by omega) w10 (ptab_below HTb.out HB10.out)
  go_wp2_with fail
  refine KT.mono ?_
  rintro e w11 ⟨p2, na3, nc3, ka3, kc3, E3, rfl, H11⟩
  obtain ⟨hE3, hp2⟩ : E3 = 0 ∧ p2 = p := by
    have hb := (HS2.out (by first | trivial | rfl)).1
    rcases H11.out.ok with ⟨h1, _, _, h4⟩ | ⟨_, _, h3⟩
    · exact ⟨h1, (h4 p HWp.out HEp.out hb.symm).symm⟩
    · exact absurd hb.symm (h3 (by omega) p HWp.out HEp.out)
  subst hE3
  subst hp2
  have HB11 : Hid (Below w10.heap.size w10 w11) := H11.out.bl
  have HP11 : Hid (Vl w11 p2 na3 nc3 ka3 kc3) := H11.out.vl
  clear KT H11 HS2 HEp
  go_wp2_with (refine al_zero rfl 38 rfl zer z25 ?_)
  intro g2 w12 hg2 bz12 gr12
  go_wp2_with (refine st_all rfl 38 (.tmp 9) (.tmp 45) rfl g2 38 zer (six p2.1 na3 nc3 ka3 p2.2.list.length kc3) rfl rfl bz12 rfl s25 (six_one _ _ _ _ _ _) ?_)
  intro w13 b13 gr13
  have HB13 : Hid (Below w11.heap.size w11 w13) := below_new gr12 hg2 gr13
  have HB1013 : Hid (Below w10.heap.size w10 w13) := HB11.out.trans (HB13.out.mono HB11.out.size)
  have HBW13 : Hid (Below W.heap.size W w13) := HB10.out.trans (HB1013.out.mono HB10.out.size)
  have HX13 : Hid (Blk w13 W.heap.size 38 (six p2.1 na nc ka p2.2.list.length kc)) := HX10.out.below HB1013.out HX10.out.lt
  have HD13 : Hid (Blk w13 g2 38 (six p2.1 na3 nc3 ka3 p2.2.list.length kc3)) := b13
  have KQ := equal_any _ p2 (Nat.le_refl _) HWp.out p2 HWp.out na3 nc3 ka3 kc3 na nc ka kc w13 (HP11.out.below HB13.out) (HV.out.below HBW13.out)
  clear bz12 gr12 gr13 b13 hg2 HB13 HB1013 HX10 HB10 HB11 HP11
  have c0 : w13.cell? ⟨W.heap.size, 0, none⟩ = some (.int .i64 p2.1.k) := HX13.out.cell 0
  have c1 : w13.cell? ⟨W.heap.size, 1, none⟩ = some (.int .i64 p2.1.n) := HX13.out.cell 1
  have c2 : w13.cell? ⟨W.heap.size, 2, none⟩ = some (.int .i64 p2.1.s) := HX13.out.cell 2
  have c3 : w13.cell? ⟨W.heap.size, 3, none⟩ = some (.string p2.1.t) := HX13.out.cell 3
  have c4 : w13.cell? ⟨W.heap.size, 4, none⟩ = some (.slice na p2.1.ns.length nc) := HX13.out.cell 4
  have c5 : w13.cell? ⟨W.heap.size, 5, none⟩ = some (.slice ka p2.2.list.length kc) := HX13.out.cell 5
  have d0 : w13.cell? ⟨g2, 0, none⟩ = some (.int .i64 p2.1.k) := HD13.out.cell 0
  have d1 : w13.cell? ⟨g2, 1, none⟩ = some (.int .i64 p2.1.n) := HD13.out.cell 1
  have d2 : w13.cell? ⟨g2, 2, none⟩ = some (.int .i64 p2.1.s) := HD13.out.cell 2
  have d3 : w13.cell? ⟨g2, 3, none⟩ = some (.string p2.1.t) := HD13.out.cell 3
  have d4 : w13.cell? ⟨g2, 4, none⟩ = some (.slice na3 p2.1.ns.length nc3) := HD13.out.cell 4
  have d5 : w13.cell? ⟨g2, 5, none⟩ = some (.slice ka3 p2.2.list.length kc3) := HD13.out.cell 5
  go_wp2_with fail
  refine KQ.mono ?_
  clear KQ c0 c1 c2 c3 c4 c5 d0 d1 d2 d3 d4 d5 HD13 HX13
  rintro e w14 ⟨t, rfl, H14⟩
  obtain rfl : t = true := H14.out.1.2 (by first | trivial | rfl)
  have HB14 : Hid (Below W.heap.size W w14) := HBW13.out.trans (H14.out.2.mono HBW13.out.size)
  have KN14 := KN.out w14 HB14.out
  clear H14 HBW13 KN
  go_wp2_with fail
  refine KN14.mono ?_
  rintro e w15 ⟨rfl, b15⟩
  have HF : Hid (Below W.heap.size W w15) := HB14.out.trans (b15.mono HB14.out.size)
  clear KN14 b15 HB14
  go_wp2
  go_ret
  exact ⟨rfl, HF.out⟩
end Go.Proofs.YtmlfhplhiedfjaaGreatDoor
namespace Go.Proofs.YtmlfhplhiedfjaaGreatDoor
open Go.RowKit Math
set_option linter.unusedVariables false
set_option linter.unusedSimpArgs false
end Go.Proofs.YtmlfhplhiedfjaaGreatDoor
namespace Go.Proofs.YtmlfhplhiedfjaaGreatDoor
open Go.RowKit
set_option linter.unusedVariables false
theorem ptab9 {W : World} (h : laidMetH Tryz.prog Rows.textOneRow.laid W) : D6.Ptab W := by
  rw [MakeChecks.laidMetH_plain _ _ _ (by kernel_rfl)] at h
  have h3 : laidMet Tryz.prog [("internal/strconv.uint64pow10", Lib.tabData .u64 Lib.pow10Tab), ("unicode/utf8.acceptRanges", Rows.laid_unicode_utf8_acceptRanges), ("unicode/utf8.first", Rows.laid_unicode_utf8_first)] W := laidMet.tail (laidMet.tail h)
  exact Lib.tabIs_of_head (g := 1) (t := 194) (e := 82) (n := 20) (by kernel_rfl) (by kernel_rfl) (by kernel_rfl) (by kernel_rfl) (by kernel_rfl) (by kernel_rfl) h3
end Go.Proofs.YtmlfhplhiedfjaaGreatDoor
