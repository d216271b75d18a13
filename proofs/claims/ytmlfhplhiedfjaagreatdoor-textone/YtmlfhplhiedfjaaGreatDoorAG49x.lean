/-
  The law TextOne, walked. · The table of tens, out of what the rows of chapter 9 list.
-/
import Derived.Test.YtmlfhplhiedfjaaGreatDoorAG48x
import Derived.MakeChecks
import Derived.Stop.LaidErr
namespace Go.Proofs.YtmlfhplhiedfjaaGreatDoor
open Go.RowKit Math
set_option linter.unusedVariables false
set_option linter.unusedSimpArgs false
set_option maxRecDepth 8000 in
set_option maxHeartbeats 2000000 in
theorem one_walk9 (p q : Vt) (hp : WfV p) (hq : WfV q) (na : Option Addr) (nc : Nat) (ka : Option Addr) (kc : Nat) (na2 : Option Addr) (nc2 : Nat) (ka2 : Option Addr) (kc2 : Nat) (W : World) (hv : Vl W p na nc ka kc) (hv2 : Vl W q na2 nc2 ka2 kc2) (ht : D6.Ptab W) :
    Calls Tryz.prog 7 #[.agg #[.int .i64 p.1.k, .int .i64 p.1.n, .int .i64 p.1.s, .string p.1.t, .slice na p.1.ns.length nc, .slice ka p.2.list.length kc], .agg #[.int .i64 q.1.k, .int .i64 q.1.n, .int .i64 q.1.s, .string q.1.t, .slice na2 q.1.ns.length nc2, .slice ka2 q.2.list.length kc2]] W fun e w' => e = .returned (.bool true) ∧ Below W.heap.size W w' := by
  obtain ⟨W3, HW3⟩ : ∃ W3, Hid (((W.alloc (.cells #[.int .i64 p.1.k, .int .i64 p.1.n, .int .i64 p.1.s, .string p.1.t, .slice na p.1.ns.length nc, .slice ka p.2.list.length kc] 38)).alloc (.cells #[.int .i64 q.1.k, .int .i64 q.1.n, .int .i64 q.1.s, .string q.1.t, .slice na2 q.1.ns.length nc2, .slice ka2 q.2.list.length kc2] 38)).alloc (.cells #[.int .i64 0] 3) = W3) := ⟨_, rfl⟩
  have HBW : Hid (Below W.heap.size W W3) := by rw [← HW3.out]; exact (((Below.refl _ _).alloc (Nat.le_refl _) _).alloc (by simp) _).alloc (by simp; omega) _
  have HX : Hid (Blk W3 W.heap.size 38 (six p.1 na nc ka p.2.list.length kc)) := by rw [← HW3.out]; exact ((blk_new W 38 (six p.1 na nc ka p.2.list.length kc)).alloc _).alloc _
  have HY : Hid (Blk W3 (W.heap.size + 1) 38 (six q.1 na2 nc2 ka2 q.2.list.length kc2)) := by
    rw [← HW3.out]
    have h := (blk_new (W.alloc (.cells #[.int .i64 p.1.k, .int .i64 p.1.n, .int .i64 p.1.s, .string p.1.t, .slice na p.1.ns.length nc, .slice ka p.2.list.length kc] 38)) 38 (six q.1 na2 nc2 ka2 q.2.list.length kc2)).alloc (.cells #[.int .i64 0] 3)
    rw [show (W.alloc (.cells #[.int .i64 p.1.k, .int .i64 p.1.n, .int .i64 p.1.s, .string p.1.t, .slice na p.1.ns.length nc, .slice ka p.2.list.length kc] 38)).heap.size = W.heap.size + 1 by simp] at h
    exact h
  have HZ : Hid (Blk W3 (W.heap.size + 2) 3 [.int .i64 ((0 : Nat) : Int)]) := by
    rw [← HW3.out]
    have h := blk_new ((W.alloc (.cells #[.int .i64 p.1.k, .int .i64 p.1.n, .int .i64 p.1.s, .string p.1.t, .slice na p.1.ns.length nc, .slice ka p.2.list.length kc] 38)).alloc (.cells #[.int .i64 q.1.k, .int .i64 q.1.n, .int .i64 q.1.s, .string q.1.t, .slice na2 q.1.ns.length nc2, .slice ka2 q.2.list.length kc2] 38)) 3 [.int .i64 0]
    rw [show ((W.alloc (.cells #[.int .i64 p.1.k, .int .i64 p.1.n, .int .i64 p.1.s, .string p.1.t, .slice na p.1.ns.length nc, .slice ka p.2.list.length kc] 38)).alloc (.cells #[.int .i64 q.1.k, .int .i64 q.1.n, .int .i64 q.1.s, .string q.1.t, .slice na2 q.1.ns.length nc2, .slice ka2 q.2.list.length kc2] 38)).heap.size = W.heap.size + 2 by simp] at h
    exact h
  have HV : Hid (Vl W p na nc ka kc) := hv
  have HV2 : Hid (Vl W q na2 nc2 ka2 kc2) := hv2
  have HWp : Hid (WfV p) := hp
  have HWq : Hid (WfV q) := hq
  have HTb : Hid (D6.Ptab W) := ht
  clear hv hv2 hp hq ht
  have KG := great_any9 _ p (Nat.le_refl _) HWp.out na nc ka kc (W.heap.size + 2) 0 W W3 HV.out HBW.out (by omega) HZ.out (by omega)
  have c0 : W3.cell? ⟨W.heap.size, 0, none⟩ = some (.int .i64 p.1.k) := HX.out.cell 0
  have c1 : W3.cell? ⟨W.heap.size, 1, none⟩ = some (.int .i64 p.1.n) := HX.out.cell 1
  have c2 : W3.cell? ⟨W.heap.size, 2, none⟩ = some (.int .i64 p.1.s) := HX.out.cell 2
  have c3 : W3.cell? ⟨W.heap.size, 3, none⟩ = some (.string p.1.t) := HX.out.cell 3
  have c4 : W3.cell? ⟨W.heap.size, 4, none⟩ = some (.slice na p.1.ns.length nc) := HX.out.cell 4
  have c5 : W3.cell? ⟨W.heap.size, 5, none⟩ = some (.slice ka p.2.list.length kc) := HX.out.cell 5
  go_enter Tryz.func7, Tryz.ntmps7
  go_wp2_with fail
  generalize hWW : World.alloc (World.alloc (World.alloc W _) _) _ = W9
  obtain rfl : W3 = W9 := by rw [← hWW, ← HW3.out]
  clear hWW HW3
  refine KG.mono ?_
  clear KG c0 c1 c2 c3 c4 c5
  rintro e w4 ⟨m4, rfl, H4⟩
  have HB4 : Hid (Below W.heap.size W w4) := HBW.out.grown H4.out.gr HBW.out.size (fun x e => by injection e with e; omega)
  have HX4 : Hid (Blk w4 W.heap.size 38 (six p.1 na nc ka p.2.list.length kc)) := HX.out.kept H4.out.gr (by intro c; injection c with c; omega)
  have HY4 : Hid (Blk w4 (W.heap.size + 1) 38 (six q.1 na2 nc2 ka2 q.2.list.length kc2)) := HY.out.kept H4.out.gr (by intro c; injection c with c; omega)
  have HZ4 : Hid (Blk w4 (W.heap.size + 2) 3 [.int .i64 (m4 : Int)]) := H4.out.blk
  have HM4 : Hid (m4 ≤ 2000 → ws p ≤ m4) := fun h => by have := H4.out.ge h; omega
  clear H4 HX HY HZ HBW
  by_cases hg : 2000 < m4
  · have hgb : decide (2000 < m4) = true := by simp [hg]
    go_wp2
    go_ret
    exact ⟨rfl, HB4.out⟩
  have hgb : decide (2000 < m4) = false := by simp [hg]
  have hwp : ws p ≤ 2000 := by have := HM4.out (by omega); omega
  have KG := great_any9 _ q (Nat.le_refl _) HWq.out na2 nc2 ka2 kc2 (W.heap.size + 2) m4 W w4 HV2.out HB4.out (by omega) HZ4.out (by omega)
  have c0 : w4.cell? ⟨W.heap.size + 1, 0, none⟩ = some (.int .i64 q.1.k) := HY4.out.cell 0
  have c1 : w4.cell? ⟨W.heap.size + 1, 1, none⟩ = some (.int .i64 q.1.n) := HY4.out.cell 1
  have c2 : w4.cell? ⟨W.heap.size + 1, 2, none⟩ = some (.int .i64 q.1.s) := HY4.out.cell 2
  have c3 : w4.cell? ⟨W.heap.size + 1, 3, none⟩ = some (.string q.1.t) := HY4.out.cell 3
  have c4 : w4.cell? ⟨W.heap.size + 1, 4, none⟩ = some (.slice na2 q.1.ns.length nc2) := HY4.out.cell 4
  have c5 : w4.cell? ⟨W.heap.size + 1, 5, none⟩ = some (.slice ka2 q.2.list.length kc2) := HY4.out.cell 5
  go_wp2_with fail
  refine KG.mono ?_
  clear KG c0 c1 c2 c3 c4 c5 HM4
  rintro e w5 ⟨m5, rfl, H5⟩
  have HB5 : Hid (Below W.heap.size W w5) := HB4.out.grown H5.out.gr HB4.out.size (fun x e => by injection e with e; omega)
  have HX5 : Hid (Blk w5 W.heap.size 38 (six p.1 na nc ka p.2.list.length kc)) := HX4.out.kept H5.out.gr (by intro c; injection c with c; omega)
  have HY5 : Hid (Blk w5 (W.heap.size + 1) 38 (six q.1 na2 nc2 ka2 q.2.list.length kc2)) := HY4.out.kept H5.out.gr (by intro c; injection c with c; omega)
  have HM5 : Hid (m5 ≤ 2000 → ws q ≤ m5) := fun h => by have := H5.out.ge h; omega
  clear H5 HX4 HY4 HZ4 HB4
  by_cases hg5 : 2000 < m5
  · have hgb5 : decide (2000 < m5) = true := by simp [hg5]
    go_wp2
    go_ret
    exact ⟨rfl, HB5.out⟩
  have hgb5 : decide (2000 < m5) = false := by simp [hg5]
  have hwq : ws q ≤ 2000 := by have := HM5.out (by omega); omega
  have KE := print_any p HWp.out (by omega) na nc ka kc w5 (HV.out.below HB5.out) (ptab_below HTb.out HB5.out)
  have HI : Hid (encE p = 0 → encE q = 0 → (prT p = prT q ↔ p = q)) := fun e1 e2 => by
    refine ⟨fun h => prV_inj HTb.out HWp.out HWq.out e1 e2 (by have := prV_len p HWp.out (encE_chk0 e1); omega) ?_, fun h => by rw [h]⟩
    rw [← prT_yes HWp.out e1, ← prT_yes HWq.out e2, h]
  have c0 : w5.cell? ⟨W.heap.size, 0, none⟩ = some (.int .i64 p.1.k) := HX5.out.cell 0
  have c1 : w5.cell? ⟨W.heap.size, 1, none⟩ = some (.int .i64 p.1.n) := HX5.out.cell 1
  have c2 : w5.cell? ⟨W.heap.size, 2, none⟩ = some (.int .i64 p.1.s) := HX5.out.cell 2
  have c3 : w5.cell? ⟨W.heap.size, 3, none⟩ = some (.string p.1.t) := HX5.out.cell 3
  have c4 : w5.cell? ⟨W.heap.size, 4, none⟩ = some (.slice na p.1.ns.length nc) := HX5.out.cell 4
  have c5 : w5.cell? ⟨W.heap.size, 5, none⟩ = some (.slice ka p.2.list.length kc) := HX5.out.cell 5
  clear HM5
  go_wp2_with fail
  refine KE.mono ?_
  clear KE c0 c1 c2 c3 c4 c5
  rintro e w6 ⟨rfl, b6⟩
  have HB6 : Hid (Below W.heap.size W w6) := HB5.out.trans (b6.mono HB5.out.size)
  have HX6 : Hid (Blk w6 W.heap.size 38 (six p.1 na nc ka p.2.list.length kc)) := HX5.out.below b6 HX5.out.lt
  have HY6 : Hid (Blk w6 (W.heap.size + 1) 38 (six q.1 na2 nc2 ka2 q.2.list.length kc2)) := HY5.out.below b6 HY5.out.lt
  clear b6 HX5 HY5 HB5
  have KE := print_any q HWq.out (by omega) na2 nc2 ka2 kc2 w6 (HV2.out.below HB6.out) (ptab_below HTb.out HB6.out)
  have c0 : w6.cell? ⟨W.heap.size + 1, 0, none⟩ = some (.int .i64 q.1.k) := HY6.out.cell 0
  have c1 : w6.cell? ⟨W.heap.size + 1, 1, none⟩ = some (.int .i64 q.1.n) := HY6.out.cell 1
  have c2 : w6.cell? ⟨W.heap.size + 1, 2, none⟩ = some (.int .i64 q.1.s) := HY6.out.cell 2
  have c3 : w6.cell? ⟨W.heap.size + 1, 3, none⟩ = some (.string q.1.t) := HY6.out.cell 3
  have c4 : w6.cell? ⟨W.heap.size + 1, 4, none⟩ = some (.slice na2 q.1.ns.length nc2) := HY6.out.cell 4
  have c5 : w6.cell? ⟨W.heap.size + 1, 5, none⟩ = some (.slice ka2 q.2.list.length kc2) := HY6.out.cell 5
  go_wp2_with fail
  refine KE.mono ?_
  clear KE c0 c1 c2 c3 c4 c5
  rintro e w7 ⟨rfl, b7⟩
  have HB7 : Hid (Below W.heap.size W w7) := HB6.out.trans (b7.mono HB6.out.size)
  have HX7 : Hid (Blk w7 W.heap.size 38 (six p.1 na nc ka p.2.list.length kc)) := HX6.out.below b7 HX6.out.lt
  have HY7 : Hid (Blk w7 (W.heap.size + 1) 38 (six q.1 na2 nc2 ka2 q.2.list.length kc2)) := HY6.out.below b7 HY6.out.lt
  clear b7 HX6 HY6 HB6
  have KN : Hid (∀ w, Below W.heap.size W w → Calls Tryz.prog 21 #[] w fun e w' => e = .returned (.bool true) ∧ Below w.heap.size w w') := fun w hb => known9 w (ptab_below HTb.out hb)
  by_cases hE : encE p = 0 ∧ encE q = 0
  case neg =>
    have KN7 := KN.out w7 HB7.out
    by_cases hE1 : encE p = 0
    · have hE2 : ¬ encE q = 0 := fun h => hE ⟨hE1, h⟩
      have hb2 : (encE q != 0) = true := by simpa using hE2
      clear hE hE2 HI KN
      rw [hE1]
      generalize encE q = E2 at *
      go_wp2_with fail
      refine KN7.mono ?_
      rintro e w8 ⟨rfl, b8⟩
      have HF : Hid (Below W.heap.size W w8) := HB7.out.trans (b8.mono HB7.out.size)
      clear KN7 b8 HB7 HX7 HY7
      go_wp2
      go_ret
      exact ⟨rfl, HF.out⟩
    · have hb1 : (encE p != 0) = true := by simpa using hE1
      clear hE hE1 HI KN
      generalize encE p = E1 at *
      go_wp2_with fail
      refine KN7.mono ?_
      rintro e w8 ⟨rfl, b8⟩
      have HF : Hid (Below W.heap.size W w8) := HB7.out.trans (b8.mono HB7.out.size)
      clear KN7 b8 HB7 HX7 HY7
      go_wp2
      go_ret
      exact ⟨rfl, HF.out⟩
  have HI2 : Hid (prT p = prT q ↔ p = q) := HI.out hE.1 hE.2
  have KQ := equal_any _ p (Nat.le_refl _) HWp.out q HWq.out na nc ka kc na2 nc2 ka2 kc2 w7 (HV.out.below HB7.out) (HV2.out.below HB7.out)
  have e1 := hE.1
  have e2 := hE.2
  rw [e1, e2]
  clear hE e1 e2 HI
  obtain ⟨S, hS⟩ : ∃ S, prT p = S := ⟨_, rfl⟩
  obtain ⟨T, hT⟩ : ∃ T, prT q = T := ⟨_, rfl⟩
  rw [hS, hT] at HI2 ⊢
  clear hS hT
  obtain ⟨tt, htt⟩ : ∃ tt, (S.toList == T.toList) = tt := ⟨_, rfl⟩
  have HTT : Hid (tt = true ↔ p = q) := by
    rw [← HI2.out, ← htt, beq_iff_eq]
    exact ⟨fun h => bytes_eq h, fun h => by rw [h]⟩
  have c0 : w7.cell? ⟨W.heap.size, 0, none⟩ = some (.int .i64 p.1.k) := HX7.out.cell 0
  have c1 : w7.cell? ⟨W.heap.size, 1, none⟩ = some (.int .i64 p.1.n) := HX7.out.cell 1
  have c2 : w7.cell? ⟨W.heap.size, 2, none⟩ = some (.int .i64 p.1.s) := HX7.out.cell 2
  have c3 : w7.cell? ⟨W.heap.size, 3, none⟩ = some (.string p.1.t) := HX7.out.cell 3
  have c4 : w7.cell? ⟨W.heap.size, 4, none⟩ = some (.slice na p.1.ns.length nc) := HX7.out.cell 4
  have c5 : w7.cell? ⟨W.heap.size, 5, none⟩ = some (.slice ka p.2.list.length kc) := HX7.out.cell 5
  have d0 : w7.cell? ⟨W.heap.size + 1, 0, none⟩ = some (.int .i64 q.1.k) := HY7.out.cell 0
  have d1 : w7.cell? ⟨W.heap.size + 1, 1, none⟩ = some (.int .i64 q.1.n) := HY7.out.cell 1
  have d2 : w7.cell? ⟨W.heap.size + 1, 2, none⟩ = some (.int .i64 q.1.s) := HY7.out.cell 2
  have d3 : w7.cell? ⟨W.heap.size + 1, 3, none⟩ = some (.string q.1.t) := HY7.out.cell 3
  have d4 : w7.cell? ⟨W.heap.size + 1, 4, none⟩ = some (.slice na2 q.1.ns.length nc2) := HY7.out.cell 4
  have d5 : w7.cell? ⟨W.heap.size + 1, 5, none⟩ = some (.slice ka2 q.2.list.length kc2) := HY7.out.cell 5
  clear HI2
  go_wp2_with fail
  refine KQ.mono ?_
  rintro e w8 ⟨t, rfl, H8⟩
  obtain rfl : tt = t := by
    have h1 := HTT.out
    have h2 := H8.out.1
    cases tt <;> cases t <;> simp_all
  have HB8 : Hid (Below W.heap.size W w8) := HB7.out.trans (H8.out.2.mono HB7.out.size)
  have KN8 := KN.out w8 HB8.out
  clear KQ H8 HTT HX7 HY7 HB7 c0 c1 c2 c3 c4 c5 d0 d1 d2 d3 d4 d5 KN
  go_wp2_with fail
  refine KN8.mono ?_
  rintro e w9 ⟨rfl, b9⟩
  have HF : Hid (Below W.heap.size W w9) := HB8.out.trans (b9.mono HB8.out.size)
  clear KN8 b9 HB8
  go_wp2
  go_ret
  exact ⟨rfl, HF.out⟩
end Go.Proofs.YtmlfhplhiedfjaaGreatDoor
namespace Go.Proofs.YtmlfhplhiedfjaaGreatDoor
open Go.RowKit
set_option linter.unusedVariables false
theorem ptab9 {W : World} (h : laidMetH Tryz.prog Rows.textOneRow.laid W) : D6.Ptab W := by
  rw [MakeChecks.laidMetH_plain _ _ _ (by kernel_rfl)] at h
  have h3 : laidMet Tryz.prog [("internal/strconv.uint64pow10", Lib.tabData .u64 Lib.pow10Tab), ("unicode/utf8.acceptRanges", Rows.laid_unicode_utf8_acceptRanges), ("unicode/utf8.first", Rows.laid_unicode_utf8_first)] W := laidMet.tail (laidMet.tail h)
  exact Lib.tabIs_of_head (g := 1) (t := 194) (e := 82) (n := 20) (by kernel_rfl) (by kernel_rfl) (by kernel_rfl) (by kernel_rfl) (by kernel_rfl) (by kernel_rfl) h3
end Go.Proofs.YtmlfhplhiedfjaaGreatDoor
