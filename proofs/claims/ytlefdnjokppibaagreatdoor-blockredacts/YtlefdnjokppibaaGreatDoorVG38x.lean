/-
  The document's bytes of an entry. · The document's bytes of a block's head. · The document's plain.
-/
import Derived.Test.YtlefdnjokppibaaGreatDoorVG32x
namespace Go.Proofs.YtlefdnjokppibaaGreatDoor.Sh
open Go Go.RowKit Math Mt
set_option linter.unusedVariables false
set_option linter.unusedSimpArgs false
set_option maxHeartbeats 400000 in
set_option maxRecDepth 8000 in
theorem u_any (v : Nat) (hv : v < 18446744073709551616) (w : World) :
    Calls Tryz.prog 71 #[.int .u64 (v : Int)] w fun e w' => ∃ r, e = .returned r ∧ Own w' w.heap.size r (uv v) ∧ Below w.heap.size w w' := by
  go_enter Tryz.func71, Tryz.ntmps71
  have K := uvr_any v hv w
  go_wp2_with fail
  refine K.mono ?_
  rintro e w2 ⟨r, rfl, h1, h2⟩
  have HF : Hid (Own w2 w.heap.size r (uv v) ∧ Below w.heap.size w w2) := ⟨h1, h2⟩
  clear K h1 h2
  go_wp2
  go_ret
  exact ⟨r, rfl, HF.out⟩
set_option maxHeartbeats 2000000 in
set_option maxRecDepth 8000 in
theorem rent_any (e : En) (he : EnW e) (hn : Num e) (na : Option Addr) (nc : Nat) (ka : Option Addr) (kc : Nat) (w : World) :
    Calls Tryz.prog 40 #[.agg (eC e na nc ka kc).toArray] w fun e' w' => ∃ v', e' = .returned v' ∧ Hid (Own w' w.heap.size v' (entB e) ∧ Below w.heap.size w w') := by
  have HL : Hid (e.h.length = 32) := he.h.1
  obtain ⟨kn, hkn⟩ : ∃ kn : Nat, e.k = (kn : Int) := ⟨e.k.toNat, by have := hn.k; omega⟩
  have hk8 : kn ≤ 7 := by have := hn.k; omega
  have ht := hn.t
  obtain ⟨tb, htb⟩ : ∃ tb : Nat, e.tb = (tb : Int) := ⟨e.tb.toNat, by have := hn.tb; omega⟩
  have htbb : tb ≤ 2147483648 := by have := hn.tb; omega
  obtain ⟨dc, hdc⟩ : ∃ dc : Nat, e.dc = (dc : Int) := ⟨e.dc.toNat, by have := hn.dc; omega⟩
  have hdcb : dc ≤ 2147483648 := by have := hn.dc; omega
  obtain ⟨vr, hvr⟩ : ∃ vr : Nat, e.vr = (vr : Int) := ⟨e.vr.toNat, by have := hn.vr; omega⟩
  have hvrb : vr ≤ 2147483648 := by have := hn.vr; omega
  obtain ⟨ab, hab⟩ : ∃ ab : Nat, e.ab = (ab : Int) := ⟨e.ab.toNat, by have := hn.ab; omega⟩
  have habb : ab ≤ 2147483648 := by have := hn.ab; omega
  obtain ⟨ae, hae⟩ : ∃ ae : Nat, e.ae = (ae : Int) := ⟨e.ae.toNat, by have := hn.ae; omega⟩
  have haeb : ae ≤ 2147483648 := by have := hn.ae; omega
  have HX : Hid (entB e = [kn] ++ uv tb ++ uv dc ++ uv vr ++ uv e.t.size ++ bts e.t ++ uv ab ++ uv ae ++ (if kn = 2 then e.h else [])) := by
    show _ = _
    unfold entB uvI
    rw [hkn, htb, hdc, hvr, hab, hae]
    simp only [Int.toNat_natCast]
    congr 1
    by_cases h : kn = 2
    · rw [if_pos h, if_pos (by omega)]
    · rw [if_neg h, if_neg (by omega)]
  have ltb : Hid ((uv tb).length ≤ 10) := uv_ten _ (by omega)
  have ldc : Hid ((uv dc).length ≤ 10) := uv_ten _ (by omega)
  have lvr : Hid ((uv vr).length ≤ 10) := uv_ten _ (by omega)
  have lab : Hid ((uv ab).length ≤ 10) := uv_ten _ (by omega)
  have lae : Hid ((uv ae).length ≤ 10) := uv_ten _ (by omega)
  have lts : Hid ((uv e.t.size).length ≤ 10) := uv_ten _ (by omega)
  obtain ⟨Ltb, hLtb⟩ : ∃ L, Hid ([kn] ++ uv tb = L) := ⟨_, rfl⟩
  rw [hLtb.out] at HX
  have mtb : Hid (Ltb.length ≤ 1 + 10) := by show _ ≤ _; rw [← hLtb.out, List.length_append]; simp only [List.length_singleton]; have := ltb.out; omega
  obtain ⟨Ldc, hLdc⟩ : ∃ L, Hid (Ltb ++ uv dc = L) := ⟨_, rfl⟩
  rw [hLdc.out] at HX
  have mdc : Hid (Ldc.length ≤ 1 + 10 + 10) := by show _ ≤ _; rw [← hLdc.out, List.length_append]; have := mtb.out; have := ldc.out; omega
  obtain ⟨Lvr, hLvr⟩ : ∃ L, Hid (Ldc ++ uv vr = L) := ⟨_, rfl⟩
  rw [hLvr.out] at HX
  have mvr : Hid (Lvr.length ≤ 1 + 10 + 10 + 10) := by show _ ≤ _; rw [← hLvr.out, List.length_append]; have := mdc.out; have := lvr.out; omega
  obtain ⟨Lts, hLts⟩ : ∃ L, Hid (Lvr ++ uv e.t.size = L) := ⟨_, rfl⟩
  rw [hLts.out] at HX
  have mts : Hid (Lts.length ≤ 1 + 10 + 10 + 10 + 10) := by show _ ≤ _; rw [← hLts.out, List.length_append]; have := mvr.out; have := lts.out; omega
  obtain ⟨Lt, hLt⟩ : ∃ L, Hid (Lts ++ bts e.t = L) := ⟨_, rfl⟩
  rw [hLt.out] at HX
  have mt : Hid (Lt.length ≤ 1 + 10 + 10 + 10 + 10 + e.t.size) := by show _ ≤ _; rw [← hLt.out, List.length_append, bts_len]; have := mts.out; omega
  obtain ⟨Lab, hLab⟩ : ∃ L, Hid (Lt ++ uv ab = L) := ⟨_, rfl⟩
  rw [hLab.out] at HX
  have mab : Hid (Lab.length ≤ 1 + 10 + 10 + 10 + 10 + e.t.size + 10) := by show _ ≤ _; rw [← hLab.out, List.length_append]; have := mt.out; have := lab.out; omega
  obtain ⟨Lae, hLae⟩ : ∃ L, Hid (Lab ++ uv ae = L) := ⟨_, rfl⟩
  rw [hLae.out] at HX
  have mae : Hid (Lae.length ≤ 1 + 10 + 10 + 10 + 10 + e.t.size + 10 + 10) := by show _ ≤ _; rw [← hLae.out, List.length_append]; have := mab.out; have := lae.out; omega
  clear he hn
  go_enter Tryz.func40, Tryz.ntmps40
  go_wp2_with (refine al_box rfl 45 (.tmp 0) rfl (eC e na nc ka kc) rfl ?_)
  intro ge w1 l1 BE G0
  have HZ0 : Hid (Below w.heap.size w w1) := (Below.refl w.heap.size w).grown G0 (Nat.le_refl _) (by simp)
  clear G0
  have HBE : Hid (Blk w1 ge 45 (eC e na nc ka kc)) := BE
  have CF : Hid (∀ V, Below w1.heap.size w1 V → EnF V ge 0 e na nc ka kc) := fun V h => enF_of HL.out (HBE.out.below h HBE.out.lt).all
  have ck := (enF_of HL.out BE.all).k
  rw [hkn] at ck
  clear BE
  obtain ⟨W1, HW1⟩ : ∃ W1, Hid (w1.alloc (.cells #[.int .u8 (kn : Int)] 5) = W1) := ⟨_, rfl⟩
  have HO : Hid (Own W1 w1.heap.size (.slice (some ⟨w1.heap.size, 0, none⟩) 1 1) [kn]) := by rw [← HW1.out]; exact own_lit1 w1 kn _ (Nat.le_refl _)
  have HZ : Hid (Below w1.heap.size w1 W1) := by rw [← HW1.out]; exact (Below.refl _ _).alloc (Nat.le_refl _) _
  have cx : W1.cell? ⟨ge, 2, none⟩ = some (.int .i64 (tb : Int)) := by have := (CF.out W1 HZ.out).tb; rw [Nat.zero_add, htb] at this; exact this
  rw [← HW1.out] at cx
  have K := u_any tb (by omega) W1
  rw [← HW1.out] at K
  go_wp2_with fail
  refine K.mono ?_
  clear K cx
  rintro e' X1 ⟨r1, rfl, hr1, zr1⟩
  rw [HW1.out] at hr1 zr1
  clear ck
  obtain ⟨ar1, cr1, rfl, hb1, hnl1, hlr1, hcr1⟩ := hr1.byt
  have HB1 : Hid (Byt X1 ar1 (uv tb)) := hb1
  have HN1 : Hid (ar1 = none → cr1 = 0) := hnl1
  have HO1 : Hid (Own X1 w1.heap.size (.slice (some ⟨w1.heap.size, 0, none⟩) 1 1) ([kn])) := HO.out.below zr1
  have HZ1 : Hid (Below w1.heap.size w1 X1) := HZ.out.trans (zr1.mono HZ.out.size)
  have hsz1 : w1.heap.size ≤ X1.heap.size := HZ1.out.size
  clear HO HZ hr1 zr1 hb1 hnl1 hlr1 hcr1
  go_wp2_with (at_builtin; go_must (refine ap_bytes rfl (.tmp 8) (.tmp 12) rfl w1.heap.size (.slice (some ⟨w1.heap.size, 0, none⟩) 1 1) ([kn]) rfl HO1.out ar1 (uv tb).length cr1 (uv tb) rfl rfl HB1.out HN1.out (by simp only [List.length_singleton]; have := ltb.out; omega) hsz1 ?_))
  intro v1 Y1 A1
  have A1 : Ap w1.heap.size X1 Y1 (.slice (some ⟨w1.heap.size, 0, none⟩) 1 1) v1 Ltb := by rw [← hLtb.out]; exact A1
  have HZ : Hid (Below w1.heap.size w1 Y1) := A1.below HO1.out HZ1.out hsz1 (Nat.le_refl _)
  have HO : Hid (Own Y1 w1.heap.size v1 (Ltb)) := A1.own
  clear A1 HO1 HZ1 HB1 HN1 hsz1
  have cx : Y1.cell? ⟨ge, 3, none⟩ = some (.int .i64 (dc : Int)) := by have := (CF.out Y1 HZ.out).dc; rw [Nat.zero_add, hdc] at this; exact this
  have K := u_any dc (by omega) Y1
  go_wp2_with fail
  refine K.mono ?_
  clear K cx
  rintro e' X2 ⟨r2, rfl, hr2, zr2⟩
  obtain ⟨ar2, cr2, rfl, hb2, hnl2, hlr2, hcr2⟩ := hr2.byt
  have HB2 : Hid (Byt X2 ar2 (uv dc)) := hb2
  have HN2 : Hid (ar2 = none → cr2 = 0) := hnl2
  have HO2 : Hid (Own X2 w1.heap.size v1 (Ltb)) := HO.out.below zr2
  have HZ2 : Hid (Below w1.heap.size w1 X2) := HZ.out.trans (zr2.mono HZ.out.size)
  have hsz2 : w1.heap.size ≤ X2.heap.size := HZ2.out.size
  clear HO HZ hr2 zr2 hb2 hnl2 hlr2 hcr2
  go_wp2_with (at_builtin; go_must (refine ap_bytes rfl (.tmp 14) (.tmp 18) rfl w1.heap.size v1 (Ltb) rfl HO2.out ar2 (uv dc).length cr2 (uv dc) rfl rfl HB2.out HN2.out (by have := mtb.out; have := ldc.out; omega) hsz2 ?_))
  intro v2 Y2 A2
  have A2 : Ap w1.heap.size X2 Y2 v1 v2 Ldc := by rw [← hLdc.out]; exact A2
  have HZ : Hid (Below w1.heap.size w1 Y2) := A2.below HO2.out HZ2.out hsz2 (Nat.le_refl _)
  have HO : Hid (Own Y2 w1.heap.size v2 (Ldc)) := A2.own
  clear A2 HO2 HZ2 HB2 HN2 hsz2
  have cx : Y2.cell? ⟨ge, 4, none⟩ = some (.int .i64 (vr : Int)) := by have := (CF.out Y2 HZ.out).vr; rw [Nat.zero_add, hvr] at this; exact this
  have K := u_any vr (by omega) Y2
  go_wp2_with fail
  refine K.mono ?_
  clear K cx
  rintro e' X3 ⟨r3, rfl, hr3, zr3⟩
  obtain ⟨ar3, cr3, rfl, hb3, hnl3, hlr3, hcr3⟩ := hr3.byt
  have HB3 : Hid (Byt X3 ar3 (uv vr)) := hb3
  have HN3 : Hid (ar3 = none → cr3 = 0) := hnl3
  have HO3 : Hid (Own X3 w1.heap.size v2 (Ldc)) := HO.out.below zr3
  have HZ3 : Hid (Below w1.heap.size w1 X3) := HZ.out.trans (zr3.mono HZ.out.size)
  have hsz3 : w1.heap.size ≤ X3.heap.size := HZ3.out.size
  clear HO HZ hr3 zr3 hb3 hnl3 hlr3 hcr3
  go_wp2_with (at_builtin; go_must (refine ap_bytes rfl (.tmp 20) (.tmp 24) rfl w1.heap.size v2 (Ldc) rfl HO3.out ar3 (uv vr).length cr3 (uv vr) rfl rfl HB3.out HN3.out (by have := mdc.out; have := lvr.out; omega) hsz3 ?_))
  intro v3 Y3 A3
  have A3 : Ap w1.heap.size X3 Y3 v2 v3 Lvr := by rw [← hLvr.out]; exact A3
  have HZ : Hid (Below w1.heap.size w1 Y3) := A3.below HO3.out HZ3.out hsz3 (Nat.le_refl _)
  have HO : Hid (Own Y3 w1.heap.size v3 (Lvr)) := A3.own
  clear A3 HO3 HZ3 HB3 HN3 hsz3
  have cx : Y3.cell? ⟨ge, 1, none⟩ = some (.string e.t) := by have := (CF.out Y3 HZ.out).t; rw [Nat.zero_add] at this; exact this
  have K := u_any e.t.size (by omega) Y3
  go_wp2_with fail
  refine K.mono ?_
  clear K cx
  rintro e' X4 ⟨r4, rfl, hr4, zr4⟩
  obtain ⟨ar4, cr4, rfl, hb4, hnl4, hlr4, hcr4⟩ := hr4.byt
  have HB4 : Hid (Byt X4 ar4 (uv e.t.size)) := hb4
  have HN4 : Hid (ar4 = none → cr4 = 0) := hnl4
  have HO4 : Hid (Own X4 w1.heap.size v3 (Lvr)) := HO.out.below zr4
  have HZ4 : Hid (Below w1.heap.size w1 X4) := HZ.out.trans (zr4.mono HZ.out.size)
  have hsz4 : w1.heap.size ≤ X4.heap.size := HZ4.out.size
  clear HO HZ hr4 zr4 hb4 hnl4 hlr4 hcr4
  go_wp2_with (at_builtin; go_must (refine ap_bytes rfl (.tmp 26) (.tmp 31) rfl w1.heap.size v3 (Lvr) rfl HO4.out ar4 (uv e.t.size).length cr4 (uv e.t.size) rfl rfl HB4.out HN4.out (by have := mvr.out; have := lts.out; omega) hsz4 ?_))
  intro v4 Y4 A4
  have A4 : Ap w1.heap.size X4 Y4 v3 v4 Lts := by rw [← hLts.out]; exact A4
  have HZ : Hid (Below w1.heap.size w1 Y4) := A4.below HO4.out HZ4.out hsz4 (Nat.le_refl _)
  have HO : Hid (Own Y4 w1.heap.size v4 (Lts)) := A4.own
  clear A4 HO4 HZ4 HB4 HN4 hsz4
  have cx : Y4.cell? ⟨ge, 1, none⟩ = some (.string e.t) := by have := (CF.out Y4 HZ.out).t; rw [Nat.zero_add] at this; exact this
  have hszt : w1.heap.size ≤ Y4.heap.size := HZ.out.size
  go_wp2_with (at_builtin; go_must (refine ap_str rfl (.tmp 33) (.tmp 35) rfl w1.heap.size v4 (Lts) rfl HO.out e.t rfl (by have := mts.out; omega) hszt ?_))
  intro vt Yt At
  rw [hLt.out] at At
  have HZt : Hid (Below w1.heap.size w1 Yt) := At.below HO.out HZ.out hszt (Nat.le_refl _)
  have HOt : Hid (Own Yt w1.heap.size vt (Lt)) := At.own
  clear At HO HZ cx hszt
  have HO := HOt
  have HZ := HZt
  clear HOt HZt
  have cx : Yt.cell? ⟨ge, 44, none⟩ = some (.int .i64 (ab : Int)) := by have := (CF.out Yt HZ.out).ab; rw [Nat.zero_add, hab] at this; exact this
  have K := u_any ab (by omega) Yt
  go_wp2_with fail
  refine K.mono ?_
  clear K cx
  rintro e' X5 ⟨r5, rfl, hr5, zr5⟩
  obtain ⟨ar5, cr5, rfl, hb5, hnl5, hlr5, hcr5⟩ := hr5.byt
  have HB5 : Hid (Byt X5 ar5 (uv ab)) := hb5
  have HN5 : Hid (ar5 = none → cr5 = 0) := hnl5
  have HO5 : Hid (Own X5 w1.heap.size vt (Lt)) := HO.out.below zr5
  have HZ5 : Hid (Below w1.heap.size w1 X5) := HZ.out.trans (zr5.mono HZ.out.size)
  have hsz5 : w1.heap.size ≤ X5.heap.size := HZ5.out.size
  clear HO HZ hr5 zr5 hb5 hnl5 hlr5 hcr5
  go_wp2_with (at_builtin; go_must (refine ap_bytes rfl (.tmp 37) (.tmp 42) rfl w1.heap.size vt (Lt) rfl HO5.out ar5 (uv ab).length cr5 (uv ab) rfl rfl HB5.out HN5.out (by have := mt.out; have := lab.out; omega) hsz5 ?_))
  intro v5 Y5 A5
  have A5 : Ap w1.heap.size X5 Y5 vt v5 Lab := by rw [← hLab.out]; exact A5
  have HZ : Hid (Below w1.heap.size w1 Y5) := A5.below HO5.out HZ5.out hsz5 (Nat.le_refl _)
  have HO : Hid (Own Y5 w1.heap.size v5 (Lab)) := A5.own
  clear A5 HO5 HZ5 HB5 HN5 hsz5
  have cx : Y5.cell? ⟨ge, 45, none⟩ = some (.int .i64 (ae : Int)) := by have := (CF.out Y5 HZ.out).ae; rw [Nat.zero_add, hae] at this; exact this
  have K := u_any ae (by omega) Y5
  go_wp2_with fail
  refine K.mono ?_
  clear K cx
  rintro e' X6 ⟨r6, rfl, hr6, zr6⟩
  obtain ⟨ar6, cr6, rfl, hb6, hnl6, hlr6, hcr6⟩ := hr6.byt
  have HB6 : Hid (Byt X6 ar6 (uv ae)) := hb6
  have HN6 : Hid (ar6 = none → cr6 = 0) := hnl6
  have HO6 : Hid (Own X6 w1.heap.size v5 (Lab)) := HO.out.below zr6
  have HZ6 : Hid (Below w1.heap.size w1 X6) := HZ.out.trans (zr6.mono HZ.out.size)
  have hsz6 : w1.heap.size ≤ X6.heap.size := HZ6.out.size
  clear HO HZ hr6 zr6 hb6 hnl6 hlr6 hcr6
  go_wp2_with (at_builtin; go_must (refine ap_bytes rfl (.tmp 44) (.tmp 49) rfl w1.heap.size v5 (Lab) rfl HO6.out ar6 (uv ae).length cr6 (uv ae) rfl rfl HB6.out HN6.out (by have := mab.out; have := lae.out; omega) hsz6 ?_))
  intro v6 Y6 A6
  have A6 : Ap w1.heap.size X6 Y6 v5 v6 Lae := by rw [← hLae.out]; exact A6
  have HZ : Hid (Below w1.heap.size w1 Y6) := A6.below HO6.out HZ6.out hsz6 (Nat.le_refl _)
  have HO : Hid (Own Y6 w1.heap.size v6 (Lae)) := A6.own
  clear A6 HO6 HZ6 HB6 HN6 hsz6
  have ck : Y6.cell? ⟨ge, 0, none⟩ = some (.int .i64 (kn : Int)) := by have := (CF.out Y6 HZ.out).k; rw [hkn] at this; exact this
  have HY : Hid (Byt Y6 (some ⟨ge, 11, none⟩) e.h) := .inr ⟨ge, 11, rfl, cells_range (by have := (CF.out Y6 HZ.out).h; rw [Nat.zero_add] at this; exact this)⟩
  have hszz : w1.heap.size ≤ Y6.heap.size := HZ.out.size
  have hw01 : Hid (w.heap.size ≤ w1.heap.size) := HZ0.out.size
  by_cases h2 : kn = 2
  · have hb2 : ((kn : Int) == 2) = true := by rw [h2]; rfl
    rw [if_pos h2] at HX
    clear h2 hkn
    go_wp2_with (at_builtin; go_must (refine ap_bytes rfl (.tmp 54) (.tmp 56) rfl w1.heap.size v6 (Lae) rfl HO.out (some ⟨ge, 11, none⟩) 32 32 e.h HL.out.symm rfl HY.out (by intro h; cases h) (by have := mae.out; have := HL.out; omega) hszz ?_))
    intro v9 w9 A9
    have HF : Hid (Own w9 w.heap.size v9 (entB e) ∧ Below w.heap.size w w9) := ⟨by rw [HX.out]; exact own_mono A9.own hw01.out, HZ0.out.trans ((A9.below HO.out HZ.out hszz (Nat.le_refl _)).mono hw01.out)⟩
    clear A9 HO HY
    go_wp2
    go_ret
    exact ⟨v9, rfl, HF.out⟩
  · have hb2 : ((kn : Int) == 2) = false := beq_eq_false_iff_ne.2 (by omega)
    rw [if_neg h2, List.append_nil] at HX
    have HF : Hid (Own Y6 w.heap.size v6 (entB e) ∧ Below w.heap.size w Y6) := ⟨by rw [HX.out]; exact own_mono HO.out hw01.out, HZ0.out.trans (HZ.out.mono hw01.out)⟩
    clear HO HY h2 hkn
    go_wp2
    go_ret
    exact ⟨_, rfl, HF.out⟩
end Go.Proofs.YtlefdnjokppibaaGreatDoor.Sh
namespace Go.Proofs.YtlefdnjokppibaaGreatDoor.Sh
open Go Go.RowKit Math Mt
set_option linter.unusedVariables false
set_option linter.unusedSimpArgs false
set_option maxHeartbeats 1000000 in
set_option maxRecDepth 8000 in
theorem rhed_any (b : Bk) (hb : BkW b) (a : Option Addr) (c : Nat) (w : World) :
    Calls Tryz.prog 36 #[.agg (bC b a c).toArray] w fun e w' => ∃ v', e = .returned v' ∧ Hid (Own w' w.heap.size v' (hedB b) ∧ Below w.heap.size w w') := by
  have HL : Hid (b.pv.length = 32) := hb.pv.1
  obtain ⟨ns, hns⟩ : ∃ ns : List Int, Hid ([b.ix, b.tm, b.tx] = ns) := ⟨_, rfl⟩
  have hn3 : ns.length = 3 := by rw [← hns.out]; rfl
  have HX : Hid (ns.flatMap uvI ++ b.pv = hedB b) := by show _ = _; rw [← hns.out]; simp [hedB]
  have HN : Hid (∀ n ∈ ns, I64 n) := fun n hn => by
    rw [← hns.out] at hn
    simp only [List.mem_cons, List.not_mem_nil, or_false] at hn
    rcases hn with rfl | rfl | rfl
    · exact hb.ix
    · exact hb.tm
    · exact hb.tx
  have HFL : Hid (∀ k, ((ns.take k).flatMap uvI).length ≤ 100) := fun k => by
    have a := flat_uv (ns.take k) fun n hn => HN.out n (List.mem_of_mem_take hn)
    have b : (ns.take k).length ≤ 3 := by rw [List.length_take]; omega
    omega
  clear hb
  go_enter Tryz.func36, Tryz.ntmps36
  go_wp2_with (refine al_box rfl 26 (.tmp 0) rfl (bC b a c) rfl ?_)
  intro gb w1 l1 BB G0
  have HZ : Hid (Below w.heap.size w w1) := (Below.refl w.heap.size w).grown G0 (Nat.le_refl _) (by simp)
  clear G0
  obtain ⟨c0, c1, c2, _, _⟩ := bkF_of HL.out BB
  obtain ⟨W1, HW1⟩ : ∃ W1, Hid (w1.alloc (.cells #[.int .i64 b.ix, .int .i64 b.tm, .int .i64 b.tx] 3) = W1) := ⟨_, rfl⟩
  have HG : Hid (IntsM W1 w1.heap.size ns) := by rw [← HW1.out, ← hns.out]; exact ints_new w1 [b.ix, b.tm, b.tx]
  have hz1 : Hid (W1.heap.size = w1.heap.size + 1) := by show _ = _; rw [← HW1.out]; simp
  have HZ1 : Hid (Below w.heap.size w W1) := by rw [← HW1.out]; exact HZ.out.alloc HZ.out.size _
  have HBB : Hid (Blk W1 gb 26 (bC b a c)) := by rw [← HW1.out]; exact BB.alloc _
  have hzw : w.heap.size ≤ W1.heap.size := HZ1.out.size
  have HA0 : Hid (Ap W1.heap.size W1 W1 (.slice none 0 0) (.slice none 0 0) ((ns.take 0).flatMap uvI)) := by
    show Ap W1.heap.size W1 W1 (.slice none 0 0) (.slice none 0 0) ((ns.take 0).flatMap uvI)
    rw [List.take_zero, List.flatMap_nil]
    exact Ap.refl (World.ownsRow_nil _ _ _ _)
  clear BB HZ
  go_wp2
  generalize hWW : World.alloc w1 _ = W9
  obtain rfl : W1 = W9 := by rw [← hWW, ← HW1.out]
  clear hWW HW1 c0 c1 c2
  go_loopw [3, 5] (fun vb i wr => ∃ k : Nat, k ≤ 3 ∧ i = .int .i64 (k : Int) ∧ Hid (Ap W1.heap.size W1 wr (.slice none 0 0) vb ((ns.take k).flatMap uvI))) (fun _ i _ => 3 - (intOf i).toNat)
  case atStart => exact ⟨0, by omega, rfl, HA0.out⟩
  case round =>
    clear HA0
    obtain ⟨k, hk, rfl, HK⟩ := hrel
    have hs := HK.out.gr.size
    by_cases hlt : k < 3
    case neg =>
      have HF : Hid (Ap W1.heap.size W1 wr (.slice none 0 0) u3 (ns.flatMap uvI)) := by
        have := HK.out
        rw [List.take_of_length_le (by omega)] at this
        exact this
      have hfl : (ns.flatMap uvI).length ≤ 100 := by have := HFL.out 3; rw [List.take_of_length_le (by omega)] at this; exact this
      have BB2 : Blk wr gb 26 (bC b a c) := HF.out.blk HBB.out (by simp [Value.ownBlock])
      have HY : Hid (Byt wr (some ⟨gb, 3, none⟩) b.pv) := .inr ⟨gb, 3, rfl, cells_range (bkF_of HL.out BB2).pv⟩
      clear HK BB2
      go_wp2_with (at_builtin; go_must (refine ap_bytes rfl (.tmp 26) (.tmp 28) rfl W1.heap.size u3 (ns.flatMap uvI) rfl HF.out.own (some ⟨gb, 3, none⟩) 32 32 b.pv HL.out.symm rfl HY.out (by intro h; cases h) (by have := HL.out; omega) hs ?_))
      intro v3 w3 A3
      have HQ : Hid (Own w3 w.heap.size v3 (hedB b) ∧ Below w.heap.size w w3) := by
        have hA := HF.out.trans A3
        refine ⟨by rw [← HX.out]; exact own_mono A3.own hzw, HZ1.out.grown hA.gr hzw (fun x e => by cases e)⟩
      clear A3 HY HF
      go_wp2
      go_ret
      exact ⟨v3, rfl, HQ.out⟩
    obtain ⟨n, hn⟩ : ∃ n, ns[k]? = some n := ⟨_, List.getElem?_eq_getElem (by omega)⟩
    obtain ⟨hn0, hn1⟩ := HN.out n (List.mem_of_getElem? hn)
    obtain ⟨u, hu⟩ : ∃ u : Nat, Hid (u = n.toNat) := ⟨_, rfl⟩
    have hm : max n 0 = (u : Int) := by rw [hu.out]; omega
    have hm2 : max 0 n = (u : Int) := by rw [hu.out]; omega
    have hu1 : u < 9223372036854775808 := by rw [hu.out]; omega
    have cg : wr.cell? ⟨w1.heap.size, k, none⟩ = some (.int .i64 n) := (cell_keep (HK.out.gr.block w1.heap.size (by have := hz1.out; omega) (fun e => by cases e))).trans (HG.out k n hn)
    have HX2 : Hid ((ns.take (k + 1)).flatMap uvI = (ns.take k).flatMap uvI ++ uv u) := by rw [hu.out]; exact flat_take ns k n hn
    have hlk : ((ns.take k).flatMap uvI).length ≤ 100 := HFL.out k
    have h10 := uv_ten u (by omega)
    have KU : ∀ W (z : Int), z = (u : Int) → Calls Tryz.prog 45 #[.int .u64 z] W fun e w' => ∃ r, e = .returned r ∧ Own w' W.heap.size r (uv u) ∧ Below W.heap.size W w' := fun W z hz => by rw [hz]; exact uvr_any u (by omega) W
    clear hu hn
    go_wp2_with fail
    all_goals
      refine (KU _ _ (by omega)).mono ?_
      rintro e w4 ⟨r, rfl, o1, b1⟩
      obtain ⟨ax, cx, rfl, hby, hnil, _⟩ := o1.byt
      have hs1 := b1.size
      have HB : Hid (Below wr.heap.size wr w4) := b1
      have HY : Hid (Byt w4 ax (uv u)) := hby
      clear o1 b1 KU hby
      go_wp2_with (at_builtin; go_must (refine ap_bytes rfl (.tmp 17) (.tmp 24) rfl W1.heap.size u3 ((ns.take k).flatMap uvI) rfl (HK.out.own.below HB.out) ax _ cx (uv u) rfl rfl HY.out hnil (by omega) (by omega) ?_))
      intro v2 w2 A2
      have HA : Hid (Ap W1.heap.size W1 w2 (.slice none 0 0) v2 ((ns.take (k + 1)).flatMap uvI)) := by
        have := HK.out.trans (Ap.after HB.out A2)
        show Ap W1.heap.size W1 w2 (.slice none 0 0) v2 ((ns.take (k + 1)).flatMap uvI)
        rw [HX2.out]
        exact this
      clear A2 HB HY HX2 HK hm hm2 cg
      go_wp2
      go_roundw
      case rel => exact ⟨k + 1, by omega, by go_num, HA.out⟩
      case measure => simp [intOf]; omega
end Go.Proofs.YtlefdnjokppibaaGreatDoor.Sh
namespace Go.Proofs.YtlefdnjokppibaaGreatDoor.Sh
open Go Go.RowKit Math Mt
set_option linter.unusedVariables false
set_option linter.unusedSimpArgs false
/-- Has an entry nothing but the fields of another one? -/
structure Pl (e x : En) : Prop where
  k : e.k = x.k
  t : e.t = x.t
  tb : e.tb = x.tb
  dc : e.dc = x.dc
  vr : e.vr = x.vr
  h : e.h = x.h
  g : e.g = x.g
  ab : e.ab = x.ab
  ae : e.ae = x.ae
  v : e.v = nv
theorem bstr1 {a b : ByteArray} (h : ¬ a = b) : ¬ a.toList = b.toList := fun q => h (by
  rw [ByteArray.toList_eq, ByteArray.toList_eq] at q
  have q2 := Array.toList_inj.1 q
  cases a; cases b
  simp only at q2
  rw [q2])
theorem gstr1 {a b : Bool} (h : ¬ a = b) : (a = true ∧ b = false) ∨ (a = false ∧ b = true) := by cases a <;> cases b <;> simp_all
theorem off_pl {e x : En} {t : Bool} (h : t = true ↔ Pl e x) (hn : ¬ Pl e x) : t = false := by
  cases t
  · rfl
  · exact absurd (h.1 rfl) hn
set_option maxHeartbeats 4000000 in
set_option maxRecDepth 8000 in
theorem plain_any (e f : En) (he : EnW e) (hf : EnW f) (na : Option Addr) (nc : Nat) (ka : Option Addr) (kc : Nat) (na2 : Option Addr) (nc2 : Nat) (ka2 : Option Addr) (kc2 : Nat) (w : World) (hv : Vl w e.v na nc ka kc) (hv2 : Vl w f.v na2 nc2 ka2 kc2) (t : Bool) (ht : Hid (t = true ↔ Pl e f)) :
    Calls Tryz.prog 80 #[.agg (eC e na nc ka kc).toArray, .agg (eC f na2 nc2 ka2 kc2).toArray] w fun e' w' => e' = .returned (.bool t) ∧ Hid (Below w.heap.size w w') := by
  have HL : Hid (e.h.length = 32) := he.h.1
  have HL2 : Hid (f.h.length = 32) := hf.h.1
  have HE : Hid (EnW e) := he
  have HE2 : Hid (EnW f) := hf
  have HV : Hid (Vl w e.v na nc ka kc) := hv
  have HV2 : Hid (Vl w f.v na2 nc2 ka2 kc2) := hv2
  obtain ⟨th, hth⟩ : ∃ th, Hid (decide (e.h = f.h) = th) := ⟨_, rfl⟩
  have HH : Hid (∀ w, (Op.equalIn 10000 23 (.agg (nums .u8 e.h).toArray) (.agg (nums .u8 f.h).toArray)).run Tryz.prog w = .ok th w) := fun w => by rw [← hth.out]; exact eq_hash he.h hf.h w
  clear he hf hv hv2
  go_enter Tryz.func80, Tryz.ntmps80
  go_wp2_with (refine al_box rfl 45 (.tmp 0) rfl (eC e na nc ka kc) rfl ?_)
  intro g2 w1 l1 B2 G0
  have Z := (Below.refl w.heap.size w).grown G0 (Nat.le_refl _) (by simp)
  clear G0
  go_wp2_with (refine al_box rfl 45 (.tmp 1) rfl (eC f na2 nc2 ka2 kc2) rfl ?_)
  intro g3 w2 l3 B3 G0
  have Z := Z.grown G0 Z.size (by simp)
  have B2 := B2.kept G0 (by simp)
  clear G0
  obtain ⟨a1, a2, a3, a4, a5, a6, a7, a8, a9, a10⟩ := enF_of HL.out B2.all
  obtain ⟨b1, b2, b3, b4, b5, b6, b7, b8, b9, b10⟩ := enF_of HL2.out B3.all
  simp only [Nat.zero_add] at a1 a2 a3 a4 a5 a6 a7 a8 a9 a10 b1 b2 b3 b4 b5 b6 b7 b8 b9 b10
  have A6 : Hid (w2.rangeAt g2 5 (six e.v.1 na nc ka e.v.2.list.length kc)) := a6
  have A7 : Hid (w2.rangeAt g2 11 (nums .u8 e.h)) := a7
  have C6 : Hid (w2.rangeAt g3 5 (six f.v.1 na2 nc2 ka2 f.v.2.list.length kc2)) := b6
  have C7 : Hid (w2.rangeAt g3 11 (nums .u8 f.h)) := b7
  have hHH := HH.out w2
  have HZ : Hid (Below w.heap.size w w2) := Z
  clear a6 a7 b6 b7 B2 B3
  by_cases hk : e.k = f.k
  case neg =>
    obtain rfl : t = false := off_pl ht.out (fun q => hk q.k)
    have hb : (e.k == f.k) = false := beq_eq_false_iff_ne.2 hk
    go_wp2
    go_ret
    exact ⟨rfl, HZ.out⟩
  have Hk : Hid (e.k = f.k) := hk
  rw [← hk] at b1
  clear hk
  by_cases hxt : e.t = f.t
  case neg =>
    obtain rfl : t = false := off_pl ht.out (fun q => hxt q.t)
    have hb : ¬ e.t.toList = f.t.toList := bstr1 hxt
    clear hxt
    go_wp2
    go_ret
    exact ⟨rfl, HZ.out⟩
  have Hxt : Hid (e.t = f.t) := hxt
  rw [← hxt] at b2
  clear hxt
  by_cases htb : e.tb = f.tb
  case neg =>
    obtain rfl : t = false := off_pl ht.out (fun q => htb q.tb)
    have hb : (e.tb == f.tb) = false := beq_eq_false_iff_ne.2 htb
    go_wp2
    go_ret
    exact ⟨rfl, HZ.out⟩
  have Htb : Hid (e.tb = f.tb) := htb
  rw [← htb] at b3
  clear htb
  by_cases hdc : e.dc = f.dc
  case neg =>
    obtain rfl : t = false := off_pl ht.out (fun q => hdc q.dc)
    have hb : (e.dc == f.dc) = false := beq_eq_false_iff_ne.2 hdc
    go_wp2
    go_ret
    exact ⟨rfl, HZ.out⟩
  have Hdc : Hid (e.dc = f.dc) := hdc
  rw [← hdc] at b4
  clear hdc
  by_cases hvr : e.vr = f.vr
  case neg =>
    obtain rfl : t = false := off_pl ht.out (fun q => hvr q.vr)
    have hb : (e.vr == f.vr) = false := beq_eq_false_iff_ne.2 hvr
    go_wp2
    go_ret
    exact ⟨rfl, HZ.out⟩
  have Hvr : Hid (e.vr = f.vr) := hvr
  rw [← hvr] at b5
  clear hvr
  by_cases hh : e.h = f.h
  case neg =>
    obtain rfl : th = false := by rw [← hth.out]; exact decide_eq_false hh
    obtain rfl : t = false := off_pl ht.out (fun q => hh q.h)
    clear hh
    go_wp2_with (first
      | (refine ld_w (by rfl) 23 (.tmp 39) rfl g2 11 rfl (nums .u8 e.h) _ A7.out Tryz.underlying23 rfl (sH HL.out) ?_)
      | (refine ld_w (by rfl) 23 (.tmp 41) rfl g3 11 rfl (nums .u8 f.h) _ C7.out Tryz.underlying23 rfl (sH HL2.out) ?_))
    go_ret
    exact ⟨rfl, HZ.out⟩
  obtain rfl : th = true := by rw [← hth.out]; exact decide_eq_true hh
  have HHh : Hid (e.h = f.h) := hh
  clear hh
  by_cases hg : e.g = f.g
  case neg =>
    obtain rfl : t = false := off_pl ht.out (fun q => hg q.g)
    rcases gstr1 hg with ⟨p, q⟩ | ⟨p, q⟩
    · rw [p] at a8; rw [q] at b8; clear hg p q
      go_wp2_with (first
        | (refine ld_w (by rfl) 23 (.tmp 39) rfl g2 11 rfl (nums .u8 e.h) _ A7.out Tryz.underlying23 rfl (sH HL.out) ?_)
        | (refine ld_w (by rfl) 23 (.tmp 41) rfl g3 11 rfl (nums .u8 f.h) _ C7.out Tryz.underlying23 rfl (sH HL2.out) ?_))
      go_ret
      exact ⟨rfl, HZ.out⟩
    · rw [p] at a8; rw [q] at b8; clear hg p q
      go_wp2_with (first
        | (refine ld_w (by rfl) 23 (.tmp 39) rfl g2 11 rfl (nums .u8 e.h) _ A7.out Tryz.underlying23 rfl (sH HL.out) ?_)
        | (refine ld_w (by rfl) 23 (.tmp 41) rfl g3 11 rfl (nums .u8 f.h) _ C7.out Tryz.underlying23 rfl (sH HL2.out) ?_))
      go_ret
      exact ⟨rfl, HZ.out⟩
  have Hg : Hid (e.g = f.g) := hg
  rw [← hg] at b8
  clear hg
  by_cases hab : e.ab = f.ab
  case neg =>
    obtain rfl : t = false := off_pl ht.out (fun q => hab q.ab)
    have hb : (e.ab == f.ab) = false := beq_eq_false_iff_ne.2 hab
    go_wp2_with (first
      | (refine ld_w (by rfl) 23 (.tmp 39) rfl g2 11 rfl (nums .u8 e.h) _ A7.out Tryz.underlying23 rfl (sH HL.out) ?_)
      | (refine ld_w (by rfl) 23 (.tmp 41) rfl g3 11 rfl (nums .u8 f.h) _ C7.out Tryz.underlying23 rfl (sH HL2.out) ?_))
    go_ret
    exact ⟨rfl, HZ.out⟩
  have Hab : Hid (e.ab = f.ab) := hab
  rw [← hab] at b9
  clear hab
  by_cases hae : e.ae = f.ae
  case neg =>
    obtain rfl : t = false := off_pl ht.out (fun q => hae q.ae)
    have hb : (e.ae == f.ae) = false := beq_eq_false_iff_ne.2 hae
    go_wp2_with (first
      | (refine ld_w (by rfl) 23 (.tmp 39) rfl g2 11 rfl (nums .u8 e.h) _ A7.out Tryz.underlying23 rfl (sH HL.out) ?_)
      | (refine ld_w (by rfl) 23 (.tmp 41) rfl g3 11 rfl (nums .u8 f.h) _ C7.out Tryz.underlying23 rfl (sH HL2.out) ?_))
    go_ret
    exact ⟨rfl, HZ.out⟩
  have Hae : Hid (e.ae = f.ae) := hae
  rw [← hae] at b10
  clear hae
  obtain ⟨tv, HTV⟩ : ∃ tv : Bool, Hid (tv = true ↔ e.v = nv) := by
    by_cases h : e.v = nv
    · exact ⟨true, ⟨fun _ => h, fun _ => rfl⟩⟩
    · exact ⟨false, ⟨fun q => (by cases q), fun q => absurd q h⟩⟩
  have KE := empty_any e.v HE.out.v na nc ka kc w2 (HV.out.below Z) tv HTV
  go_wp2_with (first
    | (refine ld_w (by rfl) 23 (.tmp 39) rfl g2 11 rfl (nums .u8 e.h) _ A7.out Tryz.underlying23 rfl (sH HL.out) ?_)
    | (refine ld_w (by rfl) 23 (.tmp 41) rfl g3 11 rfl (nums .u8 f.h) _ C7.out Tryz.underlying23 rfl (sH HL2.out) ?_)
    | (refine ld_w (by rfl) 41 (.tmp 60) rfl g2 5 rfl (six e.v.1 na nc ka e.v.2.list.length kc) _ A6.out Tryz.underlying41 rfl (szV _ _ _ _ _ _) ?_))
  refine KE.mono ?_
  rintro e' w3 ⟨rfl, H⟩
  obtain rfl : t = tv := by
    refine Bool.eq_iff_iff.2 ?_
    rw [ht.out, HTV.out]
    exact ⟨fun q => q.v, fun q => ⟨Hk.out, Hxt.out, Htb.out, Hdc.out, Hvr.out, HHh.out, Hg.out, Hab.out, Hae.out, q⟩⟩
  have HF : Hid (Below w.heap.size w w3) := Z.trans (H.out.mono Z.size)
  clear KE H Z A6 A7 C6 C7 HV HV2 hHH a1 a2 a3 a4 a5 a8 a9 a10 b1 b2 b3 b4 b5 b8 b9 b10
  go_wp2
  go_ret
  exact ⟨rfl, HF.out⟩
end Go.Proofs.YtlefdnjokppibaaGreatDoor.Sh
