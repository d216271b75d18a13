/-
  The document's own reader of order: value, at what has no kids.
-/
import Derived.Test.YtmlfhplhiedfjaaGreatDoorOG43x
namespace Go.Proofs.YtmlfhplhiedfjaaGreatDoor
open Go.RowKit Math
set_option linter.unusedVariables false
set_option linter.unusedSimpArgs false
theorem suf_size {a b : ByteArray} (h : ∃ c, bts a = c ++ bts b) : b.size ≤ a.size := by
  obtain ⟨c, e⟩ := h
  have := congrArg List.length e
  rw [List.length_append, bts_len, bts_len] at this
  omega
set_option maxRecDepth 8000 in
set_option maxHeartbeats 2000000 in
theorem rvalue_deep (dp : Int) (hdp : 16 < dp) (hdp2 : dp ≤ 100) (r : Nat) (s : ByteArray) (bad : Bool) (W : World) (hN : s.size ≤ 100000) (hb : Blk W r 62 (QC s bad)) :
    Calls Tryz.prog 28 #[.pointer (some ⟨r, 0, none⟩), .int .i64 dp] W fun e w' => ∃ p na nc ka kc s' bad', e = .returned (.agg #[.int .i64 p.1.k, .int .i64 p.1.n, .int .i64 p.1.s, .string p.1.t, .slice na p.1.ns.length nc, .slice ka p.2.list.length kc]) ∧ Hid (Po dp r W w' s bad p na nc ka kc s' bad') := by
  have hrW : r < W.heap.size := hb.lt
  have HB : Hid (Blk W r 62 (QC s bad)) := hb
  have hd : decide ((16 : Int) < dp) = true := decide_eq_true hdp
  clear hb
  go_enter Tryz.func28, Tryz.ntmps28
  go_wp2_with (refine al_zero rfl 38 rfl zer zV ?_)
  intro g4 w1 hg4 b1 gr1
  have HK1 : Hid (Kq r W w1 s bad) := ⟨HB.out.kept gr1 (by simp), ⟨gr1.os, gr1.tape, gr1.output, gr1.size, fun x hx hne => gr1.block x hx (by simp)⟩⟩
  have HZ1 : Hid (Blk w1 g4 38 zer) := b1
  clear b1 gr1 HB
  go_wp2_with (refine st_one rfl 4 (.tmp 13) (.const (.bool true)) rfl r 1 62 _ (.bool true) rfl rfl rfl rfl (by simp) HK1.out.blk s4 ?_)
  intro w2 b2 gr2
  have HK : Hid (Kq r W w2 s true) := ⟨b2, HK1.out.gr.trans gr2⟩
  have HZ : Hid (Blk w2 g4 38 zer) := HZ1.out.kept gr2 (by intro e; injection e with e; omega)
  clear b2 gr2 HK1 HZ1
  go_wp2_with (refine st_all rfl 38 (.tmp 4) (.tmp 14) rfl g4 38 zer [.int .i64 0, .int .i64 0, .int .i64 0, .string ⟨#[]⟩, .slice none 0 0, .slice none 0 0] rfl rfl HZ.out rfl sV (D6.ones rfl) ?_)
  intro w9 b9 g9
  have HB9 : Hid (Blk w9 g4 38 [.int .i64 0, .int .i64 0, .int .i64 0, .string ⟨#[]⟩, .slice none 0 0, .slice none 0 0]) := b9
  have HQ : Hid (Po dp r W w9 s bad (⟨0, 0, 0, ⟨#[]⟩, []⟩, .nil) none 0 none 0 s true) := ⟨HK.out.kept g9 hg4 hrW, ⟨[], vl_leaf _ _ _ _ _, fun x hx => by cases hx⟩, wf_leaf 0 0 0 ⟨#[]⟩ (by omega) (by omega) (by omega) (by omega) (by omega) (by omega) (by decide), vr_deep hdp ⟨[], rfl⟩, Nat.le_refl _, fun e => by cases e⟩
  clear b9 g9 HZ HK
  go_wp2
  exact bodyPost_ret (D6.res_row rfl _ g4 38 _ _ rfl HB9.out Tryz.underlying38 rfl sV) rfl ⟨_, none, 0, none, 0, s, true, rfl, HQ.out⟩
set_option maxRecDepth 8000 in
set_option maxHeartbeats 8000000 in
theorem rvalue_step (dp : Int) (hdp : 0 ≤ dp) (hdp2 : dp ≤ 16) (VC : Hid (PvC (dp + 1))) (r : Nat) (s : ByteArray) (bad : Bool) (W : World) (hN : s.size ≤ 100000) (hb : Blk W r 62 (QC s bad)) :
    Calls Tryz.prog 28 #[.pointer (some ⟨r, 0, none⟩), .int .i64 dp] W fun e w' => ∃ p na nc ka kc s' bad', e = .returned (.agg #[.int .i64 p.1.k, .int .i64 p.1.n, .int .i64 p.1.s, .string p.1.t, .slice na p.1.ns.length nc, .slice ka p.2.list.length kc]) ∧ Hid (Po dp r W w' s bad p na nc ka kc s' bad') := by
  have hrW : r < W.heap.size := hb.lt
  have HB : Hid (Blk W r 62 (QC s bad)) := hb
  have hd : decide ((16 : Int) < dp) = false := decide_eq_false (by omega)
  clear hb
  go_enter Tryz.func28, Tryz.ntmps28
  go_wp2_with (refine al_zero rfl 38 rfl zer zV ?_)
  intro g4 w0 hg4 b0 gr0
  have HK0 : Hid (Kq r W w0 s bad) := ⟨HB.out.kept gr0 (by simp), ⟨gr0.os, gr0.tape, gr0.output, gr0.size, fun x hx hne => gr0.block x hx (by simp)⟩⟩
  have HZ0 : Hid (Blk w0 g4 38 zer) := b0
  have hg4l : g4 < w0.heap.size := b0.lt
  clear b0 gr0 HB
  go_wp2_with (refine al_zero rfl 38 rfl zer zV ?_)
  intro g5 w1 hg5 b1 gr1
  have HK1 : Hid (Kq r W w1 s bad) := HK0.out.new gr1
  have HZ1 : Hid (Blk w1 g4 38 zer) := HZ0.out.kept gr1 (by simp)
  have HV1 : Hid (Blk w1 g5 38 zer) := b1
  have hWg5 : W.heap.size ≤ g5 := by have := HK0.out.gr.size; omega
  clear b1 gr1 HK0 HZ0
  have K := one_any r s bad w1 (by omega) HK1.out.blk
  go_wp2_with fail
  refine K.mono ?_
  rintro e w2 ⟨x, s1, b1, rfl, H2⟩
  have HK2 : Hid (Kq r W w2 s1 b1) := HK1.out.trans H2.out.1
  have HZ2 : Hid (Blk w2 g4 38 zer) := HZ1.out.kept H2.out.1.gr (by intro e; injection e with e; omega)
  have HV2 : Hid (Blk w2 g5 38 zer) := HV1.out.kept H2.out.1.gr (by intro e; injection e with e; omega)
  have HR1 : Hid (Rb (bts s) bad (bts s1) b1 x) := H2.out.2.1
  have hx : x < 256 := H2.out.2.2.1
  have hs1 : s1.size ≤ s.size := H2.out.2.2.2.1
  have HL1 : Hid (b1 = false → s1.size + 1 ≤ s.size) := fun e => by
    have h := H2.out.2.1
    rw [e] at h
    have := rb_len1 h
    rw [bts_len, bts_len] at this
    exact this
  clear K H2 HK1 HZ1 HV1
  by_cases c16 : x = 16
  · subst c16
    go_wp2_with (refine st_one rfl 3 (.tmp 22) (.const (.int .i64 1)) rfl g5 0 38 _ (.int .i64 1) rfl rfl rfl rfl (by simp [zer]) HV2.out s3 ?_)
    intro w3 b3 gr3
    obtain ⟨sx, hsx⟩ : ∃ sx, sx = s1 := ⟨_, rfl⟩
    obtain ⟨bx, hbx⟩ : ∃ bx, bx = b1 := ⟨_, rfl⟩
    subst hsx hbx
    have HK : Hid (Kq r W w3 sx bx) := HK2.out.kept gr3 hWg5 hrW
    have HZ4 : Hid (Blk w3 g4 38 zer) := HZ2.out.kept gr3 (by intro e; injection e with e; omega)
    have HB5 : Hid (Blk w3 g5 38 [.int .i64 1, .int .i64 0, .int .i64 0, .string ⟨#[]⟩, .slice none 0 0, .slice none 0 0]) := b3
    have HWF : Hid (WfV (⟨1, 0, 0, ⟨#[]⟩, []⟩, .nil)) := wf_leaf 1 0 0 ⟨#[]⟩ (by omega) (by omega) (by omega) (by omega) (by omega) (by omega) (by decide)
    have HVR : Hid (Vr False dp (bts s) bad (bts sx) bx (⟨1, 0, 0, ⟨#[]⟩, []⟩, .nil)) := vr_null HR1.out
    have HSZ : Hid (sx.size ≤ s.size) := hs1
    have HKB : Hid (bx = false → (keyV (⟨1, 0, 0, ⟨#[]⟩, []⟩, .nil)).length + 30 * sx.size ≤ 30 * s.size) := fun e => by
      have h1 := leaf_len 1 0 0 ⟨#[]⟩ (by omega)
      have h2 := HL1.out e
      have h3 : (⟨#[]⟩ : ByteArray).size = 0 := rfl
      omega
    clear b3 gr3 HK2 HZ2 HV2 HR1 HL1
    go_wp2_with (first
      | refine D6.ld_all rfl 38 (.tmp 5) rfl g5 38 _ _ rfl HB5.out Tryz.underlying38 rfl sV ?_
      | refine st_all rfl 38 (.tmp 4) (.tmp 145) rfl g4 38 zer [.int .i64 1, .int .i64 0, .int .i64 0, .string ⟨#[]⟩, .slice none 0 0, .slice none 0 0] rfl rfl HZ4.out rfl sV (D6.ones rfl) ?_)
    intro w9 b9 g9
    have HB9 : Hid (Blk w9 g4 38 [.int .i64 1, .int .i64 0, .int .i64 0, .string ⟨#[]⟩, .slice none 0 0, .slice none 0 0]) := b9
    have HQ : Hid (Po dp r W w9 s bad (⟨1, 0, 0, ⟨#[]⟩, []⟩, .nil) none 0 none 0 sx bx) := ⟨HK.out.kept g9 hg4 hrW, ⟨[], vl_leaf _ _ _ _ _, fun x hx => by cases hx⟩, HWF.out, HVR.out, HSZ.out, HKB.out⟩
    clear b9 g9 HZ4 HK HB5 HWF HVR HSZ HKB
    go_wp2
    exact bodyPost_ret (D6.res_row rfl _ g4 38 _ _ rfl HB9.out Tryz.underlying38 rfl sV) rfl ⟨_, none, 0, none, 0, sx, bx, rfl, HQ.out⟩
  by_cases c32 : x = 32
  · subst c32
    have K := one_any r s1 b1 w2 (by omega) HK2.out.blk
    go_wp2_with fail
    refine K.mono ?_
    rintro e w3 ⟨y, sx, bx, rfl, H3⟩
    have HK3 : Hid (Kq r W w3 sx bx) := HK2.out.trans H3.out.1
    have HZ3 : Hid (Blk w3 g4 38 zer) := HZ2.out.kept H3.out.1.gr (by intro e; injection e with e; omega)
    have HV3 : Hid (Blk w3 g5 38 zer) := HV2.out.kept H3.out.1.gr (by intro e; injection e with e; omega)
    have hy : y < 256 := H3.out.2.2.1
    have hcy : IntKind.i64.wrap (y : Int) = (y : Int) := by rw [IntKind.wrap_i64]; omega
    have HWF : Hid (WfV (⟨2, (y : Int), 0, ⟨#[]⟩, []⟩, .nil)) := wf_leaf 2 (y : Int) 0 ⟨#[]⟩ (by omega) (by omega) (by omega) (by omega) (by omega) (by omega) (by decide)
    have HVR : Hid (Vr False dp (bts s) bad (bts sx) bx (⟨2, (y : Int), 0, ⟨#[]⟩, []⟩, .nil)) := vr_bool HR1.out H3.out.2.1
    have HSZ : Hid (sx.size ≤ s.size) := Nat.le_trans H3.out.2.2.2.1 hs1
    have HKB : Hid (bx = false → (keyV (⟨2, (y : Int), 0, ⟨#[]⟩, []⟩, .nil)).length + 30 * sx.size ≤ 30 * s.size) := fun e => by
      have h1 := leaf_len 2 (y : Int) 0 ⟨#[]⟩ (by omega)
      have h2 := HL1.out ((H3.out.2.1.so e).1)
      have h3 : (⟨#[]⟩ : ByteArray).size = 0 := rfl
      have h4 := H3.out.2.2.2.1
      omega
    clear K H3 HK2 HZ2 HV2 HR1 HL1
    go_wp2_with (refine st_all rfl 38 (.tmp 5) (.tmp 28) rfl g5 38 zer [.int .i64 2, .int .i64 (y : Int), .int .i64 0, .string ⟨#[]⟩, .slice none 0 0, .slice none 0 0] rfl rfl HV3.out rfl sV (D6.ones rfl) ?_)
    intro w4 b4 gr4
    have HK : Hid (Kq r W w4 sx bx) := HK3.out.kept gr4 hWg5 hrW
    have HZ4 : Hid (Blk w4 g4 38 zer) := HZ3.out.kept gr4 (by intro e; injection e with e; omega)
    have HB5 : Hid (Blk w4 g5 38 [.int .i64 2, .int .i64 (y : Int), .int .i64 0, .string ⟨#[]⟩, .slice none 0 0, .slice none 0 0]) := b4
    clear b4 gr4 HK3 HZ3 HV3
    go_wp2_with (first
      | refine D6.ld_all rfl 38 (.tmp 5) rfl g5 38 _ _ rfl HB5.out Tryz.underlying38 rfl sV ?_
      | refine st_all rfl 38 (.tmp 4) (.tmp 145) rfl g4 38 zer [.int .i64 2, .int .i64 (y : Int), .int .i64 0, .string ⟨#[]⟩, .slice none 0 0, .slice none 0 0] rfl rfl HZ4.out rfl sV (D6.ones rfl) ?_)
    intro w9 b9 g9
    have HB9 : Hid (Blk w9 g4 38 [.int .i64 2, .int .i64 (y : Int), .int .i64 0, .string ⟨#[]⟩, .slice none 0 0, .slice none 0 0]) := b9
    have HQ : Hid (Po dp r W w9 s bad (⟨2, (y : Int), 0, ⟨#[]⟩, []⟩, .nil) none 0 none 0 sx bx) := ⟨HK.out.kept g9 hg4 hrW, ⟨[], vl_leaf _ _ _ _ _, fun x hx => by cases hx⟩, HWF.out, HVR.out, HSZ.out, HKB.out⟩
    clear b9 g9 HZ4 HK HB5 HWF HVR HSZ HKB
    go_wp2
    exact bodyPost_ret (D6.res_row rfl _ g4 38 _ _ rfl HB9.out Tryz.underlying38 rfl sV) rfl ⟨_, none, 0, none, 0, sx, bx, rfl, HQ.out⟩
  by_cases c48 : x = 48
  · subst c48
    have K := rnumber_any r s1 b1 w2 (by omega) HK2.out.blk
    go_wp2_with fail
    refine K.mono ?_
    rintro e w3 ⟨h, sx, bx, rfl, H3⟩
    have HK : Hid (Kq r W w3 sx bx) := HK2.out.trans H3.out.1
    have HZ : Hid (Blk w3 g4 38 zer) := HZ2.out.kept H3.out.1.gr (by intro e; injection e with e; omega)
    have HQ0 : Hid (WfV (⟨h.k, h.n, h.s, ⟨#[]⟩, []⟩, .nil) ∧ Vr False dp (bts s) bad (bts sx) bx (⟨h.k, h.n, h.s, ⟨#[]⟩, []⟩, .nil) ∧ sx.size ≤ s.size ∧ (bx = false → (keyV (⟨h.k, h.n, h.s, ⟨#[]⟩, []⟩, .nil)).length + 30 * sx.size ≤ 30 * s.size)) := by
      have N := H3.out.2.1
      have e : (⟨h.k, h.n, h.s, ⟨#[]⟩, []⟩ : Hd) = h := hd_eq rfl rfl rfl N.t.symm N.ns.symm
      refine ⟨wf_leaf h.k h.n h.s ⟨#[]⟩ N.ok.k0 N.ok.k1 N.ok.n0 N.ok.n1 N.ok.s0 N.ok.s1 (by decide), ?_, Nat.le_trans H3.out.2.2.2 hs1, fun eb => ?_⟩
      · rw [e]
        exact vr_num HR1.out (H3.out.2.2.1.weak (fun f => f.1)) fun f _ => f.elim
      · have h1 := leaf_len h.k h.n h.s ⟨#[]⟩ (by rcases N.k with a | a | a <;> omega)
        have h2 := HL1.out ((H3.out.2.2.1.so eb).1)
        have h3 : (⟨#[]⟩ : ByteArray).size = 0 := rfl
        have h4 := H3.out.2.2.2
        omega
    clear K H3 HK2 HZ2 HV2 HR1 HL1
    go_wp2_with (refine st_all rfl 38 (.tmp 4) (.tmp 32) rfl g4 38 zer [.int .i64 h.k, .int .i64 h.n, .int .i64 h.s, .string ⟨#[]⟩, .slice none 0 0, .slice none 0 0] rfl rfl HZ.out rfl sV (D6.ones rfl) ?_)
    intro w9 b9 g9
    have HB9 : Hid (Blk w9 g4 38 [.int .i64 h.k, .int .i64 h.n, .int .i64 h.s, .string ⟨#[]⟩, .slice none 0 0, .slice none 0 0]) := b9
    have HQ : Hid (Po dp r W w9 s bad (⟨h.k, h.n, h.s, ⟨#[]⟩, []⟩, .nil) none 0 none 0 sx bx) := ⟨HK.out.kept g9 hg4 hrW, ⟨[], vl_leaf _ _ _ _ _, fun x hx => by cases hx⟩, HQ0.out.1, HQ0.out.2.1, HQ0.out.2.2.1, HQ0.out.2.2.2⟩
    clear b9 g9 HZ HK HQ0
    go_wp2
    exact bodyPost_ret (D6.res_row rfl _ g4 38 _ _ rfl HB9.out Tryz.underlying38 rfl sV) rfl ⟨_, none, 0, none, 0, sx, bx, rfl, HQ.out⟩
  by_cases c64 : x = 64
  · subst c64
    go_wp2_with (refine st_one rfl 3 (.tmp 35) (.const (.int .i64 5)) rfl g5 0 38 _ (.int .i64 5) rfl rfl rfl rfl (by simp [zer]) HV2.out s3 ?_)
    intro w3 b3 gr3
    have HK3 : Hid (Kq r W w3 s1 b1) := HK2.out.kept gr3 hWg5 hrW
    have HZ3 : Hid (Blk w3 g4 38 zer) := HZ2.out.kept gr3 (by intro e; injection e with e; omega)
    have HV3 : Hid (Blk w3 g5 38 [.int .i64 5, .int .i64 0, .int .i64 0, .string ⟨#[]⟩, .slice none 0 0, .slice none 0 0]) := b3
    clear b3 gr3 HK2 HZ2 HV2
    have c0 : w3.cell? ⟨r, 0, none⟩ = some (.string s1) := HK3.out.blk.cell 0
    by_cases h8 : s1.size < 8
    · have h8b : decide ((s1.size : Int) < 8) = true := decide_eq_true (by omega)
      have HVR : Hid (Vr False dp (bts s) bad (bts s1) true (⟨5, 0, 0, ⟨#[]⟩, []⟩, .nil)) := vr_time HR1.out ((rdT_no (by rw [bts_len]; exact h8) 0).weak (fun f => f.1.elim))
      have HWF : Hid (WfV (⟨5, 0, 0, ⟨#[]⟩, []⟩, .nil)) := wf_leaf 5 0 0 ⟨#[]⟩ (by omega) (by omega) (by omega) (by omega) (by omega) (by omega) (by decide)
      clear HR1 HL1
      go_wp2_with (refine st_one rfl 4 (.tmp 44) (.const (.bool true)) rfl r 1 62 _ (.bool true) rfl rfl rfl rfl (by simp) HK3.out.blk s4 ?_)
      intro w4 b4 gr4
      have HK : Hid (Kq r W w4 s1 true) := ⟨b4, HK3.out.gr.trans gr4⟩
      have HZ4 : Hid (Blk w4 g4 38 zer) := HZ3.out.kept gr4 (by intro e; injection e with e; omega)
      have HB5 : Hid (Blk w4 g5 38 [.int .i64 5, .int .i64 0, .int .i64 0, .string ⟨#[]⟩, .slice none 0 0, .slice none 0 0]) := HV3.out.kept gr4 (by intro e; injection e with e; omega)
      clear b4 gr4 HK3 HZ3 HV3 c0
      go_wp2_with (first
        | refine D6.ld_all rfl 38 (.tmp 5) rfl g5 38 _ _ rfl HB5.out Tryz.underlying38 rfl sV ?_
        | refine st_all rfl 38 (.tmp 4) (.tmp 45) rfl g4 38 zer [.int .i64 5, .int .i64 0, .int .i64 0, .string ⟨#[]⟩, .slice none 0 0, .slice none 0 0] rfl rfl HZ4.out rfl sV (D6.ones rfl) ?_)
      intro w9 b9 g9
      have HB9 : Hid (Blk w9 g4 38 [.int .i64 5, .int .i64 0, .int .i64 0, .string ⟨#[]⟩, .slice none 0 0, .slice none 0 0]) := b9
      have HQ : Hid (Po dp r W w9 s bad (⟨5, 0, 0, ⟨#[]⟩, []⟩, .nil) none 0 none 0 s1 true) := ⟨HK.out.kept g9 hg4 hrW, ⟨[], vl_leaf _ _ _ _ _, fun x hx => by cases hx⟩, HWF.out, HVR.out, hs1, fun e => by cases e⟩
      clear b9 g9 HZ4 HK HB5 HWF HVR
      go_wp2
      exact bodyPost_ret (D6.res_row rfl _ g4 38 _ _ rfl HB9.out Tryz.underlying38 rfl sV) rfl ⟨_, none, 0, none, 0, s1, true, rfl, HQ.out⟩
    · have h8b : decide ((s1.size : Int) < 8) = false := decide_eq_false (by omega)
      have hSs : (s1.extract 0 8).size = 8 := by simp [ByteArray.size_extract]; omega
      have hSb : bts (s1.extract 0 8) = (bts s1).take 8 := bts_take s1 8 (by omega)
      have hSr : bts (s1.extract 8 s1.size) = (bts s1).drop 8 := bts_rest s1 8 (by omega)
      have hSz : (s1.extract 8 s1.size).size + 8 = s1.size := by simp [ByteArray.size_extract]; omega
      have hnl := num_lt (bts (s1.extract 0 8)) (bts_oct _)
      rw [bts_len, hSs] at hnl
      have hnl2 : num (bts (s1.extract 0 8)) < 18446744073709551616 := hnl
      have HT8 : Hid (RdT (bts s1) b1 (bts (s1.extract 8 s1.size)) b1 (wrap64 ((num (bts (s1.extract 0 8)) : Nat) : Int))) := rdT_mk (by rw [hSb, hSr, List.take_append_drop]) (by rw [bts_len]; exact hSs) (bts_oct _)
      have HSz : Hid ((s1.extract 8 s1.size).size + 8 = s1.size) := hSz
      clear hnl hSb hSr hSz
      obtain ⟨S, hS⟩ : ∃ S, S = s1.extract 0 8 := ⟨_, rfl⟩
      obtain ⟨sx, hsx⟩ : ∃ sx, sx = s1.extract 8 s1.size := ⟨_, rfl⟩
      rw [← hS] at hSs hnl2 HT8
      rw [← hsx] at HT8 HSz
      obtain ⟨c, w4, hcv, hc1, hc2, hbl, hcl, hfz⟩ := conv_sb S (by omega) w3
      have HK4 : Hid (Kq r W w4 s1 b1) := HK3.out.then hbl
      have HZ4 : Hid (Blk w4 g4 38 zer) := HZ3.out.below hbl HZ3.out.lt
      have HV4 : Hid (Blk w4 g5 38 [.int .i64 5, .int .i64 0, .int .i64 0, .string ⟨#[]⟩, .slice none 0 0, .slice none 0 0]) := HV3.out.below hbl HV3.out.lt
      have K := rbr_any (some ⟨w3.heap.size, 0, none⟩) c (bts S) (by rw [bts_len]; omega) (by rw [bts_len]; exact hc1) hc2 w4 (.inr ⟨_, _, rfl, hcl⟩) (bts_oct S)
      rw [show rbg (bts S) = (num (bts S), 0) by unfold rbg; rw [if_neg (by rw [bts_len]; omega), List.take_of_length_le (by rw [bts_len]; omega)], bts_len, hSs] at K
      rw [hSs] at hcv
      rw [hS] at hcv
      have K2 : Calls Tryz.prog 49 #[.slice (some ⟨w3.heap.size, 0, none⟩) 8 c] w4 fun e w' => e = .returned (.tuple #[.int .u64 ((num (bts S) : Nat) : Int), .int .i64 0]) ∧ ∃ q, w' = w4.drewN q := K
      have HBx : Hid (b1 = false → s1.size + 1 ≤ s.size) := HL1.out
      clear K hcl hfz hbl HK3 HZ3 HV3 hS
      generalize num (bts S) = u at *
      go_wp2_with fail
      refine K2.mono ?_
      rintro e w5 ⟨rfl, q, rfl⟩
      have HK5 : Hid (Kq r W (w4.drewN q) s1 b1) := ⟨HK4.out.blk.dq q, HK4.out.gr.trans (grown_dq _ _ _)⟩
      have HZ5 : Hid (Blk (w4.drewN q) g4 38 zer) := HZ4.out.dq q
      have HV5 : Hid (Blk (w4.drewN q) g5 38 [.int .i64 5, .int .i64 0, .int .i64 0, .string ⟨#[]⟩, .slice none 0 0, .slice none 0 0]) := HV4.out.dq q
      generalize w4.drewN q = w5 at *
      clear K2 HK4 HZ4 HV4 hcv c0
      have d0 : w5.cell? ⟨r, 0, none⟩ = some (.string s1) := HK5.out.blk.cell 0
      go_wp2_with (refine st_one rfl 9 (.tmp 63) (.tmp 61) rfl r 0 62 _ (.string sx) rfl (by first | rfl | (rw [hsx]; rfl)) rfl rfl (by simp) HK5.out.blk s9 ?_)
      intro w6 b6 gr6
      have HK6 : Hid (Kq r W w6 sx b1) := ⟨by rw [hsx]; exact b6, HK5.out.gr.trans gr6⟩
      have HZ6 : Hid (Blk w6 g4 38 zer) := HZ5.out.kept gr6 (by intro e; injection e with e; omega)
      have HV6 : Hid (Blk w6 g5 38 [.int .i64 5, .int .i64 0, .int .i64 0, .string ⟨#[]⟩, .slice none 0 0, .slice none 0 0]) := HV5.out.kept gr6 (by intro e; injection e with e; omega)
      clear b6 gr6 HK5 HZ5 HV5 d0 hsx
      obtain ⟨n, hn⟩ : ∃ n : Int, n = wrap64 (u : Int) := ⟨_, rfl⟩
      have hnb : -9223372036854775808 ≤ n ∧ n < 9223372036854775808 := by rw [hn]; unfold wrap64; omega
      have HN : Hid (n = wrap64 (u : Int)) := hn
      rw [← hn] at HT8
      clear hn
      go_wp2_with (refine st_one rfl 3 (.tmp 66) (.tmp 65) rfl g5 1 38 _ (.int .i64 (wrap64 (u : Int))) rfl rfl rfl rfl (by simp) HV6.out s3 ?_)
      intro w7 b7 gr7
      have b7' : Blk w7 g5 38 [.int .i64 5, .int .i64 (wrap64 (u : Int)), .int .i64 0, .string ⟨#[]⟩, .slice none 0 0, .slice none 0 0] := b7
      rw [← HN.out] at b7'
      obtain ⟨bx, hbx⟩ : ∃ bx, bx = b1 := ⟨_, rfl⟩
      subst hbx
      have HK : Hid (Kq r W w7 sx bx) := HK6.out.kept gr7 hWg5 hrW
      have HZ4 : Hid (Blk w7 g4 38 zer) := HZ6.out.kept gr7 (by intro e; injection e with e; omega)
      have HB5 : Hid (Blk w7 g5 38 [.int .i64 5, .int .i64 n, .int .i64 0, .string ⟨#[]⟩, .slice none 0 0, .slice none 0 0]) := b7'
      have HWF : Hid (WfV (⟨5, n, 0, ⟨#[]⟩, []⟩, .nil)) := wf_leaf 5 n 0 ⟨#[]⟩ (by omega) (by omega) hnb.1 hnb.2 (by omega) (by omega) (by decide)
      have HVR : Hid (Vr False dp (bts s) bad (bts sx) bx (⟨5, n, 0, ⟨#[]⟩, []⟩, .nil)) := vr_time HR1.out (HT8.out.weak (fun f => f.1.elim))
      have HSZ : Hid (sx.size ≤ s.size) := by show _ ≤ _; have := HSz.out; omega
      have HKB : Hid (bx = false → (keyV (⟨5, n, 0, ⟨#[]⟩, []⟩, .nil)).length + 30 * sx.size ≤ 30 * s.size) := fun e => by
        have h1 := leaf_len 5 n 0 ⟨#[]⟩ (by omega)
        have h2 := HBx.out e
        have h3 : (⟨#[]⟩ : ByteArray).size = 0 := rfl
        have h4 := HSz.out
        omega
      clear b7 b7' gr7 HK6 HZ6 HV6 HR1 HL1 HT8 HSz HBx HN
      go_wp2_with (first
        | refine D6.ld_all rfl 38 (.tmp 5) rfl g5 38 _ _ rfl HB5.out Tryz.underlying38 rfl sV ?_
        | refine st_all rfl 38 (.tmp 4) (.tmp 145) rfl g4 38 zer [.int .i64 5, .int .i64 n, .int .i64 0, .string ⟨#[]⟩, .slice none 0 0, .slice none 0 0] rfl rfl HZ4.out rfl sV (D6.ones rfl) ?_)
      intro w9 b9 g9
      have HB9 : Hid (Blk w9 g4 38 [.int .i64 5, .int .i64 n, .int .i64 0, .string ⟨#[]⟩, .slice none 0 0, .slice none 0 0]) := b9
      have HQ : Hid (Po dp r W w9 s bad (⟨5, n, 0, ⟨#[]⟩, []⟩, .nil) none 0 none 0 sx bx) := ⟨HK.out.kept g9 hg4 hrW, ⟨[], vl_leaf _ _ _ _ _, fun x hx => by cases hx⟩, HWF.out, HVR.out, HSZ.out, HKB.out⟩
      clear b9 g9 HZ4 HK HB5 HWF HVR HSZ HKB
      go_wp2
      exact bodyPost_ret (D6.res_row rfl _ g4 38 _ _ rfl HB9.out Tryz.underlying38 rfl sV) rfl ⟨_, none, 0, none, 0, sx, bx, rfl, HQ.out⟩
  by_cases c80 : x = 80
  · subst c80
    have K := rtext_any r s1 b1 w2 (by omega) HK2.out.blk
    go_wp2_with fail
    refine K.mono ?_
    rintro e w3 ⟨t, sx, bx, rfl, H3⟩
    have HK3 : Hid (Kq r W w3 sx bx) := HK2.out.trans H3.out.1
    have HZ3 : Hid (Blk w3 g4 38 zer) := HZ2.out.kept H3.out.1.gr (by intro e; injection e with e; omega)
    have HV3 : Hid (Blk w3 g5 38 zer) := HV2.out.kept H3.out.1.gr (by intro e; injection e with e; omega)
    have HWF : Hid (WfV (⟨6, 0, 0, t, []⟩, .nil)) := wf_leaf 6 0 0 t (by omega) (by omega) (by omega) (by omega) (by omega) (by omega) (by have := H3.out.2.2.1; omega)
    have HVR : Hid (Vr False dp (bts s) bad (bts sx) bx (⟨6, 0, 0, t, []⟩, .nil)) := vr_text 6 80 (.inl ⟨rfl, rfl⟩) HR1.out H3.out.2.1
    have HSZ : Hid (sx.size ≤ s.size) := Nat.le_trans H3.out.2.2.2.1 hs1
    have HKB : Hid (bx = false → (keyV (⟨6, 0, 0, t, []⟩, .nil)).length + 30 * sx.size ≤ 30 * s.size) := fun e => by
      have h1 := leaf_len 6 0 0 t (by omega)
      have h2 := HL1.out ((H3.out.2.1.so e).1)
      have h4 := H3.out.2.2.2.2 e
      omega
    clear K H3 HK2 HZ2 HV2 HR1 HL1
    go_wp2_with (refine st_all rfl 38 (.tmp 5) (.tmp 71) rfl g5 38 zer [.int .i64 6, .int .i64 0, .int .i64 0, .string t, .slice none 0 0, .slice none 0 0] rfl rfl HV3.out rfl sV (D6.ones rfl) ?_)
    intro w4 b4 gr4
    have HK : Hid (Kq r W w4 sx bx) := HK3.out.kept gr4 hWg5 hrW
    have HZ4 : Hid (Blk w4 g4 38 zer) := HZ3.out.kept gr4 (by intro e; injection e with e; omega)
    have HB5 : Hid (Blk w4 g5 38 [.int .i64 6, .int .i64 0, .int .i64 0, .string t, .slice none 0 0, .slice none 0 0]) := b4
    clear b4 gr4 HK3 HZ3 HV3
    go_wp2_with (first
      | refine D6.ld_all rfl 38 (.tmp 5) rfl g5 38 _ _ rfl HB5.out Tryz.underlying38 rfl sV ?_
      | refine st_all rfl 38 (.tmp 4) (.tmp 145) rfl g4 38 zer [.int .i64 6, .int .i64 0, .int .i64 0, .string t, .slice none 0 0, .slice none 0 0] rfl rfl HZ4.out rfl sV (D6.ones rfl) ?_)
    intro w9 b9 g9
    have HB9 : Hid (Blk w9 g4 38 [.int .i64 6, .int .i64 0, .int .i64 0, .string t, .slice none 0 0, .slice none 0 0]) := b9
    have HQ : Hid (Po dp r W w9 s bad (⟨6, 0, 0, t, []⟩, .nil) none 0 none 0 sx bx) := ⟨HK.out.kept g9 hg4 hrW, ⟨[], vl_leaf _ _ _ _ _, fun x hx => by cases hx⟩, HWF.out, HVR.out, HSZ.out, HKB.out⟩
    clear b9 g9 HZ4 HK HB5 HWF HVR HSZ HKB
    go_wp2
    exact bodyPost_ret (D6.res_row rfl _ g4 38 _ _ rfl HB9.out Tryz.underlying38 rfl sV) rfl ⟨_, none, 0, none, 0, sx, bx, rfl, HQ.out⟩
  by_cases c96 : x = 96
  · subst c96
    have K := rtext_any r s1 b1 w2 (by omega) HK2.out.blk
    go_wp2_with fail
    refine K.mono ?_
    rintro e w3 ⟨t, sx, bx, rfl, H3⟩
    have HK3 : Hid (Kq r W w3 sx bx) := HK2.out.trans H3.out.1
    have HZ3 : Hid (Blk w3 g4 38 zer) := HZ2.out.kept H3.out.1.gr (by intro e; injection e with e; omega)
    have HV3 : Hid (Blk w3 g5 38 zer) := HV2.out.kept H3.out.1.gr (by intro e; injection e with e; omega)
    have HWF : Hid (WfV (⟨7, 0, 0, t, []⟩, .nil)) := wf_leaf 7 0 0 t (by omega) (by omega) (by omega) (by omega) (by omega) (by omega) (by have := H3.out.2.2.1; omega)
    have HVR : Hid (Vr False dp (bts s) bad (bts sx) bx (⟨7, 0, 0, t, []⟩, .nil)) := vr_text 7 96 (.inr ⟨rfl, rfl⟩) HR1.out H3.out.2.1
    have HSZ : Hid (sx.size ≤ s.size) := Nat.le_trans H3.out.2.2.2.1 hs1
    have HKB : Hid (bx = false → (keyV (⟨7, 0, 0, t, []⟩, .nil)).length + 30 * sx.size ≤ 30 * s.size) := fun e => by
      have h1 := leaf_len 7 0 0 t (by omega)
      have h2 := HL1.out ((H3.out.2.1.so e).1)
      have h4 := H3.out.2.2.2.2 e
      omega
    clear K H3 HK2 HZ2 HV2 HR1 HL1
    go_wp2_with (refine st_all rfl 38 (.tmp 5) (.tmp 76) rfl g5 38 zer [.int .i64 7, .int .i64 0, .int .i64 0, .string t, .slice none 0 0, .slice none 0 0] rfl rfl HV3.out rfl sV (D6.ones rfl) ?_)
    intro w4 b4 gr4
    have HK : Hid (Kq r W w4 sx bx) := HK3.out.kept gr4 hWg5 hrW
    have HZ4 : Hid (Blk w4 g4 38 zer) := HZ3.out.kept gr4 (by intro e; injection e with e; omega)
    have HB5 : Hid (Blk w4 g5 38 [.int .i64 7, .int .i64 0, .int .i64 0, .string t, .slice none 0 0, .slice none 0 0]) := b4
    clear b4 gr4 HK3 HZ3 HV3
    go_wp2_with (first
      | refine D6.ld_all rfl 38 (.tmp 5) rfl g5 38 _ _ rfl HB5.out Tryz.underlying38 rfl sV ?_
      | refine st_all rfl 38 (.tmp 4) (.tmp 145) rfl g4 38 zer [.int .i64 7, .int .i64 0, .int .i64 0, .string t, .slice none 0 0, .slice none 0 0] rfl rfl HZ4.out rfl sV (D6.ones rfl) ?_)
    intro w9 b9 g9
    have HB9 : Hid (Blk w9 g4 38 [.int .i64 7, .int .i64 0, .int .i64 0, .string t, .slice none 0 0, .slice none 0 0]) := b9
    have HQ : Hid (Po dp r W w9 s bad (⟨7, 0, 0, t, []⟩, .nil) none 0 none 0 sx bx) := ⟨HK.out.kept g9 hg4 hrW, ⟨[], vl_leaf _ _ _ _ _, fun x hx => by cases hx⟩, HWF.out, HVR.out, HSZ.out, HKB.out⟩
    clear b9 g9 HZ4 HK HB5 HWF HVR HSZ HKB
    go_wp2
    exact bodyPost_ret (D6.res_row rfl _ g4 38 _ _ rfl HB9.out Tryz.underlying38 rfl sV) rfl ⟨_, none, 0, none, 0, sx, bx, rfl, HQ.out⟩
  by_cases c112 : x = 112
  · subst c112
    go_wp2_with (refine st_one rfl 3 (.tmp 79) (.const (.int .i64 8)) rfl g5 0 38 _ (.int .i64 8) rfl rfl rfl rfl (by simp [zer]) HV2.out s3 ?_)
    intro w3 b3 gr3
    have HOd : Hid (Od W r g4 g5 w3.heap.size) := ⟨hrW, hg4, by omega, b3.lt⟩
    have HI0 : Hid (NK 62 w3.heap.size g4 g5 r W 8 w3 (QC s1 b1) [] .nil (.slice none 0 0) (.slice none 0 0) [] []) := ⟨HK2.out.kept gr3 hWg5 hrW, HZ2.out.kept gr3 (by intro e; injection e with e; omega), b3, World.ownsRow_nil _ _ _ _, World.ownsRow_nil _ _ _ _, ⟨rfl, rfl⟩, fun x hx => (by simp at hx), fun x c => (by simp [Value.ownBlock] at c), Nat.le_refl _⟩
    clear b3 gr3 HK2 HZ2 HV2
    go_wp2
    go_loopw [] (fun wr => ∃ (sk : ByteArray) (bk : Bool) (ns : List ByteArray) (f : Fo) (vn vk : Value) (cs : List Value) (Lf : List Nat), sk.size ≤ s1.size ∧ Hid ((NK 62 w3.heap.size g4 g5 r W 8 wr (QC sk bk) ns f vn vk cs Lf) ∧ Ns False false dp (bts s1) b1 (bts sk) bk f ns ∧ (Wf f ∧ f.list.length ≤ 100000 ∧ (∀ x ∈ ns, x.size ≤ 1000000000) ∧ ns.length ≤ 100000) ∧ (bk = false → f.list.length + sk.size ≤ s1.size ∧ (keyF f false ns).length + 30 * sk.size ≤ 30 * s1.size))) (fun wr => lft r wr)
    case atStart => exact ⟨s1, b1, [], .nil, _, _, [], [], Nat.le_refl _, HI0.out, Ns.start _ _ _ _ _, ⟨trivial, by simp [Fo.list], by simp, by simp⟩, fun _ => ⟨by simp [Fo.list], by simp [keyF]⟩⟩
    case round =>
      clear HI0
      obtain ⟨sk, bk, ns, f, vn, vk, cs, Lf, hsk, HJ⟩ := hrel
      obtain ⟨na0, nc0, ka0, kc0, _, rfl, rfl, _, _⟩ := HJ.out.1.val
      have HN : Hid (NK 62 w3.heap.size g4 g5 r W 8 wr (QC sk bk) ns f (.slice na0 ns.length nc0) (.slice ka0 f.list.length kc0) cs Lf) := HJ.out.1
      have HNs : Hid (Ns False false dp (bts s1) b1 (bts sk) bk f ns) := HJ.out.2.1
      have HW : Hid (Wf f ∧ f.list.length ≤ 100000 ∧ (∀ x ∈ ns, x.size ≤ 1000000000) ∧ ns.length ≤ 100000) := HJ.out.2.2.1
      have HW2 : Hid (bk = false → f.list.length + sk.size ≤ s1.size ∧ (keyF f false ns).length + 30 * sk.size ≤ 30 * s1.size) := HJ.out.2.2.2
      have c0 : wr.cell? ⟨r, 0, none⟩ = some (.string sk) := HN.out.ro.blk.cell 0
      have c1 : wr.cell? ⟨r, 1, none⟩ = some (.bool bk) := HN.out.ro.blk.cell 1
      have HLf : Hid (lft r wr = if bk then 0 else sk.size + 1) := lft_of HN.out.ro.blk
      clear HJ
      cases bk with
      | true =>
        have K := one_any r sk true wr (by omega) HN.out.ro.blk
        go_wp2_with fail
        refine K.mono ?_
        rintro e w6 ⟨y, s6, b6, rfl, H6⟩
        have HNx : Hid (NK 62 w3.heap.size g4 g5 r W 8 w6 (QC s6 b6) ns f (.slice na0 ns.length nc0) (.slice ka0 f.list.length kc0) cs Lf) := HN.out.read HOd.out H6.out.1
        have HSx : Hid (s6.size ≤ s1.size) := Nat.le_trans H6.out.2.2.2.1 hsk
        have hy0 : y = 0 := H6.out.2.2.2.2 (by cases hb6 : b6 with | true => rfl | false => have := (H6.out.2.1.so hb6).1; cases this)
        subst hy0
        have HRc : Hid (Rb (bts sk) true (bts s6) b6 0) := H6.out.2.1
        clear K H6 HN
        have HRd : Hid (Rd (encN false) (fun x => False ∧ chk0 x.1 = 0) (NsOk false dp) (bts s1) b1 (bts s6) b6 (f, ns)) := HNs.out.done HRc.out
        have HKb : Hid (b6 = false → (keyV (nst 8 (f, ns))).length + 30 * (s6).size ≤ 30 * s.size) := fun e => by have q1 := (HRc.out.so e).1; cases q1
        obtain ⟨na, nc, ka, kc, Lp, e1, e2, hvl, hrg⟩ := HNx.out.val
        injection e1 with e1 _ e3
        injection e2 with e2 _ e4
        subst e1 e2 e3 e4
        have HV : Hid (VlL w6 (nst 8 (f, ns)) na0 nc0 ka0 kc0 Lp ∧ ∀ x ∈ Lp, w3.heap.size ≤ x ∧ x < w6.heap.size) := ⟨hvl, hrg⟩
        have HWf : Hid (WfV (nst 8 (f, ns))) := nst_wf 8 (by decide) (by decide) HW.out.1 HW.out.2.1 HW.out.2.2.2 HW.out.2.2.1
        have HVr : Hid (Vr False dp (bts s) bad (bts s6) b6 (nst 8 (f, ns))) := vr_nest 8 false 112 (.inl ⟨rfl, rfl, rfl⟩) HR1.out HRd.out
        clear hvl hrg HNs HRd
        go_wp2_with (first
          | refine D6.ld_all rfl 38 (.tmp 5) rfl g5 38 _ _ rfl HNx.out.b8 Tryz.underlying38 rfl sV ?_
          | refine st_all rfl 38 (.tmp 4) (.tmp 145) rfl g4 38 zer (six ⟨8, 0, 0, em, ns⟩ na0 nc0 ka0 f.list.length kc0) rfl rfl HNx.out.b6 rfl sV (six_one _ _ _ _ _ _) ?_)
        intro w9 b9 g9
        have HB9 : Hid (Blk w9 g4 38 (six ⟨8, 0, 0, em, ns⟩ na0 nc0 ka0 f.list.length kc0)) := b9
        have HQ : Hid (Po dp r W w9 s bad (nst 8 (f, ns)) na0 nc0 ka0 kc0 (s6) b6) := by
          have o1 := HOd.out.r
          have o2 := HOd.out.l6
          have o3 := HOd.out.l8
          have o4 := HOd.out.lB
          have kg := kr_grown HNx.out.ro g9 (fun x c => by injection c with c; omega)
          refine ⟨kg, ⟨Lp, HV.out.1.keep fun x hx => ?_, fun x hx => ?_⟩, HWf.out, HVr.out, by have := HSx.out; omega, HKb.out⟩
          · have := HV.out.2 x hx
            exact g9.block x this.2 (by intro c; injection c with c; omega)
          · have := HV.out.2 x hx
            have := g9.size
            omega
        clear b9 g9 HV HWf HVr HNx HKb
        go_wp2
        refine bodyPost_ret (D6.res_row rfl _ g4 38 _ _ rfl HB9.out Tryz.underlying38 rfl sV) rfl ?_
        exact ⟨nst 8 (f, ns), na0, nc0, ka0, kc0, s6, b6, rfl, HQ.out⟩
      | false =>
        have HWx : Hid (f.list.length + sk.size ≤ s1.size ∧ (keyF f false ns).length + 30 * sk.size ≤ 30 * s1.size) := HW2.out rfl
        clear HW2
        by_cases hz : sk.size = 0
        · have hzb : decide ((0 : Int) < (sk.size : Int)) = false := decide_eq_false (by omega)
          have K := one_any r sk false wr (by omega) HN.out.ro.blk
          go_wp2_with fail
          refine K.mono ?_
          rintro e w6 ⟨y, s6, b6, rfl, H6⟩
          have HNx : Hid (NK 62 w3.heap.size g4 g5 r W 8 w6 (QC s6 b6) ns f (.slice na0 ns.length nc0) (.slice ka0 f.list.length kc0) cs Lf) := HN.out.read HOd.out H6.out.1
          have HSx : Hid (s6.size ≤ s1.size) := Nat.le_trans H6.out.2.2.2.1 hsk
          have hy0 : y = 0 := H6.out.2.2.2.2 (by cases hb6 : b6 with | true => rfl | false => have h7 := (H6.out.2.1.so hb6).2 trivial; have h8 := congrArg List.length h7; rw [bts_len, hz] at h8; simp at h8)
          subst hy0
          have HRc : Hid (Rb (bts sk) false (bts s6) b6 0) := H6.out.2.1
          clear K H6 HN
          have HRd : Hid (Rd (encN false) (fun x => False ∧ chk0 x.1 = 0) (NsOk false dp) (bts s1) b1 (bts s6) b6 (f, ns)) := HNs.out.done HRc.out
          have HKb : Hid (b6 = false → (keyV (nst 8 (f, ns))).length + 30 * (s6).size ≤ 30 * s.size) := fun e => by
            have h1 := kb_nest (f := f) (ns := ns) (kd := 8) (by decide)
            have q1 := (HRc.out.so e).1
            have q2 := (HNs.out.so q1).1
            have h2 := HWx.out.2
            have h3 := HL1.out q2
            have h4 := HSx.out
            have h5 : (keyF f (decide ((8 : Int) = 9)) ns) = keyF f false ns := rfl
            rw [h5] at h1
            have h6 : s6.size ≤ sk.size := suf_size HRc.out.suf
            omega
          obtain ⟨na, nc, ka, kc, Lp, e1, e2, hvl, hrg⟩ := HNx.out.val
          injection e1 with e1 _ e3
          injection e2 with e2 _ e4
          subst e1 e2 e3 e4
          have HV : Hid (VlL w6 (nst 8 (f, ns)) na0 nc0 ka0 kc0 Lp ∧ ∀ x ∈ Lp, w3.heap.size ≤ x ∧ x < w6.heap.size) := ⟨hvl, hrg⟩
          have HWf : Hid (WfV (nst 8 (f, ns))) := nst_wf 8 (by decide) (by decide) HW.out.1 HW.out.2.1 HW.out.2.2.2 HW.out.2.2.1
          have HVr : Hid (Vr False dp (bts s) bad (bts s6) b6 (nst 8 (f, ns))) := vr_nest 8 false 112 (.inl ⟨rfl, rfl, rfl⟩) HR1.out HRd.out
          clear hvl hrg HNs HRd
          go_wp2_with (first
            | refine D6.ld_all rfl 38 (.tmp 5) rfl g5 38 _ _ rfl HNx.out.b8 Tryz.underlying38 rfl sV ?_
            | refine st_all rfl 38 (.tmp 4) (.tmp 145) rfl g4 38 zer (six ⟨8, 0, 0, em, ns⟩ na0 nc0 ka0 f.list.length kc0) rfl rfl HNx.out.b6 rfl sV (six_one _ _ _ _ _ _) ?_)
          intro w9 b9 g9
          have HB9 : Hid (Blk w9 g4 38 (six ⟨8, 0, 0, em, ns⟩ na0 nc0 ka0 f.list.length kc0)) := b9
          have HQ : Hid (Po dp r W w9 s bad (nst 8 (f, ns)) na0 nc0 ka0 kc0 (s6) b6) := by
            have o1 := HOd.out.r
            have o2 := HOd.out.l6
            have o3 := HOd.out.l8
            have o4 := HOd.out.lB
            have kg := kr_grown HNx.out.ro g9 (fun x c => by injection c with c; omega)
            refine ⟨kg, ⟨Lp, HV.out.1.keep fun x hx => ?_, fun x hx => ?_⟩, HWf.out, HVr.out, by have := HSx.out; omega, HKb.out⟩
            · have := HV.out.2 x hx
              exact g9.block x this.2 (by intro c; injection c with c; omega)
            · have := HV.out.2 x hx
              have := g9.size
              omega
          clear b9 g9 HV HWf HVr HNx HKb
          go_wp2
          refine bodyPost_ret (D6.res_row rfl _ g4 38 _ _ rfl HB9.out Tryz.underlying38 rfl sV) rfl ?_
          exact ⟨nst 8 (f, ns), na0, nc0, ka0, kc0, s6, b6, rfl, HQ.out⟩
        have hzb : decide ((0 : Int) < (sk.size : Int)) = true := decide_eq_true (by omega)
        have hp : 0 < sk.size := by omega
        have hd := bts_drop sk 0 hp
        rw [List.drop_zero, Nat.zero_add] at hd
        by_cases hk0 : (sk[0]'hp).toNat = 0
        · have hkb : ((((sk[0]'hp).toNat : Nat) : Int) != 0) = false := by rw [hk0]; rfl
          rw [hk0] at hd
          have HDd : Hid (bts sk = 0 :: (bts sk).drop 1) := hd
          clear hd
          have K := one_any r sk false wr (by omega) HN.out.ro.blk
          go_wp2_with fail
          refine K.mono ?_
          rintro e w6 ⟨y, s6, b6, rfl, H6⟩
          have HNx : Hid (NK 62 w3.heap.size g4 g5 r W 8 w6 (QC s6 b6) ns f (.slice na0 ns.length nc0) (.slice ka0 f.list.length kc0) cs Lf) := HN.out.read HOd.out H6.out.1
          have HSx : Hid (s6.size ≤ s1.size) := Nat.le_trans H6.out.2.2.2.1 hsk
          have hy0 : y = 0 := (H6.out.2.1.co rfl 0 _ trivial HDd.out).2.1
          subst hy0
          have HRc : Hid (Rb (bts sk) false (bts s6) b6 0) := H6.out.2.1
          clear K H6 HN
          have HRd : Hid (Rd (encN false) (fun x => False ∧ chk0 x.1 = 0) (NsOk false dp) (bts s1) b1 (bts s6) b6 (f, ns)) := HNs.out.done HRc.out
          have HKb : Hid (b6 = false → (keyV (nst 8 (f, ns))).length + 30 * (s6).size ≤ 30 * s.size) := fun e => by
            have h1 := kb_nest (f := f) (ns := ns) (kd := 8) (by decide)
            have q1 := (HRc.out.so e).1
            have q2 := (HNs.out.so q1).1
            have h2 := HWx.out.2
            have h3 := HL1.out q2
            have h4 := HSx.out
            have h5 : (keyF f (decide ((8 : Int) = 9)) ns) = keyF f false ns := rfl
            rw [h5] at h1
            have h6 : s6.size ≤ sk.size := suf_size HRc.out.suf
            omega
          obtain ⟨na, nc, ka, kc, Lp, e1, e2, hvl, hrg⟩ := HNx.out.val
          injection e1 with e1 _ e3
          injection e2 with e2 _ e4
          subst e1 e2 e3 e4
          have HV : Hid (VlL w6 (nst 8 (f, ns)) na0 nc0 ka0 kc0 Lp ∧ ∀ x ∈ Lp, w3.heap.size ≤ x ∧ x < w6.heap.size) := ⟨hvl, hrg⟩
          have HWf : Hid (WfV (nst 8 (f, ns))) := nst_wf 8 (by decide) (by decide) HW.out.1 HW.out.2.1 HW.out.2.2.2 HW.out.2.2.1
          have HVr : Hid (Vr False dp (bts s) bad (bts s6) b6 (nst 8 (f, ns))) := vr_nest 8 false 112 (.inl ⟨rfl, rfl, rfl⟩) HR1.out HRd.out
          clear hvl hrg HNs HRd
          go_wp2_with (first
            | refine D6.ld_all rfl 38 (.tmp 5) rfl g5 38 _ _ rfl HNx.out.b8 Tryz.underlying38 rfl sV ?_
            | refine st_all rfl 38 (.tmp 4) (.tmp 145) rfl g4 38 zer (six ⟨8, 0, 0, em, ns⟩ na0 nc0 ka0 f.list.length kc0) rfl rfl HNx.out.b6 rfl sV (six_one _ _ _ _ _ _) ?_)
          intro w9 b9 g9
          have HB9 : Hid (Blk w9 g4 38 (six ⟨8, 0, 0, em, ns⟩ na0 nc0 ka0 f.list.length kc0)) := b9
          have HQ : Hid (Po dp r W w9 s bad (nst 8 (f, ns)) na0 nc0 ka0 kc0 (s6) b6) := by
            have o1 := HOd.out.r
            have o2 := HOd.out.l6
            have o3 := HOd.out.l8
            have o4 := HOd.out.lB
            have kg := kr_grown HNx.out.ro g9 (fun x c => by injection c with c; omega)
            refine ⟨kg, ⟨Lp, HV.out.1.keep fun x hx => ?_, fun x hx => ?_⟩, HWf.out, HVr.out, by have := HSx.out; omega, HKb.out⟩
            · have := HV.out.2 x hx
              exact g9.block x this.2 (by intro c; injection c with c; omega)
            · have := HV.out.2 x hx
              have := g9.size
              omega
          clear b9 g9 HV HWf HVr HNx HKb
          go_wp2
          refine bodyPost_ret (D6.res_row rfl _ g4 38 _ _ rfl HB9.out Tryz.underlying38 rfl sV) rfl ?_
          exact ⟨nst 8 (f, ns), na0, nc0, ka0, kc0, s6, b6, rfl, HQ.out⟩
        have hkb : ((((sk[0]'hp).toNat : Nat) : Int) != 0) = true := by simp; omega
        have HN0 : Hid (∀ t, bts sk ≠ 0 :: t) := fun t e => by
          rw [hd] at e
          injection e with e _
          exact hk0 e
        have hroom : f.list.length + sk.size ≤ s1.size := HWx.out.1
        clear hd hk0
        have HK : Hid (NK 62 w3.heap.size g4 g5 r W 8 wr (QC sk false) ns f (.slice na0 ns.length nc0) (.slice ka0 f.list.length kc0) cs Lf) := HN.out
        clear HN
        obtain ⟨C, hC⟩ : ∃ C : World → Prop, C = fun w' => w'.cell? ⟨g5, 5, none⟩ = some (.slice ka0 f.list.length kc0) := ⟨_, rfl⟩
        have CN : Hid (∀ w', C w' → w'.cell? ⟨g5, 5, none⟩ = some (.slice ka0 f.list.length kc0)) := fun w' h => by rw [hC] at h; exact h
        have CI : Hid (∀ w', w'.cell? ⟨g5, 5, none⟩ = some (.slice ka0 f.list.length kc0) → C w') := fun w' h => by rw [hC]; exact h
        have D0 : Hid (Below wr.heap.size wr { wr with drawn := wr.drawn + 1 }) := Below.drew (Below.refl _ _)
        have HKv : Hid (NK 62 w3.heap.size g4 g5 r W 8 { wr with drawn := wr.drawn + 1 } (QC sk false) ns f (.slice na0 ns.length nc0) (.slice ka0 f.list.length kc0) cs Lf) := HK.out.below D0.out
        have C0 : Hid (C { wr with drawn := wr.drawn + 1 }) := CI.out _ (HKv.out.b8.cell 5)
        clear hC HK D0
        go_wp2
        clear c0 c1 hkb
        refine region_calm C 9 (by kernel_rfl) ?_
        have hCp : ∀ p : Prop, (∀ W, C W → p) ↔ p := fun p => ⟨fun h => h _ C0.out, fun h _ _ => h⟩
        generalize ({ wr with drawn := wr.drawn + 1 } : World) = y0 at *
        refine seg 5 [0, 1, 2, 3, 4] rfl (by kernel_rfl) whole_blind C0.out (by kernel_rfl) ?_
        change wpQuiet _ _ _ _ (_ :: _ :: _ :: _ :: _ :: []) _
        repeat (first
          | go_big_quiet_skip
          | (go_big_quiet_want
             first
             | (refine q_one 22 (.inr (.inr (.inr (.inl rfl)))) (.tmp 101) rfl g5 5 rfl (.slice ka0 f.list.length kc0) CN.out ?_
                simp only [Act.put, List.setIfInBounds_toArray, List.set_cons_zero, List.set_cons_succ]
                go_big_quiet_on)
             | (go_big_quiet_op
                go_big_quiet_on)))
        refine wpQuiet_nil ?_
        have KV := VC.out r sk false y0 (by omega) HKv.out.ro.blk
        refine lone_do (i := 5) 4 rfl (by kernel_rfl) rfl (by rfl) ?_
        intro K hK
        refine oper_call 28 #[.tmp 103, .tmp 105] #[60, 3] rfl #[.pointer (some ⟨r, 0, none⟩), .int .i64 (dp + 1)] (by rw [List.map_toArray]; rfl) (enters Tryz.func28 (by kernel_rfl) rfl) (fun v' w' => ∃ (q : Vt) (na : Option Addr) (nc : Nat) (ka : Option Addr) (kc : Nat) (s3 : ByteArray) (b3 : Bool), v' = .agg #[.int .i64 q.1.k, .int .i64 q.1.n, .int .i64 q.1.s, .string q.1.t, .slice na q.1.ns.length nc, .slice ka q.2.list.length kc] ∧ Hid (Po (dp + 1) r y0 w' sk false q na nc ka kc s3 b3)) (KV.mono fun e' w' ⟨q, na, nc, ka, kc, s3, b3, h1, h2⟩ => ⟨_, h1, q, na, nc, ka, kc, s3, b3, rfl, h2⟩) ?_
        rintro _ y1 ⟨q, na, nc, ka, kc, s3, b3, rfl, H5⟩
        have HN5 : Hid (NK 62 w3.heap.size g4 g5 r W 8 y1 (QC s3 b3) ns f (.slice na0 ns.length nc0) (.slice ka0 f.list.length kc0) cs Lf) := HKv.out.read HOd.out H5.out.ko
        have HS2 : Hid (Ns False false dp (bts s1) b1 (bts s3) b3 (f.snoc q) ns) := by have e := HNs.out.no rfl; have h := HNs.out; rw [e] at h ⊢; exact h.kid HN0.out H5.out.vr
        have hs3 : s3.size ≤ (sk).size := H5.out.sz
        have HPr : Hid (b3 = false → s3.size < (sk).size) := fun e => by
          have := H5.out.vr.pr e
          rw [bts_len, bts_len] at this
          exact this
        have HKb3 : Hid (b3 = false → (keyF (f.snoc q) false ns).length + 30 * s3.size ≤ 30 * s1.size) := fun e => by have en := HNs.out.no rfl; have h := HWx.out.2; rw [en] at h ⊢; exact kbN_kid h (H5.out.kb e)
        have HQ5 : Hid (∃ Lq, VlL y1 q na nc ka kc Lq ∧ ∀ x ∈ Lq, w3.heap.size ≤ x ∧ x < y1.heap.size ∧ Value.ownBlock (.slice na0 ns.length nc0) ≠ some x ∧ Value.ownBlock (.slice ka0 f.list.length kc0) ≠ some x) := by
          obtain ⟨Lq, a1, a2⟩ := H5.out.vl
          refine ⟨Lq, a1, fun x hx => ?_⟩
          have h1 := a2 x hx
          have h3 := HKv.out.sz
          refine ⟨by omega, by omega, fun c => ?_, fun c => ?_⟩
          · have := (World.ownsRow.lt HKv.out.nm x c).2
            omega
          · have := (World.ownsRow.lt HKv.out.kd x c).2
            omega
        have HQw : Hid (WfV q) := H5.out.wf
        have c1 : C y1 := CI.out _ (HN5.out.b8.cell 5)
        refine hK _ _ c1 ?_
        simp only [Act.put, List.setIfInBounds_toArray, List.set_cons_zero, List.set_cons_succ]
        clear H5 HKv C0 hCp KV
        refine lone_do (i := 6) 3 rfl (by kernel_rfl) rfl (by rfl) ?_
        intro K hK
        refine oper_kid 106 rfl (.int .i64 q.1.k) (.int .i64 q.1.n) (.int .i64 q.1.s) (.string q.1.t) (.slice na q.1.ns.length nc) (.slice ka q.2.list.length kc) rfl ?_
        obtain ⟨y2, HY2⟩ : ∃ y2, Hid (y1.alloc (.cells #[.int .i64 q.1.k, .int .i64 q.1.n, .int .i64 q.1.s, .string q.1.t, .slice na q.1.ns.length nc, .slice ka q.2.list.length kc] 38) = y2) := ⟨_, rfl⟩
        have GA : Hid (Below y1.heap.size y1 y2) := by rw [← HY2.out]; exact (Below.refl _ _).alloc (Nat.le_refl _) _
        have HC9 : Hid (∀ j u, (six q.1 na nc ka q.2.list.length kc)[j]? = some u → y2.cell? ⟨y1.heap.size, j, none⟩ = some u) := fun j u hj => by
          rw [← HY2.out, World.cell?_alloc_new]
          show (six q.1 na nc ka q.2.list.length kc).toArray[j]? = some u
          rw [List.getElem?_toArray]
          exact hj
        rw [HY2.out]
        have HNa : Hid (NK 62 w3.heap.size g4 g5 r W 8 y2 (QC s3 b3) ns f (.slice na0 ns.length nc0) (.slice ka0 f.list.length kc0) cs Lf) := HN5.out.below GA.out
        have ca : C y2 := CI.out _ (HNa.out.b8.cell 5)
        refine hK _ _ ca ?_
        simp only [Act.put, List.setIfInBounds_toArray, List.set_cons_zero, List.set_cons_succ]
        clear HY2 c1
        refine lone_do (i := 7) 2 rfl (by kernel_rfl) rfl (by rfl) ?_
        intro K hK
        refine oper_apk (.tmp 102) (.tmp 107) rfl w3.heap.size (.slice ka0 f.list.length kc0) f.list.length cs rfl HNa.out.kd y1.heap.size 1 1 (six q.1 na nc ka q.2.list.length kc) rfl rfl HC9.out (six_one _ _ _ _ _ _) (by omega) HNa.out.sz ?_
        intro vk' y3 o3 g3 a3
        have hc3 : C y3 := CI.out _ ((HNa.out.b8.kept g3 (fun c => by have := (World.ownsRow.lt HNa.out.kd _ c.symm).1; have := HOd.out.lB; omega)).cell 5)
        refine hK _ _ hc3 ?_
        simp only [Act.put, List.setIfInBounds_toArray, List.set_cons_zero, List.set_cons_succ]
        have hCq : ∀ p : Prop, (∀ W, C W → p) ↔ p := fun p => ⟨fun h => h _ hc3, fun h _ _ => h⟩
        refine lone_calm (i := 8) 1 rfl (by kernel_rfl) rfl rfl hc3 ?_
        go_big_quiet_want
        go_big_quiet_op
        go_big_quiet_on
        refine wpQuiet_nil ?_
        have HB8 : Hid (Blk y3 g5 38 [.int .i64 8, .int .i64 0, .int .i64 0, .string ⟨#[]⟩, (.slice na0 ns.length nc0), (.slice ka0 f.list.length kc0)]) := HNa.out.b8.kept g3 (fun c => by have := (World.ownsRow.lt HNa.out.kd _ c.symm).1; have := HOd.out.lB; omega)
        have HO3 : Hid (y3.ownsRow w3.heap.size 38 6 vk' (f.list.length + 1) (cs ++ six q.1 na nc ka q.2.list.length kc)) := o3
        obtain ⟨hcel, hone⟩ : vk'.cells = #[vk'] ∧ vk'.oneCell' = true := by
          rcases o3 with ⟨_, ⟨h, _⟩ | ⟨_, _, _, h, _⟩⟩ <;> subst h <;> exact ⟨rfl, rfl⟩
        have HA3 : Hid (vk'.ownBlock = Value.ownBlock (.slice ka0 f.list.length kc0) ∨ vk'.ownBlock = some y2.heap.size) := a3
        have HG3 : Hid (y2.grownBy y3 (Value.ownBlock (.slice ka0 f.list.length kc0))) := g3
        clear o3 g3 a3 ca HNa HC9 hCq
        refine lone_last (i := 9) 0 rfl rfl (by kernel_rfl) rfl (by rfl) ?_
        intro K hK
        refine oper_st1 22 (.tmp 109) (.tmp 108) rfl g5 5 38 _ vk' rfl rfl hcel hone (by simp) HB8.out sKd ?_
        intro y4 b4 g4x
        have HKn : Hid (∃ Lf', NK 62 w3.heap.size g4 g5 r W 8 y4 (QC s3 b3) ns (f.snoc q) (.slice na0 ns.length nc0) vk' (cs ++ six q.1 na nc ka q.2.list.length kc) Lf') := by
          obtain ⟨Lq, a1, a2⟩ := HQ5.out
          exact ⟨Lf ++ Lq, HN5.out.kid HOd.out a1 a2 GA.out HG3.out HO3.out HA3.out b4 g4x⟩
        have HFn : Hid ((Wf (f.snoc q) ∧ (f.snoc q).list.length ≤ 100000 ∧ (∀ x ∈ ns, x.size ≤ 1000000000) ∧ (ns).length ≤ 100000) ∧ (b3 = false → (f.snoc q).list.length + s3.size ≤ s1.size ∧ (keyF (f.snoc q) false ns).length + 30 * s3.size ≤ 30 * s1.size) ∧ lft r y4 < sk.size + 1) := by
          have hl := snoc_list q f
          refine ⟨⟨wf_snoc HQw.out HW.out.1, by rw [hl, List.length_append, List.length_singleton]; omega, ?_, ?_⟩, fun e => ⟨?_, HKb3.out e⟩, ?_⟩
          · exact HW.out.2.2.1
          · exact HW.out.2.2.2
          · rw [hl, List.length_append, List.length_singleton]
            have h1 := HPr.out e
            have h2 := hroom
            omega
          · obtain ⟨_, hk⟩ := HKn.out
            rw [lft_of hk.ro.blk]
            cases hb3 : b3 with
            | true => simp
            | false => have h1 := HPr.out hb3; simp; omega
        clear b4 g4x HB8 HO3 HA3 HG3 GA HN5 hc3 HQ5
        refine hK _ _ ?_
        simp only [Act.put, List.setIfInBounds_toArray, List.set_cons_zero, List.set_cons_succ]
        refine anyC_done (by kernel_rfl) ⟨rfl, ?_⟩
        clear CN CI hcel hone
        go_wp2
        go_roundw
        case rel =>
          obtain ⟨Lf', hk⟩ := HKn.out
          exact ⟨s3, b3, _, f.snoc q, _, vk', _, Lf', by omega, hk, HS2.out, HFn.out.1, HFn.out.2.1⟩
        case measure =>
          have := HFn.out.2.2
          rw [HLf.out]
          simpa using this
  by_cases c128 : x = 128
  · subst c128
    go_wp2_with (refine st_one rfl 3 (.tmp 114) (.const (.int .i64 9)) rfl g5 0 38 _ (.int .i64 9) rfl rfl rfl rfl (by simp [zer]) HV2.out s3 ?_)
    intro w3 b3 gr3
    have HOd : Hid (Od W r g4 g5 w3.heap.size) := ⟨hrW, hg4, by omega, b3.lt⟩
    have HI0 : Hid (NK 62 w3.heap.size g4 g5 r W 9 w3 (QC s1 b1) [] .nil (.slice none 0 0) (.slice none 0 0) [] []) := ⟨HK2.out.kept gr3 hWg5 hrW, HZ2.out.kept gr3 (by intro e; injection e with e; omega), b3, World.ownsRow_nil _ _ _ _, World.ownsRow_nil _ _ _ _, ⟨rfl, rfl⟩, fun x hx => (by simp at hx), fun x c => (by simp [Value.ownBlock] at c), Nat.le_refl _⟩
    clear b3 gr3 HK2 HZ2 HV2
    go_wp2
    go_loopw [8] (fun _ wr => ∃ (sk : ByteArray) (bk : Bool) (ns : List ByteArray) (f : Fo) (vn vk : Value) (cs : List Value) (Lf : List Nat), sk.size ≤ s1.size ∧ Hid ((NK 62 w3.heap.size g4 g5 r W 9 wr (QC sk bk) ns f vn vk cs Lf) ∧ Ns False true dp (bts s1) b1 (bts sk) bk f ns ∧ (Wf f ∧ f.list.length ≤ 100000 ∧ (∀ x ∈ ns, x.size ≤ 1000000000) ∧ ns.length ≤ 100000) ∧ (bk = false → f.list.length + sk.size ≤ s1.size ∧ (keyF f true ns).length + 30 * sk.size ≤ 30 * s1.size))) (fun _ wr => lft r wr)
    case atStart => exact ⟨s1, b1, [], .nil, _, _, [], [], Nat.le_refl _, HI0.out, Ns.start _ _ _ _ _, ⟨trivial, by simp [Fo.list], by simp, by simp⟩, fun _ => ⟨by simp [Fo.list], by simp [keyF]⟩⟩
    case round =>
      clear HI0
      obtain ⟨sk, bk, ns, f, vn, vk, cs, Lf, hsk, HJ⟩ := hrel
      obtain ⟨na0, nc0, ka0, kc0, _, rfl, rfl, _, _⟩ := HJ.out.1.val
      have HN : Hid (NK 62 w3.heap.size g4 g5 r W 9 wr (QC sk bk) ns f (.slice na0 ns.length nc0) (.slice ka0 f.list.length kc0) cs Lf) := HJ.out.1
      have HNs : Hid (Ns False true dp (bts s1) b1 (bts sk) bk f ns) := HJ.out.2.1
      have HW : Hid (Wf f ∧ f.list.length ≤ 100000 ∧ (∀ x ∈ ns, x.size ≤ 1000000000) ∧ ns.length ≤ 100000) := HJ.out.2.2.1
      have HW2 : Hid (bk = false → f.list.length + sk.size ≤ s1.size ∧ (keyF f true ns).length + 30 * sk.size ≤ 30 * s1.size) := HJ.out.2.2.2
      have c0 : wr.cell? ⟨r, 0, none⟩ = some (.string sk) := HN.out.ro.blk.cell 0
      have c1 : wr.cell? ⟨r, 1, none⟩ = some (.bool bk) := HN.out.ro.blk.cell 1
      have HLf : Hid (lft r wr = if bk then 0 else sk.size + 1) := lft_of HN.out.ro.blk
      clear HJ
      cases bk with
      | true =>
        have HNx : Hid (NK 62 w3.heap.size g4 g5 r W 9 wr (QC sk true) ns f (.slice na0 ns.length nc0) (.slice ka0 f.list.length kc0) cs Lf) := HN.out
        have HSx : Hid (sk.size ≤ s1.size) := hsk
        clear HN
        have HRd : Hid (Rd (encN true) (fun x => False ∧ chk0 x.1 = 0) (NsOk true dp) (bts s1) b1 (bts sk) true (f, ns)) := HNs.out.bad (f, ns)
        have HKb : Hid (true = false → (keyV (nst 9 (f, ns))).length + 30 * (sk).size ≤ 30 * s.size) := fun e => by cases e
        obtain ⟨na, nc, ka, kc, Lp, e1, e2, hvl, hrg⟩ := HNx.out.val
        injection e1 with e1 _ e3
        injection e2 with e2 _ e4
        subst e1 e2 e3 e4
        have HV : Hid (VlL wr (nst 9 (f, ns)) na0 nc0 ka0 kc0 Lp ∧ ∀ x ∈ Lp, w3.heap.size ≤ x ∧ x < wr.heap.size) := ⟨hvl, hrg⟩
        have HWf : Hid (WfV (nst 9 (f, ns))) := nst_wf 9 (by decide) (by decide) HW.out.1 HW.out.2.1 HW.out.2.2.2 HW.out.2.2.1
        have HVr : Hid (Vr False dp (bts s) bad (bts sk) true (nst 9 (f, ns))) := vr_nest 9 true 128 (.inr ⟨rfl, rfl, rfl⟩) HR1.out HRd.out
        clear hvl hrg HNs HRd
        go_wp2_with (first
          | refine D6.ld_all rfl 38 (.tmp 5) rfl g5 38 _ _ rfl HNx.out.b8 Tryz.underlying38 rfl sV ?_
          | refine st_all rfl 38 (.tmp 4) (.tmp 145) rfl g4 38 zer (six ⟨9, 0, 0, em, ns⟩ na0 nc0 ka0 f.list.length kc0) rfl rfl HNx.out.b6 rfl sV (six_one _ _ _ _ _ _) ?_)
        intro w9 b9 g9
        have HB9 : Hid (Blk w9 g4 38 (six ⟨9, 0, 0, em, ns⟩ na0 nc0 ka0 f.list.length kc0)) := b9
        have HQ : Hid (Po dp r W w9 s bad (nst 9 (f, ns)) na0 nc0 ka0 kc0 (sk) true) := by
          have o1 := HOd.out.r
          have o2 := HOd.out.l6
          have o3 := HOd.out.l8
          have o4 := HOd.out.lB
          have kg := kr_grown HNx.out.ro g9 (fun x c => by injection c with c; omega)
          refine ⟨kg, ⟨Lp, HV.out.1.keep fun x hx => ?_, fun x hx => ?_⟩, HWf.out, HVr.out, by have := HSx.out; omega, HKb.out⟩
          · have := HV.out.2 x hx
            exact g9.block x this.2 (by intro c; injection c with c; omega)
          · have := HV.out.2 x hx
            have := g9.size
            omega
        clear b9 g9 HV HWf HVr HNx HKb
        go_wp2
        refine bodyPost_ret (D6.res_row rfl _ g4 38 _ _ rfl HB9.out Tryz.underlying38 rfl sV) rfl ?_
        exact ⟨nst 9 (f, ns), na0, nc0, ka0, kc0, sk, true, rfl, HQ.out⟩
      | false =>
        have HWx : Hid (f.list.length + sk.size ≤ s1.size ∧ (keyF f true ns).length + 30 * sk.size ≤ 30 * s1.size) := HW2.out rfl
        clear HW2
        have K := one_any r sk false wr (by omega) HN.out.ro.blk
        go_wp2_with fail
        refine K.mono ?_
        rintro e w6 ⟨y, s6, b6, rfl, H6⟩
        have HN6 : Hid (NK 62 w3.heap.size g4 g5 r W 9 w6 (QC s6 b6) ns f (.slice na0 ns.length nc0) (.slice ka0 f.list.length kc0) cs Lf) := HN.out.read HOd.out H6.out.1
        have HSx : Hid (s6.size ≤ s1.size) := Nat.le_trans H6.out.2.2.2.1 hsk
        have HRc : Hid (Rb (bts sk) false (bts s6) b6 y) := H6.out.2.1
        have HYz : Hid (b6 = true → y = 0) := H6.out.2.2.2.2
        have hy : y < 256 := H6.out.2.2.1
        clear K H6 HN c0 c1
        by_cases hy0 : y = 0
        · subst hy0
          have HNx : Hid (NK 62 w3.heap.size g4 g5 r W 9 w6 (QC s6 b6) ns f (.slice na0 ns.length nc0) (.slice ka0 f.list.length kc0) cs Lf) := HN6.out
          clear HN6 HYz
          have HRd : Hid (Rd (encN true) (fun x => False ∧ chk0 x.1 = 0) (NsOk true dp) (bts s1) b1 (bts s6) b6 (f, ns)) := HNs.out.done HRc.out
          have HKb : Hid (b6 = false → (keyV (nst 9 (f, ns))).length + 30 * (s6).size ≤ 30 * s.size) := fun e => by
            have h1 := kb_nest (f := f) (ns := ns) (kd := 9) (by decide)
            have q1 := (HRc.out.so e).1
            have q2 := (HNs.out.so q1).1
            have h2 := HWx.out.2
            have h3 := HL1.out q2
            have h5 : (keyF f (decide ((9 : Int) = 9)) ns) = keyF f true ns := rfl
            rw [h5] at h1
            have h6 : s6.size ≤ sk.size := suf_size HRc.out.suf
            omega
          obtain ⟨na, nc, ka, kc, Lp, e1, e2, hvl, hrg⟩ := HNx.out.val
          injection e1 with e1 _ e3
          injection e2 with e2 _ e4
          subst e1 e2 e3 e4
          have HV : Hid (VlL w6 (nst 9 (f, ns)) na0 nc0 ka0 kc0 Lp ∧ ∀ x ∈ Lp, w3.heap.size ≤ x ∧ x < w6.heap.size) := ⟨hvl, hrg⟩
          have HWf : Hid (WfV (nst 9 (f, ns))) := nst_wf 9 (by decide) (by decide) HW.out.1 HW.out.2.1 HW.out.2.2.2 HW.out.2.2.1
          have HVr : Hid (Vr False dp (bts s) bad (bts s6) b6 (nst 9 (f, ns))) := vr_nest 9 true 128 (.inr ⟨rfl, rfl, rfl⟩) HR1.out HRd.out
          clear hvl hrg HNs HRd
          go_wp2_with (first
            | refine D6.ld_all rfl 38 (.tmp 5) rfl g5 38 _ _ rfl HNx.out.b8 Tryz.underlying38 rfl sV ?_
            | refine st_all rfl 38 (.tmp 4) (.tmp 145) rfl g4 38 zer (six ⟨9, 0, 0, em, ns⟩ na0 nc0 ka0 f.list.length kc0) rfl rfl HNx.out.b6 rfl sV (six_one _ _ _ _ _ _) ?_)
          intro w9 b9 g9
          have HB9 : Hid (Blk w9 g4 38 (six ⟨9, 0, 0, em, ns⟩ na0 nc0 ka0 f.list.length kc0)) := b9
          have HQ : Hid (Po dp r W w9 s bad (nst 9 (f, ns)) na0 nc0 ka0 kc0 (s6) b6) := by
            have o1 := HOd.out.r
            have o2 := HOd.out.l6
            have o3 := HOd.out.l8
            have o4 := HOd.out.lB
            have kg := kr_grown HNx.out.ro g9 (fun x c => by injection c with c; omega)
            refine ⟨kg, ⟨Lp, HV.out.1.keep fun x hx => ?_, fun x hx => ?_⟩, HWf.out, HVr.out, by have := HSx.out; omega, HKb.out⟩
            · have := HV.out.2 x hx
              exact g9.block x this.2 (by intro c; injection c with c; omega)
            · have := HV.out.2 x hx
              have := g9.size
              omega
          clear b9 g9 HV HWf HVr HNx HKb
          go_wp2
          refine bodyPost_ret (D6.res_row rfl _ g4 38 _ _ rfl HB9.out Tryz.underlying38 rfl sV) rfl ?_
          exact ⟨nst 9 (f, ns), na0, nc0, ka0, kc0, s6, b6, rfl, HQ.out⟩
        have hb6 : b6 = false := by
          cases b6 with
          | false => rfl
          | true => exact absurd (HYz.out rfl) hy0
        subst hb6
        have hyb : ((y : Int) == 0) = false := beq_eq_false_iff_ne.2 (by omega)
        have hlc : s6.size + 1 ≤ sk.size := by
          have := rb_len1 HRc.out
          rw [bts_len, bts_len] at this
          exact this
        have HLc : Hid (s6.size + 1 ≤ sk.size) := hlc
        have hroom : f.list.length + sk.size ≤ s1.size := HWx.out.1
        have hnl : ns.length + 1 ≤ 100000 := by rw [HNs.out.ln rfl]; omega
        by_cases hy1 : y = 1
        · subst hy1
          have HK : Hid (NK 62 w3.heap.size g4 g5 r W 9 w6 (QC s6 false) ns f (.slice na0 ns.length nc0) (.slice ka0 f.list.length kc0) cs Lf) := HN6.out
          clear HN6 HYz
          obtain ⟨C, hC⟩ : ∃ C : World → Prop, C = fun w' => w'.cell? ⟨g5, 4, none⟩ = some (.slice na0 ns.length nc0) := ⟨_, rfl⟩
          have CN : Hid (∀ w', C w' → w'.cell? ⟨g5, 4, none⟩ = some (.slice na0 ns.length nc0)) := fun w' h => by rw [hC] at h; exact h
          have CI : Hid (∀ w', w'.cell? ⟨g5, 4, none⟩ = some (.slice na0 ns.length nc0) → C w') := fun w' h => by rw [hC]; exact h
          have D0 : Hid (Below w6.heap.size w6 { w6 with drawn := w6.drawn + 1 }) := Below.drew (Below.refl _ _)
          have HNv : Hid (NK 62 w3.heap.size g4 g5 r W 9 { w6 with drawn := w6.drawn + 1 } (QC s6 false) ns f (.slice na0 ns.length nc0) (.slice ka0 f.list.length kc0) cs Lf) := HK.out.below D0.out
          have C0 : Hid (C { w6 with drawn := w6.drawn + 1 }) := CI.out _ (HNv.out.b8.cell 4)
          clear hC HK D0
          go_wp2
          refine region_calm C 7 (by kernel_rfl) ?_
          have hCp : ∀ p : Prop, (∀ W, C W → p) ↔ p := fun p => ⟨fun h => h _ C0.out, fun h _ _ => h⟩
          generalize ({ w6 with drawn := w6.drawn + 1 } : World) = v0 at *
          refine seg 5 [0, 1, 2] rfl (by kernel_rfl) whole_blind C0.out (by kernel_rfl) ?_
          change wpQuiet _ _ _ _ (_ :: _ :: _ :: []) _
          repeat (first
            | go_big_quiet_skip
            | (go_big_quiet_want
               first
               | (refine q_one 36 (.inr (.inr (.inl rfl))) (.tmp 129) rfl g5 4 rfl (.slice na0 ns.length nc0) CN.out ?_
                  simp only [Act.put, List.setIfInBounds_toArray, List.set_cons_zero, List.set_cons_succ]
                  go_big_quiet_on)
               | (go_big_quiet_op
                  go_big_quiet_on)))
          refine wpQuiet_nil ?_
          refine lone_do (i := 3) 4 rfl (by kernel_rfl) rfl (by rfl) ?_
          intro K hK
          refine oper_call 50 #[.tmp 131] #[60] rfl #[.pointer (some ⟨r, 0, none⟩)] (by rw [List.map_toArray]; rfl) (enters Tryz.func50 (by kernel_rfl) rfl) (fun v' w' => ∃ (t : ByteArray) (s2 : ByteArray) (b2 : Bool), v' = .string t ∧ Hid (Kq r v0 w' s2 b2 ∧ RdX (bts s6) false (bts s2) b2 t ∧ t.size ≤ 1000000 ∧ s2.size ≤ (s6).size ∧ (b2 = false → t.size + s2.size ≤ (s6).size))) ((rtext_any r s6 false v0 (by omega) HNv.out.ro.blk).mono fun e' w' ⟨t, s2, b2, h1, h2⟩ => ⟨_, h1, t, s2, b2, rfl, h2⟩) ?_
          rintro _ v1 ⟨t, s2, b2, rfl, H1⟩
          have HN1 : Hid (NK 62 w3.heap.size g4 g5 r W 9 v1 (QC s2 b2) ns f (.slice na0 ns.length nc0) (.slice ka0 f.list.length kc0) cs Lf) := HNv.out.read HOd.out H1.out.1
          have HT : Hid (RdX (bts s6) false (bts s2) b2 t) := H1.out.2.1
          have hss : t.size ≤ 1000000 := H1.out.2.2.1
          have hs2 : s2.size ≤ (s6).size := H1.out.2.2.2.1
          have HTb : Hid (b2 = false → t.size + s2.size ≤ (s6).size) := H1.out.2.2.2.2
          have c1 : C v1 := CI.out _ (HN1.out.b8.cell 4)
          refine hK _ _ c1 ?_
          simp only [Act.put, List.setIfInBounds_toArray, List.set_cons_zero, List.set_cons_succ]
          clear H1 HNv C0 hCp
          refine lone_do (i := 4) 3 rfl (by kernel_rfl) rfl (by rfl) ?_
          intro K hK
          refine oper_name 132 rfl t rfl ?_
          have DA : Hid (Below v1.heap.size v1 (v1.alloc (.cells #[.string t] 9))) := (Below.refl _ _).alloc (Nat.le_refl _) _
          have HNa : Hid (NK 62 w3.heap.size g4 g5 r W 9 (v1.alloc (.cells #[.string t] 9)) (QC s2 b2) ns f (.slice na0 ns.length nc0) (.slice ka0 f.list.length kc0) cs Lf) := HN1.out.below DA.out
          have HNms : Hid (Nms (v1.alloc (.cells #[.string t] 9)) (some ⟨v1.heap.size, 0, none⟩) [t]) := .inr ⟨v1.heap.size, 0, rfl, fun i x hx => by
            rw [Nat.zero_add, World.cell?_alloc_new]
            cases i with
            | zero => simp at hx; subst hx; rfl
            | succ i => simp at hx⟩
          have ca : C (v1.alloc (.cells #[.string t] 9)) := CI.out _ (HNa.out.b8.cell 4)
          refine hK _ _ ca ?_
          simp only [Act.put, List.setIfInBounds_toArray, List.set_cons_zero, List.set_cons_succ]
          refine lone_do (i := 5) 2 rfl (by kernel_rfl) rfl (by rfl) ?_
          intro K hK
          refine oper_apn (.tmp 130) (.tmp 133) rfl w3.heap.size (.slice na0 ns.length nc0) ns.length (ns.map Value.string) rfl HNa.out.nm (some ⟨v1.heap.size, 0, none⟩) 1 [t] rfl HNms.out (by intro h; cases h) (by have := hnl; simp only [List.length_cons, List.length_nil]; omega) HNa.out.sz ?_
          intro vn' v2 o2 g2 a2
          have hc2 : C v2 := CI.out _ ((HNa.out.b8.kept g2 (fun c => by have := (World.ownsRow.lt HNa.out.nm _ c.symm).1; have := HOd.out.lB; omega)).cell 4)
          refine hK _ _ hc2 ?_
          simp only [Act.put, List.setIfInBounds_toArray, List.set_cons_zero, List.set_cons_succ]
          have hCq : ∀ p : Prop, (∀ W, C W → p) ↔ p := fun p => ⟨fun h => h _ hc2, fun h _ _ => h⟩
          refine lone_calm (i := 6) 1 rfl (by kernel_rfl) rfl rfl hc2 ?_
          go_big_quiet_want
          go_big_quiet_op
          go_big_quiet_on
          refine wpQuiet_nil ?_
          have HB8 : Hid (Blk v2 g5 38 [.int .i64 9, .int .i64 0, .int .i64 0, .string ⟨#[]⟩, (.slice na0 ns.length nc0), (.slice ka0 f.list.length kc0)]) := HNa.out.b8.kept g2 (fun c => by have := (World.ownsRow.lt HNa.out.nm _ c.symm).1; have := HOd.out.lB; omega)
          have HO2 : Hid (v2.ownsRow w3.heap.size 9 1 vn' (ns.length + 1) (ns.map Value.string ++ [.string t])) := o2
          obtain ⟨hcel, hone⟩ : vn'.cells = #[vn'] ∧ vn'.oneCell' = true := by
            rcases o2 with ⟨_, ⟨h, _⟩ | ⟨_, _, _, h, _⟩⟩ <;> subst h <;> exact ⟨rfl, rfl⟩
          have HA2 : Hid (vn'.ownBlock = Value.ownBlock (.slice na0 ns.length nc0) ∨ vn'.ownBlock = some (v1.alloc (.cells #[.string t] 9)).heap.size) := a2
          have HG2 : Hid ((v1.alloc (.cells #[.string t] 9)).grownBy v2 (Value.ownBlock (.slice na0 ns.length nc0))) := g2
          clear o2 g2 a2 ca c1 HNa HNms hCq
          refine lone_last (i := 7) 0 rfl rfl (by kernel_rfl) rfl (by rfl) ?_
          intro K hK
          refine oper_st1 36 (.tmp 135) (.tmp 134) rfl g5 4 38 _ vn' rfl rfl hcel hone (by simp) HB8.out sNm ?_
          intro v3 b3 g3
          have HK : Hid (NK 62 w3.heap.size g4 g5 r W 9 v3 (QC s2 b2) (ns ++ [t]) f vn' (.slice ka0 f.list.length kc0) cs Lf) := HN1.out.name HOd.out DA.out HG2.out HO2.out HA2.out b3 g3
          clear b3 g3 HB8 HO2 HA2 HG2 DA HN1 hc2
          refine hK _ _ ?_
          simp only [Act.put, List.setIfInBounds_toArray, List.set_cons_zero, List.set_cons_succ]
          refine anyC_done (by kernel_rfl) ⟨rfl, ?_⟩
          clear CN CI hcel hone
          obtain ⟨C, hC⟩ : ∃ C : World → Prop, C = fun w' => w'.cell? ⟨g5, 5, none⟩ = some (.slice ka0 f.list.length kc0) := ⟨_, rfl⟩
          have CN : Hid (∀ w', C w' → w'.cell? ⟨g5, 5, none⟩ = some (.slice ka0 f.list.length kc0)) := fun w' h => by rw [hC] at h; exact h
          have CI : Hid (∀ w', w'.cell? ⟨g5, 5, none⟩ = some (.slice ka0 f.list.length kc0) → C w') := fun w' h => by rw [hC]; exact h
          have D0 : Hid (Below v3.heap.size v3 { v3 with drawn := v3.drawn + 1 }) := Below.drew (Below.refl _ _)
          have HKv : Hid (NK 62 w3.heap.size g4 g5 r W 9 { v3 with drawn := v3.drawn + 1 } (QC s2 b2) (ns ++ [t]) f vn' (.slice ka0 f.list.length kc0) cs Lf) := HK.out.below D0.out
          have C0 : Hid (C { v3 with drawn := v3.drawn + 1 }) := CI.out _ (HKv.out.b8.cell 5)
          clear hC HK D0
          go_wp2
          refine region_calm C 9 (by kernel_rfl) ?_
          have hCp : ∀ p : Prop, (∀ W, C W → p) ↔ p := fun p => ⟨fun h => h _ C0.out, fun h _ _ => h⟩
          generalize ({ v3 with drawn := v3.drawn + 1 } : World) = y0 at *
          refine seg 5 [0, 1, 2, 3, 4] rfl (by kernel_rfl) whole_blind C0.out (by kernel_rfl) ?_
          change wpQuiet _ _ _ _ (_ :: _ :: _ :: _ :: _ :: []) _
          repeat (first
            | go_big_quiet_skip
            | (go_big_quiet_want
               first
               | (refine q_one 22 (.inr (.inr (.inr (.inl rfl)))) (.tmp 136) rfl g5 5 rfl (.slice ka0 f.list.length kc0) CN.out ?_
                  simp only [Act.put, List.setIfInBounds_toArray, List.set_cons_zero, List.set_cons_succ]
                  go_big_quiet_on)
               | (go_big_quiet_op
                  go_big_quiet_on)))
          refine wpQuiet_nil ?_
          have KV := VC.out r s2 b2 y0 (by omega) HKv.out.ro.blk
          refine lone_do (i := 5) 4 rfl (by kernel_rfl) rfl (by rfl) ?_
          intro K hK
          refine oper_call 28 #[.tmp 138, .tmp 140] #[60, 3] rfl #[.pointer (some ⟨r, 0, none⟩), .int .i64 (dp + 1)] (by rw [List.map_toArray]; rfl) (enters Tryz.func28 (by kernel_rfl) rfl) (fun v' w' => ∃ (q : Vt) (na : Option Addr) (nc : Nat) (ka : Option Addr) (kc : Nat) (s3 : ByteArray) (b3 : Bool), v' = .agg #[.int .i64 q.1.k, .int .i64 q.1.n, .int .i64 q.1.s, .string q.1.t, .slice na q.1.ns.length nc, .slice ka q.2.list.length kc] ∧ Hid (Po (dp + 1) r y0 w' s2 b2 q na nc ka kc s3 b3)) (KV.mono fun e' w' ⟨q, na, nc, ka, kc, s3, b3, h1, h2⟩ => ⟨_, h1, q, na, nc, ka, kc, s3, b3, rfl, h2⟩) ?_
          rintro _ y1 ⟨q, na, nc, ka, kc, s3, b3, rfl, H5⟩
          have HN5 : Hid (NK 62 w3.heap.size g4 g5 r W 9 y1 (QC s3 b3) (ns ++ [t]) f vn' (.slice ka0 f.list.length kc0) cs Lf) := HKv.out.read HOd.out H5.out.ko
          have HS2 : Hid (Ns False true dp (bts s1) b1 (bts s3) b3 (f.snoc q) (ns ++ [t])) := HNs.out.field HRc.out HT.out H5.out.vr
          have hs3 : s3.size ≤ (s2).size := H5.out.sz
          have HPr : Hid (b3 = false → s3.size < (s2).size) := fun e => by
            have := H5.out.vr.pr e
            rw [bts_len, bts_len] at this
            exact this
          have HKb3 : Hid (b3 = false → (keyF (f.snoc q) true (ns ++ [t])).length + 30 * s3.size ≤ 30 * s1.size) := fun e => kbN_field (HNs.out.ln rfl) HWx.out.2 HLc.out (HTb.out ((H5.out.vr.rd.so e).1)) (H5.out.kb e)
          have HQ5 : Hid (∃ Lq, VlL y1 q na nc ka kc Lq ∧ ∀ x ∈ Lq, w3.heap.size ≤ x ∧ x < y1.heap.size ∧ Value.ownBlock vn' ≠ some x ∧ Value.ownBlock (.slice ka0 f.list.length kc0) ≠ some x) := by
            obtain ⟨Lq, a1, a2⟩ := H5.out.vl
            refine ⟨Lq, a1, fun x hx => ?_⟩
            have h1 := a2 x hx
            have h3 := HKv.out.sz
            refine ⟨by omega, by omega, fun c => ?_, fun c => ?_⟩
            · have := (World.ownsRow.lt HKv.out.nm x c).2
              omega
            · have := (World.ownsRow.lt HKv.out.kd x c).2
              omega
          have HQw : Hid (WfV q) := H5.out.wf
          have c1 : C y1 := CI.out _ (HN5.out.b8.cell 5)
          refine hK _ _ c1 ?_
          simp only [Act.put, List.setIfInBounds_toArray, List.set_cons_zero, List.set_cons_succ]
          clear H5 HKv C0 hCp KV
          refine lone_do (i := 6) 3 rfl (by kernel_rfl) rfl (by rfl) ?_
          intro K hK
          refine oper_kid 141 rfl (.int .i64 q.1.k) (.int .i64 q.1.n) (.int .i64 q.1.s) (.string q.1.t) (.slice na q.1.ns.length nc) (.slice ka q.2.list.length kc) rfl ?_
          obtain ⟨y2, HY2⟩ : ∃ y2, Hid (y1.alloc (.cells #[.int .i64 q.1.k, .int .i64 q.1.n, .int .i64 q.1.s, .string q.1.t, .slice na q.1.ns.length nc, .slice ka q.2.list.length kc] 38) = y2) := ⟨_, rfl⟩
          have GA : Hid (Below y1.heap.size y1 y2) := by rw [← HY2.out]; exact (Below.refl _ _).alloc (Nat.le_refl _) _
          have HC9 : Hid (∀ j u, (six q.1 na nc ka q.2.list.length kc)[j]? = some u → y2.cell? ⟨y1.heap.size, j, none⟩ = some u) := fun j u hj => by
            rw [← HY2.out, World.cell?_alloc_new]
            show (six q.1 na nc ka q.2.list.length kc).toArray[j]? = some u
            rw [List.getElem?_toArray]
            exact hj
          rw [HY2.out]
          have HNa : Hid (NK 62 w3.heap.size g4 g5 r W 9 y2 (QC s3 b3) (ns ++ [t]) f vn' (.slice ka0 f.list.length kc0) cs Lf) := HN5.out.below GA.out
          have ca : C y2 := CI.out _ (HNa.out.b8.cell 5)
          refine hK _ _ ca ?_
          simp only [Act.put, List.setIfInBounds_toArray, List.set_cons_zero, List.set_cons_succ]
          clear HY2 c1
          refine lone_do (i := 7) 2 rfl (by kernel_rfl) rfl (by rfl) ?_
          intro K hK
          refine oper_apk (.tmp 137) (.tmp 142) rfl w3.heap.size (.slice ka0 f.list.length kc0) f.list.length cs rfl HNa.out.kd y1.heap.size 1 1 (six q.1 na nc ka q.2.list.length kc) rfl rfl HC9.out (six_one _ _ _ _ _ _) (by omega) HNa.out.sz ?_
          intro vk' y3 o3 g3 a3
          have hc3 : C y3 := CI.out _ ((HNa.out.b8.kept g3 (fun c => by have := (World.ownsRow.lt HNa.out.kd _ c.symm).1; have := HOd.out.lB; omega)).cell 5)
          refine hK _ _ hc3 ?_
          simp only [Act.put, List.setIfInBounds_toArray, List.set_cons_zero, List.set_cons_succ]
          have hCq : ∀ p : Prop, (∀ W, C W → p) ↔ p := fun p => ⟨fun h => h _ hc3, fun h _ _ => h⟩
          refine lone_calm (i := 8) 1 rfl (by kernel_rfl) rfl rfl hc3 ?_
          go_big_quiet_want
          go_big_quiet_op
          go_big_quiet_on
          refine wpQuiet_nil ?_
          have HB8 : Hid (Blk y3 g5 38 [.int .i64 9, .int .i64 0, .int .i64 0, .string ⟨#[]⟩, vn', (.slice ka0 f.list.length kc0)]) := HNa.out.b8.kept g3 (fun c => by have := (World.ownsRow.lt HNa.out.kd _ c.symm).1; have := HOd.out.lB; omega)
          have HO3 : Hid (y3.ownsRow w3.heap.size 38 6 vk' (f.list.length + 1) (cs ++ six q.1 na nc ka q.2.list.length kc)) := o3
          obtain ⟨hcel, hone⟩ : vk'.cells = #[vk'] ∧ vk'.oneCell' = true := by
            rcases o3 with ⟨_, ⟨h, _⟩ | ⟨_, _, _, h, _⟩⟩ <;> subst h <;> exact ⟨rfl, rfl⟩
          have HA3 : Hid (vk'.ownBlock = Value.ownBlock (.slice ka0 f.list.length kc0) ∨ vk'.ownBlock = some y2.heap.size) := a3
          have HG3 : Hid (y2.grownBy y3 (Value.ownBlock (.slice ka0 f.list.length kc0))) := g3
          clear o3 g3 a3 ca HNa HC9 hCq
          refine lone_last (i := 9) 0 rfl rfl (by kernel_rfl) rfl (by rfl) ?_
          intro K hK
          refine oper_st1 22 (.tmp 144) (.tmp 143) rfl g5 5 38 _ vk' rfl rfl hcel hone (by simp) HB8.out sKd ?_
          intro y4 b4 g4x
          have HKn : Hid (∃ Lf', NK 62 w3.heap.size g4 g5 r W 9 y4 (QC s3 b3) (ns ++ [t]) (f.snoc q) vn' vk' (cs ++ six q.1 na nc ka q.2.list.length kc) Lf') := by
            obtain ⟨Lq, a1, a2⟩ := HQ5.out
            exact ⟨Lf ++ Lq, HN5.out.kid HOd.out a1 a2 GA.out HG3.out HO3.out HA3.out b4 g4x⟩
          have HFn : Hid ((Wf (f.snoc q) ∧ (f.snoc q).list.length ≤ 100000 ∧ (∀ x ∈ (ns ++ [t]), x.size ≤ 1000000000) ∧ ((ns ++ [t])).length ≤ 100000) ∧ (b3 = false → (f.snoc q).list.length + s3.size ≤ s1.size ∧ (keyF (f.snoc q) true (ns ++ [t])).length + 30 * s3.size ≤ 30 * s1.size) ∧ lft r y4 < sk.size + 1) := by
            have hl := snoc_list q f
            refine ⟨⟨wf_snoc HQw.out HW.out.1, by rw [hl, List.length_append, List.length_singleton]; omega, ?_, ?_⟩, fun e => ⟨?_, HKb3.out e⟩, ?_⟩
            · intro x hx
              rcases List.mem_append.1 hx with hx | hx
              · exact HW.out.2.2.1 x hx
              · simp at hx
                subst hx
                omega
            · rw [List.length_append, List.length_singleton]
              omega
            · rw [hl, List.length_append, List.length_singleton]
              have h1 := HPr.out e
              have h2 := hroom
              omega
            · obtain ⟨_, hk⟩ := HKn.out
              rw [lft_of hk.ro.blk]
              cases hb3 : b3 with
              | true => simp
              | false => have h1 := HPr.out hb3; simp; omega
          clear b4 g4x HB8 HO3 HA3 HG3 GA HN5 hc3 HQ5
          refine hK _ _ ?_
          simp only [Act.put, List.setIfInBounds_toArray, List.set_cons_zero, List.set_cons_succ]
          refine anyC_done (by kernel_rfl) ⟨rfl, ?_⟩
          clear CN CI hcel hone
          go_wp2
          go_roundw
          case rel =>
            obtain ⟨Lf', hk⟩ := HKn.out
            exact ⟨s3, b3, _, f.snoc q, _, vk', _, Lf', by omega, hk, HS2.out, HFn.out.1, HFn.out.2.1⟩
          case measure =>
            have := HFn.out.2.2
            rw [HLf.out]
            simpa using this
        have hcw : y ≠ 0 ∧ y ≠ 1 := ⟨hy0, hy1⟩
        have hy1b : ((y : Int) != 1) = true := by simp; omega
        go_wp2_with (refine st_one rfl 4 (.tmp 128) (.const (.bool true)) rfl r 1 62 _ (.bool true) rfl rfl rfl rfl (by simp) HN6.out.ro.blk s4 ?_)
        intro w7 b7 g7
        have HK : Hid (NK 62 w3.heap.size g4 g5 r W 9 w7 (QC s6 true) ns f (.slice na0 ns.length nc0) (.slice ka0 f.list.length kc0) cs Lf) := HN6.out.read HOd.out ⟨b7, g7⟩
        clear b7 g7 HN6 HYz
        obtain ⟨C, hC⟩ : ∃ C : World → Prop, C = fun w' => w'.cell? ⟨g5, 4, none⟩ = some (.slice na0 ns.length nc0) := ⟨_, rfl⟩
        have CN : Hid (∀ w', C w' → w'.cell? ⟨g5, 4, none⟩ = some (.slice na0 ns.length nc0)) := fun w' h => by rw [hC] at h; exact h
        have CI : Hid (∀ w', w'.cell? ⟨g5, 4, none⟩ = some (.slice na0 ns.length nc0) → C w') := fun w' h => by rw [hC]; exact h
        have D0 : Hid (Below w7.heap.size w7 { w7 with drawn := w7.drawn + 1 }) := Below.drew (Below.refl _ _)
        have HNv : Hid (NK 62 w3.heap.size g4 g5 r W 9 { w7 with drawn := w7.drawn + 1 } (QC s6 true) ns f (.slice na0 ns.length nc0) (.slice ka0 f.list.length kc0) cs Lf) := HK.out.below D0.out
        have C0 : Hid (C { w7 with drawn := w7.drawn + 1 }) := CI.out _ (HNv.out.b8.cell 4)
        clear hC HK D0
        go_wp2
        refine region_calm C 7 (by kernel_rfl) ?_
        have hCp : ∀ p : Prop, (∀ W, C W → p) ↔ p := fun p => ⟨fun h => h _ C0.out, fun h _ _ => h⟩
        generalize ({ w7 with drawn := w7.drawn + 1 } : World) = v0 at *
        refine seg 5 [0, 1, 2] rfl (by kernel_rfl) whole_blind C0.out (by kernel_rfl) ?_
        change wpQuiet _ _ _ _ (_ :: _ :: _ :: []) _
        repeat (first
          | go_big_quiet_skip
          | (go_big_quiet_want
             first
             | (refine q_one 36 (.inr (.inr (.inl rfl))) (.tmp 129) rfl g5 4 rfl (.slice na0 ns.length nc0) CN.out ?_
                simp only [Act.put, List.setIfInBounds_toArray, List.set_cons_zero, List.set_cons_succ]
                go_big_quiet_on)
             | (go_big_quiet_op
                go_big_quiet_on)))
        refine wpQuiet_nil ?_
        refine lone_do (i := 3) 4 rfl (by kernel_rfl) rfl (by rfl) ?_
        intro K hK
        refine oper_call 50 #[.tmp 131] #[60] rfl #[.pointer (some ⟨r, 0, none⟩)] (by rw [List.map_toArray]; rfl) (enters Tryz.func50 (by kernel_rfl) rfl) (fun v' w' => ∃ (t : ByteArray) (s2 : ByteArray) (b2 : Bool), v' = .string t ∧ Hid (Kq r v0 w' s2 b2 ∧ RdX (bts s6) true (bts s2) b2 t ∧ t.size ≤ 1000000 ∧ s2.size ≤ (s6).size ∧ (b2 = false → t.size + s2.size ≤ (s6).size))) ((rtext_any r s6 true v0 (by omega) HNv.out.ro.blk).mono fun e' w' ⟨t, s2, b2, h1, h2⟩ => ⟨_, h1, t, s2, b2, rfl, h2⟩) ?_
        rintro _ v1 ⟨t, s2, b2, rfl, H1⟩
        have HN1 : Hid (NK 62 w3.heap.size g4 g5 r W 9 v1 (QC s2 b2) ns f (.slice na0 ns.length nc0) (.slice ka0 f.list.length kc0) cs Lf) := HNv.out.read HOd.out H1.out.1
        have HT : Hid (RdX (bts s6) true (bts s2) b2 t) := H1.out.2.1
        have hss : t.size ≤ 1000000 := H1.out.2.2.1
        have hs2 : s2.size ≤ (s6).size := H1.out.2.2.2.1
        have HTb : Hid (b2 = false → t.size + s2.size ≤ (s6).size) := H1.out.2.2.2.2
        have c1 : C v1 := CI.out _ (HN1.out.b8.cell 4)
        refine hK _ _ c1 ?_
        simp only [Act.put, List.setIfInBounds_toArray, List.set_cons_zero, List.set_cons_succ]
        clear H1 HNv C0 hCp
        refine lone_do (i := 4) 3 rfl (by kernel_rfl) rfl (by rfl) ?_
        intro K hK
        refine oper_name 132 rfl t rfl ?_
        have DA : Hid (Below v1.heap.size v1 (v1.alloc (.cells #[.string t] 9))) := (Below.refl _ _).alloc (Nat.le_refl _) _
        have HNa : Hid (NK 62 w3.heap.size g4 g5 r W 9 (v1.alloc (.cells #[.string t] 9)) (QC s2 b2) ns f (.slice na0 ns.length nc0) (.slice ka0 f.list.length kc0) cs Lf) := HN1.out.below DA.out
        have HNms : Hid (Nms (v1.alloc (.cells #[.string t] 9)) (some ⟨v1.heap.size, 0, none⟩) [t]) := .inr ⟨v1.heap.size, 0, rfl, fun i x hx => by
          rw [Nat.zero_add, World.cell?_alloc_new]
          cases i with
          | zero => simp at hx; subst hx; rfl
          | succ i => simp at hx⟩
        have ca : C (v1.alloc (.cells #[.string t] 9)) := CI.out _ (HNa.out.b8.cell 4)
        refine hK _ _ ca ?_
        simp only [Act.put, List.setIfInBounds_toArray, List.set_cons_zero, List.set_cons_succ]
        refine lone_do (i := 5) 2 rfl (by kernel_rfl) rfl (by rfl) ?_
        intro K hK
        refine oper_apn (.tmp 130) (.tmp 133) rfl w3.heap.size (.slice na0 ns.length nc0) ns.length (ns.map Value.string) rfl HNa.out.nm (some ⟨v1.heap.size, 0, none⟩) 1 [t] rfl HNms.out (by intro h; cases h) (by have := hnl; simp only [List.length_cons, List.length_nil]; omega) HNa.out.sz ?_
        intro vn' v2 o2 g2 a2
        have hc2 : C v2 := CI.out _ ((HNa.out.b8.kept g2 (fun c => by have := (World.ownsRow.lt HNa.out.nm _ c.symm).1; have := HOd.out.lB; omega)).cell 4)
        refine hK _ _ hc2 ?_
        simp only [Act.put, List.setIfInBounds_toArray, List.set_cons_zero, List.set_cons_succ]
        have hCq : ∀ p : Prop, (∀ W, C W → p) ↔ p := fun p => ⟨fun h => h _ hc2, fun h _ _ => h⟩
        refine lone_calm (i := 6) 1 rfl (by kernel_rfl) rfl rfl hc2 ?_
        go_big_quiet_want
        go_big_quiet_op
        go_big_quiet_on
        refine wpQuiet_nil ?_
        have HB8 : Hid (Blk v2 g5 38 [.int .i64 9, .int .i64 0, .int .i64 0, .string ⟨#[]⟩, (.slice na0 ns.length nc0), (.slice ka0 f.list.length kc0)]) := HNa.out.b8.kept g2 (fun c => by have := (World.ownsRow.lt HNa.out.nm _ c.symm).1; have := HOd.out.lB; omega)
        have HO2 : Hid (v2.ownsRow w3.heap.size 9 1 vn' (ns.length + 1) (ns.map Value.string ++ [.string t])) := o2
        obtain ⟨hcel, hone⟩ : vn'.cells = #[vn'] ∧ vn'.oneCell' = true := by
          rcases o2 with ⟨_, ⟨h, _⟩ | ⟨_, _, _, h, _⟩⟩ <;> subst h <;> exact ⟨rfl, rfl⟩
        have HA2 : Hid (vn'.ownBlock = Value.ownBlock (.slice na0 ns.length nc0) ∨ vn'.ownBlock = some (v1.alloc (.cells #[.string t] 9)).heap.size) := a2
        have HG2 : Hid ((v1.alloc (.cells #[.string t] 9)).grownBy v2 (Value.ownBlock (.slice na0 ns.length nc0))) := g2
        clear o2 g2 a2 ca c1 HNa HNms hCq
        refine lone_last (i := 7) 0 rfl rfl (by kernel_rfl) rfl (by rfl) ?_
        intro K hK
        refine oper_st1 36 (.tmp 135) (.tmp 134) rfl g5 4 38 _ vn' rfl rfl hcel hone (by simp) HB8.out sNm ?_
        intro v3 b3 g3
        have HK : Hid (NK 62 w3.heap.size g4 g5 r W 9 v3 (QC s2 b2) (ns ++ [t]) f vn' (.slice ka0 f.list.length kc0) cs Lf) := HN1.out.name HOd.out DA.out HG2.out HO2.out HA2.out b3 g3
        clear b3 g3 HB8 HO2 HA2 HG2 DA HN1 hc2
        refine hK _ _ ?_
        simp only [Act.put, List.setIfInBounds_toArray, List.set_cons_zero, List.set_cons_succ]
        refine anyC_done (by kernel_rfl) ⟨rfl, ?_⟩
        clear CN CI hcel hone
        obtain ⟨C, hC⟩ : ∃ C : World → Prop, C = fun w' => w'.cell? ⟨g5, 5, none⟩ = some (.slice ka0 f.list.length kc0) := ⟨_, rfl⟩
        have CN : Hid (∀ w', C w' → w'.cell? ⟨g5, 5, none⟩ = some (.slice ka0 f.list.length kc0)) := fun w' h => by rw [hC] at h; exact h
        have CI : Hid (∀ w', w'.cell? ⟨g5, 5, none⟩ = some (.slice ka0 f.list.length kc0) → C w') := fun w' h => by rw [hC]; exact h
        have D0 : Hid (Below v3.heap.size v3 { v3 with drawn := v3.drawn + 1 }) := Below.drew (Below.refl _ _)
        have HKv : Hid (NK 62 w3.heap.size g4 g5 r W 9 { v3 with drawn := v3.drawn + 1 } (QC s2 b2) (ns ++ [t]) f vn' (.slice ka0 f.list.length kc0) cs Lf) := HK.out.below D0.out
        have C0 : Hid (C { v3 with drawn := v3.drawn + 1 }) := CI.out _ (HKv.out.b8.cell 5)
        clear hC HK D0
        go_wp2
        refine region_calm C 9 (by kernel_rfl) ?_
        have hCp : ∀ p : Prop, (∀ W, C W → p) ↔ p := fun p => ⟨fun h => h _ C0.out, fun h _ _ => h⟩
        generalize ({ v3 with drawn := v3.drawn + 1 } : World) = y0 at *
        refine seg 5 [0, 1, 2, 3, 4] rfl (by kernel_rfl) whole_blind C0.out (by kernel_rfl) ?_
        change wpQuiet _ _ _ _ (_ :: _ :: _ :: _ :: _ :: []) _
        repeat (first
          | go_big_quiet_skip
          | (go_big_quiet_want
             first
             | (refine q_one 22 (.inr (.inr (.inr (.inl rfl)))) (.tmp 136) rfl g5 5 rfl (.slice ka0 f.list.length kc0) CN.out ?_
                simp only [Act.put, List.setIfInBounds_toArray, List.set_cons_zero, List.set_cons_succ]
                go_big_quiet_on)
             | (go_big_quiet_op
                go_big_quiet_on)))
        refine wpQuiet_nil ?_
        have KV := VC.out r s2 b2 y0 (by omega) HKv.out.ro.blk
        refine lone_do (i := 5) 4 rfl (by kernel_rfl) rfl (by rfl) ?_
        intro K hK
        refine oper_call 28 #[.tmp 138, .tmp 140] #[60, 3] rfl #[.pointer (some ⟨r, 0, none⟩), .int .i64 (dp + 1)] (by rw [List.map_toArray]; rfl) (enters Tryz.func28 (by kernel_rfl) rfl) (fun v' w' => ∃ (q : Vt) (na : Option Addr) (nc : Nat) (ka : Option Addr) (kc : Nat) (s3 : ByteArray) (b3 : Bool), v' = .agg #[.int .i64 q.1.k, .int .i64 q.1.n, .int .i64 q.1.s, .string q.1.t, .slice na q.1.ns.length nc, .slice ka q.2.list.length kc] ∧ Hid (Po (dp + 1) r y0 w' s2 b2 q na nc ka kc s3 b3)) (KV.mono fun e' w' ⟨q, na, nc, ka, kc, s3, b3, h1, h2⟩ => ⟨_, h1, q, na, nc, ka, kc, s3, b3, rfl, h2⟩) ?_
        rintro _ y1 ⟨q, na, nc, ka, kc, s3, b3, rfl, H5⟩
        have HN5 : Hid (NK 62 w3.heap.size g4 g5 r W 9 y1 (QC s3 b3) (ns ++ [t]) f vn' (.slice ka0 f.list.length kc0) cs Lf) := HKv.out.read HOd.out H5.out.ko
        have HS2 : Hid (Ns False true dp (bts s1) b1 (bts s3) b3 (f.snoc q) (ns ++ [t])) := by
          have hbt : b3 = true := by
            cases hb3 : b3 with
            | true => rfl
            | false =>
              have q1 := (H5.out.vr.rd.so hb3).1
              have q2 := (HT.out.so q1).1
              cases q2
          rw [hbt]
          exact HNs.out.wrong HRc.out hcw (suf_trans HT.out.suf H5.out.vr.rd.suf)
        have hs3 : s3.size ≤ (s2).size := H5.out.sz
        have HPr : Hid (b3 = false → s3.size < (s2).size) := fun e => by
          have := H5.out.vr.pr e
          rw [bts_len, bts_len] at this
          exact this
        have HKb3 : Hid (b3 = false → (keyF (f.snoc q) true (ns ++ [t])).length + 30 * s3.size ≤ 30 * s1.size) := fun e => by have q1 := (H5.out.vr.rd.so e).1; have q2 := (HT.out.so q1).1; cases q2
        have HQ5 : Hid (∃ Lq, VlL y1 q na nc ka kc Lq ∧ ∀ x ∈ Lq, w3.heap.size ≤ x ∧ x < y1.heap.size ∧ Value.ownBlock vn' ≠ some x ∧ Value.ownBlock (.slice ka0 f.list.length kc0) ≠ some x) := by
          obtain ⟨Lq, a1, a2⟩ := H5.out.vl
          refine ⟨Lq, a1, fun x hx => ?_⟩
          have h1 := a2 x hx
          have h3 := HKv.out.sz
          refine ⟨by omega, by omega, fun c => ?_, fun c => ?_⟩
          · have := (World.ownsRow.lt HKv.out.nm x c).2
            omega
          · have := (World.ownsRow.lt HKv.out.kd x c).2
            omega
        have HQw : Hid (WfV q) := H5.out.wf
        have c1 : C y1 := CI.out _ (HN5.out.b8.cell 5)
        refine hK _ _ c1 ?_
        simp only [Act.put, List.setIfInBounds_toArray, List.set_cons_zero, List.set_cons_succ]
        clear H5 HKv C0 hCp KV
        refine lone_do (i := 6) 3 rfl (by kernel_rfl) rfl (by rfl) ?_
        intro K hK
        refine oper_kid 141 rfl (.int .i64 q.1.k) (.int .i64 q.1.n) (.int .i64 q.1.s) (.string q.1.t) (.slice na q.1.ns.length nc) (.slice ka q.2.list.length kc) rfl ?_
        obtain ⟨y2, HY2⟩ : ∃ y2, Hid (y1.alloc (.cells #[.int .i64 q.1.k, .int .i64 q.1.n, .int .i64 q.1.s, .string q.1.t, .slice na q.1.ns.length nc, .slice ka q.2.list.length kc] 38) = y2) := ⟨_, rfl⟩
        have GA : Hid (Below y1.heap.size y1 y2) := by rw [← HY2.out]; exact (Below.refl _ _).alloc (Nat.le_refl _) _
        have HC9 : Hid (∀ j u, (six q.1 na nc ka q.2.list.length kc)[j]? = some u → y2.cell? ⟨y1.heap.size, j, none⟩ = some u) := fun j u hj => by
          rw [← HY2.out, World.cell?_alloc_new]
          show (six q.1 na nc ka q.2.list.length kc).toArray[j]? = some u
          rw [List.getElem?_toArray]
          exact hj
        rw [HY2.out]
        have HNa : Hid (NK 62 w3.heap.size g4 g5 r W 9 y2 (QC s3 b3) (ns ++ [t]) f vn' (.slice ka0 f.list.length kc0) cs Lf) := HN5.out.below GA.out
        have ca : C y2 := CI.out _ (HNa.out.b8.cell 5)
        refine hK _ _ ca ?_
        simp only [Act.put, List.setIfInBounds_toArray, List.set_cons_zero, List.set_cons_succ]
        clear HY2 c1
        refine lone_do (i := 7) 2 rfl (by kernel_rfl) rfl (by rfl) ?_
        intro K hK
        refine oper_apk (.tmp 137) (.tmp 142) rfl w3.heap.size (.slice ka0 f.list.length kc0) f.list.length cs rfl HNa.out.kd y1.heap.size 1 1 (six q.1 na nc ka q.2.list.length kc) rfl rfl HC9.out (six_one _ _ _ _ _ _) (by omega) HNa.out.sz ?_
        intro vk' y3 o3 g3 a3
        have hc3 : C y3 := CI.out _ ((HNa.out.b8.kept g3 (fun c => by have := (World.ownsRow.lt HNa.out.kd _ c.symm).1; have := HOd.out.lB; omega)).cell 5)
        refine hK _ _ hc3 ?_
        simp only [Act.put, List.setIfInBounds_toArray, List.set_cons_zero, List.set_cons_succ]
        have hCq : ∀ p : Prop, (∀ W, C W → p) ↔ p := fun p => ⟨fun h => h _ hc3, fun h _ _ => h⟩
        refine lone_calm (i := 8) 1 rfl (by kernel_rfl) rfl rfl hc3 ?_
        go_big_quiet_want
        go_big_quiet_op
        go_big_quiet_on
        refine wpQuiet_nil ?_
        have HB8 : Hid (Blk y3 g5 38 [.int .i64 9, .int .i64 0, .int .i64 0, .string ⟨#[]⟩, vn', (.slice ka0 f.list.length kc0)]) := HNa.out.b8.kept g3 (fun c => by have := (World.ownsRow.lt HNa.out.kd _ c.symm).1; have := HOd.out.lB; omega)
        have HO3 : Hid (y3.ownsRow w3.heap.size 38 6 vk' (f.list.length + 1) (cs ++ six q.1 na nc ka q.2.list.length kc)) := o3
        obtain ⟨hcel, hone⟩ : vk'.cells = #[vk'] ∧ vk'.oneCell' = true := by
          rcases o3 with ⟨_, ⟨h, _⟩ | ⟨_, _, _, h, _⟩⟩ <;> subst h <;> exact ⟨rfl, rfl⟩
        have HA3 : Hid (vk'.ownBlock = Value.ownBlock (.slice ka0 f.list.length kc0) ∨ vk'.ownBlock = some y2.heap.size) := a3
        have HG3 : Hid (y2.grownBy y3 (Value.ownBlock (.slice ka0 f.list.length kc0))) := g3
        clear o3 g3 a3 ca HNa HC9 hCq
        refine lone_last (i := 9) 0 rfl rfl (by kernel_rfl) rfl (by rfl) ?_
        intro K hK
        refine oper_st1 22 (.tmp 144) (.tmp 143) rfl g5 5 38 _ vk' rfl rfl hcel hone (by simp) HB8.out sKd ?_
        intro y4 b4 g4x
        have HKn : Hid (∃ Lf', NK 62 w3.heap.size g4 g5 r W 9 y4 (QC s3 b3) (ns ++ [t]) (f.snoc q) vn' vk' (cs ++ six q.1 na nc ka q.2.list.length kc) Lf') := by
          obtain ⟨Lq, a1, a2⟩ := HQ5.out
          exact ⟨Lf ++ Lq, HN5.out.kid HOd.out a1 a2 GA.out HG3.out HO3.out HA3.out b4 g4x⟩
        have HFn : Hid ((Wf (f.snoc q) ∧ (f.snoc q).list.length ≤ 100000 ∧ (∀ x ∈ (ns ++ [t]), x.size ≤ 1000000000) ∧ ((ns ++ [t])).length ≤ 100000) ∧ (b3 = false → (f.snoc q).list.length + s3.size ≤ s1.size ∧ (keyF (f.snoc q) true (ns ++ [t])).length + 30 * s3.size ≤ 30 * s1.size) ∧ lft r y4 < sk.size + 1) := by
          have hl := snoc_list q f
          refine ⟨⟨wf_snoc HQw.out HW.out.1, by rw [hl, List.length_append, List.length_singleton]; omega, ?_, ?_⟩, fun e => ⟨?_, HKb3.out e⟩, ?_⟩
          · intro x hx
            rcases List.mem_append.1 hx with hx | hx
            · exact HW.out.2.2.1 x hx
            · simp at hx
              subst hx
              omega
          · rw [List.length_append, List.length_singleton]
            omega
          · rw [hl, List.length_append, List.length_singleton]
            have h1 := HPr.out e
            have h2 := hroom
            omega
          · obtain ⟨_, hk⟩ := HKn.out
            rw [lft_of hk.ro.blk]
            cases hb3 : b3 with
            | true => simp
            | false => have h1 := HPr.out hb3; simp; omega
        clear b4 g4x HB8 HO3 HA3 HG3 GA HN5 hc3 HQ5
        refine hK _ _ ?_
        simp only [Act.put, List.setIfInBounds_toArray, List.set_cons_zero, List.set_cons_succ]
        refine anyC_done (by kernel_rfl) ⟨rfl, ?_⟩
        clear CN CI hcel hone
        go_wp2
        go_roundw
        case rel =>
          obtain ⟨Lf', hk⟩ := HKn.out
          exact ⟨s3, b3, _, f.snoc q, _, vk', _, Lf', by omega, hk, HS2.out, HFn.out.1, HFn.out.2.1⟩
        case measure =>
          have := HFn.out.2.2
          rw [HLf.out]
          simpa using this
  have n16 : ((x : Int) == 16) = false := beq_eq_false_iff_ne.2 (by omega)
  have n32 : ((x : Int) == 32) = false := beq_eq_false_iff_ne.2 (by omega)
  have n48 : ((x : Int) == 48) = false := beq_eq_false_iff_ne.2 (by omega)
  have n64 : ((x : Int) == 64) = false := beq_eq_false_iff_ne.2 (by omega)
  have n80 : ((x : Int) == 80) = false := beq_eq_false_iff_ne.2 (by omega)
  have n96 : ((x : Int) == 96) = false := beq_eq_false_iff_ne.2 (by omega)
  have n112 : ((x : Int) == 112) = false := beq_eq_false_iff_ne.2 (by omega)
  have n128 : ((x : Int) == 128) = false := beq_eq_false_iff_ne.2 (by omega)
  go_wp2_with (refine st_one rfl 4 (.tmp 19) (.const (.bool true)) rfl r 1 62 _ (.bool true) rfl rfl rfl rfl (by simp) HK2.out.blk s4 ?_)
  intro w3 b3 gr3
  obtain ⟨sx, hsx⟩ : ∃ sx, sx = s1 := ⟨_, rfl⟩
  obtain ⟨bx, hbx⟩ : ∃ bx, bx = true := ⟨_, rfl⟩
  have HK : Hid (Kq r W w3 sx bx) := by rw [hsx, hbx]; exact ⟨b3, HK2.out.gr.trans gr3⟩
  have HZ4 : Hid (Blk w3 g4 38 zer) := HZ2.out.kept gr3 (by intro e; injection e with e; omega)
  have HB5 : Hid (Blk w3 g5 38 [.int .i64 0, .int .i64 0, .int .i64 0, .string ⟨#[]⟩, .slice none 0 0, .slice none 0 0]) := HV2.out.kept gr3 (by intro e; injection e with e; omega)
  have HWF : Hid (WfV (⟨0, 0, 0, ⟨#[]⟩, []⟩, .nil)) := wf_leaf 0 0 0 ⟨#[]⟩ (by omega) (by omega) (by omega) (by omega) (by omega) (by omega) (by decide)
  have HVR : Hid (Vr False dp (bts s) bad (bts sx) bx (⟨0, 0, 0, ⟨#[]⟩, []⟩, .nil)) := by rw [hsx, hbx]; exact vr_none HR1.out ⟨c16, c32, c48, c64, c80, c96, c112, c128⟩
  have HSZ : Hid (sx.size ≤ s.size) := by rw [hsx]; exact hs1
  have HKB : Hid (bx = false → (keyV (⟨0, 0, 0, ⟨#[]⟩, []⟩, .nil)).length + 30 * sx.size ≤ 30 * s.size) := fun e => by rw [hbx] at e; cases e
  clear b3 gr3 HK2 HZ2 HV2 HR1 HL1 hsx hbx
  go_wp2_with (first
    | refine D6.ld_all rfl 38 (.tmp 5) rfl g5 38 _ _ rfl HB5.out Tryz.underlying38 rfl sV ?_
    | refine st_all rfl 38 (.tmp 4) (.tmp 145) rfl g4 38 zer [.int .i64 0, .int .i64 0, .int .i64 0, .string ⟨#[]⟩, .slice none 0 0, .slice none 0 0] rfl rfl HZ4.out rfl sV (D6.ones rfl) ?_)
  intro w9 b9 g9
  have HB9 : Hid (Blk w9 g4 38 [.int .i64 0, .int .i64 0, .int .i64 0, .string ⟨#[]⟩, .slice none 0 0, .slice none 0 0]) := b9
  have HQ : Hid (Po dp r W w9 s bad (⟨0, 0, 0, ⟨#[]⟩, []⟩, .nil) none 0 none 0 sx bx) := ⟨HK.out.kept g9 hg4 hrW, ⟨[], vl_leaf _ _ _ _ _, fun x hx => by cases hx⟩, HWF.out, HVR.out, HSZ.out, HKB.out⟩
  clear b9 g9 HZ4 HK HB5 HWF HVR HSZ HKB
  go_wp2
  exact bodyPost_ret (D6.res_row rfl _ g4 38 _ _ rfl HB9.out Tryz.underlying38 rfl sV) rfl ⟨_, none, 0, none, 0, sx, bx, rfl, HQ.out⟩
end Go.Proofs.YtmlfhplhiedfjaaGreatDoor
