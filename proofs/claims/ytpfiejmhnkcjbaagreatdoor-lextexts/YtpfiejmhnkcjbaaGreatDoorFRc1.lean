/-
  text's reader: value.
-/
import Derived.Test.YtpfiejmhnkcjbaaGreatDoorFRb8
import Derived.Test.YtpfiejmhnkcjbaaGreatDoorFRb9n
namespace Go.Proofs.YtpfiejmhnkcjbaaGreatDoor
open Go.RowKit Math
set_option linter.unusedVariables false
set_option linter.unusedSimpArgs false
theorem vl_leaf9 (w : World) (k n s : Int) (t : ByteArray) : VlL w (⟨k, n, s, t, []⟩, .nil) none 0 none 0 [] :=
  ⟨[], [], rfl, .inl ⟨rfl, rfl⟩, ⟨Nat.le_refl _, fun _ => rfl, by decide⟩, ⟨Nat.le_refl _, fun _ => rfl, by decide⟩, .inl ⟨rfl, rfl⟩⟩
theorem wf_leaf9 (k n s : Int) (t : ByteArray) (k0 : 0 ≤ k ∧ k ≤ 9) (n0 : -9223372036854775808 ≤ n ∧ n < 9223372036854775808) (s0 : 0 ≤ s ∧ s ≤ 18) (ht : t.size ≤ 1000000000) : WfV (⟨k, n, s, t, []⟩, .nil) :=
  ⟨⟨by show (-9223372036854775808 : Int) ≤ k; omega, by show k < 9223372036854775808; omega, n0.1, n0.2, by show (-9223372036854775808 : Int) ≤ s; omega, by show s < 9223372036854775808; omega, by show t.size ≤ _; omega, Nat.zero_le _, fun x hx => by cases hx⟩, Nat.zero_le _, trivial⟩
theorem kt_kept {r g : Nat} {W w w' : World} {s : ByteArray} {b : Bool} (h : Kt r W w s b) (k : w.grownBy w' (some g)) (hg : W.heap.size ≤ g) (hr : r < W.heap.size) : Kt r W w' s b := kr_grown h k (fun x c => by injection c with c; omega)
set_option maxRecDepth 8000 in
set_option maxHeartbeats 2000000 in
theorem value_deep9 (dp : Int) (hdp : 16 < dp) (hdp2 : dp ≤ 100) (r : Nat) (s : ByteArray) (bad : Bool) (W : World) (hs : s.size ≤ 600000) (hb : Blk W r 106 [.string s, .bool bad]) :
    Calls Tryz.prog 79 #[.pointer (some ⟨r, 0, none⟩), .int .i64 dp] W fun e w' => ∃ (p : Vt) (na : Option Addr) (nc : Nat) (ka : Option Addr) (kc : Nat) (s' : ByteArray) (bad' : Bool), e = .returned (.agg #[.int .i64 p.1.k, .int .i64 p.1.n, .int .i64 p.1.s, .string p.1.t, .slice na p.1.ns.length nc, .slice ka p.2.list.length kc]) ∧ Hid (Vo9 dp r W w' s s' bad bad' p na nc ka kc) := by
  have hd : decide ((16 : Int) < dp) = true := decide_eq_true hdp
  have hrW : r < W.heap.size := hb.lt
  have HB : Hid (Blk W r 106 [.string s, .bool bad]) := hb
  clear hb
  go_enter Tryz.func79, Tryz.ntmps79
  go_wp2_with (refine al_zero rfl 41 rfl zer z25 ?_)
  intro g4 w1 hg4 b1 gr1
  have HK1 : Hid (Kt r W w1 s bad) := ⟨HB.out.kept gr1 (by simp), ⟨gr1.os, gr1.tape, gr1.output, gr1.size, fun x hx hne => gr1.block x hx (by simp)⟩⟩
  have HZ1 : Hid (Blk w1 g4 41 zer) := b1
  have hg4l : g4 < w1.heap.size := b1.lt
  have hW1 : W.heap.size ≤ w1.heap.size := gr1.size
  clear b1 gr1 HB
  go_wp2_with (refine st_one rfl 4 (.tmp 16) (.const (.bool true)) rfl r 1 106 [.string s, .bool bad] (.bool true) rfl rfl rfl rfl (by simp) HK1.out.blk sz4 ?_)
  intro w2 b2 gr2
  have HK : Hid (Kt r W w2 s true) := HK1.out.trans ⟨b2, gr2⟩
  have HZ : Hid (Blk w2 g4 41 zer) := HZ1.out.kept gr2 (by intro e; injection e with e; omega)
  have HVR : Hid (Vx dp (bts s) bad (bts s) true (lf 0 0 0 em)) := vx_deep hdp ⟨[], rfl⟩
  clear b2 gr2 HK1 HZ1
  have HWF : Hid (WfV (⟨0, 0, 0, ⟨#[]⟩, []⟩, .nil)) := wf_leaf9 0 0 0 ⟨#[]⟩ (by omega) (by omega) (by omega) (by decide)
  go_wp2_with (refine st_all rfl 41 (.tmp 4) (.tmp 17) rfl g4 41 zer [.int .i64 0, .int .i64 0, .int .i64 0, .string ⟨#[]⟩, .slice none 0 0, .slice none 0 0] rfl rfl HZ.out rfl s25 (D6.ones rfl) ?_)
  intro w9 b9 g9
  have HB9 : Hid (Blk w9 g4 41 [.int .i64 0, .int .i64 0, .int .i64 0, .string ⟨#[]⟩, .slice none 0 0, .slice none 0 0]) := b9
  have HQ : Hid (Vo9 dp r W w9 s s bad true (⟨0, 0, 0, ⟨#[]⟩, []⟩, .nil) none 0 none 0) := ⟨kt_kept HK.out g9 hg4 hrW, ⟨[], vl_leaf9 _ _ _ _ _, fun x hx => by cases hx⟩, HWF.out, HVR.out⟩
  clear b9 g9 HZ HK HWF HVR
  go_wp2
  exact bodyPost_ret (D6.res_row rfl _ g4 41 _ _ rfl HB9.out Tryz.underlying41 rfl s25) rfl ⟨(⟨0, 0, 0, ⟨#[]⟩, []⟩, .nil), none, 0, none, 0, s, true, rfl, HQ.out⟩
set_option maxRecDepth 8000 in
set_option maxHeartbeats 8000000 in
theorem value_step9 (dp : Int) (hdp : 0 ≤ dp) (hdp2 : dp ≤ 16) (VC : Hid (VvC (dp + 1))) (r : Nat) (s : ByteArray) (bad : Bool) (W : World) (hs : s.size ≤ 600000) (hb : Blk W r 106 [.string s, .bool bad]) :
    Calls Tryz.prog 79 #[.pointer (some ⟨r, 0, none⟩), .int .i64 dp] W fun e w' => ∃ (p : Vt) (na : Option Addr) (nc : Nat) (ka : Option Addr) (kc : Nat) (s' : ByteArray) (bad' : Bool), e = .returned (.agg #[.int .i64 p.1.k, .int .i64 p.1.n, .int .i64 p.1.s, .string p.1.t, .slice na p.1.ns.length nc, .slice ka p.2.list.length kc]) ∧ Hid (Vo9 dp r W w' s s' bad bad' p na nc ka kc) := by
  have hd : decide ((16 : Int) < dp) = false := decide_eq_false (by omega)
  have hrW : r < W.heap.size := hb.lt
  have HB : Hid (Blk W r 106 [.string s, .bool bad]) := hb
  clear hb
  go_enter Tryz.func79, Tryz.ntmps79
  go_wp2_with (refine al_zero rfl 41 rfl zer z25 ?_)
  intro g4 w1 hg4 b1 gr1
  have HK1 : Hid (Kt r W w1 s bad) := ⟨HB.out.kept gr1 (by simp), ⟨gr1.os, gr1.tape, gr1.output, gr1.size, fun x hx hne => gr1.block x hx (by simp)⟩⟩
  have HZ1 : Hid (Blk w1 g4 41 zer) := b1
  have hg4l : g4 < w1.heap.size := b1.lt
  have hW1 : W.heap.size ≤ w1.heap.size := gr1.size
  clear b1 gr1 HB
  have c0 : w1.cell? ⟨r, 0, none⟩ = some (.string s) := HK1.out.blk.cell 0
  by_cases h0 : s.size = 0
  · have he : s.toList.isEmpty = true := (empty9 s).2 h0
    have HNil : Hid (bts s = []) := List.eq_nil_of_length_eq_zero (by rw [bts_len]; exact h0)
    clear h0
    go_wp2_with (refine st_one rfl 4 (.tmp 16) (.const (.bool true)) rfl r 1 106 [.string s, .bool bad] (.bool true) rfl rfl rfl rfl (by simp) HK1.out.blk sz4 ?_)
    intro w2 b2 gr2
    have HK : Hid (Kt r W w2 s true) := HK1.out.trans ⟨b2, gr2⟩
    have HZ : Hid (Blk w2 g4 41 zer) := HZ1.out.kept gr2 (by intro e; injection e with e; omega)
    have HVR : Hid (Vx dp (bts s) bad (bts s) true (lf 0 0 0 em)) := by rw [HNil.out]; exact vx_end ⟨[], rfl⟩
    clear b2 gr2 HK1 HZ1
    have HWF : Hid (WfV (⟨0, 0, 0, ⟨#[]⟩, []⟩, .nil)) := wf_leaf9 0 0 0 ⟨#[]⟩ (by omega) (by omega) (by omega) (by decide)
    go_wp2_with (refine st_all rfl 41 (.tmp 4) (.tmp 17) rfl g4 41 zer [.int .i64 0, .int .i64 0, .int .i64 0, .string ⟨#[]⟩, .slice none 0 0, .slice none 0 0] rfl rfl HZ.out rfl s25 (D6.ones rfl) ?_)
    intro w9 b9 g9
    have HB9 : Hid (Blk w9 g4 41 [.int .i64 0, .int .i64 0, .int .i64 0, .string ⟨#[]⟩, .slice none 0 0, .slice none 0 0]) := b9
    have HQ : Hid (Vo9 dp r W w9 s s bad true (⟨0, 0, 0, ⟨#[]⟩, []⟩, .nil) none 0 none 0) := ⟨kt_kept HK.out g9 hg4 hrW, ⟨[], vl_leaf9 _ _ _ _ _, fun x hx => by cases hx⟩, HWF.out, HVR.out⟩
    clear b9 g9 HZ HK HWF HVR
    go_wp2
    exact bodyPost_ret (D6.res_row rfl _ g4 41 _ _ rfl HB9.out Tryz.underlying41 rfl s25) rfl ⟨(⟨0, 0, 0, ⟨#[]⟩, []⟩, .nil), none, 0, none, 0, s, true, rfl, HQ.out⟩
  have he : s.toList.isEmpty = false := by
    cases hh : s.toList.isEmpty with
    | true => exact absurd ((empty9 s).1 hh) h0
    | false => rfl
  have hp : 0 < s.size := by omega
  obtain ⟨T, hT⟩ : ∃ T, bts s = (s[0]'hp).toNat :: T := ⟨_, bcons9 s hp⟩
  obtain ⟨c, hce⟩ : ∃ c, (s[0]'hp).toNat = c := ⟨_, rfl⟩
  rw [hce] at hT
  have hlt : c < 256 := by rw [← hce]; exact (s[0]'hp).toNat_lt
  have HT : Hid (bts s = c :: T) := hT
  have hib : (0 : Int) < (s.size : Int) := by omega
  clear hT h0
  by_cases c110 : c = 110
  · subst c110
    have K := must9 r s ⟨#[110, 117, 108, 108]⟩ bad w1 HK1.out.blk
    go_wp2_with fail
    refine K.mono ?_
    rintro e w2 ⟨s2, b2, rfl, H2⟩
    have HK : Hid (Kt r W w2 s2 b2) := HK1.out.trans H2.out.1
    have HZ : Hid (Blk w2 g4 41 zer) := HZ1.out.kept H2.out.1.gr (by intro e; injection e with e; omega)
    have HVR : Hid (Vx dp (bts s) bad (bts s2) b2 (lf 1 0 0 em)) := by
      have h1 := H2.out.2.1
      have h2 := H2.out.2.2.1
      rw [HT.out] at h1 h2 ⊢
      refine vx_null h1 fun hb => ?_
      rw [h2 hb, List.length_append]
      have : 0 < (bts ⟨#[110, 117, 108, 108]⟩).length := by decide
      omega
    clear K H2 HK1 HZ1 c0 HT
    have HWF : Hid (WfV (⟨1, 0, 0, ⟨#[]⟩, []⟩, .nil)) := wf_leaf9 1 0 0 ⟨#[]⟩ (by omega) (by omega) (by omega) (by decide)
    go_wp2_with (refine st_all rfl 41 (.tmp 4) (.tmp 27) rfl g4 41 zer [.int .i64 1, .int .i64 0, .int .i64 0, .string ⟨#[]⟩, .slice none 0 0, .slice none 0 0] rfl rfl HZ.out rfl s25 (D6.ones rfl) ?_)
    intro w9 b9 g9
    have HB9 : Hid (Blk w9 g4 41 [.int .i64 1, .int .i64 0, .int .i64 0, .string ⟨#[]⟩, .slice none 0 0, .slice none 0 0]) := b9
    have HQ : Hid (Vo9 dp r W w9 s s2 bad b2 (⟨1, 0, 0, ⟨#[]⟩, []⟩, .nil) none 0 none 0) := ⟨kt_kept HK.out g9 hg4 hrW, ⟨[], vl_leaf9 _ _ _ _ _, fun x hx => by cases hx⟩, HWF.out, HVR.out⟩
    clear b9 g9 HZ HK HWF HVR
    go_wp2
    exact bodyPost_ret (D6.res_row rfl _ g4 41 _ _ rfl HB9.out Tryz.underlying41 rfl s25) rfl ⟨(⟨1, 0, 0, ⟨#[]⟩, []⟩, .nil), none, 0, none, 0, s2, b2, rfl, HQ.out⟩
  by_cases c116 : c = 116
  · subst c116
    have K := must9 r s ⟨#[116, 114, 117, 101]⟩ bad w1 HK1.out.blk
    go_wp2_with fail
    refine K.mono ?_
    rintro e w2 ⟨s2, b2, rfl, H2⟩
    have HK : Hid (Kt r W w2 s2 b2) := HK1.out.trans H2.out.1
    have HZ : Hid (Blk w2 g4 41 zer) := HZ1.out.kept H2.out.1.gr (by intro e; injection e with e; omega)
    have HVR : Hid (Vx dp (bts s) bad (bts s2) b2 (lf 2 1 0 em)) := by
      have h1 := H2.out.2.1
      have h2 := H2.out.2.2.1
      rw [HT.out] at h1 h2 ⊢
      refine vx_true h1 fun hb => ?_
      rw [h2 hb, List.length_append]
      have : 0 < (bts ⟨#[116, 114, 117, 101]⟩).length := by decide
      omega
    clear K H2 HK1 HZ1 c0 HT
    have HWF : Hid (WfV (⟨2, 1, 0, ⟨#[]⟩, []⟩, .nil)) := wf_leaf9 2 1 0 ⟨#[]⟩ (by omega) (by omega) (by omega) (by decide)
    go_wp2_with (refine st_all rfl 41 (.tmp 4) (.tmp 32) rfl g4 41 zer [.int .i64 2, .int .i64 1, .int .i64 0, .string ⟨#[]⟩, .slice none 0 0, .slice none 0 0] rfl rfl HZ.out rfl s25 (D6.ones rfl) ?_)
    intro w9 b9 g9
    have HB9 : Hid (Blk w9 g4 41 [.int .i64 2, .int .i64 1, .int .i64 0, .string ⟨#[]⟩, .slice none 0 0, .slice none 0 0]) := b9
    have HQ : Hid (Vo9 dp r W w9 s s2 bad b2 (⟨2, 1, 0, ⟨#[]⟩, []⟩, .nil) none 0 none 0) := ⟨kt_kept HK.out g9 hg4 hrW, ⟨[], vl_leaf9 _ _ _ _ _, fun x hx => by cases hx⟩, HWF.out, HVR.out⟩
    clear b9 g9 HZ HK HWF HVR
    go_wp2
    exact bodyPost_ret (D6.res_row rfl _ g4 41 _ _ rfl HB9.out Tryz.underlying41 rfl s25) rfl ⟨(⟨2, 1, 0, ⟨#[]⟩, []⟩, .nil), none, 0, none, 0, s2, b2, rfl, HQ.out⟩
  by_cases c102 : c = 102
  · subst c102
    have K := must9 r s ⟨#[102, 97, 108, 115, 101]⟩ bad w1 HK1.out.blk
    go_wp2_with fail
    refine K.mono ?_
    rintro e w2 ⟨s2, b2, rfl, H2⟩
    have HK : Hid (Kt r W w2 s2 b2) := HK1.out.trans H2.out.1
    have HZ : Hid (Blk w2 g4 41 zer) := HZ1.out.kept H2.out.1.gr (by intro e; injection e with e; omega)
    have HVR : Hid (Vx dp (bts s) bad (bts s2) b2 (lf 2 0 0 em)) := by
      have h1 := H2.out.2.1
      have h2 := H2.out.2.2.1
      rw [HT.out] at h1 h2 ⊢
      refine vx_false h1 fun hb => ?_
      rw [h2 hb, List.length_append]
      have : 0 < (bts ⟨#[102, 97, 108, 115, 101]⟩).length := by decide
      omega
    clear K H2 HK1 HZ1 c0 HT
    have HWF : Hid (WfV (⟨2, 0, 0, ⟨#[]⟩, []⟩, .nil)) := wf_leaf9 2 0 0 ⟨#[]⟩ (by omega) (by omega) (by omega) (by decide)
    go_wp2_with (refine st_all rfl 41 (.tmp 4) (.tmp 37) rfl g4 41 zer [.int .i64 2, .int .i64 0, .int .i64 0, .string ⟨#[]⟩, .slice none 0 0, .slice none 0 0] rfl rfl HZ.out rfl s25 (D6.ones rfl) ?_)
    intro w9 b9 g9
    have HB9 : Hid (Blk w9 g4 41 [.int .i64 2, .int .i64 0, .int .i64 0, .string ⟨#[]⟩, .slice none 0 0, .slice none 0 0]) := b9
    have HQ : Hid (Vo9 dp r W w9 s s2 bad b2 (⟨2, 0, 0, ⟨#[]⟩, []⟩, .nil) none 0 none 0) := ⟨kt_kept HK.out g9 hg4 hrW, ⟨[], vl_leaf9 _ _ _ _ _, fun x hx => by cases hx⟩, HWF.out, HVR.out⟩
    clear b9 g9 HZ HK HWF HVR
    go_wp2
    exact bodyPost_ret (D6.res_row rfl _ g4 41 _ _ rfl HB9.out Tryz.underlying41 rfl s25) rfl ⟨(⟨2, 0, 0, ⟨#[]⟩, []⟩, .nil), none, 0, none, 0, s2, b2, rfl, HQ.out⟩
  by_cases cnum : c = 45 ∨ c = 48 ∨ c = 49 ∨ c = 50 ∨ c = 51 ∨ c = 52 ∨ c = 53 ∨ c = 54 ∨ c = 55 ∨ c = 56 ∨ c = 57
  · have HCn : Hid (nsg c = true ∧ (c = 45 ∨ (48 ≤ c ∧ c ≤ 57))) := by
      refine ⟨?_, by omega⟩
      unfold nsg
      rw [decide_eq_true_eq]
      omega
    have K := number9 r s bad hs w1 HK1.out.blk
    have HG : Hid (∀ (w2 : World) (s2 : ByteArray) (b2 : Bool) (h : Hd), Nr r w1 w2 s s2 bad b2 h → Kt r W w2 s2 b2 ∧ Blk w2 g4 41 zer ∧ Vx dp (bts s) bad (bts s2) b2 (⟨h.k, h.n, h.s, ⟨#[]⟩, []⟩, .nil) ∧ WfV (⟨h.k, h.n, h.s, ⟨#[]⟩, []⟩, .nil)) := fun w2 s2 b2 h H => by
      have eh : h = ⟨h.k, h.n, h.s, ⟨#[]⟩, []⟩ := hd9 rfl rfl rfl H.t H.ns
      refine ⟨HK1.out.trans H.kt, HZ1.out.kept H.kt.gr (by intro e; injection e with e; omega), ?_, wf_leaf9 _ _ _ _ ⟨H.k0.1, by have := H.k0.2; omega⟩ H.n0 H.s0 (by decide)⟩
      have hl := H.lt ⟨c, T, HT.out, HCn.out.1⟩
      have hr := H.rt
      rw [← eh]
      rw [HT.out] at hr ⊢
      refine vx_num HCn.out.2 hr ⟨H.t, H.ns⟩ fun _ => ?_
      rw [← HT.out, bts_len, bts_len]
      exact hl
    clear HK1 HZ1 HCn
    rcases cnum with hh | hh | hh | hh | hh | hh | hh | hh | hh | hh | hh <;>
    (subst hh
     go_wp2_with fail
     refine K.mono ?_
     rintro e w2 ⟨s2, b2, h, rfl, H2⟩
     have HX := Lib.hid (HG.out w2 s2 b2 h H2.out)
     clear K H2 HG c0 HT
     go_wp2_with (refine st_all rfl 41 (.tmp 4) (.tmp 51) rfl g4 41 zer [.int .i64 h.k, .int .i64 h.n, .int .i64 h.s, .string ⟨#[]⟩, .slice none 0 0, .slice none 0 0] rfl rfl HX.out.2.1 rfl s25 (D6.ones rfl) ?_)
     intro w9 b9 g9
     have HB9 : Hid (Blk w9 g4 41 [.int .i64 h.k, .int .i64 h.n, .int .i64 h.s, .string ⟨#[]⟩, .slice none 0 0, .slice none 0 0]) := b9
     have HQ : Hid (Vo9 dp r W w9 s s2 bad b2 (⟨h.k, h.n, h.s, ⟨#[]⟩, []⟩, .nil) none 0 none 0) := ⟨kt_kept HX.out.1 g9 hg4 hrW, ⟨[], vl_leaf9 _ _ _ _ _, fun x hx => by cases hx⟩, HX.out.2.2.2, HX.out.2.2.1⟩
     clear b9 g9 HX
     go_wp2
     exact bodyPost_ret (D6.res_row rfl _ g4 41 _ _ rfl HB9.out Tryz.underlying41 rfl s25) rfl ⟨(⟨h.k, h.n, h.s, ⟨#[]⟩, []⟩, .nil), none, 0, none, 0, s2, b2, rfl, HQ.out⟩)
  have n45 : ¬ c = 45 := fun h => cnum (.inl h)
  have nd : ¬ (48 ≤ c ∧ c ≤ 57) := fun h => cnum (by omega)
  have e110 : ((c : Int) == 110) = false := by simp; omega
  have e116 : ((c : Int) == 116) = false := by simp; omega
  have e102 : ((c : Int) == 102) = false := by simp; omega
  have e45 : ((c : Int) == 45) = false := by simp; omega
  have e48 : ((c : Int) == 48) = false := by simp; omega
  have e49 : ((c : Int) == 49) = false := by simp; omega
  have e50 : ((c : Int) == 50) = false := by simp; omega
  have e51 : ((c : Int) == 51) = false := by simp; omega
  have e52 : ((c : Int) == 52) = false := by simp; omega
  have e53 : ((c : Int) == 53) = false := by simp; omega
  have e54 : ((c : Int) == 54) = false := by simp; omega
  have e55 : ((c : Int) == 55) = false := by simp; omega
  have e56 : ((c : Int) == 56) = false := by simp; omega
  have e57 : ((c : Int) == 57) = false := by simp; omega
  clear cnum
  by_cases c64 : c = 64
  · have f64 : ((c : Int) == 64) = true := by rw [c64]; rfl
    have K := time9 r s bad hs w1 HK1.out.blk
    have HC : Hid (c = 64) := c64
    clear c64
    go_wp2_with fail
    refine K.mono ?_
    rintro e w2 ⟨s2, b2, h, rfl, H2⟩
    have HK : Hid (Kt r W w2 s2 b2) := HK1.out.trans H2.out.kt
    have HZ : Hid (Blk w2 g4 41 zer) := HZ1.out.kept H2.out.kt.gr (by intro e; injection e with e; omega)
    have HVR : Hid (Vx dp (bts s) bad (bts s2) b2 (⟨5, h.n, h.s, ⟨#[]⟩, []⟩, .nil)) := by
      obtain ⟨l1, b1, R1, R2⟩ := H2.out.rt
      have hl := H2.out.lt
      have ht := H2.out.t
      have hn := H2.out.ns
      rw [HT.out, HC.out] at R1
      have hz : (bts s).length = s.size := bts_len s
      rw [HT.out, HC.out] at hz ⊢
      have := vx_time (d := dp) R1 R2 ⟨ht, hn⟩ (fun hb => by have := hl hb; rw [hz, bts_len]; exact this)
      rw [ht, hn] at this
      exact this
    have HN : Hid ((-9223372036854775808 ≤ h.n ∧ h.n < 9223372036854775808) ∧ (0 ≤ h.s ∧ h.s ≤ 18)) := ⟨H2.out.n0, H2.out.s0⟩
    clear K H2 HK1 HZ1 c0 HT HC
    have HWF : Hid (WfV (⟨5, h.n, h.s, ⟨#[]⟩, []⟩, .nil)) := wf_leaf9 5 h.n h.s ⟨#[]⟩ (by omega) HN.out.1 HN.out.2 (by decide)
    go_wp2_with (refine st_all rfl 41 (.tmp 4) (.tmp 55) rfl g4 41 zer [.int .i64 5, .int .i64 h.n, .int .i64 h.s, .string ⟨#[]⟩, .slice none 0 0, .slice none 0 0] rfl rfl HZ.out rfl s25 (D6.ones rfl) ?_)
    intro w9 b9 g9
    have HB9 : Hid (Blk w9 g4 41 [.int .i64 5, .int .i64 h.n, .int .i64 h.s, .string ⟨#[]⟩, .slice none 0 0, .slice none 0 0]) := b9
    have HQ : Hid (Vo9 dp r W w9 s s2 bad b2 (⟨5, h.n, h.s, ⟨#[]⟩, []⟩, .nil) none 0 none 0) := ⟨kt_kept HK.out g9 hg4 hrW, ⟨[], vl_leaf9 _ _ _ _ _, fun x hx => by cases hx⟩, HWF.out, HVR.out⟩
    clear b9 g9 HZ HK HWF HVR
    go_wp2
    exact bodyPost_ret (D6.res_row rfl _ g4 41 _ _ rfl HB9.out Tryz.underlying41 rfl s25) rfl ⟨(⟨5, h.n, h.s, ⟨#[]⟩, []⟩, .nil), none, 0, none, 0, s2, b2, rfl, HQ.out⟩
  have e64 : ((c : Int) == 64) = false := by simp; omega
  by_cases c39 : c = 39
  · have f39 : ((c : Int) == 39) = true := by rw [c39]; rfl
    have K := text9 r s bad hs w1 HK1.out.blk
    have HC : Hid (c = 39) := c39
    clear c39
    go_wp2_with fail
    refine K.mono ?_
    rintro e w2 ⟨s2, b2, x, rfl, H2⟩
    have HK : Hid (Kt r W w2 s2 b2) := HK1.out.trans H2.out.1
    have HZ : Hid (Blk w2 g4 41 zer) := HZ1.out.kept H2.out.1.gr (by intro e; injection e with e; omega)
    have HVR : Hid (Vx dp (bts s) bad (bts s2) b2 (⟨6, 0, 0, x, []⟩, .nil)) := by
      have R := H2.out.2.1
      have hl := H2.out.2.2.1
      have hz : (bts s).length = s.size := bts_len s
      rw [HT.out, HC.out] at R hz ⊢
      exact vx_text R (fun hb => by have := hl hb; rw [hz, bts_len]; exact this)
    have HN : Hid (x.size ≤ 1000000000) := by have := H2.out.2.2.2.1; show _ ≤ _; omega
    clear K H2 HK1 HZ1 c0 HT HC
    have HWF : Hid (WfV (⟨6, 0, 0, x, []⟩, .nil)) := wf_leaf9 6 0 0 x (by omega) (by omega) (by omega) HN.out
    go_wp2_with (refine st_all rfl 41 (.tmp 4) (.tmp 60) rfl g4 41 zer [.int .i64 6, .int .i64 0, .int .i64 0, .string x, .slice none 0 0, .slice none 0 0] rfl rfl HZ.out rfl s25 (D6.ones rfl) ?_)
    intro w9 b9 g9
    have HB9 : Hid (Blk w9 g4 41 [.int .i64 6, .int .i64 0, .int .i64 0, .string x, .slice none 0 0, .slice none 0 0]) := b9
    have HQ : Hid (Vo9 dp r W w9 s s2 bad b2 (⟨6, 0, 0, x, []⟩, .nil) none 0 none 0) := ⟨kt_kept HK.out g9 hg4 hrW, ⟨[], vl_leaf9 _ _ _ _ _, fun x hx => by cases hx⟩, HWF.out, HVR.out⟩
    clear b9 g9 HZ HK HWF HVR
    go_wp2
    exact bodyPost_ret (D6.res_row rfl _ g4 41 _ _ rfl HB9.out Tryz.underlying41 rfl s25) rfl ⟨(⟨6, 0, 0, x, []⟩, .nil), none, 0, none, 0, s2, b2, rfl, HQ.out⟩
  have e39 : ((c : Int) == 39) = false := by simp; omega
  by_cases c35 : c = 35
  · have f35 : ((c : Int) == 35) = true := by rw [c35]; rfl
    have K := blob9 r s bad hs w1 HK1.out.blk
    have HC : Hid (c = 35) := c35
    clear c35
    go_wp2_with fail
    refine K.mono ?_
    rintro e w2 ⟨s2, b2, x, rfl, H2⟩
    have HK : Hid (Kt r W w2 s2 b2) := HK1.out.trans H2.out.1
    have HZ : Hid (Blk w2 g4 41 zer) := HZ1.out.kept H2.out.1.gr (by intro e; injection e with e; omega)
    have HVR : Hid (Vx dp (bts s) bad (bts s2) b2 (⟨7, 0, 0, x, []⟩, .nil)) := by
      have R := H2.out.2.1
      have hl := H2.out.2.2.1
      have hz : (bts s).length = s.size := bts_len s
      rw [HT.out, HC.out] at R hz ⊢
      exact vx_blob R (fun hb => by have := hl hb; rw [hz, bts_len]; exact this)
    have HN : Hid (x.size ≤ 1000000000) := by have := H2.out.2.2.2.1; show _ ≤ _; omega
    clear K H2 HK1 HZ1 c0 HT HC
    have HWF : Hid (WfV (⟨7, 0, 0, x, []⟩, .nil)) := wf_leaf9 7 0 0 x (by omega) (by omega) (by omega) HN.out
    go_wp2_with (refine st_all rfl 41 (.tmp 4) (.tmp 65) rfl g4 41 zer [.int .i64 7, .int .i64 0, .int .i64 0, .string x, .slice none 0 0, .slice none 0 0] rfl rfl HZ.out rfl s25 (D6.ones rfl) ?_)
    intro w9 b9 g9
    have HB9 : Hid (Blk w9 g4 41 [.int .i64 7, .int .i64 0, .int .i64 0, .string x, .slice none 0 0, .slice none 0 0]) := b9
    have HQ : Hid (Vo9 dp r W w9 s s2 bad b2 (⟨7, 0, 0, x, []⟩, .nil) none 0 none 0) := ⟨kt_kept HK.out g9 hg4 hrW, ⟨[], vl_leaf9 _ _ _ _ _, fun x hx => by cases hx⟩, HWF.out, HVR.out⟩
    clear b9 g9 HZ HK HWF HVR
    go_wp2
    exact bodyPost_ret (D6.res_row rfl _ g4 41 _ _ rfl HB9.out Tryz.underlying41 rfl s25) rfl ⟨(⟨7, 0, 0, x, []⟩, .nil), none, 0, none, 0, s2, b2, rfl, HQ.out⟩
  have e35 : ((c : Int) == 35) = false := by simp; omega
  by_cases c91 : c = 91
  · have f91 : ((c : Int) == 91) = true := by rw [c91]; rfl
    have K := list9 dp VC hdp hdp2 r s bad hs w1 HK1.out.blk
    have HC : Hid (c = 91) := c91
    clear c91
    go_wp2_with fail
    refine K.mono ?_
    rintro e w2 ⟨x, na, nc, ka, kc, s2, b2, rfl, H2⟩
    have HK : Hid (Kt r W w2 s2 b2) := HK1.out.trans H2.out.kt
    have HZ : Hid (Blk w2 g4 41 zer) := HZ1.out.kept H2.out.kt.gr (by intro e; injection e with e; omega)
    have HVR : Hid (Vx dp (bts s) bad (bts s2) b2 (nst 8 x)) := by
      obtain ⟨l1, b1, R1, R2⟩ := H2.out.rt
      have hl := H2.out.pr
      have hz : (bts s).length = s.size := bts_len s
      rw [HT.out, HC.out] at R1 hz ⊢
      exact vx_nest (.inl ⟨rfl, rfl, rfl⟩) R1 R2 (fun hb => by have := hl hb; rw [hz, bts_len]; exact this)
    have HWF : Hid (WfV (nst 8 x)) := H2.out.wf
    have HVl : Hid (∃ Lp, VlL w2 (nst 8 x) na nc ka kc Lp ∧ ∀ y ∈ Lp, w1.heap.size ≤ y ∧ y < w2.heap.size) := H2.out.vl
    clear K H2 HK1 HZ1 c0 HT HC
    go_wp2_with (refine st_all rfl 41 (.tmp 4) (.tmp 70) rfl g4 41 zer [.int .i64 8, .int .i64 0, .int .i64 0, .string ⟨#[]⟩, .slice na x.2.length nc, .slice ka x.1.list.length kc] rfl rfl HZ.out rfl s25 (D6.ones rfl) ?_)
    intro w9 b9 g9
    have HB9 : Hid (Blk w9 g4 41 [.int .i64 8, .int .i64 0, .int .i64 0, .string ⟨#[]⟩, .slice na x.2.length nc, .slice ka x.1.list.length kc]) := b9
    have HQ : Hid (Vo9 dp r W w9 s s2 bad b2 (nst 8 x) na nc ka kc) := by
      obtain ⟨Lp, a1, a2⟩ := HVl.out
      have := g9.size
      refine ⟨kt_kept HK.out g9 hg4 hrW, ⟨Lp, a1.keep fun y hy => ?_, fun y hy => ?_⟩, HWF.out, HVR.out⟩
      · have := a2 y hy
        exact g9.block y this.2 (by intro e; injection e with e; omega)
      · have := a2 y hy
        omega
    clear b9 g9 HZ HK HWF HVR HVl
    go_wp2
    exact bodyPost_ret (D6.res_row rfl _ g4 41 _ _ rfl HB9.out Tryz.underlying41 rfl s25) rfl ⟨nst 8 x, na, nc, ka, kc, s2, b2, rfl, HQ.out⟩
  have e91 : ((c : Int) == 91) = false := by simp; omega
  by_cases c123 : c = 123
  · have f123 : ((c : Int) == 123) = true := by rw [c123]; rfl
    have K := record9 dp VC hdp hdp2 r s bad hs w1 HK1.out.blk
    have HC : Hid (c = 123) := c123
    clear c123
    go_wp2_with fail
    refine K.mono ?_
    rintro e w2 ⟨x, na, nc, ka, kc, s2, b2, rfl, H2⟩
    have HK : Hid (Kt r W w2 s2 b2) := HK1.out.trans H2.out.kt
    have HZ : Hid (Blk w2 g4 41 zer) := HZ1.out.kept H2.out.kt.gr (by intro e; injection e with e; omega)
    have HVR : Hid (Vx dp (bts s) bad (bts s2) b2 (nst 9 x)) := by
      obtain ⟨l1, b1, R1, R2⟩ := H2.out.rt
      have hl := H2.out.pr
      have hz : (bts s).length = s.size := bts_len s
      rw [HT.out, HC.out] at R1 hz ⊢
      exact vx_nest (.inr ⟨rfl, rfl, rfl⟩) R1 R2 (fun hb => by have := hl hb; rw [hz, bts_len]; exact this)
    have HWF : Hid (WfV (nst 9 x)) := H2.out.wf
    have HVl : Hid (∃ Lp, VlL w2 (nst 9 x) na nc ka kc Lp ∧ ∀ y ∈ Lp, w1.heap.size ≤ y ∧ y < w2.heap.size) := H2.out.vl
    clear K H2 HK1 HZ1 c0 HT HC
    go_wp2_with (refine st_all rfl 41 (.tmp 4) (.tmp 75) rfl g4 41 zer [.int .i64 9, .int .i64 0, .int .i64 0, .string ⟨#[]⟩, .slice na x.2.length nc, .slice ka x.1.list.length kc] rfl rfl HZ.out rfl s25 (D6.ones rfl) ?_)
    intro w9 b9 g9
    have HB9 : Hid (Blk w9 g4 41 [.int .i64 9, .int .i64 0, .int .i64 0, .string ⟨#[]⟩, .slice na x.2.length nc, .slice ka x.1.list.length kc]) := b9
    have HQ : Hid (Vo9 dp r W w9 s s2 bad b2 (nst 9 x) na nc ka kc) := by
      obtain ⟨Lp, a1, a2⟩ := HVl.out
      have := g9.size
      refine ⟨kt_kept HK.out g9 hg4 hrW, ⟨Lp, a1.keep fun y hy => ?_, fun y hy => ?_⟩, HWF.out, HVR.out⟩
      · have := a2 y hy
        exact g9.block y this.2 (by intro e; injection e with e; omega)
      · have := a2 y hy
        omega
    clear b9 g9 HZ HK HWF HVR HVl
    go_wp2
    exact bodyPost_ret (D6.res_row rfl _ g4 41 _ _ rfl HB9.out Tryz.underlying41 rfl s25) rfl ⟨nst 9 x, na, nc, ka, kc, s2, b2, rfl, HQ.out⟩
  have e123 : ((c : Int) == 123) = false := by simp; omega
  have HNo : Hid (c ≠ 110 ∧ c ≠ 116 ∧ c ≠ 102 ∧ c ≠ 45 ∧ ¬ (48 ≤ c ∧ c ≤ 57) ∧ c ≠ 64 ∧ c ≠ 39 ∧ c ≠ 35 ∧ c ≠ 91 ∧ c ≠ 123) := ⟨c110, c116, c102, n45, nd, c64, c39, c35, c91, c123⟩
  clear c110 c116 c102 n45 nd c64 c39 c35 c91 c123
  go_wp2_with (refine st_one rfl 4 (.tmp 78) (.const (.bool true)) rfl r 1 106 [.string s, .bool bad] (.bool true) rfl rfl rfl rfl (by simp) HK1.out.blk sz4 ?_)
  intro w2 b2 gr2
  have HK : Hid (Kt r W w2 s true) := HK1.out.trans ⟨b2, gr2⟩
  have HZ : Hid (Blk w2 g4 41 zer) := HZ1.out.kept gr2 (by intro e; injection e with e; omega)
  have HVR : Hid (Vx dp (bts s) bad (bts s) true (lf 0 0 0 em)) := by rw [HT.out]; exact vx_none ⟨[], rfl⟩ HNo.out
  clear b2 gr2 HK1 HZ1
  have HWF : Hid (WfV (⟨0, 0, 0, ⟨#[]⟩, []⟩, .nil)) := wf_leaf9 0 0 0 ⟨#[]⟩ (by omega) (by omega) (by omega) (by decide)
  go_wp2_with (refine st_all rfl 41 (.tmp 4) (.tmp 79) rfl g4 41 zer [.int .i64 0, .int .i64 0, .int .i64 0, .string ⟨#[]⟩, .slice none 0 0, .slice none 0 0] rfl rfl HZ.out rfl s25 (D6.ones rfl) ?_)
  intro w9 b9 g9
  have HB9 : Hid (Blk w9 g4 41 [.int .i64 0, .int .i64 0, .int .i64 0, .string ⟨#[]⟩, .slice none 0 0, .slice none 0 0]) := b9
  have HQ : Hid (Vo9 dp r W w9 s s bad true (⟨0, 0, 0, ⟨#[]⟩, []⟩, .nil) none 0 none 0) := ⟨kt_kept HK.out g9 hg4 hrW, ⟨[], vl_leaf9 _ _ _ _ _, fun x hx => by cases hx⟩, HWF.out, HVR.out⟩
  clear b9 g9 HZ HK HWF HVR
  go_wp2
  exact bodyPost_ret (D6.res_row rfl _ g4 41 _ _ rfl HB9.out Tryz.underlying41 rfl s25) rfl ⟨(⟨0, 0, 0, ⟨#[]⟩, []⟩, .nil), none, 0, none, 0, s, true, rfl, HQ.out⟩
theorem value9 : ∀ (n : Nat) (dp : Int), dp = 17 - (n : Int) → n ≤ 17 → VvC dp
  | 0, dp, h, _ => fun r s bad W hN hb => value_deep9 dp (by omega) (by omega) r s bad W hN hb
  | n + 1, dp, h, hn => fun r s bad W hN hb => value_step9 dp (by omega) (by omega) (value9 n (dp + 1) (by omega) (by omega)) r s bad W hN hb
end Go.Proofs.YtpfiejmhnkcjbaaGreatDoor
