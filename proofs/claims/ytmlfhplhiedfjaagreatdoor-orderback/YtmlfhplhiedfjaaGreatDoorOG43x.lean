/-
  order's reader: value. · The document's own reader of order: what value answers; how long its key is at most.
-/
import Derived.Test.YtmlfhplhiedfjaaGreatDoorOUk8
import Derived.Test.YtmlfhplhiedfjaaGreatDoorOUk9
import Derived.Test.YtmlfhplhiedfjaaGreatDoorOVq
namespace Go.Proofs.YtmlfhplhiedfjaaGreatDoor
open Go.RowKit Math
set_option linter.unusedVariables false
set_option linter.unusedSimpArgs false
theorem vl_leaf (w : World) (k n s : Int) (t : ByteArray) : VlL w (⟨k, n, s, t, []⟩, .nil) none 0 none 0 [] :=
  ⟨[], [], rfl, .inl ⟨rfl, rfl⟩, ⟨Nat.le_refl _, fun _ => rfl, by decide⟩, ⟨Nat.le_refl _, fun _ => rfl, by decide⟩, .inl ⟨rfl, rfl⟩⟩
theorem wf_leaf (k n s : Int) (t : ByteArray) (k0 : -9223372036854775808 ≤ k) (k1 : k < 9223372036854775808) (n0 : -9223372036854775808 ≤ n) (n1 : n < 9223372036854775808) (s0 : -9223372036854775808 ≤ s) (s1 : s < 9223372036854775808) (ht : t.size ≤ 1000000000) : WfV (⟨k, n, s, t, []⟩, .nil) :=
  ⟨⟨k0, k1, n0, n1, s0, s1, by show t.size ≤ _; omega, Nat.zero_le _, fun x hx => by cases hx⟩, Nat.zero_le _, trivial⟩
set_option maxRecDepth 8000 in
set_option maxHeartbeats 2000000 in
theorem value_deep (dp : Int) (hdp : 16 < dp) (hdp2 : dp ≤ 100) (r : Nat) (k : ByteArray) (i : Nat) (bad : Bool) (W : World) (hi : i ≤ k.size) (hN : k.size ≤ 1000000000) (hr : r ≠ 0) (hm : Mx W) (hb : Blk W r 58 [.string k, .int .i64 (i : Int), .bool bad]) :
    Calls Tryz.prog 27 #[.pointer (some ⟨r, 0, none⟩), .int .i64 dp] W fun e w' => ∃ p na nc ka kc j bad', e = .returned (.agg #[.int .i64 p.1.k, .int .i64 p.1.n, .int .i64 p.1.s, .string p.1.t, .slice na p.1.ns.length nc, .slice ka p.2.list.length kc]) ∧ Hid (Oo dp r k W w' i bad p na nc ka kc j bad') := by
  have hrW : r < W.heap.size := hb.lt
  have HB : Hid (Blk W r 58 [.string k, .int .i64 (i : Int), .bool bad]) := hb
  have hd : decide ((16 : Int) < dp) = true := decide_eq_true hdp
  clear hb hm
  go_enter Tryz.func27, Tryz.ntmps27
  go_wp2_with (refine al_zero rfl 38 rfl zer zV ?_)
  intro g4 w1 hg4 b1 gr1
  have HK1 : Hid (Ko r k W w1 i bad) := ⟨HB.out.kept gr1 (by simp), hi, ⟨gr1.os, gr1.tape, gr1.output, gr1.size, fun x hx hne => gr1.block x hx (by simp)⟩⟩
  have HZ1 : Hid (Blk w1 g4 38 zer) := b1
  clear b1 gr1 HB
  go_wp2_with (refine st_one rfl 4 (.tmp 9) (.const (.bool true)) rfl r 2 58 _ (.bool true) rfl rfl rfl rfl (by simp) HK1.out.blk s4 ?_)
  intro w2 b2 gr2
  have HK : Hid (Ko r k W w2 i true) := ⟨b2, hi, HK1.out.gr.trans gr2⟩
  have HZ : Hid (Blk w2 g4 38 zer) := HZ1.out.kept gr2 (by intro e; injection e with e; omega)
  have HWF : Hid (WfV (⟨0, 0, 0, ⟨#[]⟩, []⟩, .nil)) := wf_leaf 0 0 0 ⟨#[]⟩ (by omega) (by omega) (by omega) (by omega) (by omega) (by omega) (by decide)
  have HVR : Hid (Vr True dp ((bts k).drop i) bad ((bts k).drop i) true (⟨0, 0, 0, ⟨#[]⟩, []⟩, .nil)) := vr_deep hdp ⟨[], rfl⟩
  clear b2 gr2 HK1 HZ1
  go_wp2_with (refine st_all rfl 38 (.tmp 4) (.tmp 10) rfl g4 38 zer [.int .i64 0, .int .i64 0, .int .i64 0, .string ⟨#[]⟩, .slice none 0 0, .slice none 0 0] rfl rfl HZ.out rfl sV (D6.ones rfl) ?_)
  intro w9 b9 g9
  have HB9 : Hid (Blk w9 g4 38 [.int .i64 0, .int .i64 0, .int .i64 0, .string ⟨#[]⟩, .slice none 0 0, .slice none 0 0]) := b9
  have HQ : Hid (Oo dp r k W w9 i bad (⟨0, 0, 0, ⟨#[]⟩, []⟩, .nil) none 0 none 0 i true) := ⟨HK.out.kept g9 hg4 hrW, ⟨[], vl_leaf _ _ _ _ _, fun x hx => by cases hx⟩, HWF.out, HVR.out⟩
  clear b9 g9 HZ HK HWF HVR
  go_wp2
  exact bodyPost_ret (D6.res_row rfl _ g4 38 _ _ rfl HB9.out Tryz.underlying38 rfl sV) rfl ⟨_, none, 0, none, 0, i, true, rfl, HQ.out⟩
set_option maxRecDepth 8000 in
set_option maxHeartbeats 4000000 in
theorem value_step (dp : Int) (hdp : 0 ≤ dp) (hdp2 : dp ≤ 16) (VC : Hid (OvC (dp + 1))) (r : Nat) (k : ByteArray) (i : Nat) (bad : Bool) (W : World) (hi : i ≤ k.size) (hN : k.size ≤ 1000000000) (hr : r ≠ 0) (hm : Mx W) (hb : Blk W r 58 [.string k, .int .i64 (i : Int), .bool bad]) :
    Calls Tryz.prog 27 #[.pointer (some ⟨r, 0, none⟩), .int .i64 dp] W fun e w' => ∃ p na nc ka kc j bad', e = .returned (.agg #[.int .i64 p.1.k, .int .i64 p.1.n, .int .i64 p.1.s, .string p.1.t, .slice na p.1.ns.length nc, .slice ka p.2.list.length kc]) ∧ Hid (Oo dp r k W w' i bad p na nc ka kc j bad') := by
  have hrW : r < W.heap.size := hb.lt
  have HM : Hid (Mx W) := hm
  have HB : Hid (Blk W r 58 [.string k, .int .i64 (i : Int), .bool bad]) := hb
  have hd : decide ((16 : Int) < dp) = false := decide_eq_false (by omega)
  clear hb hm
  go_enter Tryz.func27, Tryz.ntmps27
  go_wp2_with (refine al_zero rfl 38 rfl zer zV ?_)
  intro g4 w1 hg4 b1 gr1
  have HK1 : Hid (Ko r k W w1 i bad) := ⟨HB.out.kept gr1 (by simp), hi, ⟨gr1.os, gr1.tape, gr1.output, gr1.size, fun x hx hne => gr1.block x hx (by simp)⟩⟩
  have HZ1 : Hid (Blk w1 g4 38 zer) := b1
  have HM1 : Hid (Mx w1) := HM.out.kept gr1 (by simp)
  clear b1 gr1 HB HM
  have K := next_any r k i hi hN bad w1 HK1.out.blk
  go_wp2_with fail
  refine K.mono ?_
  rintro e w2 ⟨x, j1, bad1, rfl, hx, H2⟩
  have HK2 : Hid (Ko r k W w2 j1 bad1) := HK1.out.trans H2.out.1
  have HZ2 : Hid (Blk w2 g4 38 zer) := HZ1.out.kept H2.out.1.gr (by intro e; injection e with e; omega)
  have HM2 : Hid (Mx w2) := HM1.out.kept H2.out.1.gr (by intro e; injection e with e; exact hr e)
  have HR1 : Hid (Rb ((bts k).drop i) bad ((bts k).drop j1) bad1 x) := H2.out.2
  have hj1 : j1 ≤ k.size := HK2.out.le
  clear K H2 HK1 HZ1 HM1
  by_cases c16 : x = 16
  · subst c16
    have HK : Hid (Ko r k W w2 j1 bad1) := HK2.out
    have HZ : Hid (Blk w2 g4 38 zer) := HZ2.out
    have HWF : Hid (WfV (⟨1, 0, 0, ⟨#[]⟩, []⟩, .nil)) := wf_leaf 1 0 0 ⟨#[]⟩ (by omega) (by omega) (by omega) (by omega) (by omega) (by omega) (by decide)
    have HVR : Hid (Vr True dp ((bts k).drop i) bad ((bts k).drop j1) bad1 (⟨1, 0, 0, ⟨#[]⟩, []⟩, .nil)) := vr_null HR1.out
    clear HK2 HZ2 HM2 HR1
    go_wp2_with (refine st_all rfl 38 (.tmp 4) (.tmp 15) rfl g4 38 zer [.int .i64 1, .int .i64 0, .int .i64 0, .string ⟨#[]⟩, .slice none 0 0, .slice none 0 0] rfl rfl HZ.out rfl sV (D6.ones rfl) ?_)
    intro w9 b9 g9
    have HB9 : Hid (Blk w9 g4 38 [.int .i64 1, .int .i64 0, .int .i64 0, .string ⟨#[]⟩, .slice none 0 0, .slice none 0 0]) := b9
    have HQ : Hid (Oo dp r k W w9 i bad (⟨1, 0, 0, ⟨#[]⟩, []⟩, .nil) none 0 none 0 j1 bad1) := ⟨HK.out.kept g9 hg4 hrW, ⟨[], vl_leaf _ _ _ _ _, fun x hx => by cases hx⟩, HWF.out, HVR.out⟩
    clear b9 g9 HZ HK HWF HVR
    go_wp2
    exact bodyPost_ret (D6.res_row rfl _ g4 38 _ _ rfl HB9.out Tryz.underlying38 rfl sV) rfl ⟨_, none, 0, none, 0, j1, bad1, rfl, HQ.out⟩
  by_cases c32 : x = 32
  · subst c32
    have K := next_any r k j1 hj1 hN bad1 w2 HK2.out.blk
    go_wp2_with fail
    refine K.mono ?_
    rintro e w3 ⟨y, j2, bad2, rfl, hy, H3⟩
    have HK : Hid (Ko r k W w3 j2 bad2) := HK2.out.trans H3.out.1
    have HZ : Hid (Blk w3 g4 38 zer) := HZ2.out.kept H3.out.1.gr (by intro e; injection e with e; omega)
    have hcy : IntKind.i64.wrap (y : Int) = (y : Int) := by rw [IntKind.wrap_i64]; omega
    have HWF : Hid (WfV (⟨2, (y : Int), 0, ⟨#[]⟩, []⟩, .nil)) := wf_leaf 2 (y : Int) 0 ⟨#[]⟩ (by omega) (by omega) (by omega) (by omega) (by omega) (by omega) (by decide)
    have HVR : Hid (Vr True dp ((bts k).drop i) bad ((bts k).drop j2) bad2 (⟨2, (y : Int), 0, ⟨#[]⟩, []⟩, .nil)) := vr_bool HR1.out H3.out.2
    clear K HK2 HZ2 HM2 HR1 H3
    go_wp2_with (refine st_all rfl 38 (.tmp 4) (.tmp 21) rfl g4 38 zer [.int .i64 2, .int .i64 (y : Int), .int .i64 0, .string ⟨#[]⟩, .slice none 0 0, .slice none 0 0] rfl rfl HZ.out rfl sV (D6.ones rfl) ?_)
    intro w9 b9 g9
    have HB9 : Hid (Blk w9 g4 38 [.int .i64 2, .int .i64 (y : Int), .int .i64 0, .string ⟨#[]⟩, .slice none 0 0, .slice none 0 0]) := b9
    have HQ : Hid (Oo dp r k W w9 i bad (⟨2, (y : Int), 0, ⟨#[]⟩, []⟩, .nil) none 0 none 0 j2 bad2) := ⟨HK.out.kept g9 hg4 hrW, ⟨[], vl_leaf _ _ _ _ _, fun x hx => by cases hx⟩, HWF.out, HVR.out⟩
    clear b9 g9 HZ HK HWF HVR
    go_wp2
    exact bodyPost_ret (D6.res_row rfl _ g4 38 _ _ rfl HB9.out Tryz.underlying38 rfl sV) rfl ⟨_, none, 0, none, 0, j2, bad2, rfl, HQ.out⟩
  by_cases c48 : x = 48
  · subst c48
    have K := number_any r k j1 hj1 hN hr bad1 w2 HM2.out HK2.out.blk
    go_wp2_with fail
    refine K.mono ?_
    rintro e w3 ⟨h, j2, bad2, rfl, H3⟩
    have HK : Hid (Ko r k W w3 j2 bad2) := HK2.out.trans H3.out.1
    have HZ : Hid (Blk w3 g4 38 zer) := HZ2.out.kept H3.out.1.gr (by intro e; injection e with e; omega)
    have HWF : Hid (WfV (⟨h.k, h.n, h.s, ⟨#[]⟩, []⟩, .nil)) := by
      have N := H3.out.2.1
      exact wf_leaf h.k h.n h.s ⟨#[]⟩ N.ok.k0 N.ok.k1 N.ok.n0 N.ok.n1 N.ok.s0 N.ok.s1 (by decide)
    have HVR : Hid (Vr True dp ((bts k).drop i) bad ((bts k).drop j2) bad2 (⟨h.k, h.n, h.s, ⟨#[]⟩, []⟩, .nil)) := by
      have N := H3.out.2.1
      have e : (⟨h.k, h.n, h.s, ⟨#[]⟩, []⟩ : Hd) = h := hd_eq rfl rfl rfl N.t.symm N.ns.symm
      rw [e]
      refine vr_num HR1.out (H3.out.2.2.weak (fun _ => trivial)) fun _ hc => ?_
      rcases N.k with h0 | h1
      · exfalso
        have := (form_all (own_fine (own_of0 hc).1).1).1
        simp only at this
        omega
      · exact h1
    clear K HK2 HZ2 HM2 HR1 H3
    go_wp2_with (refine st_all rfl 38 (.tmp 4) (.tmp 25) rfl g4 38 zer [.int .i64 h.k, .int .i64 h.n, .int .i64 h.s, .string ⟨#[]⟩, .slice none 0 0, .slice none 0 0] rfl rfl HZ.out rfl sV (D6.ones rfl) ?_)
    intro w9 b9 g9
    have HB9 : Hid (Blk w9 g4 38 [.int .i64 h.k, .int .i64 h.n, .int .i64 h.s, .string ⟨#[]⟩, .slice none 0 0, .slice none 0 0]) := b9
    have HQ : Hid (Oo dp r k W w9 i bad (⟨h.k, h.n, h.s, ⟨#[]⟩, []⟩, .nil) none 0 none 0 j2 bad2) := ⟨HK.out.kept g9 hg4 hrW, ⟨[], vl_leaf _ _ _ _ _, fun x hx => by cases hx⟩, HWF.out, HVR.out⟩
    clear b9 g9 HZ HK HWF HVR
    go_wp2
    exact bodyPost_ret (D6.res_row rfl _ g4 38 _ _ rfl HB9.out Tryz.underlying38 rfl sV) rfl ⟨_, none, 0, none, 0, j2, bad2, rfl, HQ.out⟩
  by_cases c64 : x = 64
  · subst c64
    have K := time_any r k j1 hj1 hN bad1 w2 HK2.out.blk
    go_wp2_with fail
    refine K.mono ?_
    rintro e w3 ⟨n, j2, bad2, rfl, hn0, hn1, H3⟩
    have HK : Hid (Ko r k W w3 j2 bad2) := HK2.out.trans H3.out.1
    have HZ : Hid (Blk w3 g4 38 zer) := HZ2.out.kept H3.out.1.gr (by intro e; injection e with e; omega)
    have HWF : Hid (WfV (⟨5, n, 0, ⟨#[]⟩, []⟩, .nil)) := wf_leaf 5 n 0 ⟨#[]⟩ (by omega) (by omega) hn0 hn1 (by omega) (by omega) (by decide)
    have HVR : Hid (Vr True dp ((bts k).drop i) bad ((bts k).drop j2) bad2 (⟨5, n, 0, ⟨#[]⟩, []⟩, .nil)) := vr_time HR1.out (H3.out.2.weak (fun h => h.2))
    clear K HK2 HZ2 HM2 HR1 H3
    go_wp2_with (refine st_all rfl 38 (.tmp 4) (.tmp 30) rfl g4 38 zer [.int .i64 5, .int .i64 n, .int .i64 0, .string ⟨#[]⟩, .slice none 0 0, .slice none 0 0] rfl rfl HZ.out rfl sV (D6.ones rfl) ?_)
    intro w9 b9 g9
    have HB9 : Hid (Blk w9 g4 38 [.int .i64 5, .int .i64 n, .int .i64 0, .string ⟨#[]⟩, .slice none 0 0, .slice none 0 0]) := b9
    have HQ : Hid (Oo dp r k W w9 i bad (⟨5, n, 0, ⟨#[]⟩, []⟩, .nil) none 0 none 0 j2 bad2) := ⟨HK.out.kept g9 hg4 hrW, ⟨[], vl_leaf _ _ _ _ _, fun x hx => by cases hx⟩, HWF.out, HVR.out⟩
    clear b9 g9 HZ HK HWF HVR
    go_wp2
    exact bodyPost_ret (D6.res_row rfl _ g4 38 _ _ rfl HB9.out Tryz.underlying38 rfl sV) rfl ⟨_, none, 0, none, 0, j2, bad2, rfl, HQ.out⟩
  by_cases c80 : x = 80
  · subst c80
    have K := text_any r k j1 hj1 hN hr bad1 w2 HM2.out HK2.out.blk
    go_wp2_with fail
    refine K.mono ?_
    rintro e w3 ⟨s, j2, bad2, rfl, H3⟩
    have HK : Hid (Ko r k W w3 j2 bad2) := HK2.out.trans H3.out.1
    have HZ : Hid (Blk w3 g4 38 zer) := HZ2.out.kept H3.out.1.gr (by intro e; injection e with e; omega)
    have HWF : Hid (WfV (⟨6, 0, 0, s, []⟩, .nil)) := wf_leaf 6 0 0 s (by omega) (by omega) (by omega) (by omega) (by omega) (by omega) (Nat.le_trans H3.out.2.1 hN)
    have HVR : Hid (Vr True dp ((bts k).drop i) bad ((bts k).drop j2) bad2 (⟨6, 0, 0, s, []⟩, .nil)) := vr_text 6 80 (.inl ⟨rfl, rfl⟩) HR1.out (H3.out.2.2.weak (fun _ => trivial))
    clear K HK2 HZ2 HM2 HR1 H3
    go_wp2_with (refine st_all rfl 38 (.tmp 4) (.tmp 35) rfl g4 38 zer [.int .i64 6, .int .i64 0, .int .i64 0, .string s, .slice none 0 0, .slice none 0 0] rfl rfl HZ.out rfl sV (D6.ones rfl) ?_)
    intro w9 b9 g9
    have HB9 : Hid (Blk w9 g4 38 [.int .i64 6, .int .i64 0, .int .i64 0, .string s, .slice none 0 0, .slice none 0 0]) := b9
    have HQ : Hid (Oo dp r k W w9 i bad (⟨6, 0, 0, s, []⟩, .nil) none 0 none 0 j2 bad2) := ⟨HK.out.kept g9 hg4 hrW, ⟨[], vl_leaf _ _ _ _ _, fun x hx => by cases hx⟩, HWF.out, HVR.out⟩
    clear b9 g9 HZ HK HWF HVR
    go_wp2
    exact bodyPost_ret (D6.res_row rfl _ g4 38 _ _ rfl HB9.out Tryz.underlying38 rfl sV) rfl ⟨_, none, 0, none, 0, j2, bad2, rfl, HQ.out⟩
  by_cases c96 : x = 96
  · subst c96
    have K := text_any r k j1 hj1 hN hr bad1 w2 HM2.out HK2.out.blk
    go_wp2_with fail
    refine K.mono ?_
    rintro e w3 ⟨s, j2, bad2, rfl, H3⟩
    have HK : Hid (Ko r k W w3 j2 bad2) := HK2.out.trans H3.out.1
    have HZ : Hid (Blk w3 g4 38 zer) := HZ2.out.kept H3.out.1.gr (by intro e; injection e with e; omega)
    have HWF : Hid (WfV (⟨7, 0, 0, s, []⟩, .nil)) := wf_leaf 7 0 0 s (by omega) (by omega) (by omega) (by omega) (by omega) (by omega) (Nat.le_trans H3.out.2.1 hN)
    have HVR : Hid (Vr True dp ((bts k).drop i) bad ((bts k).drop j2) bad2 (⟨7, 0, 0, s, []⟩, .nil)) := vr_text 7 96 (.inr ⟨rfl, rfl⟩) HR1.out (H3.out.2.2.weak (fun _ => trivial))
    clear K HK2 HZ2 HM2 HR1 H3
    go_wp2_with (refine st_all rfl 38 (.tmp 4) (.tmp 40) rfl g4 38 zer [.int .i64 7, .int .i64 0, .int .i64 0, .string s, .slice none 0 0, .slice none 0 0] rfl rfl HZ.out rfl sV (D6.ones rfl) ?_)
    intro w9 b9 g9
    have HB9 : Hid (Blk w9 g4 38 [.int .i64 7, .int .i64 0, .int .i64 0, .string s, .slice none 0 0, .slice none 0 0]) := b9
    have HQ : Hid (Oo dp r k W w9 i bad (⟨7, 0, 0, s, []⟩, .nil) none 0 none 0 j2 bad2) := ⟨HK.out.kept g9 hg4 hrW, ⟨[], vl_leaf _ _ _ _ _, fun x hx => by cases hx⟩, HWF.out, HVR.out⟩
    clear b9 g9 HZ HK HWF HVR
    go_wp2
    exact bodyPost_ret (D6.res_row rfl _ g4 38 _ _ rfl HB9.out Tryz.underlying38 rfl sV) rfl ⟨_, none, 0, none, 0, j2, bad2, rfl, HQ.out⟩
  by_cases c112 : x = 112
  · subst c112
    have K := nest8 dp VC hdp hdp2 r k j1 bad1 w2 hj1 hN hr HM2.out HK2.out.blk
    go_wp2_with fail
    refine K.mono ?_
    rintro e w3 ⟨f, ns, na, nc, ka, kc, j2, bad2, rfl, H3⟩
    have HK : Hid (Ko r k W w3 j2 bad2) := HK2.out.trans H3.out.ko
    have HZ : Hid (Blk w3 g4 38 zer) := HZ2.out.kept H3.out.ko.gr (by intro e; injection e with e; omega)
    have HVR : Hid (Vr True dp ((bts k).drop i) bad ((bts k).drop j2) bad2 (nst 8 (f, ns))) := vr_nest 8 false 112 (.inl ⟨rfl, rfl, rfl⟩) HR1.out H3.out.rd
    have HVL : Hid ((∃ Lp, VlL w3 (nst 8 (f, ns)) na nc ka kc Lp ∧ ∀ x ∈ Lp, w2.heap.size ≤ x ∧ x < w3.heap.size) ∧ WfV (nst 8 (f, ns)) ∧ g4 < w2.heap.size ∧ W.heap.size ≤ w2.heap.size) := ⟨H3.out.vl, H3.out.wf, HZ2.out.lt, HK2.out.gr.size⟩
    clear K HK2 HZ2 HM2 HR1 H3
    go_wp2_with (refine st_all rfl 38 (.tmp 4) (.tmp 45) rfl g4 38 zer (six ⟨8, 0, 0, ⟨#[]⟩, ns⟩ na nc ka f.list.length kc) rfl rfl HZ.out rfl sV (six_one _ _ _ _ _ _) ?_)
    intro w9 b9 g9
    have HB9 : Hid (Blk w9 g4 38 (six ⟨8, 0, 0, ⟨#[]⟩, ns⟩ na nc ka f.list.length kc)) := b9
    have HQ : Hid (Oo dp r k W w9 i bad (nst 8 (f, ns)) na nc ka kc j2 bad2) := by
      obtain ⟨⟨Lp, a1, a2⟩, a3, a4, a5⟩ := HVL.out
      refine ⟨HK.out.kept g9 hg4 hrW, ⟨Lp, a1.keep fun x hx => ?_, fun x hx => ?_⟩, a3, HVR.out⟩
      · have := a2 x hx
        exact g9.block x this.2 (by intro c; injection c with c; omega)
      · have := a2 x hx
        have := g9.size
        omega
    clear b9 g9 HZ HK HVR HVL
    go_wp2
    exact bodyPost_ret (D6.res_row rfl _ g4 38 _ _ rfl HB9.out Tryz.underlying38 rfl sV) rfl ⟨nst 8 (f, ns), na, nc, ka, kc, j2, bad2, rfl, HQ.out⟩
  by_cases c128 : x = 128
  · subst c128
    have K := nest9 dp VC hdp hdp2 r k j1 bad1 w2 hj1 hN hr HM2.out HK2.out.blk
    go_wp2_with fail
    refine K.mono ?_
    rintro e w3 ⟨f, ns, na, nc, ka, kc, j2, bad2, rfl, H3⟩
    have HK : Hid (Ko r k W w3 j2 bad2) := HK2.out.trans H3.out.ko
    have HZ : Hid (Blk w3 g4 38 zer) := HZ2.out.kept H3.out.ko.gr (by intro e; injection e with e; omega)
    have HVR : Hid (Vr True dp ((bts k).drop i) bad ((bts k).drop j2) bad2 (nst 9 (f, ns))) := vr_nest 9 true 128 (.inr ⟨rfl, rfl, rfl⟩) HR1.out H3.out.rd
    have HVL : Hid ((∃ Lp, VlL w3 (nst 9 (f, ns)) na nc ka kc Lp ∧ ∀ x ∈ Lp, w2.heap.size ≤ x ∧ x < w3.heap.size) ∧ WfV (nst 9 (f, ns)) ∧ g4 < w2.heap.size ∧ W.heap.size ≤ w2.heap.size) := ⟨H3.out.vl, H3.out.wf, HZ2.out.lt, HK2.out.gr.size⟩
    clear K HK2 HZ2 HM2 HR1 H3
    go_wp2_with (refine st_all rfl 38 (.tmp 4) (.tmp 50) rfl g4 38 zer (six ⟨9, 0, 0, ⟨#[]⟩, ns⟩ na nc ka f.list.length kc) rfl rfl HZ.out rfl sV (six_one _ _ _ _ _ _) ?_)
    intro w9 b9 g9
    have HB9 : Hid (Blk w9 g4 38 (six ⟨9, 0, 0, ⟨#[]⟩, ns⟩ na nc ka f.list.length kc)) := b9
    have HQ : Hid (Oo dp r k W w9 i bad (nst 9 (f, ns)) na nc ka kc j2 bad2) := by
      obtain ⟨⟨Lp, a1, a2⟩, a3, a4, a5⟩ := HVL.out
      refine ⟨HK.out.kept g9 hg4 hrW, ⟨Lp, a1.keep fun x hx => ?_, fun x hx => ?_⟩, a3, HVR.out⟩
      · have := a2 x hx
        exact g9.block x this.2 (by intro c; injection c with c; omega)
      · have := a2 x hx
        have := g9.size
        omega
    clear b9 g9 HZ HK HVR HVL
    go_wp2
    exact bodyPost_ret (D6.res_row rfl _ g4 38 _ _ rfl HB9.out Tryz.underlying38 rfl sV) rfl ⟨nst 9 (f, ns), na, nc, ka, kc, j2, bad2, rfl, HQ.out⟩
  have n16 : ((x : Int) == 16) = false := beq_eq_false_iff_ne.2 (by omega)
  have n32 : ((x : Int) == 32) = false := beq_eq_false_iff_ne.2 (by omega)
  have n48 : ((x : Int) == 48) = false := beq_eq_false_iff_ne.2 (by omega)
  have n64 : ((x : Int) == 64) = false := beq_eq_false_iff_ne.2 (by omega)
  have n80 : ((x : Int) == 80) = false := beq_eq_false_iff_ne.2 (by omega)
  have n96 : ((x : Int) == 96) = false := beq_eq_false_iff_ne.2 (by omega)
  have n112 : ((x : Int) == 112) = false := beq_eq_false_iff_ne.2 (by omega)
  have n128 : ((x : Int) == 128) = false := beq_eq_false_iff_ne.2 (by omega)
  go_wp2_with (refine st_one rfl 4 (.tmp 53) (.const (.bool true)) rfl r 2 58 _ (.bool true) rfl rfl rfl rfl (by simp) HK2.out.blk s4 ?_)
  intro w3 b3 gr3
  have HK : Hid (Ko r k W w3 j1 true) := ⟨b3, hj1, HK2.out.gr.trans gr3⟩
  have HZ : Hid (Blk w3 g4 38 zer) := HZ2.out.kept gr3 (by intro e; injection e with e; omega)
  have HWF : Hid (WfV (⟨0, 0, 0, ⟨#[]⟩, []⟩, .nil)) := wf_leaf 0 0 0 ⟨#[]⟩ (by omega) (by omega) (by omega) (by omega) (by omega) (by omega) (by decide)
  have HVR : Hid (Vr True dp ((bts k).drop i) bad ((bts k).drop j1) true (⟨0, 0, 0, ⟨#[]⟩, []⟩, .nil)) := vr_none HR1.out ⟨c16, c32, c48, c64, c80, c96, c112, c128⟩
  clear b3 gr3 HK2 HZ2 HM2 HR1
  go_wp2_with (refine st_all rfl 38 (.tmp 4) (.tmp 54) rfl g4 38 zer [.int .i64 0, .int .i64 0, .int .i64 0, .string ⟨#[]⟩, .slice none 0 0, .slice none 0 0] rfl rfl HZ.out rfl sV (D6.ones rfl) ?_)
  intro w9 b9 g9
  have HB9 : Hid (Blk w9 g4 38 [.int .i64 0, .int .i64 0, .int .i64 0, .string ⟨#[]⟩, .slice none 0 0, .slice none 0 0]) := b9
  have HQ : Hid (Oo dp r k W w9 i bad (⟨0, 0, 0, ⟨#[]⟩, []⟩, .nil) none 0 none 0 j1 true) := ⟨HK.out.kept g9 hg4 hrW, ⟨[], vl_leaf _ _ _ _ _, fun x hx => by cases hx⟩, HWF.out, HVR.out⟩
  clear b9 g9 HZ HK HWF HVR
  go_wp2
  exact bodyPost_ret (D6.res_row rfl _ g4 38 _ _ rfl HB9.out Tryz.underlying38 rfl sV) rfl ⟨_, none, 0, none, 0, j1, true, rfl, HQ.out⟩
/-- However deep. -/
theorem value_any : ∀ (n : Nat) (dp : Int), dp = 17 - (n : Int) → n ≤ 17 → OvC dp
  | 0, dp, h, _ => fun r k i bad W hi hN hr hm hb => value_deep dp (by omega) (by omega) r k i bad W hi hN hr hm hb
  | n + 1, dp, h, hn => fun r k i bad W hi hN hr hm hb => value_step dp (by omega) (by omega) (value_any n (dp + 1) (by omega) (by omega)) r k i bad W hi hN hr hm hb
end Go.Proofs.YtmlfhplhiedfjaaGreatDoor
namespace Go.Proofs.YtmlfhplhiedfjaaGreatDoor
open Go.RowKit Math
set_option linter.unusedVariables false
set_option linter.unusedSimpArgs false
structure Po (dp : Int) (r : Nat) (W w' : World) (s : ByteArray) (bad : Bool) (p : Vt) (na : Option Addr) (nc : Nat) (ka : Option Addr) (kc : Nat) (s' : ByteArray) (bad' : Bool) : Prop where
  ko : Kq r W w' s' bad'
  vl : ∃ Lp, VlL w' p na nc ka kc Lp ∧ ∀ x ∈ Lp, W.heap.size ≤ x ∧ x < w'.heap.size
  wf : WfV p
  vr : Vr False dp (bts s) bad (bts s') bad' p
  sz : s'.size ≤ s.size
  kb : bad' = false → (keyV p).length + 30 * s'.size ≤ 30 * s.size
def PvC (dp : Int) : Prop := ∀ (r : Nat) (s : ByteArray) (bad : Bool) (W : World), s.size ≤ 100000 → Blk W r 62 (QC s bad) →
  Calls Tryz.prog 28 #[.pointer (some ⟨r, 0, none⟩), .int .i64 dp] W fun e w' => ∃ p na nc ka kc s' bad', e = .returned (.agg #[.int .i64 p.1.k, .int .i64 p.1.n, .int .i64 p.1.s, .string p.1.t, .slice na p.1.ns.length nc, .slice ka p.2.list.length kc]) ∧ Hid (Po dp r W w' s bad p na nc ka kc s' bad')
theorem txK_len (t : ByteArray) : (txK t).length ≤ 2 * t.size + 2 := by
  have := (esc_len (bts t)).2
  rw [bts_len] at this
  unfold txK
  rw [List.length_append]
  simp only [List.length_cons, List.length_nil]
  omega
theorem leaf_len (k n s : Int) (t : ByteArray) (hk : k < 8) : (keyV (⟨k, n, s, t, []⟩, .nil)).length ≤ 25 + 2 * t.size := by
  have h1 := numB_len n s
  have h2 := txK_len t
  rw [keyV_lt (by exact hk)]
  unfold headK
  simp only
  split
  · simp; omega
  split
  · simp; omega
  split
  · simp; omega
  split
  · simp; omega
  split
  · rw [List.length_cons, hf_length]; omega
  split
  · simp; omega
  split
  · simp; omega
  split
  · simp; omega
  · simp; omega
/-- Neither a field's mark nor the end: it is bad from there on. -/
theorem Ns.wrong {sd : Prop} {d : Int} {l lk l1 l' : List Nat} {bad badk bad1 : Bool} {f : Fo} {ns : List ByteArray} {c : Nat} {s : ByteArray} {v : Vt} (h : Ns sd true d l bad lk badk f ns) (R1 : Rb lk badk l1 bad1 c) (hc : c ≠ 0 ∧ c ≠ 1) (hs : ∃ e, l1 = e ++ l') : Ns sd true d l bad l' true (f.snoc v) (ns ++ [s]) := by
  refine ⟨?_, fun e => (by cases e), fun hb x m hx hl => ?_, fun _ => by rw [snoc_list, List.length_append, List.length_append, h.ln rfl]; rfl, fun e => by cases e⟩
  · obtain ⟨a, e⟩ := h.suf
    obtain ⟨b, f⟩ := R1.suf
    obtain ⟨g, k⟩ := hs
    exact ⟨a ++ (b ++ g), by rw [e, f, k, List.append_assoc, List.append_assoc]⟩
  · exfalso
    obtain ⟨a1, g, ms, e1, e2, e3, e4, e5, e6⟩ := h.co hb x m hx hl
    cases g with
    | nil => exact hc.1 (R1.co a1 0 m trivial e3).2.1
    | cons hd k r =>
      rw [show keyF (.cons hd k r) true ms = _ from keyF_cons (hd, k) r true ms] at e3
      simp only [if_true, List.append_assoc, List.cons_append] at e3
      exact hc.2 (R1.co a1 1 _ trivial e3).2.1
theorem kbN_kid {f : Fo} {v : Vt} {a b c : Nat} (h : (keyF f false []).length + 30 * b ≤ 30 * a) (k : (keyV v).length + 30 * c ≤ 30 * b) : (keyF (f.snoc v) false []).length + 30 * c ≤ 30 * a := by
  have := keyF_snoc v ⟨#[]⟩ f false [] (by simp)
  simp only [Bool.false_eq_true, if_false] at this
  rw [this, List.length_append, List.nil_append]
  omega
theorem kbN_field {f : Fo} {ns : List ByteArray} {s : ByteArray} {v : Vt} {a b b1 b2 c : Nat} (hn : ns.length = f.list.length) (h : (keyF f true ns).length + 30 * b ≤ 30 * a) (h1 : b1 + 1 ≤ b) (h2 : s.size + b2 ≤ b1) (k : (keyV v).length + 30 * c ≤ 30 * b2) : (keyF (f.snoc v) true (ns ++ [s])).length + 30 * c ≤ 30 * a := by
  have := keyF_snoc v s f true ns (fun _ => hn)
  simp only [if_true] at this
  have h3 := txK_len s
  rw [this, List.length_append, List.length_append, List.length_cons]
  omega
theorem kb_nest {kd : Int} {f : Fo} {ns : List ByteArray} (hk : kd = 8 ∨ kd = 9) : (keyV (nst kd (f, ns))).length ≤ (keyF f (decide (kd = 9)) ns).length + 2 := by
  rcases hk with rfl | rfl
  · show (headK _ ++ _).length ≤ _
    simp [headK, nst]
  · show (headK _ ++ _).length ≤ _
    simp [headK, nst]
end Go.Proofs.YtmlfhplhiedfjaaGreatDoor
