/-
   ·  ·  ·  · 
-/
import Derived.Test.YtobfdcdobhhagaaGreatDoorAG44x
import Derived.Test.YtobfdcdobhhagaaGreatDoorAG31x
import Derived.Test.YtobfdcdobhhagaaGreatDoorAG48x
import Derived.Test.YtobfdcdobhhagaaGreatDoorAG14x
import Derived.MakeChecks
import Derived.Stop.LaidErr
namespace Go.Proofs.YtobfdcdobhhagaaGreatDoor
set_option maxHeartbeats 4000000
set_option maxRecDepth 8000
open Go.RowKit Math
set_option linter.unusedVariables false
set_option linter.unusedSimpArgs false
theorem rv_step (dp : Int) (hdp : 0 <= dp) (hdp2 : dp <= 16) (VC : Hid (RvC (dp + 1))) : RvC dp := by
 intro r s bad W hs hb
 by_cases h : bad = true ∨ s.size = 0 ∨ 16 < dp
 . exact rv_no dp r s bad W hs hb h
 obtain rfl : bad = false := by simpa using fun e => h (.inl e)
 have h0 : ¬ s.size = 0 := fun e => h (.inr (.inl e))
 obtain ⟨c, T, hT⟩ : ∃ c T, bts s = c :: T := ⟨_, _, bcons9 s (by omega)⟩
 clear h h0
 by_cases h110 : c = 110
 . exact rv_null dp r s W hs hb hdp2 T (by rw [hT, h110])
 by_cases h116 : c = 116
 . exact rv_true dp r s W hs hb hdp2 T (by rw [hT, h116])
 by_cases h102 : c = 102
 . exact rv_false dp r s W hs hb hdp2 T (by rw [hT, h102])
 by_cases h39 : c = 39
 . exact rv_text dp r s W hs hb hdp2 T (by rw [hT, h39])
 by_cases h35 : c = 35
 . exact rv_blob dp r s W hs hb hdp2 T (by rw [hT, h35])
 by_cases h64 : c = 64
 . exact rv_time dp r s W hs hb hdp2 T (by rw [hT, h64])
 by_cases h91 : c = 91
 . exact rv_list dp r s W hs hb hdp hdp2 VC T (by rw [hT, h91])
 by_cases h123 : c = 123
 . exact rv_rec dp r s W hs hb hdp hdp2 VC T (by rw [hT, h123])
 exact rv_num dp r s W hs hb hdp2 c T hT ⟨h110, h116, h102, h64, h39, h35, h91, h123⟩
theorem rvalue9 : ∀ (n : Nat) (dp : Int), dp = 17 - (n : Int) -> n <= 17 -> RvC dp
 | 0, dp, h, _ => fun r s bad W hN hb => rv_no dp r s bad W hN hb (.inr (.inr (by omega)))
 | n + 1, dp, h, hn => rv_step dp (by omega) (by omega) (rvalue9 n (dp + 1) (by omega) (by omega))
structure Tr9 (W w' : World) (s : ByteArray) (p : Vt) (na : Option Addr) (nc : Nat) (ka : Option Addr) (kc : Nat) (E : Int) : Prop where
 bl : Below W.heap.size W w'
 vl : Vl w' p na nc ka kc
 wf : WfV p
 wz : ws p <= 600000
 ok : (E = 0 /\ encE p = 0 /\ prV p = bts s) ∨ (E = 3 /\ p = lf 0 0 0 em /\ ∀ y, WfV y -> encE y = 0 -> prV y ≠ bts s)
theorem rtparse_any (s : ByteArray) (hs : s.size <= 100000) (W : World) :
 Calls Tryz.prog 23 #[.string s] W fun e w' => ∃ (p : Vt) (na : Option Addr) (nc : Nat) (ka : Option Addr) (kc : Nat) (E : Int), e = .returned (.tuple #[.agg #[.int .i64 p.1.k, .int .i64 p.1.n, .int .i64 p.1.s, .string p.1.t, .slice na p.1.ns.length nc, .slice ka p.2.list.length kc], .int .i64 E]) /\ Hid (Tr9 W w' s p na nc ka kc E) := by
 go_enter Tryz.func23, Tryz.ntmps23
 go_wp2_with (refine al_zero rfl 38 rfl zer z25 ?_)
 intro g2 w1 hg2 bz1 gr1
 have HZ1 : Hid (Blk w1 g2 38 zer) := bz1
 have HB1 : Hid (Below W.heap.size W w1) := (Below.refl _ _).grown gr1 (Nat.le_refl _) (fun k e => by cases e)
 have hg2l : g2 < w1.heap.size := bz1.lt
 clear bz1 gr1
 obtain ⟨w2, HW2⟩ : ∃ w2, Hid (w1.alloc (.cells #[.string s, .bool false] 79) = w2) := ⟨_, rfl⟩
 have HR2 : Hid (Blk w2 w1.heap.size 79 [.string s, .bool false]) := by rw [<- HW2.out]; exact blk_new w1 79 [.string s, .bool false]
 have HB2 : Hid (Below w1.heap.size w1 w2) := by rw [<- HW2.out]; exact (Below.refl _ _).alloc (Nat.le_refl _) _
 have K := rvalue9 16 1 (by omega) (by omega) w1.heap.size s false w2 (by omega) HR2.out
 go_wp2_with fail
 generalize hWW : World.alloc w1 _ = W9
 obtain rfl : w2 = W9 := by rw [<- hWW, <- HW2.out]
 clear hWW HW2
 refine K.mono ?_
 rintro e w3 ⟨p, na, nc, ka, kc, s3, b3, rfl, H3⟩
 have hz12 : w1.heap.size < w2.heap.size := HR2.out.lt
 have hz23 : w2.heap.size <= w3.heap.size := H3.out.kq.gr.size
 have HZ3 : Hid (Blk w3 g2 38 zer) := (HZ1.out.below HB2.out hg2l).kept H3.out.kq.gr (by intro e; injection e with e; omega)
 have HB3 : Hid (Below W.heap.size W w3) := by
  have h := HB1.out.size
  have := HB1.out.trans (HB2.out.mono h)
  exact this.grown H3.out.kq.gr (by omega) (fun k e => by injection e with e; omega)
 have HR3 : Hid (Blk w3 w1.heap.size 79 [.string s3, .bool b3]) := H3.out.kq.blk
 have HVl : Hid (∃ Lp, VlL w3 p na nc ka kc Lp /\ ∀ x ∈ Lp, w2.heap.size <= x /\ x < w3.heap.size) := H3.out.vl
 have HWf : Hid (WfV p) := H3.out.wf
 have HVx : Hid (Vx 1 (bts s) false (bts s3) b3 p) := H3.out.vx
 clear K H3 HZ1 HB1 HB2 HR2
 go_wp2_with (refine al_zero rfl 38 rfl zer z25 ?_)
 intro g5 w4 hg5 bz4 gr4
 go_wp2_with (refine st_all rfl 38 (.tmp 5) (.tmp 12) rfl g5 38 zer (six p.1 na nc ka p.2.list.length kc) rfl rfl bz4 rfl s25 (six_one _ _ _ _ _ _) ?_)
 intro w5 b5 gr5
 have HB5 : Hid (Below w3.heap.size w3 w5) := below_new gr4 hg5 gr5
 have HV5 : Hid (Blk w5 g5 38 (six p.1 na nc ka p.2.list.length kc)) := b5
 have HR5 : Hid (Blk w5 w1.heap.size 79 [.string s3, .bool b3]) := HR3.out.below HB5.out HR3.out.lt
 have HZ5 : Hid (Blk w5 g2 38 zer) := HZ3.out.below HB5.out HZ3.out.lt
 have HBW5 : Hid (Below W.heap.size W w5) := HB3.out.trans (HB5.out.mono HB3.out.size)
 have HVl5 : Hid (∃ Lp, VlL w5 p na nc ka kc Lp /\ ∀ x ∈ Lp, w2.heap.size <= x /\ x < w5.heap.size) := by
  obtain ⟨Lp, a1, a2⟩ := HVl.out
  have := HB5.out.size
  exact ⟨Lp, a1.keep fun x hx => HB5.out.block x (a2 x hx).2, fun x hx => by have := a2 x hx; omega⟩
 have c1 : w5.cell? ⟨w1.heap.size, 1, none⟩ = some (.bool b3) := HR5.out.cell 1
 have c0 : w5.cell? ⟨w1.heap.size, 0, none⟩ = some (.string s3) := HR5.out.cell 0
 have hg25 : g2 ≠ g5 := by omega
 have HCo : Hid (∀ y, WfV y -> encE y = 0 -> prV y = bts s -> b3 = false /\ p = y /\ bts s3 = []) := fun y hw he hp => HVx.out.rt.co rfl y [] ⟨hw, encE_chk he, .inl rfl⟩ (by rw [hp, List.append_nil])
 clear bz4 gr4 b5 gr5 HB5 HR3 HZ3 HB3 HVl
 cases b3 with
 | true =>
   have HNo : Hid (∀ y, WfV y -> encE y = 0 -> prV y ≠ bts s) := fun y a b c => by have := (HCo.out y a b c).1; cases this
   clear HCo HVx
   go_wp2_with (refine st_all rfl 38 (.tmp 2) (.tmp 24) rfl g2 38 zer [.int .i64 0, .int .i64 0, .int .i64 0, .string ⟨#[]⟩, .slice none 0 0, .slice none 0 0] rfl rfl HZ5.out rfl s25 (D6.ones rfl) ?_)
   intro w9 b9 g9
   have HB9 : Hid (Blk w9 g2 38 [.int .i64 0, .int .i64 0, .int .i64 0, .string ⟨#[]⟩, .slice none 0 0, .slice none 0 0]) := b9
   have HF : Hid (Tr9 W w9 s (lf 0 0 0 em) none 0 none 0 3) := ⟨HBW5.out.grown g9 HBW5.out.size (fun k e => by injection e with e; omega), vl_zero _, wf_zero, by decide, .inr ⟨rfl, rfl, HNo.out⟩⟩
   clear b9 g9
   go_wp2
   refine bodyPost_ret (res_two rfl _ g2 38 _ _ rfl HB9.out Tryz.underlying38 rfl s25) rfl ?_
   exact ⟨lf 0 0 0 em, none, 0, none, 0, 3, rfl, HF.out⟩
 | false =>
   by_cases h0 : s3.size = 0
   case neg =>
    have he : s3.toList.isEmpty = false := by
     cases hh : s3.toList.isEmpty with
     | true => exact absurd ((empty9 s3).1 hh) h0
     | false => rfl
    have HNo : Hid (∀ y, WfV y -> encE y = 0 -> prV y ≠ bts s) := fun y a b c => h0 (by
     have := congrArg List.length (HCo.out y a b c).2.2
     rw [bts_len] at this
     exact this)
    clear HCo HVx h0
    go_wp2_with (refine st_all rfl 38 (.tmp 2) (.tmp 24) rfl g2 38 zer [.int .i64 0, .int .i64 0, .int .i64 0, .string ⟨#[]⟩, .slice none 0 0, .slice none 0 0] rfl rfl HZ5.out rfl s25 (D6.ones rfl) ?_)
    intro w9 b9 g9
    have HB9 : Hid (Blk w9 g2 38 [.int .i64 0, .int .i64 0, .int .i64 0, .string ⟨#[]⟩, .slice none 0 0, .slice none 0 0]) := b9
    have HF : Hid (Tr9 W w9 s (lf 0 0 0 em) none 0 none 0 3) := ⟨HBW5.out.grown g9 HBW5.out.size (fun k e => by injection e with e; omega), vl_zero _, wf_zero, by decide, .inr ⟨rfl, rfl, HNo.out⟩⟩
    clear b9 g9
    go_wp2
    refine bodyPost_ret (res_two rfl _ g2 38 _ _ rfl HB9.out Tryz.underlying38 rfl s25) rfl ?_
    exact ⟨lf 0 0 0 em, none, 0, none, 0, 3, rfl, HF.out⟩
   have he : s3.toList.isEmpty = true := (empty9 s3).2 h0
   have hws : ws p <= 100000 := by
    have := HVx.out.pr rfl
    rw [bts_len, bts_len] at this
    omega
   have KP := rprint_any p HWf.out hws na nc ka kc w5 (by obtain ⟨_, h, _⟩ := HVl5.out; exact h.vl)
   have HE0 : Hid (encE p = 0 -> bts (prT p) = prV p) := fun h => prT_yes HWf.out h
   have HCp : Hid (∀ y, WfV y -> encE y = 0 -> prV y = bts s -> p = y) := fun y a b c => (HCo.out y a b c).2.1
   obtain ⟨E, hE⟩ : ∃ E, encE p = E := ⟨_, rfl⟩
   obtain ⟨S, hS⟩ : ∃ S, prT p = S := ⟨_, rfl⟩
   have HEp : Hid (encE p = E /\ prT p = S) := ⟨hE, hS⟩
   rw [hE, hS] at KP
   have d0 : w5.cell? ⟨g5, 0, none⟩ = some (.int .i64 p.1.k) := HV5.out.cell 0
   have d1 : w5.cell? ⟨g5, 1, none⟩ = some (.int .i64 p.1.n) := HV5.out.cell 1
   have d2 : w5.cell? ⟨g5, 2, none⟩ = some (.int .i64 p.1.s) := HV5.out.cell 2
   have d3 : w5.cell? ⟨g5, 3, none⟩ = some (.string p.1.t) := HV5.out.cell 3
   have d4 : w5.cell? ⟨g5, 4, none⟩ = some (.slice na p.1.ns.length nc) := HV5.out.cell 4
   have d5 : w5.cell? ⟨g5, 5, none⟩ = some (.slice ka p.2.list.length kc) := HV5.out.cell 5
   clear hE hS HCo HVx h0
   go_wp2_with fail
   refine KP.mono ?_
   rintro e w6 ⟨rfl, b6⟩
   have HB6 : Hid (Below w5.heap.size w5 w6) := b6
   have HZ6 : Hid (Blk w6 g2 38 zer) := HZ5.out.below b6 HZ5.out.lt
   have HV6 : Hid (Blk w6 g5 38 (six p.1 na nc ka p.2.list.length kc)) := HV5.out.below b6 HV5.out.lt
   have HBW6 : Hid (Below W.heap.size W w6) := HBW5.out.trans (b6.mono HBW5.out.size)
   have HVl6 : Hid (∃ Lp, VlL w6 p na nc ka kc Lp /\ ∀ x ∈ Lp, w2.heap.size <= x /\ x < w6.heap.size) := by
    obtain ⟨Lp, a1, a2⟩ := HVl5.out
    have := HB6.out.size
    exact ⟨Lp, a1.keep fun x hx => HB6.out.block x (a2 x hx).2, fun x hx => by have := a2 x hx; omega⟩
   clear KP b6 d0 d1 d2 d3 d4 d5 c0 c1 HZ5 HV5 HBW5 HVl5 HR5 HB6
   by_cases hE : E = 0
   case neg =>
    have hEb : (E != 0) = true := by simpa using hE
    have HNo : Hid (∀ y, WfV y -> encE y = 0 -> prV y ≠ bts s) := fun y a b c => by
     have h := HCp.out y a b c
     subst h
     exact hE (by rw [<- HEp.out.1, b])
    clear HCp HE0 HEp hE
    go_wp2_with (refine st_all rfl 38 (.tmp 2) (.tmp 37) rfl g2 38 zer [.int .i64 0, .int .i64 0, .int .i64 0, .string ⟨#[]⟩, .slice none 0 0, .slice none 0 0] rfl rfl HZ6.out rfl s25 (D6.ones rfl) ?_)
    intro w9 b9 g9
    have HB9 : Hid (Blk w9 g2 38 [.int .i64 0, .int .i64 0, .int .i64 0, .string ⟨#[]⟩, .slice none 0 0, .slice none 0 0]) := b9
    have HF : Hid (Tr9 W w9 s (lf 0 0 0 em) none 0 none 0 3) := ⟨HBW6.out.grown g9 HBW6.out.size (fun k e => by injection e with e; omega), vl_zero _, wf_zero, by decide, .inr ⟨rfl, rfl, HNo.out⟩⟩
    clear b9 g9
    go_wp2
    refine bodyPost_ret (res_two rfl _ g2 38 _ _ rfl HB9.out Tryz.underlying38 rfl s25) rfl ?_
    exact ⟨lf 0 0 0 em, none, 0, none, 0, 3, rfl, HF.out⟩
   subst hE
   obtain ⟨tt, htt⟩ : ∃ tt, (S.toList == s.toList) = tt := ⟨_, rfl⟩
   cases tt with
   | false =>
     have HNo : Hid (∀ y, WfV y -> encE y = 0 -> prV y ≠ bts s) := fun y a b c => by
      have h := HCp.out y a b c
      subst h
      have h2 := HE0.out b
      rw [HEp.out.2, c] at h2
      have h3 : S = s := by rw [<- ofB_bts S, h2, ofB_bts]
      rw [h3] at htt
      simp at htt
     clear HCp HE0 HEp
     go_wp2_with (refine st_all rfl 38 (.tmp 2) (.tmp 37) rfl g2 38 zer [.int .i64 0, .int .i64 0, .int .i64 0, .string ⟨#[]⟩, .slice none 0 0, .slice none 0 0] rfl rfl HZ6.out rfl s25 (D6.ones rfl) ?_)
     intro w9 b9 g9
     have HB9 : Hid (Blk w9 g2 38 [.int .i64 0, .int .i64 0, .int .i64 0, .string ⟨#[]⟩, .slice none 0 0, .slice none 0 0]) := b9
     have HF : Hid (Tr9 W w9 s (lf 0 0 0 em) none 0 none 0 3) := ⟨HBW6.out.grown g9 HBW6.out.size (fun k e => by injection e with e; omega), vl_zero _, wf_zero, by decide, .inr ⟨rfl, rfl, HNo.out⟩⟩
     clear b9 g9
     go_wp2
     refine bodyPost_ret (res_two rfl _ g2 38 _ _ rfl HB9.out Tryz.underlying38 rfl s25) rfl ?_
     exact ⟨lf 0 0 0 em, none, 0, none, 0, 3, rfl, HF.out⟩
   | true =>
     have HOk : Hid (encE p = 0 /\ prV p = bts s) := by
      have h1 := HEp.out.1
      refine ⟨h1, ?_⟩
      have h2 := HE0.out h1
      rw [HEp.out.2] at h2
      have h3 : S = s := bytes_eq (by simpa using htt)
      rw [<- h2, h3]
     clear HCp HE0 HEp
     go_wp2_with (first
      | refine D6.ld_all rfl 38 (.tmp 5) rfl g5 38 _ _ rfl HV6.out Tryz.underlying38 rfl s25 ?_
      | refine st_all rfl 38 (.tmp 2) (.tmp 38) rfl g2 38 zer (six p.1 na nc ka p.2.list.length kc) rfl rfl HZ6.out rfl s25 (six_one _ _ _ _ _ _) ?_)
     intro w9 b9 g9
     have HB9 : Hid (Blk w9 g2 38 (six p.1 na nc ka p.2.list.length kc)) := b9
     have HF : Hid (Tr9 W w9 s p na nc ka kc 0) := by
      refine ⟨HBW6.out.grown g9 HBW6.out.size (fun k e => by injection e with e; omega), ?_, HWf.out, by omega, .inl ⟨rfl, HOk.out⟩⟩
      obtain ⟨Lp, a1, a2⟩ := HVl6.out
      exact (a1.keep fun x hx => g9.block x (a2 x hx).2 (by have := a2 x hx; intro c; injection c with c; omega)).vl
     clear b9 g9 HV6 HZ6 HBW6 HVl6 HOk HWf
     go_wp2
     refine bodyPost_ret (res_two rfl _ g2 38 _ _ rfl HB9.out Tryz.underlying38 rfl s25) rfl ?_
     exact ⟨p, na, nc, ka, kc, 0, rfl, HF.out⟩
end Go.Proofs.YtobfdcdobhhagaaGreatDoor
namespace Go.Proofs.YtobfdcdobhhagaaGreatDoor
set_option maxHeartbeats 4000000
set_option maxRecDepth 8000
open Go.RowKit Math
set_option linter.unusedVariables false
set_option linter.unusedSimpArgs false
theorem parses_walk9 (s : ByteArray) (hs : s.size <= 9223372036854775807) (W : World) (ht : D6.Ptab W) :
 Calls Tryz.prog 5 #[.string s] W fun e w' => e = .returned (.bool true) /\ Below W.heap.size W w' := by
 have HTb : Hid (D6.Ptab W) := ht
 clear ht
 by_cases hbig : 2000 < s.size
 . have hbi : (2000 : Int) < (s.size : Int) := by omega
   go_enter Tryz.func5, Tryz.ntmps5
   go_wp2
   go_ret
   exact ⟨rfl, Below.refl _ _⟩
 have hbi : ¬ (2000 : Int) < (s.size : Int) := by omega
 have KN : Hid (∀ w, Below W.heap.size W w -> Calls Tryz.prog 21 #[] w fun e w' => e = .returned (.bool true) /\ Below w.heap.size w w') := fun w hb => known9 w (ptab_below HTb.out hb)
 have K1 := tparse_any s (by omega) W HTb.out
 go_enter Tryz.func5, Tryz.ntmps5
 go_wp2_with fail
 refine K1.mono ?_
 rintro e w1 ⟨p, na, nc, ka, kc, E, rfl, H1⟩
 clear K1
 have HB1 : Hid (Below W.heap.size W w1) := H1.out.bl
 have HV1 : Hid (Vl w1 p na nc ka kc) := H1.out.vl
 go_wp2_with (refine al_zero rfl 38 rfl zer z25 ?_)
 intro g3 w2 hg3 bz2 gr2
 go_wp2_with (refine st_all rfl 38 (.tmp 3) (.tmp 15) rfl g3 38 zer (six p.1 na nc ka p.2.list.length kc) rfl rfl bz2 rfl s25 (six_one _ _ _ _ _ _) ?_)
 intro w3 b3 gr3
 have HB13 : Hid (Below w1.heap.size w1 w3) := below_new gr2 hg3 gr3
 have HX3 : Hid (Blk w3 g3 38 (six p.1 na nc ka p.2.list.length kc)) := b3
 have HB3 : Hid (Below W.heap.size W w3) := HB1.out.trans (HB13.out.mono HB1.out.size)
 have HV3 : Hid (Vl w3 p na nc ka kc) := HV1.out.below HB13.out
 clear bz2 gr2 b3 gr3 hg3 HB1 HV1 HB13
 have K2 := rtparse_any s (by omega) w3
 go_wp2_with fail
 refine K2.mono ?_
 rintro e w4 ⟨p2, na2, nc2, ka2, kc2, E2, rfl, H4⟩
 clear K2
 obtain ⟨hp, hE⟩ : p2 = p /\ E2 = E := by
  rcases H1.out.ok with ⟨a1, a2, a3, a4⟩ | ⟨a1, a2, a3⟩
  . rcases H4.out.ok with ⟨b1, b2, b3⟩ | ⟨b1, b2, b3⟩
    . exact ⟨a4 p2 H4.out.wf b2 b3, by rw [a1, b1]⟩
    . exact absurd a3 (b3 p H1.out.wf a2)
  . rcases H4.out.ok with ⟨b1, b2, b3⟩ | ⟨b1, b2, b3⟩
    . exact absurd b3 (a3 (by omega) p2 H4.out.wf b2)
    . exact ⟨by rw [a2, b2], by rw [a1, b1]⟩
 subst hp
 subst hE
 have HWp : Hid (WfV p2) := H1.out.wf
 have HOk : Hid ((E2 = 0 /\ encE p2 = 0 /\ prV p2 = bts s) ∨ E2 = 3) := by
  rcases H4.out.ok with h | ⟨h, _⟩
  . exact .inl h
  . exact .inr h
 have HWz : Hid (ws p2 <= 600000) := H4.out.wz
 have HB34 : Hid (Below w3.heap.size w3 w4) := H4.out.bl
 have HV4 : Hid (Vl w4 p2 na2 nc2 ka2 kc2) := H4.out.vl
 clear H1 H4
 go_wp2_with (refine al_zero rfl 38 rfl zer z25 ?_)
 intro g5 w5 hg5 bz5 gr5
 go_wp2_with (refine st_all rfl 38 (.tmp 5) (.tmp 20) rfl g5 38 zer (six p2.1 na2 nc2 ka2 p2.2.list.length kc2) rfl rfl bz5 rfl s25 (six_one _ _ _ _ _ _) ?_)
 intro w6 b6 gr6
 have HB46 : Hid (Below w4.heap.size w4 w6) := below_new gr5 hg5 gr6
 have HB36 : Hid (Below w3.heap.size w3 w6) := HB34.out.trans (HB46.out.mono HB34.out.size)
 have HB6 : Hid (Below W.heap.size W w6) := HB3.out.trans (HB36.out.mono HB3.out.size)
 have HX6 : Hid (Blk w6 g3 38 (six p2.1 na nc ka p2.2.list.length kc)) := HX3.out.below HB36.out HX3.out.lt
 have HY6 : Hid (Blk w6 g5 38 (six p2.1 na2 nc2 ka2 p2.2.list.length kc2)) := b6
 have HV6 : Hid (Vl w6 p2 na nc ka kc) := HV3.out.below HB36.out
 have HW6 : Hid (Vl w6 p2 na2 nc2 ka2 kc2) := HV4.out.below HB46.out
 clear bz5 gr5 b6 gr6 hg5 HB34 HB46 HB36 HX3 HV3 HV4 HB3
 have KQ := equal_any _ p2 (Nat.le_refl _) HWp.out p2 HWp.out na nc ka kc na2 nc2 ka2 kc2 w6 HV6.out HW6.out
 have c0 : w6.cell? ⟨g3, 0, none⟩ = some (.int .i64 p2.1.k) := HX6.out.cell 0
 have c1 : w6.cell? ⟨g3, 1, none⟩ = some (.int .i64 p2.1.n) := HX6.out.cell 1
 have c2 : w6.cell? ⟨g3, 2, none⟩ = some (.int .i64 p2.1.s) := HX6.out.cell 2
 have c3 : w6.cell? ⟨g3, 3, none⟩ = some (.string p2.1.t) := HX6.out.cell 3
 have c4 : w6.cell? ⟨g3, 4, none⟩ = some (.slice na p2.1.ns.length nc) := HX6.out.cell 4
 have c5 : w6.cell? ⟨g3, 5, none⟩ = some (.slice ka p2.2.list.length kc) := HX6.out.cell 5
 have d0 : w6.cell? ⟨g5, 0, none⟩ = some (.int .i64 p2.1.k) := HY6.out.cell 0
 have d1 : w6.cell? ⟨g5, 1, none⟩ = some (.int .i64 p2.1.n) := HY6.out.cell 1
 have d2 : w6.cell? ⟨g5, 2, none⟩ = some (.int .i64 p2.1.s) := HY6.out.cell 2
 have d3 : w6.cell? ⟨g5, 3, none⟩ = some (.string p2.1.t) := HY6.out.cell 3
 have d4 : w6.cell? ⟨g5, 4, none⟩ = some (.slice na2 p2.1.ns.length nc2) := HY6.out.cell 4
 have d5 : w6.cell? ⟨g5, 5, none⟩ = some (.slice ka2 p2.2.list.length kc2) := HY6.out.cell 5
 go_wp2_with fail
 refine KQ.mono ?_
 clear KQ c0 c1 c2 c3 c4 c5 d0 d1 d2 d3 d4 d5 HY6 HW6
 rintro e w7 ⟨t, rfl, H7⟩
 obtain rfl : t = true := H7.out.1.2 (by first | trivial | rfl)
 have HB67 : Hid (Below w6.heap.size w6 w7) := H7.out.2
 have HB7 : Hid (Below W.heap.size W w7) := HB6.out.trans (HB67.out.mono HB6.out.size)
 have HX7 : Hid (Blk w7 g3 38 (six p2.1 na nc ka p2.2.list.length kc)) := HX6.out.below HB67.out HX6.out.lt
 have HV7 : Hid (Vl w7 p2 na nc ka kc) := HV6.out.below HB67.out
 clear H7 HB67 HX6 HV6 HB6
 by_cases hE0 : E2 = 0
 case neg =>
  have hb : (E2 != 0) = true := by simpa using hE0
  have KN7 := KN.out w7 HB7.out
  clear HOk hE0
  go_wp2_with fail
  refine KN7.mono ?_
  rintro e w8 ⟨rfl, b8⟩
  have HF : Hid (Below W.heap.size W w8) := HB7.out.trans (b8.mono HB7.out.size)
  clear KN7 b8 HB7 HX7 HV7 KN
  go_wp2
  go_ret
  exact ⟨rfl, HF.out⟩
 have HOk2 : Hid (encE p2 = 0 /\ prT p2 = s) := by
  rcases HOk.out with ⟨_, h1, h2⟩ | h
  . refine ⟨h1, ?_⟩
    have h3 := prT_yes HWp.out h1
    rw [<- ofB_bts (prT p2), h3, h2, ofB_bts]
  . rw [hE0] at h; cases h
 subst hE0
 clear HOk
 have KP := print_any p2 HWp.out (by have := HWz.out; omega) na nc ka kc w7 HV7.out (ptab_below HTb.out HB7.out)
 rw [HOk2.out.1, HOk2.out.2] at KP
 clear HOk2
 have c0 : w7.cell? ⟨g3, 0, none⟩ = some (.int .i64 p2.1.k) := HX7.out.cell 0
 have c1 : w7.cell? ⟨g3, 1, none⟩ = some (.int .i64 p2.1.n) := HX7.out.cell 1
 have c2 : w7.cell? ⟨g3, 2, none⟩ = some (.int .i64 p2.1.s) := HX7.out.cell 2
 have c3 : w7.cell? ⟨g3, 3, none⟩ = some (.string p2.1.t) := HX7.out.cell 3
 have c4 : w7.cell? ⟨g3, 4, none⟩ = some (.slice na p2.1.ns.length nc) := HX7.out.cell 4
 have c5 : w7.cell? ⟨g3, 5, none⟩ = some (.slice ka p2.2.list.length kc) := HX7.out.cell 5
 have htt : (s.toList == s.toList) = true := by simp
 go_wp2_with fail
 refine KP.mono ?_
 clear KP c0 c1 c2 c3 c4 c5 HX7 HV7
 rintro e w8 ⟨rfl, b8⟩
 have HB8 : Hid (Below W.heap.size W w8) := HB7.out.trans (b8.mono HB7.out.size)
 have KN8 := KN.out w8 HB8.out
 clear b8 HB7 KN
 go_wp2_with fail
 refine KN8.mono ?_
 rintro e w9 ⟨rfl, b9⟩
 have HF : Hid (Below W.heap.size W w9) := HB8.out.trans (b9.mono HB8.out.size)
 clear KN8 b9 HB8
 go_wp2
 go_ret
 exact ⟨rfl, HF.out⟩
end Go.Proofs.YtobfdcdobhhagaaGreatDoor
namespace Go.Proofs.YtobfdcdobhhagaaGreatDoor
open Go.RowKit
set_option linter.unusedVariables false
set_option linter.unusedSimpArgs false
end Go.Proofs.YtobfdcdobhhagaaGreatDoor
namespace Go.Proofs.YtobfdcdobhhagaaGreatDoor
open Go.RowKit Math
set_option linter.unusedVariables false
set_option linter.unusedSimpArgs false
end Go.Proofs.YtobfdcdobhhagaaGreatDoor
namespace Go.Proofs.YtobfdcdobhhagaaGreatDoor
open Go.RowKit
set_option linter.unusedVariables false
theorem ptab9 {W : World} (h : laidMetH Tryz.prog Rows.textOneRow.laid W) : D6.Ptab W := by
 rw [MakeChecks.laidMetH_plain _ _ _ (by kernel_rfl)] at h
 have h3 : laidMet Tryz.prog [("internal/strconv.uint64pow10", Lib.tabData .u64 Lib.pow10Tab), ("unicode/utf8.acceptRanges", Rows.laid_unicode_utf8_acceptRanges), ("unicode/utf8.first", Rows.laid_unicode_utf8_first)] W := laidMet.tail (laidMet.tail h)
 exact Lib.tabIs_of_head (g := 1) (t := 194) (e := 82) (n := 20) (by kernel_rfl) (by kernel_rfl) (by kernel_rfl) (by kernel_rfl) (by kernel_rfl) (by kernel_rfl) h3
end Go.Proofs.YtobfdcdobhhagaaGreatDoor
