/-
   · 
-/
import Derived.Test.YtpfiejmhnkcjbaaGreatDoorHG35x
import Derived.Test.YtpfiejmhnkcjbaaGreatDoorHSha
import Derived.Test.YtpfiejmhnkcjbaaGreatDoorHG4x
namespace Go.Proofs.YtpfiejmhnkcjbaaGreatDoor
set_option maxHeartbeats 8000000
set_option maxRecDepth 8000
open Go.RowKit Math
set_option linter.unusedVariables false
set_option linter.unusedSimpArgs false
theorem value39 (dp : Int) (hdp : 0 <= dp) (hdp2 : dp <= 16) (r : Nat) (s : ByteArray) (bad : Bool) (W : World) (hs : s.size <= 600000) (h39 : (bts s).head? = some 39) (hb : Blk W r 106 [.string s, .bool bad]) :
 Calls Tryz.prog 79 #[.pointer (some ⟨r, 0, none⟩), .int .i64 dp] W fun e w' => ∃ (p : Vt) (na : Option Addr) (nc : Nat) (ka : Option Addr) (kc : Nat) (s' : ByteArray) (bad' : Bool), e = .returned (.agg #[.int .i64 p.1.k, .int .i64 p.1.n, .int .i64 p.1.s, .string p.1.t, .slice na p.1.ns.length nc, .slice ka p.2.list.length kc]) /\ Hid (Vo9 dp r W w' s s' bad bad' p na nc ka kc) := by
 have hd : decide ((16 : Int) < dp) = false := decide_eq_false (by omega)
 have hrW : r < W.heap.size := hb.lt
 have HB : Hid (Blk W r 106 [.string s, .bool bad]) := hb
 clear hb
 go_enter Tryz.func79, Tryz.ntmps79
 go_wp2_with (refine al_zero rfl 41 rfl zer z25 ?_)
 intro g4 w1 hg4 b1 gr1
 have HK1 : Hid (Kt r W w1 s bad) := ⟨HB.out.kept gr1 (by simp), ⟨gr1.os, gr1.tape, gr1.output, gr1.size, fun x hx hne => gr1.block x hx (by simp)⟩⟩
 have HZ1 : Hid (Blk w1 g4 41 zer) := b1
 have hg4l : g4 < w1.heap.size := b1.lt
 have hW1 : W.heap.size <= w1.heap.size := gr1.size
 clear b1 gr1 HB
 have c0 : w1.cell? ⟨r, 0, none⟩ = some (.string s) := HK1.out.blk.cell 0
 have h0 : ¬ s.size = 0 := fun h0 => by
  have : bts s = [] := List.eq_nil_of_length_eq_zero (by rw [bts_len]; exact h0)
  rw [this] at h39
  cases h39
 have he : s.toList.isEmpty = false := by
  cases hh : s.toList.isEmpty with
  | true => exact absurd ((empty9 s).1 hh) h0
  | false => rfl
 have hp : 0 < s.size := by omega
 obtain ⟨T, hT⟩ : ∃ T, bts s = (s[0]'hp).toNat :: T := ⟨_, bcons9 s hp⟩
 obtain ⟨c, hce⟩ : ∃ c, (s[0]'hp).toNat = c := ⟨_, rfl⟩
 rw [hce] at hT
 have hlt : c < 256 := by rw [<- hce]; exact (s[0]'hp).toNat_lt
 have HT : Hid (bts s = c :: T) := hT
 have hib : (0 : Int) < (s.size : Int) := by omega
 have c39 : c = 39 := by rw [hT] at h39; simpa using h39
 clear hT h0 h39
 have e110 : ((c : Int) == 110) = false := by simp; omega
 have e116 : ((c : Int) == 116) = false := by simp; omega
 have e102 : ((c : Int) == 102) = false := by simp; omega
 have e45 : ((c : Int) == 45) = false := by simp; omega
 have e48 : ((c : Int) == 48) = false := by simp; omega
 have e49 : ((c : Int) == 49) = false := by simp; omega
 have e50 : ((c : Int) == 50) = false := by simp; omega
 have e51 : ((c : Int) == 51) = false := by simp; omega
 have e52 : ((c : Int) == 52) = false := by simp; omega
 have e53 : ((c : Int) == 53) = false := by simp; omega
 have e54 : ((c : Int) == 54) = false := by simp; omega
 have e55 : ((c : Int) == 55) = false := by simp; omega
 have e56 : ((c : Int) == 56) = false := by simp; omega
 have e57 : ((c : Int) == 57) = false := by simp; omega
 have e64 : ((c : Int) == 64) = false := by simp; omega
 have f39 : ((c : Int) == 39) = true := by rw [c39]; rfl
 have K := text9 r s bad hs w1 HK1.out.blk
 have HC : Hid (c = 39) := c39
 clear c39
 go_wp2_with fail
 refine K.mono ?_
 rintro e w2 ⟨s2, b2, x, rfl, H2⟩
 have HK : Hid (Kt r W w2 s2 b2) := HK1.out.trans H2.out.1
 have HZ : Hid (Blk w2 g4 41 zer) := HZ1.out.kept H2.out.1.gr (by intro e; injection e with e; omega)
 have HVR : Hid (Vx dp (bts s) bad (bts s2) b2 (⟨6, 0, 0, x, []⟩, .nil)) := by
  have R := H2.out.2.1
  have hl := H2.out.2.2.1
  have hz : (bts s).length = s.size := bts_len s
  rw [HT.out, HC.out] at R hz ⊢
  exact vx_text R (fun hb => by have := hl hb; rw [hz, bts_len]; exact this)
 have HN : Hid (x.size <= 1000000000) := by have := H2.out.2.2.2.1; show _ <= _; omega
 clear K H2 HK1 HZ1 c0 HT HC
 have HWF : Hid (WfV (⟨6, 0, 0, x, []⟩, .nil)) := wf_leaf9 6 0 0 x (by omega) (by omega) (by omega) HN.out
 go_wp2_with (refine st_all rfl 41 (.tmp 4) (.tmp 60) rfl g4 41 zer [.int .i64 6, .int .i64 0, .int .i64 0, .string x, .slice none 0 0, .slice none 0 0] rfl rfl HZ.out rfl s25 (D6.ones rfl) ?_)
 intro w9 b9 g9
 have HB9 : Hid (Blk w9 g4 41 [.int .i64 6, .int .i64 0, .int .i64 0, .string x, .slice none 0 0, .slice none 0 0]) := b9
 have HQ : Hid (Vo9 dp r W w9 s s2 bad b2 (⟨6, 0, 0, x, []⟩, .nil) none 0 none 0) := ⟨kt_kept HK.out g9 hg4 hrW, ⟨[], vl_leaf9 _ _ _ _ _, fun x hx => by cases hx⟩, HWF.out, HVR.out⟩
 clear b9 g9 HZ HK HWF HVR
 go_wp2
 exact bodyPost_ret (D6.res_row rfl _ g4 41 _ _ rfl HB9.out Tryz.underlying41 rfl s25) rfl ⟨(⟨6, 0, 0, x, []⟩, .nil), none, 0, none, 0, s2, b2, rfl, HQ.out⟩
theorem tparse39 (s : ByteArray) (hs : s.size <= 9223372036854775807) (h39 : (bts s).head? = some 39) (W : World) (ht : D6.Ptab W) :
 Calls Tryz.prog 55 #[.string s] W fun e w' => ∃ (p : Vt) (na : Option Addr) (nc : Nat) (ka : Option Addr) (kc : Nat) (E : Int), e = .returned (.tuple #[.agg #[.int .i64 p.1.k, .int .i64 p.1.n, .int .i64 p.1.s, .string p.1.t, .slice na p.1.ns.length nc, .slice ka p.2.list.length kc], .int .i64 E]) /\ Hid (Tp9 W w' s p na nc ka kc E) := by
 have HTb : Hid (D6.Ptab W) := ht
 clear ht
 go_enter Tryz.func55, Tryz.ntmps55
 go_wp2_with (refine al_zero rfl 41 rfl zer z25 ?_)
 intro g2 w1 hg2 bz1 gr1
 have HZ1 : Hid (Blk w1 g2 41 zer) := bz1
 have HB1 : Hid (Below W.heap.size W w1) := (Below.refl _ _).grown gr1 (Nat.le_refl _) (fun k e => by cases e)
 have hg2l : g2 < w1.heap.size := bz1.lt
 clear bz1 gr1
 by_cases hbig : 524288 < s.size
 . have hbi : (524288 : Int) < (s.size : Int) := by omega
   go_wp2_with (refine st_all rfl 41 (.tmp 2) (.tmp 11) rfl g2 41 zer [.int .i64 0, .int .i64 0, .int .i64 0, .string ⟨#[]⟩, .slice none 0 0, .slice none 0 0] rfl rfl HZ1.out rfl s25 (D6.ones rfl) ?_)
   intro w9 b9 g9
   have HB9 : Hid (Blk w9 g2 41 [.int .i64 0, .int .i64 0, .int .i64 0, .string ⟨#[]⟩, .slice none 0 0, .slice none 0 0]) := b9
   have HF : Hid (Tp9 W w9 s (lf 0 0 0 em) none 0 none 0 3) := tp_no (HB1.out.grown g9 HB1.out.size (fun k e => by injection e with e; omega)) (fun h => absurd h (by omega))
   clear b9 g9 HZ1 HB1
   go_wp2
   refine bodyPost_ret (res_two rfl _ g2 41 _ _ rfl HB9.out Tryz.underlying41 rfl s25) rfl ?_
   exact ⟨lf 0 0 0 em, none, 0, none, 0, 3, rfl, HF.out⟩
 have hsm : s.size <= 524288 := by omega
 obtain ⟨w2, HW2⟩ : ∃ w2, Hid (w1.alloc (.cells #[.string s, .bool false] 106) = w2) := ⟨_, rfl⟩
 have HR2 : Hid (Blk w2 w1.heap.size 106 [.string s, .bool false]) := by rw [<- HW2.out]; exact blk_new w1 106 [.string s, .bool false]
 have HB2 : Hid (Below w1.heap.size w1 w2) := by rw [<- HW2.out]; exact (Below.refl _ _).alloc (Nat.le_refl _) _
 have K := value39 1 (by omega) (by omega) w1.heap.size s false w2 (by omega) h39 HR2.out
 go_wp2_with fail
 generalize hWW : World.alloc w1 _ = W9
 obtain rfl : w2 = W9 := by rw [<- hWW, <- HW2.out]
 clear hWW HW2 hbig
 refine K.mono ?_
 rintro e w3 ⟨p, na, nc, ka, kc, s3, b3, rfl, H3⟩
 have hz12 : w1.heap.size < w2.heap.size := HR2.out.lt
 have hz23 : w2.heap.size <= w3.heap.size := H3.out.kt.gr.size
 have HZ3 : Hid (Blk w3 g2 41 zer) := (HZ1.out.below HB2.out hg2l).kept H3.out.kt.gr (by intro e; injection e with e; omega)
 have HB3 : Hid (Below W.heap.size W w3) := by
  have h := HB1.out.size
  have := HB1.out.trans (HB2.out.mono h)
  exact this.grown H3.out.kt.gr (by omega) (fun k e => by injection e with e; omega)
 have HR3 : Hid (Blk w3 w1.heap.size 106 [.string s3, .bool b3]) := H3.out.kt.blk
 have HVl : Hid (∃ Lp, VlL w3 p na nc ka kc Lp /\ ∀ x ∈ Lp, w2.heap.size <= x /\ x < w3.heap.size) := H3.out.vl
 have HWf : Hid (WfV p) := H3.out.wf
 have HVx : Hid (Vx 1 (bts s) false (bts s3) b3 p) := H3.out.vx
 clear K H3 HZ1 HB1 HB2 HR2
 go_wp2_with (refine al_zero rfl 41 rfl zer z25 ?_)
 intro g5 w4 hg5 bz4 gr4
 go_wp2_with (refine st_all rfl 41 (.tmp 5) (.tmp 16) rfl g5 41 zer (six p.1 na nc ka p.2.list.length kc) rfl rfl bz4 rfl s25 (six_one _ _ _ _ _ _) ?_)
 intro w5 b5 gr5
 have HB5 : Hid (Below w3.heap.size w3 w5) := below_new gr4 hg5 gr5
 have HV5 : Hid (Blk w5 g5 41 (six p.1 na nc ka p.2.list.length kc)) := b5
 have HR5 : Hid (Blk w5 w1.heap.size 106 [.string s3, .bool b3]) := HR3.out.below HB5.out HR3.out.lt
 have HZ5 : Hid (Blk w5 g2 41 zer) := HZ3.out.below HB5.out HZ3.out.lt
 have HBW5 : Hid (Below W.heap.size W w5) := HB3.out.trans (HB5.out.mono HB3.out.size)
 have HVl5 : Hid (∃ Lp, VlL w5 p na nc ka kc Lp /\ ∀ x ∈ Lp, w2.heap.size <= x /\ x < w5.heap.size) := by
  obtain ⟨Lp, a1, a2⟩ := HVl.out
  have := HB5.out.size
  exact ⟨Lp, a1.keep fun x hx => HB5.out.block x (a2 x hx).2, fun x hx => by have := a2 x hx; omega⟩
 have c1 : w5.cell? ⟨w1.heap.size, 1, none⟩ = some (.bool b3) := HR5.out.cell 1
 have hg25 : g2 ≠ g5 := by omega
 clear bz4 gr4 b5 gr5 HB5 HR3 HZ3 HVl HB3
 have HCo : Hid (∀ y, WfV y -> encE y = 0 -> prV y = bts s -> b3 = false /\ y = p) := fun y h1 h2 h3 => by
  obtain ⟨a1, a2, _⟩ := HVx.out.rt.co rfl y [] ⟨h1, encE_chk h2, .inl rfl⟩ (by rw [h3, List.append_nil])
  exact ⟨a1, a2.symm⟩
 cases b3 with
 | true =>
   have HNo : Hid (s.size <= 524288 -> ∀ y, WfV y -> encE y = 0 -> prV y ≠ bts s) := fun _ y h1 h2 h3 => by have := (HCo.out y h1 h2 h3).1; cases this
   clear HVx HCo
   go_wp2_with (refine st_all rfl 41 (.tmp 2) (.tmp 21) rfl g2 41 zer [.int .i64 0, .int .i64 0, .int .i64 0, .string ⟨#[]⟩, .slice none 0 0, .slice none 0 0] rfl rfl HZ5.out rfl s25 (D6.ones rfl) ?_)
   intro w9 b9 g9
   have HB9 : Hid (Blk w9 g2 41 [.int .i64 0, .int .i64 0, .int .i64 0, .string ⟨#[]⟩, .slice none 0 0, .slice none 0 0]) := b9
   have HF : Hid (Tp9 W w9 s (lf 0 0 0 em) none 0 none 0 3) := tp_no (HBW5.out.grown g9 HBW5.out.size (fun k e => by injection e with e; omega)) HNo.out
   clear b9 g9 HZ5 HBW5 HV5 HR5 HNo
   go_wp2
   refine bodyPost_ret (res_two rfl _ g2 41 _ _ rfl HB9.out Tryz.underlying41 rfl s25) rfl ?_
   exact ⟨lf 0 0 0 em, none, 0, none, 0, 3, rfl, HF.out⟩
 | false =>
   have hwz : ws p <= 600000 := by
    have := HVx.out.pr rfl
    rw [bts_len, bts_len] at this
    omega
   have K6 := print_any p HWf.out (by omega) na nc ka kc w5 (by obtain ⟨Lp, a1, _⟩ := HVl5.out; exact a1.vl) (ptab_below HTb.out HBW5.out)
   have HPy : Hid (encE p = 0 -> bts (prT p) = prV p) := prT_yes HWf.out
   obtain ⟨E, hE⟩ : ∃ E, encE p = E := ⟨_, rfl⟩
   obtain ⟨T, hT⟩ : ∃ T, prT p = T := ⟨_, rfl⟩
   have HE : Hid (encE p = E) := hE
   have HT : Hid (prT p = T) := hT
   rw [hE, hT] at K6
   clear hE hT
   have d0 : w5.cell? ⟨g5, 0, none⟩ = some (.int .i64 p.1.k) := HV5.out.cell 0
   have d1 : w5.cell? ⟨g5, 1, none⟩ = some (.int .i64 p.1.n) := HV5.out.cell 1
   have d2 : w5.cell? ⟨g5, 2, none⟩ = some (.int .i64 p.1.s) := HV5.out.cell 2
   have d3 : w5.cell? ⟨g5, 3, none⟩ = some (.string p.1.t) := HV5.out.cell 3
   have d4 : w5.cell? ⟨g5, 4, none⟩ = some (.slice na p.1.ns.length nc) := HV5.out.cell 4
   have d5 : w5.cell? ⟨g5, 5, none⟩ = some (.slice ka p.2.list.length kc) := HV5.out.cell 5
   go_wp2_with fail
   refine K6.mono ?_
   rintro e w6 ⟨rfl, b6⟩
   have HB6 : Hid (Below w5.heap.size w5 w6) := b6
   have HV6 : Hid (Blk w6 g5 41 (six p.1 na nc ka p.2.list.length kc)) := HV5.out.below b6 HV5.out.lt
   have HZ6 : Hid (Blk w6 g2 41 zer) := HZ5.out.below b6 HZ5.out.lt
   have HBW6 : Hid (Below W.heap.size W w6) := HBW5.out.trans (b6.mono HBW5.out.size)
   have HVl6 : Hid (∃ Lp, VlL w6 p na nc ka kc Lp /\ ∀ x ∈ Lp, w2.heap.size <= x /\ x < w6.heap.size) := by
    obtain ⟨Lp, a1, a2⟩ := HVl5.out
    have := b6.size
    exact ⟨Lp, a1.keep fun x hx => b6.block x (a2 x hx).2, fun x hx => by have := a2 x hx; omega⟩
   clear K6 b6 HB6 HV5 HZ5 HBW5 HVl5 HR5 d0 d1 d2 d3 d4 d5 c1
   by_cases hE0 : E = 0
   case neg =>
    have hne : (E != 0) = true := by simpa using hE0
    have HNo : Hid (s.size <= 524288 -> ∀ y, WfV y -> encE y = 0 -> prV y ≠ bts s) := fun _ y h1 h2 h3 => by
     have := (HCo.out y h1 h2 h3).2
     rw [this, HE.out] at h2
     exact hE0 h2
    clear HVx HCo HE HT HPy
    go_wp2_with (refine st_all rfl 41 (.tmp 2) (.tmp 34) rfl g2 41 zer [.int .i64 0, .int .i64 0, .int .i64 0, .string ⟨#[]⟩, .slice none 0 0, .slice none 0 0] rfl rfl HZ6.out rfl s25 (D6.ones rfl) ?_)
    intro w9 b9 g9
    have HB9 : Hid (Blk w9 g2 41 [.int .i64 0, .int .i64 0, .int .i64 0, .string ⟨#[]⟩, .slice none 0 0, .slice none 0 0]) := b9
    have HF : Hid (Tp9 W w9 s (lf 0 0 0 em) none 0 none 0 3) := tp_no (HBW6.out.grown g9 HBW6.out.size (fun k e => by injection e with e; omega)) HNo.out
    clear b9 g9 HZ6 HBW6 HV6 HVl6 HNo
    go_wp2
    refine bodyPost_ret (res_two rfl _ g2 41 _ _ rfl HB9.out Tryz.underlying41 rfl s25) rfl ?_
    exact ⟨lf 0 0 0 em, none, 0, none, 0, 3, rfl, HF.out⟩
   subst hE0
   by_cases hTS : T = s
   case neg =>
    have hts : (T.toList == s.toList) = false := by
     rw [beq_eq_false_iff_ne]
     exact fun e => hTS (bytes_eq e)
    have HNo : Hid (s.size <= 524288 -> ∀ y, WfV y -> encE y = 0 -> prV y ≠ bts s) := fun _ y h1 h2 h3 => by
     have := (HCo.out y h1 h2 h3).2
     subst this
     apply hTS
     rw [<- HT.out, <- ofB_bts (prT y), HPy.out HE.out, h3, ofB_bts]
    clear HVx HCo HE HT HPy hTS
    go_wp2_with (refine st_all rfl 41 (.tmp 2) (.tmp 34) rfl g2 41 zer [.int .i64 0, .int .i64 0, .int .i64 0, .string ⟨#[]⟩, .slice none 0 0, .slice none 0 0] rfl rfl HZ6.out rfl s25 (D6.ones rfl) ?_)
    intro w9 b9 g9
    have HB9 : Hid (Blk w9 g2 41 [.int .i64 0, .int .i64 0, .int .i64 0, .string ⟨#[]⟩, .slice none 0 0, .slice none 0 0]) := b9
    have HF : Hid (Tp9 W w9 s (lf 0 0 0 em) none 0 none 0 3) := tp_no (HBW6.out.grown g9 HBW6.out.size (fun k e => by injection e with e; omega)) HNo.out
    clear b9 g9 HZ6 HBW6 HV6 HVl6 HNo
    go_wp2
    refine bodyPost_ret (res_two rfl _ g2 41 _ _ rfl HB9.out Tryz.underlying41 rfl s25) rfl ?_
    exact ⟨lf 0 0 0 em, none, 0, none, 0, 3, rfl, HF.out⟩
   subst hTS
   have hts : (T.toList == T.toList) = true := by simp
   have HOk : Hid (encE p = 0 /\ prV p = bts T /\ (∀ y, WfV y -> encE y = 0 -> prV y = bts T -> y = p)) := ⟨HE.out, by rw [<- HPy.out HE.out, HT.out], fun y h1 h2 h3 => (HCo.out y h1 h2 h3).2⟩
   clear HVx HCo HE HT HPy
   go_wp2_with (first
    | refine D6.ld_all rfl 41 (.tmp 5) rfl g5 41 _ _ rfl HV6.out Tryz.underlying41 rfl s25 ?_
    | refine st_all rfl 41 (.tmp 2) (.tmp 35) rfl g2 41 zer (six p.1 na nc ka p.2.list.length kc) rfl rfl HZ6.out rfl s25 (six_one _ _ _ _ _ _) ?_)
   intro w9 b9 g9
   have HB9 : Hid (Blk w9 g2 41 (six p.1 na nc ka p.2.list.length kc)) := b9
   have HF : Hid (Tp9 W w9 T p na nc ka kc 0) := by
    obtain ⟨Lp, a1, a2⟩ := HVl6.out
    refine ⟨HBW6.out.grown g9 HBW6.out.size (fun k e => by injection e with e; omega), (a1.keep fun x hx => ?_).vl, HWf.out, hwz, .inl ⟨rfl, HOk.out⟩⟩
    have := a2 x hx
    exact g9.block x this.2 (by intro e; injection e with e; omega)
   clear b9 g9 HZ6 HBW6 HV6 HVl6 HOk
   go_wp2
   refine bodyPost_ret (res_two rfl _ g2 41 _ _ rfl HB9.out Tryz.underlying41 rfl s25) rfl ?_
   exact ⟨p, na, nc, ka, kc, 0, rfl, HF.out⟩
end Go.Proofs.YtpfiejmhnkcjbaaGreatDoor
namespace Go.Proofs.YtpfiejmhnkcjbaaGreatDoor
set_option maxHeartbeats 2000000
set_option maxRecDepth 8000
open Go.RowKit Math
set_option linter.unusedVariables false
set_option linter.unusedSimpArgs false
def ShC (p : Vt) : Prop := ∀ (na : Option Addr) (nc : Nat) (ka : Option Addr) (kc : Nat) (w0 W : World), Vl w0 p na nc ka kc -> Below w0.heap.size w0 W -> (prV p).length <= 700000000 ->
 Calls Tryz.prog 91 #[.agg #[.int .i64 p.1.k, .int .i64 p.1.n, .int .i64 p.1.s, .string p.1.t, .slice na p.1.ns.length nc, .slice ka p.2.list.length kc]] W fun e w' => e = .returned (.string (ofB (prV p))) /\ Below W.heap.size W w'
theorem sh8 (p : Vt) (hkl : p.2.list.length <= 200) (ih : ∀ q ∈ p.2.list, ShC q) (na : Option Addr) (nc : Nat) (ka : Option Addr) (kc : Nat) (w0 W : World) (hv : Vl w0 p na nc ka kc) (hb : Below w0.heap.size w0 W) (hl : (prF p.2 false p.1.ns true).length + 2 <= 700000000) :
 Calls Tryz.prog 91 #[.agg #[.int .i64 8, .int .i64 p.1.n, .int .i64 p.1.s, .string p.1.t, .slice na p.1.ns.length nc, .slice ka p.2.list.length kc]] W fun e w' => e = .returned (.string (ofB (91 :: (prF p.2 false p.1.ns true ++ [93])))) /\ Below W.heap.size W w' := by
 obtain ⟨W1, HW1⟩ : ∃ W1, Hid (W.alloc (.cells #[.int .i64 8, .int .i64 p.1.n, .int .i64 p.1.s, .string p.1.t, .slice na p.1.ns.length nc, .slice ka p.2.list.length kc] 41) = W1) := ⟨_, rfl⟩
 have HB1 : Hid (Below W.heap.size W W1) := by rw [<- HW1.out]; exact (Below.refl _ _).alloc (Nat.le_refl _) _
 have HX1 : Hid (Blk W1 W.heap.size 41 [.int .i64 8, .int .i64 p.1.n, .int .i64 p.1.s, .string p.1.t, .slice na p.1.ns.length nc, .slice ka p.2.list.length kc]) := by rw [<- HW1.out]; exact blk_new W 41 [.int .i64 8, .int .i64 p.1.n, .int .i64 p.1.s, .string p.1.t, .slice na p.1.ns.length nc, .slice ka p.2.list.length kc]
 have c0 : W1.cell? ⟨W.heap.size, 0, none⟩ = some (.int .i64 8) := HX1.out.cell 0
 have c1 : W1.cell? ⟨W.heap.size, 1, none⟩ = some (.int .i64 p.1.n) := HX1.out.cell 1
 have c2 : W1.cell? ⟨W.heap.size, 2, none⟩ = some (.int .i64 p.1.s) := HX1.out.cell 2
 have c3 : W1.cell? ⟨W.heap.size, 3, none⟩ = some (.string p.1.t) := HX1.out.cell 3
 have c4 : W1.cell? ⟨W.heap.size, 4, none⟩ = some (.slice na p.1.ns.length nc) := HX1.out.cell 4
 have c5 : W1.cell? ⟨W.heap.size, 5, none⟩ = some (.slice ka p.2.list.length kc) := HX1.out.cell 5
 have HV : Hid (Vl w0 p na nc ka kc) := hv
 have HI : Hid (∀ q ∈ p.2.list, ShC q) := ih
 have HBw : Hid (Below w0.heap.size w0 W1) := hb.trans (HB1.out.mono hb.size)
 have HT : Hid ((prF p.2 false p.1.ns true).length + 2 <= 700000000) := hl
 have HD0 : Hid ((⟨#[91]⟩ : ByteArray) = ofB (91 :: []) /\ Below W1.heap.size W1 W1 /\ [] ++ prF (p.2.drop 0) false (p.1.ns.drop 0) (decide (0 = 0)) = prF p.2 false p.1.ns true) := ⟨rfl, Below.refl _ _, by simp [Fo.drop]⟩
 clear hv ih hb hl
 go_enter Tryz.func91, Tryz.ntmps91
 go_wp2
 have e1 : W.alloc (.cells #[.int .i64 8, .int .i64 p.1.n, .int .i64 p.1.s, .string p.1.t, .slice na p.1.ns.length nc, .slice ka p.2.list.length kc] 41) = W1 := HW1.out
 rw [e1]
 clear e1 HW1 c0 c1 c2 c3 c4 c5
 go_loopw [7, 8] (fun x i wr => ∃ (k : Nat) (t : ByteArray) (D : List Nat), k <= p.2.list.length /\ x = .string t /\ i = .int .i64 (k : Int) /\ Hid (t = ofB (91 :: D) /\ Below W1.heap.size W1 wr /\ D ++ prF (p.2.drop k) false (p.1.ns.drop k) (decide (k = 0)) = prF p.2 false p.1.ns true)) (fun _ i _ => p.2.list.length - (intOf i).toNat)
 case atStart => exact ⟨0, _, [], by omega, rfl, rfl, HD0.out⟩
 case round =>
  clear HD0
  obtain ⟨k, t, D, hk0, rfl, rfl, HK⟩ := hrel
  have HB : Hid (Below W1.heap.size W1 wr) := HK.out.2.1
  have HD : Hid (D ++ prF (p.2.drop k) false (p.1.ns.drop k) (decide (k = 0)) = prF p.2 false p.1.ns true) := HK.out.2.2
  have Ht : Hid (t = ofB (91 :: D)) := HK.out.1
  clear HK
  have hts : t.size = D.length + 1 := by rw [Ht.out, ofB_size]; simp
  have c5 : wr.cell? ⟨W.heap.size, 5, none⟩ = some (.slice ka p.2.list.length kc) := (HX1.out.below HB.out HX1.out.lt).cell 5
  by_cases hlt : k < p.2.list.length
  case neg =>
   have hD : D = prF p.2 false p.1.ns true := by
    have := HD.out
    rw [Fo.drop_end _ _ (by omega)] at this
    simpa [prF] using this
   have h1 : ¬ 9223372036854775807 < t.size + 1 := by have := HT.out; rw [hts, hD]; omega
   have HF : Hid (t ++ ⟨#[93]⟩ = ofB (91 :: (prF p.2 false p.1.ns true ++ [93])) /\ Below W.heap.size W wr) := by
    refine ⟨?_, HB1.out.trans (HB.out.mono HB1.out.size)⟩
    rw [Ht.out, hD, show (⟨#[93]⟩ : ByteArray) = ofB [93] from rfl, ofB_app]
    simp
   clear hD hts HD Ht HT
   go_wp2
   go_ret
   exact ⟨by rw [<- HF.out.1]; rfl, HF.out.2⟩
  have HBr : Hid (Below w0.heap.size w0 wr) := HBw.out.trans (HB.out.mono HBw.out.size)
  obtain ⟨q, bq, oq, na', nc', ka', kc', hq, rfl, hnd, hvl⟩ := HV.out.kid (Below.refl _ _) (k := k) hlt
  have HQ : Hid (ShC q) := HI.out q (List.mem_of_getElem? hq)
  have HVq : Hid (Vl w0 q na' nc' ka' kc') := hvl
  have HP : Hid (prF (p.2.drop k) false (p.1.ns.drop k) (decide (k = 0)) = _) := prF_drop hq
  have HND : Hid (∀ w, Below W1.heap.size W1 w -> Nd w bq (oq + k * 6) q.1 na' nc' ka' q.2.list.length kc') := fun w g => hnd.below (HBw.out.trans (g.mono HBw.out.size))
  clear hnd hvl hq
  by_cases h0 : k = 0
  case pos =>
   have HPz : Hid (prF (p.2.drop k) false (p.1.ns.drop k) (decide (k = 0)) = [] ++ ((prV q ++ prF (p.2.drop (k + 1)) false (p.1.ns.drop (k + 1)) false))) := by
    show _ = _
    have := HP.out
    rw [decide_eq_true (show k = 0 from h0)] at this
    rw [decide_eq_true (show k = 0 from h0)]
    simpa using this
   have hln : D.length + 0 + (prV q).length + 1 <= 700000000 := by
    have h1 := HT.out
    have h2 := congrArg List.length HD.out
    have h3 := congrArg List.length HPz.out
    simp only [List.length_append, List.length_cons, List.length_nil] at h2 h3
    omega
   have HR : Hid ((ofB (prV q)).size = (prV q).length) := ofB_size _
   have HG : Hid (∀ w x, Below W1.heap.size W1 w -> x = ofB (91 :: (D ++ [] ++ (prV q))) -> (x = ofB (91 :: (D ++ [] ++ (prV q))) /\ Below W1.heap.size W1 w /\ (D ++ [] ++ (prV q)) ++ prF (p.2.drop (k + 1)) false (p.1.ns.drop (k + 1)) (decide (k + 1 = 0)) = prF p.2 false p.1.ns true)) := fun w x g e => by
    refine ⟨e, g, ?_⟩
    rw [<- HD.out, HPz.out, decide_eq_false (show ¬ k + 1 = 0 by omega)]
    simp
   clear HP HPz HD HT
   have KQ := HQ.out na' nc' ka' kc' w0 wr HVq.out HBr.out (by omega)
   obtain ⟨d0, d1, d2, d3, d4, d5⟩ := HND.out wr HB.out
   obtain ⟨R, hR⟩ : ∃ R, ofB (prV q) = R := ⟨_, rfl⟩
   rw [hR] at KQ HR
   have h2 : ¬ 9223372036854775807 < t.size + 2 := by omega
   have hk1 : decide (0 < k) = false := by simp [h0]
   clear h0
   go_wp2_with fail
   refine KQ.mono ?_
   rintro e w9 ⟨rfl, b9⟩
   have HB9 : Hid (Below W1.heap.size W1 w9) := HB.out.trans (b9.mono HB.out.size)
   obtain ⟨t', ht'⟩ : ∃ t', t = t' := ⟨_, rfl⟩
   have Ht' : Hid (t' = ofB (91 :: (D ++ []))) := by
    show _ = _
    rw [<- ht', Ht.out]
    simp
   have h3 : ¬ 9223372036854775807 < t'.size + R.size := by
    have e1 := HR.out
    have e2 := congrArg ByteArray.size Ht'.out
    rw [ofB_size] at e2
    simp only [List.length_append, List.length_cons, List.length_nil] at e2
    omega
   have HRf : Hid (t' ++ R = ofB (91 :: (D ++ [] ++ (prV q)))) := by
    show _ = _
    rw [Ht'.out, <- hR, ofB_app]
    simp
   rw [ht']
   clear KQ b9 d0 d1 d2 d3 d4 d5 c5 h2 Ht Ht' ht' hR HR hts
   go_wp2
   go_roundw
   case rel => exact ⟨k + 1, _, _, by omega, rfl, by go_num, HG.out _ _ HB9.out HRf.out⟩
   case measure => simp [intOf]; omega
  case neg =>
   have HPz : Hid (prF (p.2.drop k) false (p.1.ns.drop k) (decide (k = 0)) = [44, 32] ++ ((prV q ++ prF (p.2.drop (k + 1)) false (p.1.ns.drop (k + 1)) false))) := by
    show _ = _
    have := HP.out
    rw [decide_eq_false (show ¬ k = 0 from h0)] at this
    rw [decide_eq_false (show ¬ k = 0 from h0)]
    simpa using this
   have hln : D.length + 2 + (prV q).length + 1 <= 700000000 := by
    have h1 := HT.out
    have h2 := congrArg List.length HD.out
    have h3 := congrArg List.length HPz.out
    simp only [List.length_append, List.length_cons, List.length_nil] at h2 h3
    omega
   have HR : Hid ((ofB (prV q)).size = (prV q).length) := ofB_size _
   have HG : Hid (∀ w x, Below W1.heap.size W1 w -> x = ofB (91 :: (D ++ [44, 32] ++ (prV q))) -> (x = ofB (91 :: (D ++ [44, 32] ++ (prV q))) /\ Below W1.heap.size W1 w /\ (D ++ [44, 32] ++ (prV q)) ++ prF (p.2.drop (k + 1)) false (p.1.ns.drop (k + 1)) (decide (k + 1 = 0)) = prF p.2 false p.1.ns true)) := fun w x g e => by
    refine ⟨e, g, ?_⟩
    rw [<- HD.out, HPz.out, decide_eq_false (show ¬ k + 1 = 0 by omega)]
    simp
   clear HP HPz HD HT
   have KQ := HQ.out na' nc' ka' kc' w0 wr HVq.out HBr.out (by omega)
   obtain ⟨d0, d1, d2, d3, d4, d5⟩ := HND.out wr HB.out
   obtain ⟨R, hR⟩ : ∃ R, ofB (prV q) = R := ⟨_, rfl⟩
   rw [hR] at KQ HR
   have h2 : ¬ 9223372036854775807 < t.size + 2 := by omega
   have hk1 : decide (0 < k) = true := by simp; omega
   clear h0
   go_wp2_with fail
   refine KQ.mono ?_
   rintro e w9 ⟨rfl, b9⟩
   have HB9 : Hid (Below W1.heap.size W1 w9) := HB.out.trans (b9.mono HB.out.size)
   obtain ⟨t', ht'⟩ : ∃ t', (t ++ ⟨#[44, 32]⟩) = t' := ⟨_, rfl⟩
   have Ht' : Hid (t' = ofB (91 :: (D ++ [44, 32]))) := by
    show _ = _
    rw [<- ht', Ht.out]
    rw [show (⟨#[44, 32]⟩ : ByteArray) = ofB [44, 32] from rfl, ofB_app]; rfl
   have h3 : ¬ 9223372036854775807 < t'.size + R.size := by
    have e1 := HR.out
    have e2 := congrArg ByteArray.size Ht'.out
    rw [ofB_size] at e2
    simp only [List.length_append, List.length_cons, List.length_nil] at e2
    omega
   have HRf : Hid (t' ++ R = ofB (91 :: (D ++ [44, 32] ++ (prV q)))) := by
    show _ = _
    rw [Ht'.out, <- hR, ofB_app]
    simp
   rw [ht']
   clear KQ b9 d0 d1 d2 d3 d4 d5 c5 h2 Ht Ht' ht' hR HR hts
   go_wp2
   go_roundw
   case rel => exact ⟨k + 1, _, _, by omega, rfl, by go_num, HG.out _ _ HB9.out HRf.out⟩
   case measure => simp [intOf]; omega
end Go.Proofs.YtpfiejmhnkcjbaaGreatDoor
