/-
   ·  ·  · 
-/
import Derived.Test.YtobfdcdobhhagaaGreatDoorARc1
import Derived.Laws.BytesArg
import Derived.Test.YtobfdcdobhhagaaGreatDoorAG21x
import Derived.Test.YtobfdcdobhhagaaGreatDoorAG18x
namespace Go.Proofs.YtobfdcdobhhagaaGreatDoor
set_option maxHeartbeats 4000000
set_option maxRecDepth 8000
open Go.RowKit Math
set_option linter.unusedVariables false
set_option linter.unusedSimpArgs false
structure Tp9 (W w' : World) (s : ByteArray) (p : Vt) (na : Option Addr) (nc : Nat) (ka : Option Addr) (kc : Nat) (E : Int) : Prop where
 bl : Below W.heap.size W w'
 vl : Vl w' p na nc ka kc
 wf : WfV p
 wz : ws p <= 600000
 ok : (E = 0 /\ encE p = 0 /\ prV p = bts s /\ (∀ y, WfV y -> encE y = 0 -> prV y = bts s -> y = p)) ∨ (E = 3 /\ p = lf 0 0 0 em /\ (s.size <= 524288 -> ∀ y, WfV y -> encE y = 0 -> prV y ≠ bts s))
theorem vl_zero (w : World) : Vl w (lf 0 0 0 em) none 0 none 0 := (vl_leaf9 w 0 0 0 em).vl
theorem wf_zero : WfV (lf 0 0 0 em) := wf_leaf9 0 0 0 em (by omega) (by omega) (by omega) (by decide)
theorem tp_no {W w' : World} {s : ByteArray} (hb : Below W.heap.size W w') (h : s.size <= 524288 -> ∀ y, WfV y -> encE y = 0 -> prV y ≠ bts s) : Tp9 W w' s (lf 0 0 0 em) none 0 none 0 3 :=
 ⟨hb, vl_zero _, wf_zero, by decide, .inr ⟨rfl, rfl, h⟩⟩
theorem tparse_any (s : ByteArray) (hs : s.size <= 9223372036854775807) (W : World) (ht : D6.Ptab W) :
 Calls Tryz.prog 22 #[.string s] W fun e w' => ∃ (p : Vt) (na : Option Addr) (nc : Nat) (ka : Option Addr) (kc : Nat) (E : Int), e = .returned (.tuple #[.agg #[.int .i64 p.1.k, .int .i64 p.1.n, .int .i64 p.1.s, .string p.1.t, .slice na p.1.ns.length nc, .slice ka p.2.list.length kc], .int .i64 E]) /\ Hid (Tp9 W w' s p na nc ka kc E) := by
 have HTb : Hid (D6.Ptab W) := ht
 clear ht
 go_enter Tryz.func22, Tryz.ntmps22
 go_wp2_with (refine al_zero rfl 38 rfl zer z25 ?_)
 intro g2 w1 hg2 bz1 gr1
 have HZ1 : Hid (Blk w1 g2 38 zer) := bz1
 have HB1 : Hid (Below W.heap.size W w1) := (Below.refl _ _).grown gr1 (Nat.le_refl _) (fun k e => by cases e)
 have hg2l : g2 < w1.heap.size := bz1.lt
 clear bz1 gr1
 by_cases hbig : 524288 < s.size
 . have hbi : (524288 : Int) < (s.size : Int) := by omega
   go_wp2_with (refine st_all rfl 38 (.tmp 2) (.tmp 11) rfl g2 38 zer [.int .i64 0, .int .i64 0, .int .i64 0, .string ⟨#[]⟩, .slice none 0 0, .slice none 0 0] rfl rfl HZ1.out rfl s25 (D6.ones rfl) ?_)
   intro w9 b9 g9
   have HB9 : Hid (Blk w9 g2 38 [.int .i64 0, .int .i64 0, .int .i64 0, .string ⟨#[]⟩, .slice none 0 0, .slice none 0 0]) := b9
   have HF : Hid (Tp9 W w9 s (lf 0 0 0 em) none 0 none 0 3) := tp_no (HB1.out.grown g9 HB1.out.size (fun k e => by injection e with e; omega)) (fun h => absurd h (by omega))
   clear b9 g9 HZ1 HB1
   go_wp2
   refine bodyPost_ret (res_two rfl _ g2 38 _ _ rfl HB9.out Tryz.underlying38 rfl s25) rfl ?_
   exact ⟨lf 0 0 0 em, none, 0, none, 0, 3, rfl, HF.out⟩
 have hsm : s.size <= 524288 := by omega
 obtain ⟨w2, HW2⟩ : ∃ w2, Hid (w1.alloc (.cells #[.string s, .bool false] 76) = w2) := ⟨_, rfl⟩
 have HR2 : Hid (Blk w2 w1.heap.size 76 [.string s, .bool false]) := by rw [<- HW2.out]; exact blk_new w1 76 [.string s, .bool false]
 have HB2 : Hid (Below w1.heap.size w1 w2) := by rw [<- HW2.out]; exact (Below.refl _ _).alloc (Nat.le_refl _) _
 have K := value9 16 1 (by omega) (by omega) w1.heap.size s false w2 (by omega) HR2.out
 go_wp2_with fail
 generalize hWW : World.alloc w1 _ = W9
 obtain rfl : w2 = W9 := by rw [<- hWW, <- HW2.out]
 clear hWW HW2 hbig
 refine K.mono ?_
 rintro e w3 ⟨p, na, nc, ka, kc, s3, b3, rfl, H3⟩
 have hz12 : w1.heap.size < w2.heap.size := HR2.out.lt
 have hz23 : w2.heap.size <= w3.heap.size := H3.out.kt.gr.size
 have HZ3 : Hid (Blk w3 g2 38 zer) := (HZ1.out.below HB2.out hg2l).kept H3.out.kt.gr (by intro e; injection e with e; omega)
 have HB3 : Hid (Below W.heap.size W w3) := by
  have h := HB1.out.size
  have := HB1.out.trans (HB2.out.mono h)
  exact this.grown H3.out.kt.gr (by omega) (fun k e => by injection e with e; omega)
 have HR3 : Hid (Blk w3 w1.heap.size 76 [.string s3, .bool b3]) := H3.out.kt.blk
 have HVl : Hid (∃ Lp, VlL w3 p na nc ka kc Lp /\ ∀ x ∈ Lp, w2.heap.size <= x /\ x < w3.heap.size) := H3.out.vl
 have HWf : Hid (WfV p) := H3.out.wf
 have HVx : Hid (Vx 1 (bts s) false (bts s3) b3 p) := H3.out.vx
 clear K H3 HZ1 HB1 HB2 HR2
 go_wp2_with (refine al_zero rfl 38 rfl zer z25 ?_)
 intro g5 w4 hg5 bz4 gr4
 go_wp2_with (refine st_all rfl 38 (.tmp 5) (.tmp 16) rfl g5 38 zer (six p.1 na nc ka p.2.list.length kc) rfl rfl bz4 rfl s25 (six_one _ _ _ _ _ _) ?_)
 intro w5 b5 gr5
 have HB5 : Hid (Below w3.heap.size w3 w5) := below_new gr4 hg5 gr5
 have HV5 : Hid (Blk w5 g5 38 (six p.1 na nc ka p.2.list.length kc)) := b5
 have HR5 : Hid (Blk w5 w1.heap.size 76 [.string s3, .bool b3]) := HR3.out.below HB5.out HR3.out.lt
 have HZ5 : Hid (Blk w5 g2 38 zer) := HZ3.out.below HB5.out HZ3.out.lt
 have HBW5 : Hid (Below W.heap.size W w5) := HB3.out.trans (HB5.out.mono HB3.out.size)
 have HVl5 : Hid (∃ Lp, VlL w5 p na nc ka kc Lp /\ ∀ x ∈ Lp, w2.heap.size <= x /\ x < w5.heap.size) := by
  obtain ⟨Lp, a1, a2⟩ := HVl.out
  have := HB5.out.size
  exact ⟨Lp, a1.keep fun x hx => HB5.out.block x (a2 x hx).2, fun x hx => by have := a2 x hx; omega⟩
 have c1 : w5.cell? ⟨w1.heap.size, 1, none⟩ = some (.bool b3) := HR5.out.cell 1
 have hg25 : g2 ≠ g5 := by omega
 clear bz4 gr4 b5 gr5 HB5 HR3 HZ3 HVl HB3
 have HCo : Hid (∀ y, WfV y -> encE y = 0 -> prV y = bts s -> b3 = false /\ y = p) := fun y h1 h2 h3 => by
  obtain ⟨a1, a2, _⟩ := HVx.out.rt.co rfl y [] ⟨h1, encE_chk h2, .inl rfl⟩ (by rw [h3, List.append_nil])
  exact ⟨a1, a2.symm⟩
 cases b3 with
 | true =>
   have HNo : Hid (s.size <= 524288 -> ∀ y, WfV y -> encE y = 0 -> prV y ≠ bts s) := fun _ y h1 h2 h3 => by have := (HCo.out y h1 h2 h3).1; cases this
   clear HVx HCo
   go_wp2_with (refine st_all rfl 38 (.tmp 2) (.tmp 21) rfl g2 38 zer [.int .i64 0, .int .i64 0, .int .i64 0, .string ⟨#[]⟩, .slice none 0 0, .slice none 0 0] rfl rfl HZ5.out rfl s25 (D6.ones rfl) ?_)
   intro w9 b9 g9
   have HB9 : Hid (Blk w9 g2 38 [.int .i64 0, .int .i64 0, .int .i64 0, .string ⟨#[]⟩, .slice none 0 0, .slice none 0 0]) := b9
   have HF : Hid (Tp9 W w9 s (lf 0 0 0 em) none 0 none 0 3) := tp_no (HBW5.out.grown g9 HBW5.out.size (fun k e => by injection e with e; omega)) HNo.out
   clear b9 g9 HZ5 HBW5 HV5 HR5 HNo
   go_wp2
   refine bodyPost_ret (res_two rfl _ g2 38 _ _ rfl HB9.out Tryz.underlying38 rfl s25) rfl ?_
   exact ⟨lf 0 0 0 em, none, 0, none, 0, 3, rfl, HF.out⟩
 | false =>
   have hwz : ws p <= 600000 := by
    have := HVx.out.pr rfl
    rw [bts_len, bts_len] at this
    omega
   have K6 := print_any p HWf.out (by omega) na nc ka kc w5 (by obtain ⟨Lp, a1, _⟩ := HVl5.out; exact a1.vl) (ptab_below HTb.out HBW5.out)
   have HPy : Hid (encE p = 0 -> bts (prT p) = prV p) := prT_yes HWf.out
   obtain ⟨E, hE⟩ : ∃ E, encE p = E := ⟨_, rfl⟩
   obtain ⟨T, hT⟩ : ∃ T, prT p = T := ⟨_, rfl⟩
   have HE : Hid (encE p = E) := hE
   have HT : Hid (prT p = T) := hT
   rw [hE, hT] at K6
   clear hE hT
   have d0 : w5.cell? ⟨g5, 0, none⟩ = some (.int .i64 p.1.k) := HV5.out.cell 0
   have d1 : w5.cell? ⟨g5, 1, none⟩ = some (.int .i64 p.1.n) := HV5.out.cell 1
   have d2 : w5.cell? ⟨g5, 2, none⟩ = some (.int .i64 p.1.s) := HV5.out.cell 2
   have d3 : w5.cell? ⟨g5, 3, none⟩ = some (.string p.1.t) := HV5.out.cell 3
   have d4 : w5.cell? ⟨g5, 4, none⟩ = some (.slice na p.1.ns.length nc) := HV5.out.cell 4
   have d5 : w5.cell? ⟨g5, 5, none⟩ = some (.slice ka p.2.list.length kc) := HV5.out.cell 5
   go_wp2_with fail
   refine K6.mono ?_
   rintro e w6 ⟨rfl, b6⟩
   have HB6 : Hid (Below w5.heap.size w5 w6) := b6
   have HV6 : Hid (Blk w6 g5 38 (six p.1 na nc ka p.2.list.length kc)) := HV5.out.below b6 HV5.out.lt
   have HZ6 : Hid (Blk w6 g2 38 zer) := HZ5.out.below b6 HZ5.out.lt
   have HBW6 : Hid (Below W.heap.size W w6) := HBW5.out.trans (b6.mono HBW5.out.size)
   have HVl6 : Hid (∃ Lp, VlL w6 p na nc ka kc Lp /\ ∀ x ∈ Lp, w2.heap.size <= x /\ x < w6.heap.size) := by
    obtain ⟨Lp, a1, a2⟩ := HVl5.out
    have := b6.size
    exact ⟨Lp, a1.keep fun x hx => b6.block x (a2 x hx).2, fun x hx => by have := a2 x hx; omega⟩
   clear K6 b6 HB6 HV5 HZ5 HBW5 HVl5 HR5 d0 d1 d2 d3 d4 d5 c1
   by_cases hE0 : E = 0
   case neg =>
    have hne : (E != 0) = true := by simpa using hE0
    have HNo : Hid (s.size <= 524288 -> ∀ y, WfV y -> encE y = 0 -> prV y ≠ bts s) := fun _ y h1 h2 h3 => by
     have := (HCo.out y h1 h2 h3).2
     rw [this, HE.out] at h2
     exact hE0 h2
    clear HVx HCo HE HT HPy
    go_wp2_with (refine st_all rfl 38 (.tmp 2) (.tmp 34) rfl g2 38 zer [.int .i64 0, .int .i64 0, .int .i64 0, .string ⟨#[]⟩, .slice none 0 0, .slice none 0 0] rfl rfl HZ6.out rfl s25 (D6.ones rfl) ?_)
    intro w9 b9 g9
    have HB9 : Hid (Blk w9 g2 38 [.int .i64 0, .int .i64 0, .int .i64 0, .string ⟨#[]⟩, .slice none 0 0, .slice none 0 0]) := b9
    have HF : Hid (Tp9 W w9 s (lf 0 0 0 em) none 0 none 0 3) := tp_no (HBW6.out.grown g9 HBW6.out.size (fun k e => by injection e with e; omega)) HNo.out
    clear b9 g9 HZ6 HBW6 HV6 HVl6 HNo
    go_wp2
    refine bodyPost_ret (res_two rfl _ g2 38 _ _ rfl HB9.out Tryz.underlying38 rfl s25) rfl ?_
    exact ⟨lf 0 0 0 em, none, 0, none, 0, 3, rfl, HF.out⟩
   subst hE0
   by_cases hTS : T = s
   case neg =>
    have hts : (T.toList == s.toList) = false := by
     rw [beq_eq_false_iff_ne]
     exact fun e => hTS (bytes_eq e)
    have HNo : Hid (s.size <= 524288 -> ∀ y, WfV y -> encE y = 0 -> prV y ≠ bts s) := fun _ y h1 h2 h3 => by
     have := (HCo.out y h1 h2 h3).2
     subst this
     apply hTS
     rw [<- HT.out, <- ofB_bts (prT y), HPy.out HE.out, h3, ofB_bts]
    clear HVx HCo HE HT HPy hTS
    go_wp2_with (refine st_all rfl 38 (.tmp 2) (.tmp 34) rfl g2 38 zer [.int .i64 0, .int .i64 0, .int .i64 0, .string ⟨#[]⟩, .slice none 0 0, .slice none 0 0] rfl rfl HZ6.out rfl s25 (D6.ones rfl) ?_)
    intro w9 b9 g9
    have HB9 : Hid (Blk w9 g2 38 [.int .i64 0, .int .i64 0, .int .i64 0, .string ⟨#[]⟩, .slice none 0 0, .slice none 0 0]) := b9
    have HF : Hid (Tp9 W w9 s (lf 0 0 0 em) none 0 none 0 3) := tp_no (HBW6.out.grown g9 HBW6.out.size (fun k e => by injection e with e; omega)) HNo.out
    clear b9 g9 HZ6 HBW6 HV6 HVl6 HNo
    go_wp2
    refine bodyPost_ret (res_two rfl _ g2 38 _ _ rfl HB9.out Tryz.underlying38 rfl s25) rfl ?_
    exact ⟨lf 0 0 0 em, none, 0, none, 0, 3, rfl, HF.out⟩
   subst hTS
   have hts : (T.toList == T.toList) = true := by simp
   have HOk : Hid (encE p = 0 /\ prV p = bts T /\ (∀ y, WfV y -> encE y = 0 -> prV y = bts T -> y = p)) := ⟨HE.out, by rw [<- HPy.out HE.out, HT.out], fun y h1 h2 h3 => (HCo.out y h1 h2 h3).2⟩
   clear HVx HCo HE HT HPy
   go_wp2_with (first
    | refine D6.ld_all rfl 38 (.tmp 5) rfl g5 38 _ _ rfl HV6.out Tryz.underlying38 rfl s25 ?_
    | refine st_all rfl 38 (.tmp 2) (.tmp 35) rfl g2 38 zer (six p.1 na nc ka p.2.list.length kc) rfl rfl HZ6.out rfl s25 (six_one _ _ _ _ _ _) ?_)
   intro w9 b9 g9
   have HB9 : Hid (Blk w9 g2 38 (six p.1 na nc ka p.2.list.length kc)) := b9
   have HF : Hid (Tp9 W w9 T p na nc ka kc 0) := by
    obtain ⟨Lp, a1, a2⟩ := HVl6.out
    refine ⟨HBW6.out.grown g9 HBW6.out.size (fun k e => by injection e with e; omega), (a1.keep fun x hx => ?_).vl, HWf.out, hwz, .inl ⟨rfl, HOk.out⟩⟩
    have := a2 x hx
    exact g9.block x this.2 (by intro e; injection e with e; omega)
   clear b9 g9 HZ6 HBW6 HV6 HVl6 HOk
   go_wp2
   refine bodyPost_ret (res_two rfl _ g2 38 _ _ rfl HB9.out Tryz.underlying38 rfl s25) rfl ?_
   exact ⟨p, na, nc, ka, kc, 0, rfl, HF.out⟩
end Go.Proofs.YtobfdcdobhhagaaGreatDoor
namespace Go.Proofs.YtobfdcdobhhagaaGreatDoor
set_option maxHeartbeats 2000000
set_option maxRecDepth 8000
open Go.RowKit Math
set_option linter.unusedVariables false
set_option linter.unusedSimpArgs false
def kn9 : Vt := (⟨9, 0, 0, em, [⟨#[97]⟩, ⟨#[98]⟩]⟩, .cons ⟨3, 1, 0, em, []⟩ .nil (.cons ⟨8, 0, 0, em, []⟩ (.cons ⟨1, 0, 0, em, []⟩ .nil (.cons ⟨6, 0, 0, ⟨#[105, 116, 39, 115]⟩, []⟩ .nil (.cons ⟨7, 0, 0, ⟨#[0]⟩, []⟩ .nil .nil))) .nil))
def knS : ByteArray := ⟨#[123, 39, 97, 39, 58, 32, 49, 44, 32, 39, 98, 39, 58, 32, 91, 110, 117, 108, 108, 44, 32, 39, 105, 116, 39, 39, 115, 39, 44, 32, 35, 48, 48, 93, 125]⟩
theorem kn9_enc : encE kn9 = 0 := by kernel_rfl
theorem hok9 (k n s : Int) (t : ByteArray) (ns : List ByteArray) (hk : 0 <= k /\ k <= 9) (hn : 0 <= n /\ n <= 1) (hs : s = 0) (ht : t.size <= 4) (hl : ns.length <= 2) (hx : ∀ x ∈ ns, x.size <= 1) : Hok ⟨k, n, s, t, ns⟩ :=
 ⟨by show (-9223372036854775808 : Int) <= k; omega, by show k < 9223372036854775808; omega, by show (-9223372036854775808 : Int) <= n; omega, by show n < 9223372036854775808; omega, by show (-9223372036854775808 : Int) <= s; omega, by show s < 9223372036854775808; omega, by show t.size <= _; omega, by show ns.length <= _; omega, fun x hx2 => by have := hx x hx2; omega⟩
theorem kn9_wf : WfV kn9 := by
 refine ⟨hok9 9 0 0 em _ (by omega) (by omega) rfl (by decide) (by decide) (by simp; decide), by decide, ⟨⟨hok9 3 1 0 em [] (by omega) (by omega) rfl (by decide) (by decide) (by simp), by decide, trivial⟩, ⟨⟨hok9 8 0 0 em [] (by omega) (by omega) rfl (by decide) (by decide) (by simp), by decide, ?_⟩, trivial⟩⟩⟩
 exact ⟨⟨hok9 1 0 0 em [] (by omega) (by omega) rfl (by decide) (by decide) (by simp), by decide, trivial⟩, ⟨hok9 6 0 0 _ [] (by omega) (by omega) rfl (by decide) (by decide) (by simp), by decide, trivial⟩, ⟨hok9 7 0 0 _ [] (by omega) (by omega) rfl (by decide) (by decide) (by simp), by decide, trivial⟩, trivial⟩
theorem pN_one : pN 1 0 = [49] := by
 have h : dcB 1 = ⟨#[49]⟩ := by
  unfold dcB
  rw [Lib.decDigits_one (by omega)]
  rfl
 unfold pN D6.txt
 rw [if_neg (by omega), if_pos rfl, show (1 : Int).natAbs = 1 from rfl, h]
 rfl
theorem kn9_pr : prV kn9 = bts knS := by
 have h : pH ⟨3, 1, 0, em, []⟩ (prF .nil (decide ((3 : Int) = 9)) [] true) = [49] := by
  unfold pH
  simp only [show ¬ (3 : Int) = 1 by decide, show ¬ (3 : Int) = 2 by decide, if_false, if_true, show (0 : Int).toNat = 0 from rfl]
  exact pN_one
 unfold prV kn9
 show pH _ (prF (.cons ⟨3, 1, 0, em, []⟩ .nil _) _ _ _) = _
 rw [prF, h]
 rfl
theorem knS_size : knS.size = 35 := rfl
theorem known9 (W : World) (ht : D6.Ptab W) : Calls Tryz.prog 21 #[] W fun e w' => e = .returned (.bool true) /\ Below W.heap.size W w' := by
 have HTb : Hid (D6.Ptab W) := ht
 have K := tparse_any knS (by rw [knS_size]; omega) W ht
 clear ht
 go_enter Tryz.func21, Tryz.ntmps21
 go_wp2_with fail
 refine K.mono ?_
 rintro e w1 ⟨p, na, nc, ka, kc, E, rfl, H1⟩
 have HP : Hid (E = 0 /\ p = kn9) := by
  rcases H1.out.ok with ⟨a, _, _, b⟩ | ⟨_, _, b⟩
  . exact ⟨a, (b kn9 kn9_wf kn9_enc kn9_pr).symm⟩
  . exact absurd kn9_pr (b (by rw [knS_size]; omega) kn9 kn9_wf kn9_enc)
 have HB1 : Hid (Below W.heap.size W w1) := H1.out.bl
 have HV1 : Hid (Vl w1 p na nc ka kc) := H1.out.vl
 have HL : Hid (p.2.list.length = 2) := by show _ = _; rw [HP.out.2]; rfl
 have HPr : Hid (WfV p /\ ws p <= 800000 /\ encE p = 0 /\ prT p = knS) := by
  refine ⟨H1.out.wf, by have := H1.out.wz; omega, by rw [HP.out.2]; exact kn9_enc, ?_⟩
  rw [HP.out.2, <- ofB_bts (prT kn9), prT_yes kn9_wf kn9_enc, kn9_pr, ofB_bts]
 obtain rfl : E = 0 := HP.out.1
 clear K H1 HP
 go_wp2_with (refine al_zero rfl 38 rfl zer z25 ?_)
 intro g w2 hg bz2 gr2
 go_wp2_with (refine st_all rfl 38 (.tmp 1) (.tmp 7) rfl g 38 zer (six p.1 na nc ka p.2.list.length kc) rfl rfl bz2 rfl s25 (six_one _ _ _ _ _ _) ?_)
 intro w3 b3 gr3
 have HB3 : Hid (Below w1.heap.size w1 w3) := below_new gr2 hg gr3
 have HX3 : Hid (Blk w3 g 38 (six p.1 na nc ka p.2.list.length kc)) := b3
 have HBW3 : Hid (Below W.heap.size W w3) := HB1.out.trans (HB3.out.mono HB1.out.size)
 have K2 := print_any p HPr.out.1 HPr.out.2.1 na nc ka kc w3 (HV1.out.below HB3.out) (ptab_below HTb.out HBW3.out)
 rw [HPr.out.2.2.1, HPr.out.2.2.2] at K2
 have d0 : w3.cell? ⟨g, 0, none⟩ = some (.int .i64 p.1.k) := HX3.out.cell 0
 have d1 : w3.cell? ⟨g, 1, none⟩ = some (.int .i64 p.1.n) := HX3.out.cell 1
 have d2 : w3.cell? ⟨g, 2, none⟩ = some (.int .i64 p.1.s) := HX3.out.cell 2
 have d3 : w3.cell? ⟨g, 3, none⟩ = some (.string p.1.t) := HX3.out.cell 3
 have d4 : w3.cell? ⟨g, 4, none⟩ = some (.slice na p.1.ns.length nc) := HX3.out.cell 4
 have d5 : w3.cell? ⟨g, 5, none⟩ = some (.slice ka p.2.list.length kc) := HX3.out.cell 5
 clear bz2 gr2 b3 gr3 HB3
 go_wp2_with fail
 refine K2.mono ?_
 rintro e w4 ⟨rfl, b4⟩
 have HX4 : Hid (Blk w4 g 38 (six p.1 na nc ka p.2.list.length kc)) := HX3.out.below b4 HX3.out.lt
 have HBW4 : Hid (Below W.heap.size W w4) := HBW3.out.trans (b4.mono HBW3.out.size)
 have f5 : w4.cell? ⟨g, 5, none⟩ = some (.slice ka p.2.list.length kc) := HX4.out.cell 5
 rw [HL.out] at f5
 have hkk : knS.toList = [123, 39, 97, 39, 58, 32, 49, 44, 32, 39, 98, 39, 58, 32, 91, 110, 117, 108, 108, 44, 32, 39, 105, 116, 39, 39, 115, 39, 44, 32, 35, 48, 48, 93, 125] := by
  rw [ByteArray.toList_eq]
  rfl
 generalize knS = S at *
 clear K2 b4 d0 d1 d2 d3 d4 d5 HX3 HX4 HL HPr HV1 HBW3 HB1
 go_wp2
 go_ret
 exact ⟨rfl, HBW4.out⟩
end Go.Proofs.YtobfdcdobhhagaaGreatDoor
namespace Go.Proofs.YtobfdcdobhhagaaGreatDoor
open Go.RowKit Math
set_option linter.unusedVariables false
set_option linter.unusedSimpArgs false
theorem strOf9 (l : List Nat) (h : Oct l) : strOfNums (l.map fun n : Nat => (n : Int)) = ofB l := by
 unfold strOfNums ofB
 congr 2
 rw [List.map_map]
 apply List.map_congr_left
 intro x hx
 have := h x hx
 simp
theorem conv_byt9 {w : World} {a : Option Addr} {l : List Nat} {c : Nat} (h : Byt w a l) (ho : Oct l) (hnil : a = none -> c = 0) : (convert 52 9 (.slice a l.length c)).run Tryz.prog w = .ok (.string (ofB l)) w := by
 cases a with
 | none =>
   have hl : l = [] := by
    rcases h with h | ⟨_, _, h, _⟩
    . exact h
    . cases h
   subst hl
   exact run_convert_bytes_nil w 52 5 Tryz.underlying52 Tryz.underlying5 0 c 9 Tryz.underlying9
 | some ad =>
   rw [<- strOf9 _ ho]
   by_cases hl : l = []
   . subst hl
     rw [run_convert_bytes_string w 52 9 5 (some ad) ([] : List Nat).length c Tryz.underlying52 Tryz.underlying5 Tryz.underlying9]
     have hl : (loadCells ad 0).run Tryz.prog w = .ok #[] w := by simpa using run_loadCells_list (P := Tryz.prog) w ad [] (by simp)
     simp [Conv.bytesToString, hl, strOfNums]
     try rfl
   . rcases h with h | ⟨b, o, h, hc⟩
     . exact absurd h hl
     . obtain rfl := Option.some.inj h
       refine run_convert_bytes_arg w 52 5 Tryz.underlying52 Tryz.underlying5 b o l.length c _ (by rw [List.length_map]) (fun k hk => ?_) 9 Tryz.underlying9
       have := hc k hk
       rw [this]
       simp [List.getD_eq_getElem?_getD, hk]
end Go.Proofs.YtobfdcdobhhagaaGreatDoor
namespace Go.Proofs.YtobfdcdobhhagaaGreatDoor
set_option maxHeartbeats 2000000
set_option maxRecDepth 8000
open Go.RowKit Math
set_option linter.unusedVariables false
set_option linter.unusedSimpArgs false
theorem q_hex {C : World -> Prop} {a : Act} {o : Oper} {K : Act -> Prop} (x : Operand) (ho : o.op = .index 9 (.const (.string ⟨#[48, 49, 50, 51, 52, 53, 54, 55, 56, 57, 97, 98, 99, 100, 101, 102]⟩)) x) (n : Nat) (h : n < 16) (z : Int) (hx : a.eval x = .int .u8 z) (hz : z = (n : Int)) (hk : K (a.put o.dst (.int .u8 ((hxd n : Nat) : Int)))) : o.quiet Tryz.prog a C K :=
 ⟨_, fun w _ => by
   subst hz
   have hi := hx_idx n h w
   unfold Oper.quietAt execOp
   simp only [ho, hx]
   go_simp, hk⟩
theorem oper_three {o : Oper} {a : Act} {w : World} {K : Act -> World -> Prop} {Q : Exit -> Act -> World -> Prop} (l s t : Nat) (ho : o.op = .buildSlice 52 3 #[(0, .const (.int .u8 (l : Int))), (1, .tmp s), (2, .tmp t)]) (m n : Nat) (hx : a.tmps.getD s undef = .int .u8 (m : Int)) (hy : a.tmps.getD t undef = .int .u8 (n : Int)) (hK : K (a.put o.dst (.slice (some ⟨w.heap.size, 0, none⟩) 3 3)) (w.alloc (.cells (vals [l, m, n]).toArray 5))) : Oper.wp Tryz.prog o a w K Q := by
 have hx' : a.tmps[s]?.getD undef = .int .u8 (m : Int) := by simpa using hx
 have hy' : a.tmps[t]?.getD undef = .int .u8 (n : Int) := by simpa using hy
 unfold Oper.wp execOp
 simp only [ho]
 go_simp
 exact hK
theorem oper_duo {o : Oper} {a : Act} {w : World} {K : Act -> World -> Prop} {Q : Exit -> Act -> World -> Prop} (s t : Nat) (ho : o.op = .buildSlice 52 2 #[(0, .tmp s), (1, .tmp t)]) (m n : Nat) (hx : a.tmps.getD s undef = .int .u8 (m : Int)) (hy : a.tmps.getD t undef = .int .u8 (n : Int)) (hK : K (a.put o.dst (.slice (some ⟨w.heap.size, 0, none⟩) 2 2)) (w.alloc (.cells (vals [m, n]).toArray 5))) : Oper.wp Tryz.prog o a w K Q := by
 have hx' : a.tmps[s]?.getD undef = .int .u8 (m : Int) := by simpa using hx
 have hy' : a.tmps[t]?.getD undef = .int .u8 (n : Int) := by simpa using hy
 unfold Oper.wp execOp
 simp only [ho]
 go_simp
 exact hK
theorem own_single (w : World) (x : Nat) (base : Nat) (hb : base <= w.heap.size) : Own (w.alloc (.cells #[.int .u8 (x : Int)] 5)) base (.slice (some ⟨w.heap.size, 0, none⟩) 1 1) [x] :=
 World.ownsRow_lit w #[.int .u8 (x : Int)] 1 hb (by decide) rfl
theorem idx9 (s : ByteArray) (k : Nat) (h : k < s.size) (w : World) : (Instr.index 9 (.string s) (.int .i64 (k : Int))).run Tryz.prog w = .ok (.int .u8 (((bts s).getD k 0 : Nat) : Int)) w := by
 have e3 : s[k]? = some (s[k]'h) := by simp [h]
 rw [bget9 s k h]
 simp [Instr.index, asIntOf, run_underlying Tryz.underlying9, e3]
theorem quote9 (s : ByteArray) (hs : s.size <= 200000000) (W : World) :
 Calls Tryz.prog 65 #[.string s] W fun e w' => e = .returned (.string (ofB (pQ s))) /\ Below W.heap.size W w' := by
 have HI0 : Hid (Own (W.alloc (.cells #[.int .u8 ((39 : Nat) : Int)] 5)) W.heap.size (.slice (some ⟨W.heap.size, 0, none⟩) 1 1) (39 :: pS ((bts s).take 0)) /\ Below W.heap.size W (W.alloc (.cells #[.int .u8 ((39 : Nat) : Int)] 5))) := ⟨own_single W 39 _ (Nat.le_refl _), (Below.refl _ _).alloc (Nat.le_refl _) _⟩
 go_enter Tryz.func65, Tryz.ntmps65
 go_wp2
 go_loopw [3, 4, 5] (fun b i _ wr => ∃ (k : Nat), k <= s.size /\ i = .int .i64 (k : Int) /\ Hid (Own wr W.heap.size b (39 :: pS ((bts s).take k)) /\ Below W.heap.size W wr)) (fun _ i _ _ => s.size - (intOf i).toNat)
 case atStart => exact ⟨0, by omega, rfl, HI0.out⟩
 case round =>
  clear HI0
  obtain ⟨k, hk, rfl, HI⟩ := hrel
  have hlen : (39 :: pS ((bts s).take k)).length <= 800000001 := by
   have := (pS_len ((bts s).take k)).2
   rw [List.length_take, bts_len] at this
   rw [List.length_cons]
   omega
  have hsz := HI.out.2.size
  by_cases hk2 : k < s.size
  case neg =>
   have HL : Hid (39 :: (pS ((bts s).take k) ++ [39]) = pQ s) := by
    show _ = _
    rw [List.take_of_length_le (by rw [bts_len]; omega)]
    rfl
   go_wp2_with (at_builtin; go_must (refine ap_bytes rfl (.tmp 46) (.tmp 47) rfl W.heap.size _ (39 :: pS ((bts s).take k)) rfl (HI.out.1.alloc _) _ _ _ [39] rfl rfl (byt_lit wr [39]) (by simp) (by simp at hlen ⊢; omega) (by simp; omega) ?_))
   intro v1 w1 A1
   rw [HL.out] at A1
   have HB : Hid (Below W.heap.size W w1) := A1.below (HI.out.1.alloc _) (HI.out.2.alloc (by omega) _) (by simp; omega) (Nat.le_refl _)
   obtain ⟨a, c, rfl, hb, hn, _⟩ := A1.own.byt
   have hcv := conv_byt9 hb (pQ_pln s).oct hn
   clear A1 hb hn HL HI hlen
   generalize (pQ s).length = n at *
   go_wp2
   go_ret
   exact ⟨rfl, HB.out⟩
  have hx := bts_oct s ((bts s).getD k 0) (by rw [List.getD_eq_getElem?_getD, List.getElem?_eq_getElem (by rw [bts_len]; exact hk2)]; exact List.getElem_mem _)
  have hidx := idx9 s k hk2
  have HN : Hid (pS ((bts s).take (k + 1)) = pS ((bts s).take k) ++ pE ((bts s).getD k 0)) := pS_next (by rw [bts_len]; exact hk2)
  generalize (bts s).getD k 0 = x at *
  obtain ⟨L, hL⟩ : ∃ L, 39 :: pS ((bts s).take k) = L := ⟨_, rfl⟩
  rw [hL] at hlen
  have HS : Hid (∀ v3 w2 w3, Below wr.heap.size wr w2 -> Ap W.heap.size w2 w3 u3 v3 (L ++ pE x) -> Own w3 W.heap.size v3 (39 :: pS ((bts s).take (k + 1))) /\ Below W.heap.size W w3) := fun v3 w2 w3 hb A => by
   have h1 := HI.out.1
   rw [hL] at h1
   refine ⟨?_, A.below (h1.below hb) (HI.out.2.trans (hb.mono HI.out.2.size)) (by have := hb.size; omega) (Nat.le_refl _)⟩
   rw [HN.out, <- List.cons_append, hL]
   exact A.own
  have HO : Hid (Own wr W.heap.size u3 L) := by rw [<- hL]; exact HI.out.1
  clear HI HN hL
  by_cases h39 : x = 39
  . have hb : ((x : Int) == 39) = true := by rw [h39]; rfl
    have HE : Hid (pE x = [39, 39]) := by show _ = _; unfold pE; rw [if_pos h39]
    clear h39
    go_wp2_with (at_builtin; go_must (refine ap_bytes rfl (.tmp 23) (.tmp 24) rfl W.heap.size _ L rfl (HO.out.alloc _) _ _ _ [39, 39] rfl rfl (byt_lit wr [39, 39]) (by simp) (by simp; omega) (by simp; omega) ?_))
    intro v1 w1 A1
    have HI2 : Hid (Own w1 W.heap.size v1 (39 :: pS ((bts s).take (k + 1))) /\ Below W.heap.size W w1) := HS.out v1 _ w1 ((Below.refl _ _).alloc (Nat.le_refl _) _) (by rw [HE.out]; exact A1)
    clear A1 HS HO HE hidx
    go_wp2
    go_roundw
    case rel => exact ⟨k + 1, by omega, by go_num, HI2.out⟩
    case measure => simp [intOf]; omega
  have hb : ((x : Int) == 39) = false := by simp; omega
  by_cases hesc : x < 32 ∨ 126 < x ∨ x = 92
  . have HE : Hid (pE x = [92, hxd (x / 16), hxd (x % 16)]) := by show _ = _; unfold pE; rw [if_neg h39, if_pos hesc]; rfl
    obtain ⟨C, hC⟩ : ∃ C : World -> Prop, C = fun _ => True := ⟨_, rfl⟩
    have CT : Hid (∀ w', C w') := fun w' => by rw [hC]; trivial
    have D0 : Hid (Below wr.heap.size wr { wr with drawn := wr.drawn + 1 }) := Below.drew (Below.refl _ _)
    have HOv : Hid (Own { wr with drawn := wr.drawn + 1 } W.heap.size u3 L) := HO.out.below D0.out
    clear hC h39
    by_cases h1 : x < 32
    . clear hesc
      go_wp2
      refine region_calm C 9 (by kernel_rfl) ?_
      have C0 : C { wr with drawn := wr.drawn + 1 } := CT.out _
      have hCp : ∀ p : Prop, (∀ W, C W -> p) ↔ p := fun p => ⟨fun h => h _ C0, fun h _ _ => h⟩
      have hsz2 : W.heap.size <= ({ wr with drawn := wr.drawn + 1 } : World).heap.size := hsz
      generalize ({ wr with drawn := wr.drawn + 1 } : World) = y0 at *
      refine seg 3 [0, 1, 2, 3, 4, 5, 6] rfl (by kernel_rfl) whole_blind C0 (by kernel_rfl) ?_
      change wpQuiet _ _ _ _ (_ :: _ :: _ :: _ :: _ :: _ :: _ :: []) _
      repeat (first
       | go_big_quiet_skip
       | (go_big_quiet_want
          first
          | (refine q_hex (.tmp 39) rfl (x / 16) (by omega) _ rfl (by omega) ?_
             simp only [Act.put, List.setIfInBounds_toArray, List.set_cons_zero, List.set_cons_succ]
             go_big_quiet_on)
          | (refine q_hex (.tmp 42) rfl (x % 16) (by omega) _ rfl (by omega) ?_
             simp only [Act.put, List.setIfInBounds_toArray, List.set_cons_zero, List.set_cons_succ]
             go_big_quiet_on)
          | (go_big_quiet_op
             go_big_quiet_on)))
      refine wpQuiet_nil ?_
      refine lone_do (i := 7) 2 rfl (by kernel_rfl) rfl (by rfl) ?_
      intro K hK
      refine oper_three 92 40 43 rfl (hxd (x / 16)) (hxd (x % 16)) rfl rfl ?_
      refine hK _ _ (CT.out _) ?_
      simp only [Act.put, List.setIfInBounds_toArray, List.set_cons_zero, List.set_cons_succ]
      refine lone_do (i := 8) 1 rfl (by kernel_rfl) rfl (by rfl) ?_
      intro K hK
      refine oper_apb (.tmp 37) (.tmp 44) rfl W.heap.size u3 L rfl (HOv.out.alloc _) _ _ _ [92, hxd (x / 16), hxd (x % 16)] rfl rfl (byt_lit y0 [92, hxd (x / 16), hxd (x % 16)]) (by simp) (by simp; omega) (by simp; omega) ?_
      intro v1 w1 A1
      have HI2 : Hid (Own w1 W.heap.size v1 (39 :: pS ((bts s).take (k + 1))) /\ Below W.heap.size W w1) := HS.out v1 _ w1 (D0.out.alloc D0.out.size _) (by rw [HE.out]; exact A1)
      clear A1
      refine hK _ _ (CT.out _) ?_
      simp only [Act.put, List.setIfInBounds_toArray, List.set_cons_zero, List.set_cons_succ]
      refine lone_calm (i := 9) 0 rfl (by kernel_rfl) rfl rfl (CT.out _) ?_
      go_big_quiet_want
      go_big_quiet_op
      go_big_quiet_on
      refine wpQuiet_nil ?_
      refine anyC_done (by kernel_rfl) ⟨rfl, ?_⟩
      clear HS HO HE hidx hCp CT D0 HOv
      go_wp2
      go_roundw
      case rel => exact ⟨k + 1, by omega, by go_num, HI2.out⟩
      case measure => simp [intOf]; omega
    by_cases h2 : 126 < x
    . clear hesc
      go_wp2
      refine region_calm C 9 (by kernel_rfl) ?_
      have C0 : C { wr with drawn := wr.drawn + 1 } := CT.out _
      have hCp : ∀ p : Prop, (∀ W, C W -> p) ↔ p := fun p => ⟨fun h => h _ C0, fun h _ _ => h⟩
      have hsz2 : W.heap.size <= ({ wr with drawn := wr.drawn + 1 } : World).heap.size := hsz
      generalize ({ wr with drawn := wr.drawn + 1 } : World) = y0 at *
      refine seg 3 [0, 1, 2, 3, 4, 5, 6] rfl (by kernel_rfl) whole_blind C0 (by kernel_rfl) ?_
      change wpQuiet _ _ _ _ (_ :: _ :: _ :: _ :: _ :: _ :: _ :: []) _
      repeat (first
       | go_big_quiet_skip
       | (go_big_quiet_want
          first
          | (refine q_hex (.tmp 39) rfl (x / 16) (by omega) _ rfl (by omega) ?_
             simp only [Act.put, List.setIfInBounds_toArray, List.set_cons_zero, List.set_cons_succ]
             go_big_quiet_on)
          | (refine q_hex (.tmp 42) rfl (x % 16) (by omega) _ rfl (by omega) ?_
             simp only [Act.put, List.setIfInBounds_toArray, List.set_cons_zero, List.set_cons_succ]
             go_big_quiet_on)
          | (go_big_quiet_op
             go_big_quiet_on)))
      refine wpQuiet_nil ?_
      refine lone_do (i := 7) 2 rfl (by kernel_rfl) rfl (by rfl) ?_
      intro K hK
      refine oper_three 92 40 43 rfl (hxd (x / 16)) (hxd (x % 16)) rfl rfl ?_
      refine hK _ _ (CT.out _) ?_
      simp only [Act.put, List.setIfInBounds_toArray, List.set_cons_zero, List.set_cons_succ]
      refine lone_do (i := 8) 1 rfl (by kernel_rfl) rfl (by rfl) ?_
      intro K hK
      refine oper_apb (.tmp 37) (.tmp 44) rfl W.heap.size u3 L rfl (HOv.out.alloc _) _ _ _ [92, hxd (x / 16), hxd (x % 16)] rfl rfl (byt_lit y0 [92, hxd (x / 16), hxd (x % 16)]) (by simp) (by simp; omega) (by simp; omega) ?_
      intro v1 w1 A1
      have HI2 : Hid (Own w1 W.heap.size v1 (39 :: pS ((bts s).take (k + 1))) /\ Below W.heap.size W w1) := HS.out v1 _ w1 (D0.out.alloc D0.out.size _) (by rw [HE.out]; exact A1)
      clear A1
      refine hK _ _ (CT.out _) ?_
      simp only [Act.put, List.setIfInBounds_toArray, List.set_cons_zero, List.set_cons_succ]
      refine lone_calm (i := 9) 0 rfl (by kernel_rfl) rfl rfl (CT.out _) ?_
      go_big_quiet_want
      go_big_quiet_op
      go_big_quiet_on
      refine wpQuiet_nil ?_
      refine anyC_done (by kernel_rfl) ⟨rfl, ?_⟩
      clear HS HO HE hidx hCp CT D0 HOv
      go_wp2
      go_roundw
      case rel => exact ⟨k + 1, by omega, by go_num, HI2.out⟩
      case measure => simp [intOf]; omega
    have h92 : ((x : Int) == 92) = true := by
     have : x = 92 := by omega
     rw [this]; rfl
    clear hesc
    go_wp2
    refine region_calm C 9 (by kernel_rfl) ?_
    have C0 : C { wr with drawn := wr.drawn + 1 } := CT.out _
    have hCp : ∀ p : Prop, (∀ W, C W -> p) ↔ p := fun p => ⟨fun h => h _ C0, fun h _ _ => h⟩
    have hsz2 : W.heap.size <= ({ wr with drawn := wr.drawn + 1 } : World).heap.size := hsz
    generalize ({ wr with drawn := wr.drawn + 1 } : World) = y0 at *
    refine seg 3 [0, 1, 2, 3, 4, 5, 6] rfl (by kernel_rfl) whole_blind C0 (by kernel_rfl) ?_
    change wpQuiet _ _ _ _ (_ :: _ :: _ :: _ :: _ :: _ :: _ :: []) _
    repeat (first
     | go_big_quiet_skip
     | (go_big_quiet_want
        first
        | (refine q_hex (.tmp 39) rfl (x / 16) (by omega) _ rfl (by omega) ?_
           simp only [Act.put, List.setIfInBounds_toArray, List.set_cons_zero, List.set_cons_succ]
           go_big_quiet_on)
        | (refine q_hex (.tmp 42) rfl (x % 16) (by omega) _ rfl (by omega) ?_
           simp only [Act.put, List.setIfInBounds_toArray, List.set_cons_zero, List.set_cons_succ]
           go_big_quiet_on)
        | (go_big_quiet_op
           go_big_quiet_on)))
    refine wpQuiet_nil ?_
    refine lone_do (i := 7) 2 rfl (by kernel_rfl) rfl (by rfl) ?_
    intro K hK
    refine oper_three 92 40 43 rfl (hxd (x / 16)) (hxd (x % 16)) rfl rfl ?_
    refine hK _ _ (CT.out _) ?_
    simp only [Act.put, List.setIfInBounds_toArray, List.set_cons_zero, List.set_cons_succ]
    refine lone_do (i := 8) 1 rfl (by kernel_rfl) rfl (by rfl) ?_
    intro K hK
    refine oper_apb (.tmp 37) (.tmp 44) rfl W.heap.size u3 L rfl (HOv.out.alloc _) _ _ _ [92, hxd (x / 16), hxd (x % 16)] rfl rfl (byt_lit y0 [92, hxd (x / 16), hxd (x % 16)]) (by simp) (by simp; omega) (by simp; omega) ?_
    intro v1 w1 A1
    have HI2 : Hid (Own w1 W.heap.size v1 (39 :: pS ((bts s).take (k + 1))) /\ Below W.heap.size W w1) := HS.out v1 _ w1 (D0.out.alloc D0.out.size _) (by rw [HE.out]; exact A1)
    clear A1
    refine hK _ _ (CT.out _) ?_
    simp only [Act.put, List.setIfInBounds_toArray, List.set_cons_zero, List.set_cons_succ]
    refine lone_calm (i := 9) 0 rfl (by kernel_rfl) rfl rfl (CT.out _) ?_
    go_big_quiet_want
    go_big_quiet_op
    go_big_quiet_on
    refine wpQuiet_nil ?_
    refine anyC_done (by kernel_rfl) ⟨rfl, ?_⟩
    clear HS HO HE hidx hCp CT D0 HOv
    go_wp2
    go_roundw
    case rel => exact ⟨k + 1, by omega, by go_num, HI2.out⟩
    case measure => simp [intOf]; omega
  have HE : Hid (pE x = [x]) := by show _ = _; unfold pE; rw [if_neg h39, if_neg hesc]
  have h1 : ¬ x < 32 := fun h => hesc (.inl h)
  have h2 : ¬ 126 < x := fun h => hesc (.inr (.inl h))
  have h92 : ((x : Int) == 92) = false := by
   have : ¬ x = 92 := fun h => hesc (.inr (.inr h))
   simp; omega
  clear hesc h39
  go_wp2_with (at_builtin; go_must (refine ap_bytes rfl (.tmp 16) (.tmp 18) rfl W.heap.size _ L rfl (HO.out.alloc _) _ _ _ [x] rfl rfl (byt_lit wr [x]) (by simp) (by simp; omega) (by simp; omega) ?_))
  intro v1 w1 A1
  have HI2 : Hid (Own w1 W.heap.size v1 (39 :: pS ((bts s).take (k + 1))) /\ Below W.heap.size W w1) := HS.out v1 _ w1 ((Below.refl _ _).alloc (Nat.le_refl _) _) (by rw [HE.out]; exact A1)
  clear A1 HS HO HE hidx
  go_wp2
  go_roundw
  case rel => exact ⟨k + 1, by omega, by go_num, HI2.out⟩
  case measure => simp [intOf]; omega
end Go.Proofs.YtobfdcdobhhagaaGreatDoor
