/-
  block's Decode.
-/
import Derived.Test.YtlefdnjokppibaaGreatDoorVBq6
namespace Go.Proofs.YtlefdnjokppibaaGreatDoor.Sh
open Go Go.RowKit Math Mt
set_option linter.unusedVariables false
set_option linter.unusedSimpArgs false
def dE1 (l' : List Nat) (e : Int) : Int := if l' ≠ [] then (if e ≠ 0 then e else 3) else e
def dE2 (e rf : Int) : Int := if e ≠ 0 then e else rf
def dE3 (n : Nat) (e : Int) : Int := if 262144 < n then (if e ≠ 0 then e else 5) else e
theorem dec_val {l l' : List Nat} {err' rf : Int} {B bb : Bk} (ho : Oct l) (hl : l.length ≤ 1000000) (h : Sq bkR l 0 l' err' B) (hr : err' = 0 → rf = (if HeadP B (B.es.length : Int) then fstE B.es else 1) ∧ (decide (l.length ≤ 262144) = true → bb = B)) :
    dE3 l.length (dE2 (dE1 l' err') rf) = decB l ∧ (decB l = 0 → bb = decK l) ∧ (decB l ≠ 0 → decK l = noB) := by
  have hb : decB l = 0 ∨ decB l ≠ 0 := by by_cases h : decB l = 0; exact .inl h; exact .inr h
  rcases h with ⟨h1, _⟩ | ⟨_, ⟨h2, rfl⟩ | ⟨q, h2, rfl, h4⟩⟩
  · exact absurd rfl h1
  · obtain ⟨hrf, hbb⟩ := hr rfl
    have hd : decB l = if l' ≠ [] then 3 else if chkB B ≠ 0 then chkB B else if 262144 < l.length then 5 else 0 := by unfold decB; rw [h2]
    have hk : decK l = if decB l = 0 then B else noB := by unfold decK; rw [h2]
    have hE : dE3 l.length (dE2 (dE1 l' 0) rf) = decB l := by
      rw [hd]
      by_cases hn : l' = []
      · subst hn
        obtain ⟨hB, hlb⟩ := bk_inv ho (by omega) h2
        rw [List.append_nil] at hlb
        have hlen : l.length = (blkB B true).length := by rw [← hlb]
        unfold dE1
        rw [if_neg (by simp), if_neg (by simp)]
        by_cases c1 : HeadP B (B.es.length : Int)
        · rw [if_pos c1] at hrf
          by_cases c2 : fstE B.es = 0
          · rw [hrf, c2]
            by_cases c3 : 262144 < l.length
            · rw [chk_long c1 c2 (by omega)]; simp [dE2, dE3, c3]
            · rw [chk_yes c1 c2 (by omega)]; simp [dE2, dE3, c3]
          · rw [chk_may c1 c2, hrf]
            simp [dE2, dE3, c2]
        · rw [if_neg c1] at hrf
          rw [chk_head c1, hrf]
          simp [dE2, dE3]
      · rw [if_pos hn]
        simp [dE1, dE2, dE3, hn]
    refine ⟨hE, fun h0 => ?_, fun h0 => by rw [hk, if_neg h0]⟩
    rw [hk, if_pos h0]
    refine hbb (decide_eq_true ?_)
    rw [← hE] at h0
    unfold dE3 at h0
    by_cases c : 262144 < l.length
    · rw [if_pos c] at h0
      by_cases c2 : dE2 (dE1 l' 0) rf = 0
      · rw [c2] at h0; simp at h0
      · rw [if_pos c2] at h0; exact absurd h0 c2
    · omega
  · have hd : decB l = (q : Int) := by unfold decB; rw [h2]
    have hq : (q : Int) ≠ 0 := by omega
    have hk : decK l = noB := by unfold decK; rw [h2]
    refine ⟨?_, fun h => absurd (hd ▸ h) hq, fun _ => hk⟩
    rw [hd]
    by_cases hn : l' = [] <;> simp [dE1, dE2, dE3, hn, h4]
/-- What Decode answers. -/
structure DcR (W w' : World) (l : List Nat) (a : Option Addr) : Prop where
  bl : Below W.heap.size W w'
  w : BkW (decK l)
  esm : EsM w' a (decK l).es
theorem w_noB : BkW noB := ⟨i64n (u := 0) (by omega), i64n (u := 0) (by omega), i64n (u := 0) (by omega), h32_zr, by simp [noB], by simp [noB]⟩
theorem bd_rdr (a : Act) (ap : Option Addr) (n cp : Nat) (hx : a.eval (.tmp 7) = .slice ap n cp) : Tryz.prog.built 115 ((#[(0, .tmp 7)] : Array (Nat × Operand)).map fun p => (p.1, a.eval p.2)).toList = some [Value.slice ap n cp, .int .i64 0].toArray := by
  simp only [List.map_toArray, List.map_cons, List.map_nil, hx]
  kernel_rfl
set_option maxHeartbeats 800000 in
set_option maxRecDepth 8000 in
theorem bdec_any (W : World) (ap : Option Addr) (cp : Nat) (l : List Nat) (hB : Byt W ap l) (hnil : ap = none → cp = 0) (hlc : l.length ≤ cp) (hcm : cp ≤ 9223372036854775807) (ho : Oct l) (hl : l.length ≤ 1000000) (hd : bSf l) :
    Calls Tryz.prog 43 #[.slice ap l.length cp] W fun e w' => ∃ (a : Option Addr) (c : Nat), e = .returned (.tuple #[.agg (bC (decK l) a c).toArray, .int .i64 (decB l)]) ∧ Hid (DcR W w' l a) := by
  have HB : Hid (Byt W ap l) := hB
  have HN : Hid (ap = none → cp = 0) := hnil
  have HO : Hid (Oct l) := ho
  have HD : Hid (bSf l) := hd
  clear hB hnil ho hd
  go_enter Tryz.func43, Tryz.ntmps43
  go_wp2_with (refine al_zero rfl 26 rfl (bC noB none 0) zBl ?_)
  intro g2 w1 l2 B2 G0
  have Z := (Below.refl W.heap.size W).grown G0 (Nat.le_refl _) (by simp)
  clear G0
  go_wp2_with (first | (refine bd_w (by rfl) 115 #[(0, .tmp 7)] rfl [Value.slice ap l.length cp, .int .i64 0] (bd_rdr _ _ _ _ rfl) ?_) | (refine al_box rfl 115 (.tmp 8) rfl [Value.slice ap l.length cp, .int .i64 0] rfl ?_))
  intro r w2 l3 BR G0
  have s1 := Z.size
  have hr2 : g2 ≠ r := by have := B2.lt; omega
  have Z := Z.grown G0 Z.size (by simp)
  have B2 := B2.kept G0 (by simp)
  clear G0
  have RR : Rb W r w2 l 0 := ⟨⟨ap, cp, BR, HB.out, HN.out, hlc, hcm⟩, Z, by omega, HO.out, hl⟩
  have g2v : g2 < w2.heap.size := B2.lt
  have rv : r < w2.heap.size := BR.lt
  clear BR Z
  obtain ⟨keep, hkp⟩ : ∃ keep, Hid (decide (l.length ≤ 262144) = keep) := ⟨_, rfl⟩
  have hkb : decide ((l.length : Int) ≤ 262144) = keep := by rw [← hkp.out]; exact decide_eq_decide.2 (by omega)
  have K := bblock_any W w2 r l RR HD.out keep
  go_wp2_with fail
  refine K.mono ?_
  clear K RR hkb
  rintro e w3 ⟨bb, a, c, rf, l', e1, B, rfl, H⟩
  have RR := H.out.rb
  have B2 := B2.kept H.out.gr (fun e => hr2 (Option.some.inj e))
  have s3 := H.out.gr.size
  obtain ⟨is, hrow, hise⟩ := H.out.row
  have HE : Hid (RowE w2.heap.size w3 (.slice a is.length c) is) := hrow
  have HIS : Hid (is.map (·.e) = bb.es) := hise
  clear hrow hise
  have HBW : Hid (BkW bb) := H.out.w
  have HV : Hid (dE3 l.length (dE2 (dE1 l' e1) rf) = decB l ∧ (decB l = 0 → bb = decK l) ∧ (decB l ≠ 0 → decK l = noB)) := dec_val HO.out hl H.out.sq (by rw [hkp.out]; exact H.out.ok)
  clear H
  go_wp2_with (refine al_zero rfl 26 rfl (bC noB none 0) zBl ?_)
  intro g5 w4 l5 B5 G0
  have Z6 := (Below.refl w3.heap.size w3).grown G0 (Nat.le_refl _) (by simp)
  clear G0
  go_wp2_with (refine st_all rfl 26 (.tmp 5) (.tmp 16) rfl g5 26 (bC noB none 0) (bC bb a c) rfl rfl B5 (by rw [bC_len HBW.out.pv.1, bC_len zr_len]) (sB HBW.out.pv.1 _ _) (bC_one _ _ _) ?_)
  intro w5 B5' G0
  have Z7 := Sh.grown_below Z6 G0 Z6.size l5
  have RR := RR.be Z7
  have B2 := B2.below Z7 B2.lt
  have HE : Hid (RowE w2.heap.size w5 (.slice a is.length c) is) := HE.out.be Z7
  have s5 := Z7.size
  have B5 := B5'
  clear B5' G0 Z6 Z7
  obtain ⟨ax, cx, hbr, _, hnx, hlx, hcx⟩ := RR.ex
  have cr0 : w5.cell? ⟨r, 0, none⟩ = some (.slice ax l'.length cx) := hbr.cell 0
  clear hbr
  by_cases hle : l' = []
  · have hlb0 : ¬ 0 < l'.length := by rw [hle]; simp
    have HV1 : Hid (dE3 l.length (dE2 e1 rf) = decB l ∧ (decB l = 0 → bb = decK l) ∧ (decB l ≠ 0 → decK l = noB)) := by have h := HV.out; unfold dE1 at h; rw [if_neg (fun q => q hle)] at h; exact h
    clear HV
    have K := bfail_any W w5 r l' e1 rf RR
    clear RR
    obtain ⟨E2a, hE2a⟩ : ∃ E2a, Hid ((if e1 ≠ 0 then e1 else rf) = E2a) := ⟨_, rfl⟩
    rw [hE2a.out] at K
    go_wp2_with fail
    refine K.mono ?_
    clear K
    rintro e pa ⟨rfl, H⟩
    have RR := H.out.1
    have B2 := B2.kept H.out.2 (fun e => hr2 (Option.some.inj e))
    have B5 := B5.kept H.out.2 (fun e => by have := Option.some.inj e; omega)
    have HE : Hid (RowE w2.heap.size pa (.slice a is.length c) is) := HE.out.kept H.out.2 (fun x e => by have := Option.some.inj e; omega)
    have spa := H.out.2.size
    clear H
    have HV2 : Hid (dE3 l.length E2a = decB l ∧ (decB l = 0 → bb = decK l) ∧ (decB l ≠ 0 → decK l = noB)) := by rw [← hE2a.out]; exact HV1.out
    clear HV1
    by_cases hlg : 262144 < l.length
    · have hlb : decide ((262144 : Int) < (l.length : Int)) = true := decide_eq_true (by omega)
      have K := bfail_any W pa r l' E2a 5 RR
      clear RR
      obtain ⟨E3a, hE3a⟩ : ∃ E3a, Hid ((if E2a ≠ 0 then E2a else 5) = E3a) := ⟨_, rfl⟩
      rw [hE3a.out] at K
      go_wp2_with fail
      refine K.mono ?_
      clear K
      rintro e qa ⟨rfl, H⟩
      have RR := H.out.1
      have B2 := B2.kept H.out.2 (fun e => hr2 (Option.some.inj e))
      have B5 := B5.kept H.out.2 (fun e => by have := Option.some.inj e; omega)
      have HE : Hid (RowE w2.heap.size qa (.slice a is.length c) is) := HE.out.kept H.out.2 (fun x e => by have := Option.some.inj e; omega)
      have sqa := H.out.2.size
      clear H
      have HVE : Hid (E3a = decB l ∧ (decB l = 0 → bb = decK l) ∧ (decB l ≠ 0 → decK l = noB)) := by have h := HV2.out; unfold dE3 at h; rw [if_pos hlg, hE3a.out] at h; exact h
      clear HV2
      obtain ⟨sa, sc, hbr, _⟩ := RR.ex
      have cr1 : qa.cell? ⟨r, 1, none⟩ = some (.int .i64 E3a) := hbr.cell 1
      clear hbr
      by_cases he : E3a = 0
      · have hnb : (E3a != 0) = false := by rw [he]; rfl
        have HKK : Hid (bb = decK l) := HVE.out.2.1 (by rw [← HVE.out.1]; exact he)
        have HEE : Hid (decB l = 0) := by show _ = _; rw [← HVE.out.1]; exact he
        have HBl : Hid (Rb W r qa l' E3a) := RR
        clear HVE he RR
        go_wp2_with (first | (refine ld_w (by rfl) 26 (.tmp 5) rfl g5 0 rfl (bC bb a c) _ B5.all Tryz.underlying26 rfl (sB HBW.out.pv.1 _ _) ?_) | (refine st_all rfl 26 (.tmp 2) (.tmp 44) rfl g2 26 (bC noB none 0) (bC bb a c) rfl rfl B2 (by rw [bC_len HBW.out.pv.1, bC_len zr_len]) (sB HBW.out.pv.1 _ _) (bC_one _ _ _) ?_))
        intro wz BZ G0
        have HF : Hid (DcR W wz l a) := by
          refine ⟨HBl.out.bl.grown G0 HBl.out.bl.size (fun x e => by have := Option.some.inj e; omega), by rw [← HKK.out]; exact HBW.out, ?_⟩
          rw [← HKK.out, ← HIS.out]
          obtain ⟨a', c', e, h⟩ := (HE.out.kept G0 (fun x e => by have := Option.some.inj e; omega)).esm
          injection e with e1 _ _
          rw [e1]
          exact h
        clear G0 HBl B2 B5 HE cr1
        go_wp2
        (try simp only [Exit.inBlock, Exit.then])
        refine bodyPost_ret (res_two rfl _ g2 26 _ _ rfl BZ Tryz.underlying26 rfl (sB HBW.out.pv.1 _ _)) rfl ⟨a, c, ?_, HF.out⟩
        rw [← HKK.out, HEE.out]
        rfl
      · have hnb : (E3a != 0) = true := by simpa using he
        obtain ⟨C, hCd⟩ : ∃ C : World → Prop, C = fun W => W.cell? ⟨r, 1, none⟩ = some (.int .i64 E3a) := ⟨_, rfl⟩
        have CN : Hid (∀ W, C W → W.cell? ⟨r, 1, none⟩ = some (.int .i64 E3a)) := fun W h => by rw [hCd] at h; exact h
        have CI : Hid (∀ W : World, W.cell? ⟨r, 1, none⟩ = some (.int .i64 E3a) → C W) := fun W h => by rw [hCd]; exact h
        have D0 : Below qa.heap.size qa { qa with drawn := qa.drawn + 1 } := Below.drew (Below.refl _ _)
        have C0 : Hid (C { qa with drawn := qa.drawn + 1 }) := CI.out _ cr1
        have HB2v : Hid (Blk { qa with drawn := qa.drawn + 1 } g2 26 (bC noB none 0)) := B2.below D0 B2.lt
        have HRv : Hid (Rb W r { qa with drawn := qa.drawn + 1 } l' E3a) := RR.be D0
        have HKN : Hid (decK l = noB) := HVE.out.2.2 (by rw [← HVE.out.1]; exact he)
        have HEE : Hid (E3a = decB l) := HVE.out.1
        clear hCd D0 B2 RR B5 HE HVE he
        go_wp2_with fail
        clear cr1
        refine region_calm C 6 (by kernel_rfl) ?_
        have hCp : ∀ p : Prop, (∀ W, C W → p) ↔ p := fun p => ⟨fun h => h _ C0.out, fun h _ _ => h⟩
        generalize ({ qa with drawn := qa.drawn + 1 } : World) = y0 at *
        refine seg 2 [0, 1, 2, 3, 4] rfl (by kernel_rfl) whole_blind C0.out (by kernel_rfl) ?_
        change wpQuiet _ _ _ _ (_ :: _ :: _ :: _ :: _ :: []) _
        repeat (first
          | go_big_quiet_skip
          | (go_big_quiet_want
             first
             | (refine q_bd 26 #[] rfl (bC noB none 0) (bd_blk _) ?_
                simp only [Act.put, List.setIfInBounds_toArray, List.set_cons_zero, List.set_cons_succ]
                go_big_quiet_on)
             | (refine qb_nil (.tmp 40) rfl r 0 rfl ?_
                simp only [Act.put, List.setIfInBounds_toArray, List.set_cons_zero, List.set_cons_succ]
                go_big_quiet_on)
             | (refine qb_fl (.tmp 41) rfl r rfl ?_
                simp only [Act.put, List.setIfInBounds_toArray, List.set_cons_zero, List.set_cons_succ]
                go_big_quiet_on)
             | (refine q_one 29 (.inr (.inr (.inr (.inr (.inr rfl))))) (.tmp 42) rfl r 1 rfl _ CN.out ?_
                simp only [Act.put, List.setIfInBounds_toArray, List.set_cons_zero, List.set_cons_succ]
                go_big_quiet_on)
             | (go_big_quiet_op
                go_big_quiet_on)))
        refine wpQuiet_nil ?_
        refine lone_do (i := 5) 1 rfl (by kernel_rfl) rfl (by rfl) ?_
        intro K hK
        refine oper_sta 26 (.tmp 2) (.tmp 39) rfl rfl g2 26 (bC noB none 0) (bC noB none 0) rfl rfl HB2v.out rfl (sB zr_len _ _) (bC_one _ _ _) ?_
        intro y3 b3 gr3
        have HB3 : Hid (Blk y3 g2 26 (bC noB none 0)) := b3
        have hR3 := HRv.out.st gr3 (fun e => hr2 e.symm) (by omega)
        have HF : Hid (DcR W y3 l none) := ⟨hR3.bl, by rw [HKN.out]; exact w_noB, by rw [HKN.out]; exact .inl rfl⟩
        have c3 : C y3 := by
          obtain ⟨sa, sc, hbr, _⟩ := hR3.ex
          exact CI.out _ (hbr.cell 1)
        clear b3 gr3 HB2v HRv C0 hR3
        refine hK _ _ c3 ?_
        simp only [Act.put, List.setIfInBounds_toArray, List.set_cons_zero, List.set_cons_succ]
        have hCq : ∀ p : Prop, (∀ W, C W → p) ↔ p := fun p => ⟨fun h => h _ c3, fun h _ _ => h⟩
        refine lone_calm (i := 6) 0 rfl (by kernel_rfl) rfl rfl c3 ?_
        go_big_quiet_want
        go_big_quiet_op
        go_big_quiet_on
        refine wpQuiet_nil ?_
        refine anyC_done (by kernel_rfl) ⟨rfl, ?_⟩
        clear c3 hCq CN CI hCp
        go_wp2
        (try simp only [Exit.inBlock, Exit.then])
        refine bodyPost_ret (res_two rfl _ g2 26 _ _ rfl HB3.out Tryz.underlying26 rfl (sB zr_len _ _)) rfl ⟨none, 0, ?_, HF.out⟩
        rw [HKN.out, ← HEE.out]
        rfl
    · have hlb : decide ((262144 : Int) < (l.length : Int)) = false := decide_eq_false (by omega)
      have HVE : Hid (E2a = decB l ∧ (decB l = 0 → bb = decK l) ∧ (decB l ≠ 0 → decK l = noB)) := by have h := HV2.out; unfold dE3 at h; rw [if_neg hlg] at h; exact h
      clear HV2
      obtain ⟨sa, sc, hbr, _⟩ := RR.ex
      have cr1 : pa.cell? ⟨r, 1, none⟩ = some (.int .i64 E2a) := hbr.cell 1
      clear hbr
      by_cases he : E2a = 0
      · have hnb : (E2a != 0) = false := by rw [he]; rfl
        have HKK : Hid (bb = decK l) := HVE.out.2.1 (by rw [← HVE.out.1]; exact he)
        have HEE : Hid (decB l = 0) := by show _ = _; rw [← HVE.out.1]; exact he
        have HBl : Hid (Rb W r pa l' E2a) := RR
        clear HVE he RR
        go_wp2_with (first | (refine ld_w (by rfl) 26 (.tmp 5) rfl g5 0 rfl (bC bb a c) _ B5.all Tryz.underlying26 rfl (sB HBW.out.pv.1 _ _) ?_) | (refine st_all rfl 26 (.tmp 2) (.tmp 44) rfl g2 26 (bC noB none 0) (bC bb a c) rfl rfl B2 (by rw [bC_len HBW.out.pv.1, bC_len zr_len]) (sB HBW.out.pv.1 _ _) (bC_one _ _ _) ?_))
        intro wz BZ G0
        have HF : Hid (DcR W wz l a) := by
          refine ⟨HBl.out.bl.grown G0 HBl.out.bl.size (fun x e => by have := Option.some.inj e; omega), by rw [← HKK.out]; exact HBW.out, ?_⟩
          rw [← HKK.out, ← HIS.out]
          obtain ⟨a', c', e, h⟩ := (HE.out.kept G0 (fun x e => by have := Option.some.inj e; omega)).esm
          injection e with e1 _ _
          rw [e1]
          exact h
        clear G0 HBl B2 B5 HE cr1
        go_wp2
        (try simp only [Exit.inBlock, Exit.then])
        refine bodyPost_ret (res_two rfl _ g2 26 _ _ rfl BZ Tryz.underlying26 rfl (sB HBW.out.pv.1 _ _)) rfl ⟨a, c, ?_, HF.out⟩
        rw [← HKK.out, HEE.out]
        rfl
      · have hnb : (E2a != 0) = true := by simpa using he
        obtain ⟨C, hCd⟩ : ∃ C : World → Prop, C = fun W => W.cell? ⟨r, 1, none⟩ = some (.int .i64 E2a) := ⟨_, rfl⟩
        have CN : Hid (∀ W, C W → W.cell? ⟨r, 1, none⟩ = some (.int .i64 E2a)) := fun W h => by rw [hCd] at h; exact h
        have CI : Hid (∀ W : World, W.cell? ⟨r, 1, none⟩ = some (.int .i64 E2a) → C W) := fun W h => by rw [hCd]; exact h
        have D0 : Below pa.heap.size pa { pa with drawn := pa.drawn + 1 } := Below.drew (Below.refl _ _)
        have C0 : Hid (C { pa with drawn := pa.drawn + 1 }) := CI.out _ cr1
        have HB2v : Hid (Blk { pa with drawn := pa.drawn + 1 } g2 26 (bC noB none 0)) := B2.below D0 B2.lt
        have HRv : Hid (Rb W r { pa with drawn := pa.drawn + 1 } l' E2a) := RR.be D0
        have HKN : Hid (decK l = noB) := HVE.out.2.2 (by rw [← HVE.out.1]; exact he)
        have HEE : Hid (E2a = decB l) := HVE.out.1
        clear hCd D0 B2 RR B5 HE HVE he
        go_wp2_with fail
        clear cr1
        refine region_calm C 6 (by kernel_rfl) ?_
        have hCp : ∀ p : Prop, (∀ W, C W → p) ↔ p := fun p => ⟨fun h => h _ C0.out, fun h _ _ => h⟩
        generalize ({ pa with drawn := pa.drawn + 1 } : World) = y0 at *
        refine seg 2 [0, 1, 2, 3, 4] rfl (by kernel_rfl) whole_blind C0.out (by kernel_rfl) ?_
        change wpQuiet _ _ _ _ (_ :: _ :: _ :: _ :: _ :: []) _
        repeat (first
          | go_big_quiet_skip
          | (go_big_quiet_want
             first
             | (refine q_bd 26 #[] rfl (bC noB none 0) (bd_blk _) ?_
                simp only [Act.put, List.setIfInBounds_toArray, List.set_cons_zero, List.set_cons_succ]
                go_big_quiet_on)
             | (refine qb_nil (.tmp 40) rfl r 0 rfl ?_
                simp only [Act.put, List.setIfInBounds_toArray, List.set_cons_zero, List.set_cons_succ]
                go_big_quiet_on)
             | (refine qb_fl (.tmp 41) rfl r rfl ?_
                simp only [Act.put, List.setIfInBounds_toArray, List.set_cons_zero, List.set_cons_succ]
                go_big_quiet_on)
             | (refine q_one 29 (.inr (.inr (.inr (.inr (.inr rfl))))) (.tmp 42) rfl r 1 rfl _ CN.out ?_
                simp only [Act.put, List.setIfInBounds_toArray, List.set_cons_zero, List.set_cons_succ]
                go_big_quiet_on)
             | (go_big_quiet_op
                go_big_quiet_on)))
        refine wpQuiet_nil ?_
        refine lone_do (i := 5) 1 rfl (by kernel_rfl) rfl (by rfl) ?_
        intro K hK
        refine oper_sta 26 (.tmp 2) (.tmp 39) rfl rfl g2 26 (bC noB none 0) (bC noB none 0) rfl rfl HB2v.out rfl (sB zr_len _ _) (bC_one _ _ _) ?_
        intro y3 b3 gr3
        have HB3 : Hid (Blk y3 g2 26 (bC noB none 0)) := b3
        have hR3 := HRv.out.st gr3 (fun e => hr2 e.symm) (by omega)
        have HF : Hid (DcR W y3 l none) := ⟨hR3.bl, by rw [HKN.out]; exact w_noB, by rw [HKN.out]; exact .inl rfl⟩
        have c3 : C y3 := by
          obtain ⟨sa, sc, hbr, _⟩ := hR3.ex
          exact CI.out _ (hbr.cell 1)
        clear b3 gr3 HB2v HRv C0 hR3
        refine hK _ _ c3 ?_
        simp only [Act.put, List.setIfInBounds_toArray, List.set_cons_zero, List.set_cons_succ]
        have hCq : ∀ p : Prop, (∀ W, C W → p) ↔ p := fun p => ⟨fun h => h _ c3, fun h _ _ => h⟩
        refine lone_calm (i := 6) 0 rfl (by kernel_rfl) rfl rfl c3 ?_
        go_big_quiet_want
        go_big_quiet_op
        go_big_quiet_on
        refine wpQuiet_nil ?_
        refine anyC_done (by kernel_rfl) ⟨rfl, ?_⟩
        clear c3 hCq CN CI hCp
        go_wp2
        (try simp only [Exit.inBlock, Exit.then])
        refine bodyPost_ret (res_two rfl _ g2 26 _ _ rfl HB3.out Tryz.underlying26 rfl (sB zr_len _ _)) rfl ⟨none, 0, ?_, HF.out⟩
        rw [HKN.out, ← HEE.out]
        rfl
  · have hlb0 : 0 < l'.length := List.length_pos_iff.2 hle
    have K := bfail_any W w5 r l' e1 3 RR
    clear RR
    obtain ⟨E1, hE1⟩ : ∃ E1, Hid ((if e1 ≠ 0 then e1 else 3) = E1) := ⟨_, rfl⟩
    rw [hE1.out] at K
    go_wp2_with fail
    refine K.mono ?_
    clear K
    rintro e w6 ⟨rfl, H⟩
    have RR := H.out.1
    have B2 := B2.kept H.out.2 (fun e => hr2 (Option.some.inj e))
    have B5 := B5.kept H.out.2 (fun e => by have := Option.some.inj e; omega)
    have HE : Hid (RowE w2.heap.size w6 (.slice a is.length c) is) := HE.out.kept H.out.2 (fun x e => by have := Option.some.inj e; omega)
    have sw6 := H.out.2.size
    clear H
    have HV1 : Hid (dE3 l.length (dE2 E1 rf) = decB l ∧ (decB l = 0 → bb = decK l) ∧ (decB l ≠ 0 → decK l = noB)) := by have h := HV.out; unfold dE1 at h; rw [if_pos hle, hE1.out] at h; exact h
    clear HV cr0
    have K := bfail_any W w6 r l' E1 rf RR
    clear RR
    obtain ⟨E2b, hE2b⟩ : ∃ E2b, Hid ((if E1 ≠ 0 then E1 else rf) = E2b) := ⟨_, rfl⟩
    rw [hE2b.out] at K
    go_wp2_with fail
    refine K.mono ?_
    clear K
    rintro e pb ⟨rfl, H⟩
    have RR := H.out.1
    have B2 := B2.kept H.out.2 (fun e => hr2 (Option.some.inj e))
    have B5 := B5.kept H.out.2 (fun e => by have := Option.some.inj e; omega)
    have HE : Hid (RowE w2.heap.size pb (.slice a is.length c) is) := HE.out.kept H.out.2 (fun x e => by have := Option.some.inj e; omega)
    have spb := H.out.2.size
    clear H
    have HV2 : Hid (dE3 l.length E2b = decB l ∧ (decB l = 0 → bb = decK l) ∧ (decB l ≠ 0 → decK l = noB)) := by rw [← hE2b.out]; exact HV1.out
    clear HV1
    by_cases hlg : 262144 < l.length
    · have hlb : decide ((262144 : Int) < (l.length : Int)) = true := decide_eq_true (by omega)
      have K := bfail_any W pb r l' E2b 5 RR
      clear RR
      obtain ⟨E3b, hE3b⟩ : ∃ E3b, Hid ((if E2b ≠ 0 then E2b else 5) = E3b) := ⟨_, rfl⟩
      rw [hE3b.out] at K
      go_wp2_with fail
      refine K.mono ?_
      clear K
      rintro e qb ⟨rfl, H⟩
      have RR := H.out.1
      have B2 := B2.kept H.out.2 (fun e => hr2 (Option.some.inj e))
      have B5 := B5.kept H.out.2 (fun e => by have := Option.some.inj e; omega)
      have HE : Hid (RowE w2.heap.size qb (.slice a is.length c) is) := HE.out.kept H.out.2 (fun x e => by have := Option.some.inj e; omega)
      have sqb := H.out.2.size
      clear H
      have HVE : Hid (E3b = decB l ∧ (decB l = 0 → bb = decK l) ∧ (decB l ≠ 0 → decK l = noB)) := by have h := HV2.out; unfold dE3 at h; rw [if_pos hlg, hE3b.out] at h; exact h
      clear HV2
      obtain ⟨sa, sc, hbr, _⟩ := RR.ex
      have cr1 : qb.cell? ⟨r, 1, none⟩ = some (.int .i64 E3b) := hbr.cell 1
      clear hbr
      by_cases he : E3b = 0
      · have hnb : (E3b != 0) = false := by rw [he]; rfl
        have HKK : Hid (bb = decK l) := HVE.out.2.1 (by rw [← HVE.out.1]; exact he)
        have HEE : Hid (decB l = 0) := by show _ = _; rw [← HVE.out.1]; exact he
        have HBl : Hid (Rb W r qb l' E3b) := RR
        clear HVE he RR
        go_wp2_with (first | (refine ld_w (by rfl) 26 (.tmp 5) rfl g5 0 rfl (bC bb a c) _ B5.all Tryz.underlying26 rfl (sB HBW.out.pv.1 _ _) ?_) | (refine st_all rfl 26 (.tmp 2) (.tmp 44) rfl g2 26 (bC noB none 0) (bC bb a c) rfl rfl B2 (by rw [bC_len HBW.out.pv.1, bC_len zr_len]) (sB HBW.out.pv.1 _ _) (bC_one _ _ _) ?_))
        intro wz BZ G0
        have HF : Hid (DcR W wz l a) := by
          refine ⟨HBl.out.bl.grown G0 HBl.out.bl.size (fun x e => by have := Option.some.inj e; omega), by rw [← HKK.out]; exact HBW.out, ?_⟩
          rw [← HKK.out, ← HIS.out]
          obtain ⟨a', c', e, h⟩ := (HE.out.kept G0 (fun x e => by have := Option.some.inj e; omega)).esm
          injection e with e1 _ _
          rw [e1]
          exact h
        clear G0 HBl B2 B5 HE cr1
        go_wp2
        (try simp only [Exit.inBlock, Exit.then])
        refine bodyPost_ret (res_two rfl _ g2 26 _ _ rfl BZ Tryz.underlying26 rfl (sB HBW.out.pv.1 _ _)) rfl ⟨a, c, ?_, HF.out⟩
        rw [← HKK.out, HEE.out]
        rfl
      · have hnb : (E3b != 0) = true := by simpa using he
        obtain ⟨C, hCd⟩ : ∃ C : World → Prop, C = fun W => W.cell? ⟨r, 1, none⟩ = some (.int .i64 E3b) := ⟨_, rfl⟩
        have CN : Hid (∀ W, C W → W.cell? ⟨r, 1, none⟩ = some (.int .i64 E3b)) := fun W h => by rw [hCd] at h; exact h
        have CI : Hid (∀ W : World, W.cell? ⟨r, 1, none⟩ = some (.int .i64 E3b) → C W) := fun W h => by rw [hCd]; exact h
        have D0 : Below qb.heap.size qb { qb with drawn := qb.drawn + 1 } := Below.drew (Below.refl _ _)
        have C0 : Hid (C { qb with drawn := qb.drawn + 1 }) := CI.out _ cr1
        have HB2v : Hid (Blk { qb with drawn := qb.drawn + 1 } g2 26 (bC noB none 0)) := B2.below D0 B2.lt
        have HRv : Hid (Rb W r { qb with drawn := qb.drawn + 1 } l' E3b) := RR.be D0
        have HKN : Hid (decK l = noB) := HVE.out.2.2 (by rw [← HVE.out.1]; exact he)
        have HEE : Hid (E3b = decB l) := HVE.out.1
        clear hCd D0 B2 RR B5 HE HVE he
        go_wp2_with fail
        clear cr1
        refine region_calm C 6 (by kernel_rfl) ?_
        have hCp : ∀ p : Prop, (∀ W, C W → p) ↔ p := fun p => ⟨fun h => h _ C0.out, fun h _ _ => h⟩
        generalize ({ qb with drawn := qb.drawn + 1 } : World) = y0 at *
        refine seg 2 [0, 1, 2, 3, 4] rfl (by kernel_rfl) whole_blind C0.out (by kernel_rfl) ?_
        change wpQuiet _ _ _ _ (_ :: _ :: _ :: _ :: _ :: []) _
        repeat (first
          | go_big_quiet_skip
          | (go_big_quiet_want
             first
             | (refine q_bd 26 #[] rfl (bC noB none 0) (bd_blk _) ?_
                simp only [Act.put, List.setIfInBounds_toArray, List.set_cons_zero, List.set_cons_succ]
                go_big_quiet_on)
             | (refine qb_nil (.tmp 40) rfl r 0 rfl ?_
                simp only [Act.put, List.setIfInBounds_toArray, List.set_cons_zero, List.set_cons_succ]
                go_big_quiet_on)
             | (refine qb_fl (.tmp 41) rfl r rfl ?_
                simp only [Act.put, List.setIfInBounds_toArray, List.set_cons_zero, List.set_cons_succ]
                go_big_quiet_on)
             | (refine q_one 29 (.inr (.inr (.inr (.inr (.inr rfl))))) (.tmp 42) rfl r 1 rfl _ CN.out ?_
                simp only [Act.put, List.setIfInBounds_toArray, List.set_cons_zero, List.set_cons_succ]
                go_big_quiet_on)
             | (go_big_quiet_op
                go_big_quiet_on)))
        refine wpQuiet_nil ?_
        refine lone_do (i := 5) 1 rfl (by kernel_rfl) rfl (by rfl) ?_
        intro K hK
        refine oper_sta 26 (.tmp 2) (.tmp 39) rfl rfl g2 26 (bC noB none 0) (bC noB none 0) rfl rfl HB2v.out rfl (sB zr_len _ _) (bC_one _ _ _) ?_
        intro y3 b3 gr3
        have HB3 : Hid (Blk y3 g2 26 (bC noB none 0)) := b3
        have hR3 := HRv.out.st gr3 (fun e => hr2 e.symm) (by omega)
        have HF : Hid (DcR W y3 l none) := ⟨hR3.bl, by rw [HKN.out]; exact w_noB, by rw [HKN.out]; exact .inl rfl⟩
        have c3 : C y3 := by
          obtain ⟨sa, sc, hbr, _⟩ := hR3.ex
          exact CI.out _ (hbr.cell 1)
        clear b3 gr3 HB2v HRv C0 hR3
        refine hK _ _ c3 ?_
        simp only [Act.put, List.setIfInBounds_toArray, List.set_cons_zero, List.set_cons_succ]
        have hCq : ∀ p : Prop, (∀ W, C W → p) ↔ p := fun p => ⟨fun h => h _ c3, fun h _ _ => h⟩
        refine lone_calm (i := 6) 0 rfl (by kernel_rfl) rfl rfl c3 ?_
        go_big_quiet_want
        go_big_quiet_op
        go_big_quiet_on
        refine wpQuiet_nil ?_
        refine anyC_done (by kernel_rfl) ⟨rfl, ?_⟩
        clear c3 hCq CN CI hCp
        go_wp2
        (try simp only [Exit.inBlock, Exit.then])
        refine bodyPost_ret (res_two rfl _ g2 26 _ _ rfl HB3.out Tryz.underlying26 rfl (sB zr_len _ _)) rfl ⟨none, 0, ?_, HF.out⟩
        rw [HKN.out, ← HEE.out]
        rfl
    · have hlb : decide ((262144 : Int) < (l.length : Int)) = false := decide_eq_false (by omega)
      have HVE : Hid (E2b = decB l ∧ (decB l = 0 → bb = decK l) ∧ (decB l ≠ 0 → decK l = noB)) := by have h := HV2.out; unfold dE3 at h; rw [if_neg hlg] at h; exact h
      clear HV2
      obtain ⟨sa, sc, hbr, _⟩ := RR.ex
      have cr1 : pb.cell? ⟨r, 1, none⟩ = some (.int .i64 E2b) := hbr.cell 1
      clear hbr
      by_cases he : E2b = 0
      · have hnb : (E2b != 0) = false := by rw [he]; rfl
        have HKK : Hid (bb = decK l) := HVE.out.2.1 (by rw [← HVE.out.1]; exact he)
        have HEE : Hid (decB l = 0) := by show _ = _; rw [← HVE.out.1]; exact he
        have HBl : Hid (Rb W r pb l' E2b) := RR
        clear HVE he RR
        go_wp2_with (first | (refine ld_w (by rfl) 26 (.tmp 5) rfl g5 0 rfl (bC bb a c) _ B5.all Tryz.underlying26 rfl (sB HBW.out.pv.1 _ _) ?_) | (refine st_all rfl 26 (.tmp 2) (.tmp 44) rfl g2 26 (bC noB none 0) (bC bb a c) rfl rfl B2 (by rw [bC_len HBW.out.pv.1, bC_len zr_len]) (sB HBW.out.pv.1 _ _) (bC_one _ _ _) ?_))
        intro wz BZ G0
        have HF : Hid (DcR W wz l a) := by
          refine ⟨HBl.out.bl.grown G0 HBl.out.bl.size (fun x e => by have := Option.some.inj e; omega), by rw [← HKK.out]; exact HBW.out, ?_⟩
          rw [← HKK.out, ← HIS.out]
          obtain ⟨a', c', e, h⟩ := (HE.out.kept G0 (fun x e => by have := Option.some.inj e; omega)).esm
          injection e with e1 _ _
          rw [e1]
          exact h
        clear G0 HBl B2 B5 HE cr1
        go_wp2
        (try simp only [Exit.inBlock, Exit.then])
        refine bodyPost_ret (res_two rfl _ g2 26 _ _ rfl BZ Tryz.underlying26 rfl (sB HBW.out.pv.1 _ _)) rfl ⟨a, c, ?_, HF.out⟩
        rw [← HKK.out, HEE.out]
        rfl
      · have hnb : (E2b != 0) = true := by simpa using he
        obtain ⟨C, hCd⟩ : ∃ C : World → Prop, C = fun W => W.cell? ⟨r, 1, none⟩ = some (.int .i64 E2b) := ⟨_, rfl⟩
        have CN : Hid (∀ W, C W → W.cell? ⟨r, 1, none⟩ = some (.int .i64 E2b)) := fun W h => by rw [hCd] at h; exact h
        have CI : Hid (∀ W : World, W.cell? ⟨r, 1, none⟩ = some (.int .i64 E2b) → C W) := fun W h => by rw [hCd]; exact h
        have D0 : Below pb.heap.size pb { pb with drawn := pb.drawn + 1 } := Below.drew (Below.refl _ _)
        have C0 : Hid (C { pb with drawn := pb.drawn + 1 }) := CI.out _ cr1
        have HB2v : Hid (Blk { pb with drawn := pb.drawn + 1 } g2 26 (bC noB none 0)) := B2.below D0 B2.lt
        have HRv : Hid (Rb W r { pb with drawn := pb.drawn + 1 } l' E2b) := RR.be D0
        have HKN : Hid (decK l = noB) := HVE.out.2.2 (by rw [← HVE.out.1]; exact he)
        have HEE : Hid (E2b = decB l) := HVE.out.1
        clear hCd D0 B2 RR B5 HE HVE he
        go_wp2_with fail
        clear cr1
        refine region_calm C 6 (by kernel_rfl) ?_
        have hCp : ∀ p : Prop, (∀ W, C W → p) ↔ p := fun p => ⟨fun h => h _ C0.out, fun h _ _ => h⟩
        generalize ({ pb with drawn := pb.drawn + 1 } : World) = y0 at *
        refine seg 2 [0, 1, 2, 3, 4] rfl (by kernel_rfl) whole_blind C0.out (by kernel_rfl) ?_
        change wpQuiet _ _ _ _ (_ :: _ :: _ :: _ :: _ :: []) _
        repeat (first
          | go_big_quiet_skip
          | (go_big_quiet_want
             first
             | (refine q_bd 26 #[] rfl (bC noB none 0) (bd_blk _) ?_
                simp only [Act.put, List.setIfInBounds_toArray, List.set_cons_zero, List.set_cons_succ]
                go_big_quiet_on)
             | (refine qb_nil (.tmp 40) rfl r 0 rfl ?_
                simp only [Act.put, List.setIfInBounds_toArray, List.set_cons_zero, List.set_cons_succ]
                go_big_quiet_on)
             | (refine qb_fl (.tmp 41) rfl r rfl ?_
                simp only [Act.put, List.setIfInBounds_toArray, List.set_cons_zero, List.set_cons_succ]
                go_big_quiet_on)
             | (refine q_one 29 (.inr (.inr (.inr (.inr (.inr rfl))))) (.tmp 42) rfl r 1 rfl _ CN.out ?_
                simp only [Act.put, List.setIfInBounds_toArray, List.set_cons_zero, List.set_cons_succ]
                go_big_quiet_on)
             | (go_big_quiet_op
                go_big_quiet_on)))
        refine wpQuiet_nil ?_
        refine lone_do (i := 5) 1 rfl (by kernel_rfl) rfl (by rfl) ?_
        intro K hK
        refine oper_sta 26 (.tmp 2) (.tmp 39) rfl rfl g2 26 (bC noB none 0) (bC noB none 0) rfl rfl HB2v.out rfl (sB zr_len _ _) (bC_one _ _ _) ?_
        intro y3 b3 gr3
        have HB3 : Hid (Blk y3 g2 26 (bC noB none 0)) := b3
        have hR3 := HRv.out.st gr3 (fun e => hr2 e.symm) (by omega)
        have HF : Hid (DcR W y3 l none) := ⟨hR3.bl, by rw [HKN.out]; exact w_noB, by rw [HKN.out]; exact .inl rfl⟩
        have c3 : C y3 := by
          obtain ⟨sa, sc, hbr, _⟩ := hR3.ex
          exact CI.out _ (hbr.cell 1)
        clear b3 gr3 HB2v HRv C0 hR3
        refine hK _ _ c3 ?_
        simp only [Act.put, List.setIfInBounds_toArray, List.set_cons_zero, List.set_cons_succ]
        have hCq : ∀ p : Prop, (∀ W, C W → p) ↔ p := fun p => ⟨fun h => h _ c3, fun h _ _ => h⟩
        refine lone_calm (i := 6) 0 rfl (by kernel_rfl) rfl rfl c3 ?_
        go_big_quiet_want
        go_big_quiet_op
        go_big_quiet_on
        refine wpQuiet_nil ?_
        refine anyC_done (by kernel_rfl) ⟨rfl, ?_⟩
        clear c3 hCq CN CI hCp
        go_wp2
        (try simp only [Exit.inBlock, Exit.then])
        refine bodyPost_ret (res_two rfl _ g2 26 _ _ rfl HB3.out Tryz.underlying26 rfl (sB zr_len _ _)) rfl ⟨none, 0, ?_, HF.out⟩
        rw [HKN.out, ← HEE.out]
        rfl
end Go.Proofs.YtlefdnjokppibaaGreatDoor.Sh
