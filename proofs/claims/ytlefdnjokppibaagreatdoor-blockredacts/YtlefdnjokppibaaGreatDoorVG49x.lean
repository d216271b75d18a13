/-
  The law BlockRedacts, walked. · A block that comes in. · The table of the last noughts, out of what the rows list.
-/
import Derived.Test.YtlefdnjokppibaaGreatDoorVG42x
import Derived.Test.YtlefdnjokppibaaGreatDoorVG48x
import Derived.Test.YtlefdnjokppibaaGreatDoorVG14x
import Derived.Laws.IdiomArrays
import Derived.OpenShut
import Derived.ChangeSame
import Derived.Test.YtlefdnjokppibaaGreatDoorRows
import Derived.Test.YtlefdnjokppibaaGreatDoorVG43x
import Derived.Lib.LaidTab
import Derived.MakeChecks
import Derived.Stop.LaidErr
import Derived.LaidMore
namespace Go.Proofs.YtlefdnjokppibaaGreatDoor.Sh
open Go Go.RowKit Math Mt
set_option linter.unusedVariables false
set_option linter.unusedSimpArgs false
theorem red_inv {b d : Bk} {i : Int} (h : redR b i = (0, d)) : ∃ (k : Nat) (e : En), i = (k : Int) ∧ b.es[k]? = some e ∧ e.k = 2 ∧ e.g = false ∧ chkB b = 0 ∧ d = redB b k e := by
  unfold redR at h
  by_cases c : chkB b = 0
  · rw [if_neg (by omega)] at h
    by_cases hi : i < 0
    · rw [if_pos hi] at h; cases h
    · rw [if_neg hi] at h
      unfold redK at h
      cases he : b.es[i.toNat]? with
      | none => rw [he] at h; cases h
      | some e =>
        rw [he] at h
        simp only at h
        by_cases h2 : e.k = 2
        · rw [if_neg (by omega)] at h
          cases hg : e.g with
          | true => rw [hg, if_pos rfl] at h; cases h
          | false =>
            rw [hg, if_neg (by decide)] at h
            exact ⟨i.toNat, e, by omega, he, h2, hg, c, (Prod.mk.inj h).2.symm⟩
        · rw [if_pos h2] at h; cases h
  · rw [if_pos c] at h
    exact absurd (Prod.mk.inj h).1 c
theorem red_get {b : Bk} {k : Nat} {e : En} (he : b.es[k]? = some e) : (redB b k e).es[k]? = some (gonE e) := by
  obtain ⟨h1, _⟩ := List.getElem?_eq_some_iff.1 he
  unfold redB
  simp only
  rw [List.getElem?_set_self h1]
theorem red_else {b : Bk} {k m : Nat} {e : En} (h : m ≠ k) : (redB b k e).es[m]? = b.es[m]? := by
  unfold redB
  simp only
  rw [List.getElem?_set_ne (fun q => h q.symm)]
theorem red_again {b : Bk} {k : Nat} {e : En} (he : b.es[k]? = some e) (hk : e.k = 2) (h : chkB b = 0) : redR (redB b k e) (k : Int) = (23, noB) :=
  red_gone (red_chk h he) (red_get he) (by rw [gon_k]; exact hk) (by rw [gon_2 hk])
theorem red_w {b : Bk} (hb : BkW b) (i : Int) : BkW (redR b i).2 := by
  unfold redR redK
  split
  · exact w_noB
  · split
    · exact w_noB
    · split
      · exact w_noB
      · split
        · exact w_noB
        · split
          · exact w_noB
          · rename_i he _ _
            exact red_bw hb he
theorem red_hs {b : Bk} {k : Nat} {e : En} (he : b.es[k]? = some e) (h : chkB b = 0) : hsA (redB b k e) = hsA b := by
  unfold hsA
  rw [if_pos h, if_pos (red_chk h he)]
  unfold bH
  have e1 : hedB (redB b k e) = hedB b := rfl
  have e2 : (redB b k e).es.map entB = b.es.map entB := by
    unfold redB
    simp only
    rw [List.map_set, gon_ent]
    refine List.ext_getElem? fun j => ?_
    by_cases hj : k = j
    · subst hj
      obtain ⟨h1, h2⟩ := List.getElem?_eq_some_iff.1 he
      rw [List.getElem?_set_self (by simpa using h1), List.getElem?_map, he]; rfl
    · rw [List.getElem?_set_ne hj]
  rw [e1, e2]
theorem eq_self7 (l : List Nat) (h : H32 l) : ∀ w, (Op.equalIn 10000 23 (.agg (nums .u8 l).toArray) (.agg (nums .u8 l).toArray)).run Tryz.prog w = .ok true w := fun w => by have := eq_hash h h w; simpa using this
theorem gon_ws {e : En} (h : Go.Proofs.YtlefdnjokppibaaGreatDoor.ws e.v ≤ 100000) : Go.Proofs.YtlefdnjokppibaaGreatDoor.ws (gonE e).v ≤ 100000 := by
  unfold gonE
  split
  · show Go.Proofs.YtlefdnjokppibaaGreatDoor.ws nv ≤ 100000; decide
  · exact h
set_option maxHeartbeats 2000000 in
set_option maxRecDepth 8000 in
theorem blred_walk (b : Bk) (hb : BkW b) (a : Option Addr) (c : Nat) (i : Int) (W : World) (hE : EsM W a b.es) (hT : Mer.Tb W) :
    Calls Tryz.prog 5 #[.agg (bC b a c).toArray, .int .i64 i] W fun e w' => e = .returned (.bool true) ∧ Below W.heap.size W w' := by
  have HL : Hid (b.pv.length = 32) := hb.pv.1
  have HB : Hid (BkW b) := hb
  have HE : Hid (EsM W a b.es) := hE
  have HT : Hid (Mer.Tb W) := hT
  clear hb hE hT
  go_enter Tryz.func5, Tryz.ntmps5
  go_wp2_with (refine al_box rfl 26 (.tmp 0) rfl (bC b a c) rfl ?_)
  intro g1 w1 l1 B1 G0
  have Z1 := (Below.refl W.heap.size W).grown G0 (Nat.le_refl _) (by simp)
  clear G0
  have HB1 : Hid (Blk w1 g1 26 (bC b a c)) := B1
  have KH := heavy_any b HB.out a c w1 (HE.out.below Z1)
  go_wp2_with (refine ld_w (by rfl) 26 (.tmp 2) rfl g1 0 rfl (bC b a c) _ HB1.out.all Tryz.underlying26 rfl (sB HL.out _ _) ?_)
  refine KH.mono ?_
  clear KH
  rintro e w2 ⟨t, rfl, H⟩
  have HZ : Hid (Below W.heap.size W w2) := Z1.trans (H.out.1.mono Z1.size)
  have HB1 : Hid (Blk w2 g1 26 (bC b a c)) := B1.below H.out.1 B1.lt
  have HLi : Hid (t = false → Light b) := H.out.2
  clear H Z1 B1
  cases t with
  | true =>
    go_wp2
    go_ret
    exact ⟨rfl, HZ.out⟩
  | false =>
  have HLg : Hid (Light b) := HLi.out rfl
  have HWS : Hid (∀ e ∈ b.es, Go.Proofs.YtlefdnjokppibaaGreatDoor.ws e.v ≤ 100000) := fun e he => by have := (HLg.out.all e he).1; omega
  have HLk : Hid (∀ e ∈ b.es, Lk e.v) := fun e he => lk_ws (HB.out.es e he).v (HWS.out e he)
  have hl600 : Hid (b.es.length ≤ 600) := HLg.out.len
  clear HLi HLg
  have KC := rclone_any b HB.out (by have := hl600.out; omega) HWS.out a c w2 (HE.out.below HZ.out)
  go_wp2_with (refine ld_w (by rfl) 26 (.tmp 2) rfl g1 0 rfl (bC b a c) _ HB1.out.all Tryz.underlying26 rfl (sB HL.out _ _) ?_)
  refine KC.mono ?_
  clear KC
  rintro e w3 ⟨a3, c3, rfl, H⟩
  have HZ : Hid (Below W.heap.size W w3) := HZ.out.trans (H.out.2.mono HZ.out.size)
  have HB1 : Hid (Blk w3 g1 26 (bC b a c)) := HB1.out.below H.out.2 HB1.out.lt
  have HE3 : Hid (EsM w3 a3 b.es) := H.out.1
  clear H
  go_wp2_with (refine al_zero rfl 26 rfl (bC noB none 0) zBl ?_)
  intro g5 w4 l5 B5 GA
  go_wp2_with (refine st_all rfl 26 (.tmp 5) (.tmp 20) rfl g5 26 (bC noB none 0) (bC b a3 c3) rfl rfl B5 (by rw [bC_len HL.out, bC_len zr_len]) (sB HL.out _ _) (bC_one _ _ _) ?_)
  intro w5 B5' GB
  have G5 : Below w3.heap.size w3 w5 := below_new GA l5 GB
  have HZ : Hid (Below W.heap.size W w5) := HZ.out.trans (G5.mono HZ.out.size)
  have HB1 : Hid (Blk w5 g1 26 (bC b a c)) := HB1.out.below G5 HB1.out.lt
  have HB5 : Hid (Blk w5 g5 26 (bC b a3 c3)) := B5'
  have HE3 : Hid (EsM w5 a3 b.es) := HE3.out.below G5
  clear GA GB B5 B5' G5 l5
  have K := bred_any b HB.out (by have := hl600.out; omega) HLk.out HWS.out i a3 c3 w5 HE3.out
  go_wp2_with (refine ld_w (by rfl) 26 (.tmp 5) rfl g5 0 rfl (bC b a3 c3) _ HB5.out.all Tryz.underlying26 rfl (sB HL.out _ _) ?_)
  refine K.mono ?_
  clear K
  rintro e xa ⟨d, E, ay, cy, rfl, H⟩
  have HRd : Hid (redR b i = (E, d)) := H.out.1
  have HEy : Hid (EsM xa ay d.es) := H.out.2.1
  have G5 := H.out.2.2
  have HBd : Hid (BkW d) := by have h := red_w HB.out i; rw [HRd.out] at h; exact h
  have HLd : Hid (d.pv.length = 32) := HBd.out.pv.1
  have HZ : Hid (Below W.heap.size W xa) := HZ.out.trans (G5.mono HZ.out.size)
  have HB1 : Hid (Blk xa g1 26 (bC b a c)) := HB1.out.below G5 HB1.out.lt
  have HB5 : Hid (Blk xa g5 26 (bC b a3 c3)) := HB5.out.below G5 HB5.out.lt
  have HE3 : Hid (EsM xa a3 b.es) := HE3.out.below G5
  clear H G5
  go_wp2_with (refine al_zero rfl 26 rfl (bC noB none 0) zBl ?_)
  intro g6 xb l6 B6 GA
  go_wp2_with (refine st_all rfl 26 (.tmp 6) (.tmp 25) rfl g6 26 (bC noB none 0) (bC d ay cy) rfl rfl B6 (by rw [bC_len HLd.out, bC_len zr_len]) (sB HLd.out _ _) (bC_one _ _ _) ?_)
  intro xc B6' GB
  have G5 : Below xa.heap.size xa xc := below_new GA l6 GB
  have HZ : Hid (Below W.heap.size W xc) := HZ.out.trans (G5.mono HZ.out.size)
  have HB1 : Hid (Blk xc g1 26 (bC b a c)) := HB1.out.below G5 HB1.out.lt
  have HB5 : Hid (Blk xc g5 26 (bC b a3 c3)) := HB5.out.below G5 HB5.out.lt
  have HB6 : Hid (Blk xc g6 26 (bC d ay cy)) := B6'
  have HE3 : Hid (EsM xc a3 b.es) := HE3.out.below G5
  have HEy : Hid (EsM xc ay d.es) := HEy.out.below G5
  clear GA GB B6 B6' G5 l6
  have K := rred_any b HB.out (by have := hl600.out; omega) HLk.out HWS.out i a c xc (HE.out.below HZ.out)
  go_wp2_with (refine ld_w (by rfl) 26 (.tmp 2) rfl g1 0 rfl (bC b a c) _ HB1.out.all Tryz.underlying26 rfl (sB HL.out _ _) ?_)
  refine K.mono ?_
  clear K
  rintro e xd ⟨d', E', az, cz, rfl, H⟩
  obtain ⟨rfl, rfl⟩ : E = E' ∧ d = d' := by have h := HRd.out.symm.trans H.out.1; exact ⟨(Prod.mk.inj h).1, (Prod.mk.inj h).2⟩
  have HEz : Hid (EsM xd az d.es) := H.out.2.1
  have G5 := H.out.2.2
  have HZ : Hid (Below W.heap.size W xd) := HZ.out.trans (G5.mono HZ.out.size)
  have HB1 : Hid (Blk xd g1 26 (bC b a c)) := HB1.out.below G5 HB1.out.lt
  have HB5 : Hid (Blk xd g5 26 (bC b a3 c3)) := HB5.out.below G5 HB5.out.lt
  have HB6 : Hid (Blk xd g6 26 (bC d ay cy)) := HB6.out.below G5 HB6.out.lt
  have HE3 : Hid (EsM xd a3 b.es) := HE3.out.below G5
  have HEy : Hid (EsM xd ay d.es) := HEy.out.below G5
  clear H G5
  go_wp2_with (refine al_zero rfl 26 rfl (bC noB none 0) zBl ?_)
  intro g8 xe l8 B8 GA
  go_wp2_with (refine st_all rfl 26 (.tmp 8) (.tmp 31) rfl g8 26 (bC noB none 0) (bC d az cz) rfl rfl B8 (by rw [bC_len HLd.out, bC_len zr_len]) (sB HLd.out _ _) (bC_one _ _ _) ?_)
  intro xf B8' GB
  have G5 : Below xd.heap.size xd xf := below_new GA l8 GB
  have HZ : Hid (Below W.heap.size W xf) := HZ.out.trans (G5.mono HZ.out.size)
  have HB1 : Hid (Blk xf g1 26 (bC b a c)) := HB1.out.below G5 HB1.out.lt
  have HB5 : Hid (Blk xf g5 26 (bC b a3 c3)) := HB5.out.below G5 HB5.out.lt
  have HB6 : Hid (Blk xf g6 26 (bC d ay cy)) := HB6.out.below G5 HB6.out.lt
  have HB8 : Hid (Blk xf g8 26 (bC d az cz)) := B8'
  have HE3 : Hid (EsM xf a3 b.es) := HE3.out.below G5
  have HEy : Hid (EsM xf ay d.es) := HEy.out.below G5
  have HEz : Hid (EsM xf az d.es) := HEz.out.below G5
  clear GA GB B8 B8' G5 l8
  have hEE : (E != E) = false := by simp
  have K := blocks_same d HBd.out ay cy az cz xf HEy.out HEz.out
  go_wp2_with (first | (refine ld_w (by rfl) 26 (.tmp 6) rfl g6 0 rfl (bC d ay cy) _ HB6.out.all Tryz.underlying26 rfl (sB HLd.out _ _) ?_) | (refine ld_w (by rfl) 26 (.tmp 8) rfl g8 0 rfl (bC d az cz) _ HB8.out.all Tryz.underlying26 rfl (sB HLd.out _ _) ?_))
  refine K.mono ?_
  clear K HEz HB8
  rintro e xg ⟨rfl, H⟩
  have G5 := H.out
  have HZ : Hid (Below W.heap.size W xg) := HZ.out.trans (G5.mono HZ.out.size)
  have HB1 : Hid (Blk xg g1 26 (bC b a c)) := HB1.out.below G5 HB1.out.lt
  have HB5 : Hid (Blk xg g5 26 (bC b a3 c3)) := HB5.out.below G5 HB5.out.lt
  have HB6 : Hid (Blk xg g6 26 (bC d ay cy)) := HB6.out.below G5 HB6.out.lt
  have HE3 : Hid (EsM xg a3 b.es) := HE3.out.below G5
  have HEy : Hid (EsM xg ay d.es) := HEy.out.below G5
  clear H G5
  have K := blocks_same b HB.out a3 c3 a c xg HE3.out (HE.out.below HZ.out)
  go_wp2_with (first | (refine ld_w (by rfl) 26 (.tmp 5) rfl g5 0 rfl (bC b a3 c3) _ HB5.out.all Tryz.underlying26 rfl (sB HL.out _ _) ?_) | (refine ld_w (by rfl) 26 (.tmp 2) rfl g1 0 rfl (bC b a c) _ HB1.out.all Tryz.underlying26 rfl (sB HL.out _ _) ?_))
  refine K.mono ?_
  clear K HE3 HB5
  rintro e xh ⟨rfl, H⟩
  have G5 := H.out
  have HZ : Hid (Below W.heap.size W xh) := HZ.out.trans (G5.mono HZ.out.size)
  have HB1 : Hid (Blk xh g1 26 (bC b a c)) := HB1.out.below G5 HB1.out.lt
  have HB6 : Hid (Blk xh g6 26 (bC d ay cy)) := HB6.out.below G5 HB6.out.lt
  have HEy : Hid (EsM xh ay d.es) := HEy.out.below G5
  clear H G5 hEE
  by_cases hE0 : E = 0
  case neg =>
    have hne : (E != 0) = true := by rw [bne_iff_ne]; exact hE0
    clear hE0
    have K := bknown_any xh
    go_wp2_with fail
    refine K.mono ?_
    clear K
    rintro e z2 ⟨rfl, H⟩
    have HF : Hid (Below W.heap.size W z2) := HZ.out.trans (H.out.mono HZ.out.size)
    clear H
    go_wp2
    go_ret
    exact ⟨rfl, HF.out⟩
  subst hE0
  obtain ⟨k, e, rfl, he, hk2, hg, hc0, rfl⟩ := red_inv HRd.out
  have HHE : Hid (b.es[k]? = some e ∧ e.k = 2 ∧ chkB b = 0) := ⟨he, hk2, hc0⟩
  have hkl : Hid (k < b.es.length) := (List.getElem?_eq_some_iff.1 he).1
  have K := bhsh_any b HB.out HLk.out a c xh (HE.out.below HZ.out) (HT.out.grow HZ.out)
  have HWS2 : Hid (∀ x ∈ (redB b k e).es, Go.Proofs.YtlefdnjokppibaaGreatDoor.ws x.v ≤ 100000) := fun x hx => by
    rcases mem_set hx with rfl | hx
    · exact gon_ws (HWS.out e (List.mem_of_getElem? he))
    · exact HWS.out x hx
  have HLk2 : Hid (∀ x ∈ (redB b k e).es, Lk x.v) := fun x hx => lk_ws (HBd.out.es x hx).v (HWS2.out x hx)
  have KY : Hid (∀ V, EsM V ay (redB b k e).es → Mer.Tb V → Calls Tryz.prog 8 #[.agg (bC (redB b k e) ay cy).toArray] V fun e w' => e = .returned (.tuple #[.agg (nums .u8 (hsA b)).toArray, .int .i64 0]) ∧ Hid (Below V.heap.size V w')) := fun V h1 h2 => by
    have := bhsh_any (redB b k e) HBd.out HLk2.out ay cy V h1 h2
    rw [red_hs he hc0, red_chk hc0 he] at this
    exact this
  have KX : Hid (∀ V, EsM V ay (redB b k e).es → Calls Tryz.prog 23 #[.agg (bC (redB b k e) ay cy).toArray, .int .i64 (k : Int)] V fun e' w' => ∃ a' c', e' = .returned (.tuple #[.agg (bC noB a' c').toArray, .int .i64 23]) ∧ Hid (Below V.heap.size V w')) := fun V h => by
    have hl : (redB b k e).es.length = b.es.length := by simp [redB]
    refine (bred_any (redB b k e) HBd.out (by have := hl600.out; omega) HLk2.out HWS2.out (k : Int) ay cy V h).mono ?_
    rintro e' w' ⟨d', E', a', c', rfl, H⟩
    obtain ⟨rfl, rfl⟩ : 23 = E' ∧ noB = d' := by have h := (red_again he hk2 hc0).symm.trans H.out.1; exact ⟨(Prod.mk.inj h).1, (Prod.mk.inj h).2⟩
    exact ⟨a', c', rfl, H.out.2.2⟩
  rw [hc0] at K
  obtain ⟨hs, hhs⟩ : ∃ hs, Hid (hsA b = hs) := ⟨_, rfl⟩
  have H3s : Hid (H32 hs) := by rw [← hhs.out]; exact hsA32 b
  rw [hhs.out] at K KY
  have HLs : Hid (hs.length = 32) := H3s.out.1
  have HES : Hid (∀ w, (Op.equalIn 10000 23 (.agg (nums .u8 hs).toArray) (.agg (nums .u8 hs).toArray)).run Tryz.prog w = .ok true w) := eq_self7 hs H3s.out
  clear hhs H3s he hk2 hg hc0 HRd
  go_wp2_with (refine ld_w (by rfl) 26 (.tmp 2) rfl g1 0 rfl (bC b a c) _ HB1.out.all Tryz.underlying26 rfl (sB HL.out _ _) ?_)
  refine K.mono ?_
  clear K
  rintro e' ya ⟨rfl, H⟩
  have G5 := H.out
  have HZ : Hid (Below W.heap.size W ya) := HZ.out.trans (G5.mono HZ.out.size)
  have HB1 : Hid (Blk ya g1 26 (bC b a c)) := HB1.out.below G5 HB1.out.lt
  have HB6 : Hid (Blk ya g6 26 (bC (redB b k e) ay cy)) := HB6.out.below G5 HB6.out.lt
  have HEy : Hid (EsM ya ay (redB b k e).es) := HEy.out.below G5
  clear H G5
  go_wp2_with (refine al_zero rfl 23 rfl (nums .u8 zr) zHt ?_)
  intro g10 yb l9 B9 GA
  go_wp2_with (refine st_all rfl 23 (.tmp 10) (.tmp 54) rfl g10 23 (nums .u8 zr) (nums .u8 hs) rfl rfl B9 (by rw [nums_length, nums_length, HLs.out]; rfl) (sH HLs.out) (nums_one _ _) ?_)
  intro yc B9' GB
  have G5 : Below ya.heap.size ya yc := below_new GA l9 GB
  have HZ : Hid (Below W.heap.size W yc) := HZ.out.trans (G5.mono HZ.out.size)
  have HB1 : Hid (Blk yc g1 26 (bC b a c)) := HB1.out.below G5 HB1.out.lt
  have HB6 : Hid (Blk yc g6 26 (bC (redB b k e) ay cy)) := HB6.out.below G5 HB6.out.lt
  have HB10 : Hid (Blk yc g10 23 (nums .u8 hs)) := B9'
  have HEy : Hid (EsM yc ay (redB b k e).es) := HEy.out.below G5
  clear GA GB B9 B9' G5 l9
  have K := KY.out yc HEy.out (HT.out.grow HZ.out)
  go_wp2_with (refine ld_w (by rfl) 26 (.tmp 6) rfl g6 0 rfl (bC (redB b k e) ay cy) _ HB6.out.all Tryz.underlying26 rfl (sB HLd.out _ _) ?_)
  refine K.mono ?_
  clear K KY
  rintro e' yd ⟨rfl, H⟩
  have G5 := H.out
  have HZ : Hid (Below W.heap.size W yd) := HZ.out.trans (G5.mono HZ.out.size)
  have HB1 : Hid (Blk yd g1 26 (bC b a c)) := HB1.out.below G5 HB1.out.lt
  have HB6 : Hid (Blk yd g6 26 (bC (redB b k e) ay cy)) := HB6.out.below G5 HB6.out.lt
  have HB10 : Hid (Blk yd g10 23 (nums .u8 hs)) := HB10.out.below G5 HB10.out.lt
  have HEy : Hid (EsM yd ay (redB b k e).es) := HEy.out.below G5
  clear H G5
  go_wp2_with (refine al_zero rfl 23 rfl (nums .u8 zr) zHt ?_)
  intro g12 ye l9 B9 GA
  go_wp2_with (refine st_all rfl 23 (.tmp 12) (.tmp 59) rfl g12 23 (nums .u8 zr) (nums .u8 hs) rfl rfl B9 (by rw [nums_length, nums_length, HLs.out]; rfl) (sH HLs.out) (nums_one _ _) ?_)
  intro yf B9' GB
  have G5 : Below yd.heap.size yd yf := below_new GA l9 GB
  have HZ : Hid (Below W.heap.size W yf) := HZ.out.trans (G5.mono HZ.out.size)
  have HB1 : Hid (Blk yf g1 26 (bC b a c)) := HB1.out.below G5 HB1.out.lt
  have HB6 : Hid (Blk yf g6 26 (bC (redB b k e) ay cy)) := HB6.out.below G5 HB6.out.lt
  have HB10 : Hid (Blk yf g10 23 (nums .u8 hs)) := HB10.out.below G5 HB10.out.lt
  have HB12 : Hid (Blk yf g12 23 (nums .u8 hs)) := B9'
  have HEy : Hid (EsM yf ay (redB b k e).es) := HEy.out.below G5
  clear GA GB B9 B9' G5 l9
  obtain ⟨by', oy, nay, ncy, kay, kcy, rfl, hMy⟩ := HEy.out.get (red_get HHE.out.1)
  have hel : (redB b k e).es.length = b.es.length := by simp [redB]
  have HEL : Hid ((redB b k e).es.length = b.es.length) := hel
  have HLg : Hid ((gonE e).h.length = 32) := (HBd.out.es _ (List.mem_of_getElem? (red_get HHE.out.1))).h.1
  have cgy : yf.cell? ⟨by', oy + k * 46 + 43, none⟩ = some (.bool true) := by
    have h := (enF_of HLg.out hMy.at').g
    rw [show (gonE e).g = true by rw [gon_2 HHE.out.2.1]] at h
    exact h
  have c6 : yf.cell? ⟨g6, 35, none⟩ = some (.slice (some ⟨by', oy, none⟩) b.es.length cy) := by
    have h := (bkF_of HLd.out HB6.out).es
    rw [hel] at h
    exact h
  have hkl' := hkl.out
  have hEQ := HES.out yf
  clear hMy hel
  go_wp2_with (first | (refine ld_w (by rfl) 23 (.tmp 10) rfl g10 0 rfl (nums .u8 hs) _ HB10.out.all Tryz.underlying23 rfl (sH HLs.out) ?_) | (refine ld_w (by rfl) 23 (.tmp 12) rfl g12 0 rfl (nums .u8 hs) _ HB12.out.all Tryz.underlying23 rfl (sH HLs.out) ?_))
  clear cgy c6 hEQ HB10 HB12 HES HLs hkl'
  go_loopw [14] (fun j wr => ∃ m : Nat, m ≤ b.es.length ∧ j = .int .i64 (m : Int) ∧ Hid (Below yf.heap.size yf wr)) (fun j _ => b.es.length - (intOf j).toNat)
  case atStart => exact ⟨0, by omega, rfl, Below.refl _ _⟩
  case round =>
    obtain ⟨m, hm, rfl, HK⟩ := hrel
    have hl6 := hl600.out
    have HB1r : Hid (Blk wr g1 26 (bC b a c)) := HB1.out.below HK.out HB1.out.lt
    have HB6r : Hid (Blk wr g6 26 (bC (redB b k e) (some ⟨by', oy, none⟩) cy)) := HB6.out.below HK.out HB6.out.lt
    have HZr : Hid (Below W.heap.size W wr) := HZ.out.trans (HK.out.mono HZ.out.size)
    have HE1r : Hid (EsM wr a b.es) := HE.out.below HZr.out
    have HEyr : Hid (EsM wr (some ⟨by', oy, none⟩) (redB b k e).es) := HEy.out.below HK.out
    have c1 := (bkF_of HL.out HB1r.out).es
    by_cases hlt : m < b.es.length
    case pos =>
      obtain ⟨C, hC⟩ : ∃ C : World → Prop, C = fun V => Below yf.heap.size yf V := ⟨_, rfl⟩
      have C0 : Hid (C { wr with drawn := wr.drawn + 1 }) := by rw [hC]; exact Below.drew HK.out
      have CO : Hid (∀ V, C V → Below yf.heap.size yf V) := fun V h => by rw [hC] at h; exact h
      by_cases hmk : m = k
      case pos =>
        subst hmk
        clear hC HK HB1r HB6r HZr HE1r HEyr
        go_wp2_with fail
        clear c1
        have hCp : ∀ p : Prop, (∀ W, C W → p) ↔ p := fun p => ⟨fun h => h _ C0.out, fun h _ _ => h⟩
        refine wp_region_quiet (C := C) (by kernel_rfl) (by kernel_rfl) C0.out ?_
        change wpQuiet _ _ _ _ (_ :: _ :: _ :: _ :: _ :: _ :: _ :: _ :: _ :: _ :: _ :: _ :: _ :: _ :: _ :: _ :: _ :: []) _
        repeat (first
          | go_big_quiet_skip
          | (go_big_quiet_want
             go_big_quiet_op
             go_big_quiet_on))
        refine wpQuiet_nil ?_
        intro w9 h9
        have HN : Hid (Below yf.heap.size yf w9) := CO.out _ h9
        clear h9 hCp C0 CO
        go_wp2
        go_roundw
        case rel => exact ⟨m + 1, by omega, by go_num, HN.out⟩
        case measure => simp [intOf]; omega
      obtain ⟨f, hf⟩ : ∃ f, b.es[m]? = some f := ⟨_, List.getElem?_eq_getElem hlt⟩
      obtain ⟨b1, o1, na1, nc1, ka1, kc1, rfl, hM1⟩ := HE.out.get hf
      obtain ⟨b3, o3, na3, nc3, ka3, kc3, hq3, hM3⟩ := HEy.out.get (show (redB b k e).es[m]? = some f by rw [red_else hmk]; exact hf)
      obtain ⟨rfl, rfl⟩ : by' = b3 ∧ oy = o3 := by injection hq3 with q; injection q with q1 q2 _; exact ⟨q1, q2⟩
      have HEW : Hid (EnW f) := HB.out.es f (List.mem_of_getElem? hf)
      have HM1 : Hid (EnM yf b1 (o1 + m * 46) f na1 nc1 ka1 kc1) := hM1.below HZ.out
      have HM3 : Hid (EnM yf by' (oy + m * 46) f na3 nc3 ka3 kc3) := hM3
      have F1 : Hid (∀ V, C V → V.cell? ⟨g6, 35, none⟩ = some (.slice (some ⟨by', oy, none⟩) b.es.length cy)) := fun V h => by
        have h := (bkF_of HLd.out (HB6.out.below (CO.out V h) HB6.out.lt)).es
        rw [HEL.out] at h
        exact h
      have F2 : Hid (∀ V, C V → V.cell? ⟨g1, 35, none⟩ = some (.slice (some ⟨b1, o1, none⟩) b.es.length c)) := fun V h => (bkF_of HL.out (HB1.out.below (CO.out V h) HB1.out.lt)).es
      have F3 : Hid (∀ V, C V → V.rangeAt by' (oy + m * 46) (eC f na3 nc3 ka3 kc3)) := fun V h => (HM3.out.below (CO.out V h)).at'
      have F4 : Hid (∀ V, C V → V.rangeAt b1 (o1 + m * 46) (eC f na1 nc1 ka1 kc1)) := fun V h => (HM1.out.below (CO.out V h)).at'
      have F5 : Hid (∀ V, C V → Calls Tryz.prog 25 #[.agg (eC f na3 nc3 ka3 kc3).toArray, .agg (eC f na1 nc1 ka1 kc1).toArray] V fun e' w' => e' = .returned (.bool true) ∧ C w') := fun V h => by
        have h' := CO.out V h
        refine (entries_same f HEW.out na3 nc3 ka3 kc3 na1 nc1 ka1 kc1 V (HM3.out.below h').vl (HM1.out.below h').vl).mono ?_
        rintro e' w' ⟨rfl, H⟩
        rw [hC]
        exact ⟨rfl, h'.trans (H.out.mono h'.size)⟩
      have hne : ((m : Int) != (k : Int)) = true := by rw [bne_iff_ne]; omega
      clear hC HK HB1r HB6r HZr HE1r HEyr hM1 hM3 hf hq3 hmk
      go_wp2_with fail
      clear c1
      have hCp : ∀ p : Prop, (∀ W, C W → p) ↔ p := fun p => ⟨fun h => h _ C0.out, fun h _ _ => h⟩
      refine wp_region_quiet (C := C) (by kernel_rfl) (by kernel_rfl) C0.out ?_
      change wpQuiet _ _ _ _ (_ :: _ :: _ :: _ :: _ :: _ :: _ :: _ :: _ :: _ :: _ :: _ :: _ :: _ :: _ :: _ :: _ :: []) _
      repeat (first
        | go_big_quiet_skip
        | (go_big_quiet_want
           first
           | (refine q_cell 24 (.inr (.inr (.inl rfl))) (.tmp 88) rfl g6 35 rfl _ F1.out ?_
              simp only [Act.put, List.setIfInBounds_toArray, List.set_cons_zero, List.set_cons_succ]
              go_big_quiet_on)
           | (refine q_cell 24 (.inr (.inr (.inl rfl))) (.tmp 93) rfl g1 35 rfl _ F2.out ?_
              simp only [Act.put, List.setIfInBounds_toArray, List.set_cons_zero, List.set_cons_succ]
              go_big_quiet_on)
           | (refine q_ixe (.tmp 89) (.tmp 90) rfl by' oy b.es.length cy m rfl rfl hlt ?_
              simp only [Act.put, List.setIfInBounds_toArray, List.set_cons_zero, List.set_cons_succ]
              go_big_quiet_on)
           | (refine q_ixe (.tmp 94) (.tmp 95) rfl b1 o1 b.es.length c m rfl rfl hlt ?_
              simp only [Act.put, List.setIfInBounds_toArray, List.set_cons_zero, List.set_cons_succ]
              go_big_quiet_on)
           | (refine q_load 45 (.tmp 91) rfl by' (oy + m * 46) rfl (eC f na3 nc3 ka3 kc3) _ F3.out Tryz.underlying45 rfl (sE HEW.out.h.1 _ _ _ _) ?_
              simp only [Act.put, List.setIfInBounds_toArray, List.set_cons_zero, List.set_cons_succ]
              go_big_quiet_on)
           | (refine q_load 45 (.tmp 96) rfl b1 (o1 + m * 46) rfl (eC f na1 nc1 ka1 kc1) _ F4.out Tryz.underlying45 rfl (sE HEW.out.h.1 _ _ _ _) ?_
              simp only [Act.put, List.setIfInBounds_toArray, List.set_cons_zero, List.set_cons_succ]
              go_big_quiet_on)
           | (refine q_callv 25 _ _ rfl #[.agg (eC f na3 nc3 ka3 kc3).toArray, .agg (eC f na1 nc1 ka1 kc1).toArray] (by rw [List.map_toArray]; rfl) (enters Tryz.func25 (by kernel_rfl) rfl) (.bool true) F5.out ?_
              simp only [Act.put, List.setIfInBounds_toArray, List.set_cons_zero, List.set_cons_succ]
              go_big_quiet_on)
           | (go_big_quiet_op
              go_big_quiet_on)))
      refine wpQuiet_nil ?_
      intro w9 h9
      have HN : Hid (Below yf.heap.size yf w9) := CO.out _ h9
      clear h9 hCp C0 F1 F2 F3 F4 F5 CO
      go_wp2
      go_roundw
      case rel => exact ⟨m + 1, by omega, by go_num, HN.out⟩
      case measure => simp [intOf]; omega
    have K := KX.out wr HEyr.out
    go_wp2_with (refine ld_w (by rfl) 26 (.tmp 6) rfl g6 0 rfl (bC (redB b k e) (some ⟨by', oy, none⟩) cy) _ HB6r.out.all Tryz.underlying26 rfl (sB HLd.out _ _) ?_)
    refine K.mono ?_
    clear K KX c1
    rintro e' z1 ⟨a9, c9, rfl, H⟩
    have HZ1 : Hid (Below W.heap.size W z1) := HZr.out.trans (H.out.mono HZr.out.size)
    clear H
    go_wp2_with (refine al_zero rfl 26 rfl (bC noB none 0) zBl ?_)
    intro g15 z2 l9 B9 GA
    go_wp2_with (refine st_all rfl 26 (.tmp 15) (.tmp 105) rfl g15 26 (bC noB none 0) (bC noB a9 c9) rfl rfl B9 rfl (sB zr_len _ _) (bC_one _ _ _) ?_)
    intro z3 B9' GB
    have G9 : Below z1.heap.size z1 z3 := below_new GA l9 GB
    have HZ3 : Hid (Below W.heap.size W z3) := HZ1.out.trans (G9.mono HZ1.out.size)
    clear GA GB B9 B9' G9 l9
    have K := bknown_any z3
    go_wp2_with fail
    refine K.mono ?_
    clear K
    rintro e' z4 ⟨rfl, H⟩
    have HF : Hid (Below W.heap.size W z4) := HZ3.out.trans (H.out.mono HZ3.out.size)
    clear H
    go_wp2
    go_ret
    exact ⟨rfl, HF.out⟩
end Go.Proofs.YtlefdnjokppibaaGreatDoor.Sh
namespace Go.Proofs.YtlefdnjokppibaaGreatDoor.Sh
open Go.RowKit Go.ChangeShapes Go.WideShapes Math Mt
set_option linter.unusedVariables false
theorem mapM_all {α β : Type} {f : α → Option β} : ∀ {l : List α} {ys : List β}, l.mapM f = some ys → ∀ a ∈ l, ∃ y, f a = some y
  | [], _, _, a, ha => by cases ha
  | b :: l, ys, h, a, ha => by
    rw [List.mapM_cons] at h
    simp only [bind, Option.bind_eq_some_iff, pure, Option.some.injEq] at h
    obtain ⟨y, hy, zs, hz, _⟩ := h
    rcases List.mem_cons.1 ha with rfl | ha
    · exact ⟨y, hy⟩
    · exact mapM_all hz a ha
def natOf : Option Value → Nat
  | some (.int _ n) => n.toNat
  | _ => 0
set_option maxRecDepth 8000 in
theorem open_hash {H : Type} {enc : TypeId × Value → H} {w : World} {base : Nat} {spare : Nat → Bool} {held : Bool} {fuel : Nat} {cs : Array Value} {x : DataW H × List MemPlace} (hn : cs.size = 32)
    (h : DataW.trod enc Tryz.prog w base spare held fuel 23 cs.toList = some x) : ∃ l : List Nat, l.length = 32 ∧ Oct l ∧ cs = (nums .u8 l).toArray := by
  have hall : ∀ i, i < 32 → ∃ n : Nat, n < 256 ∧ cs[i]? = some (.int .u8 (n : Int)) := by
    cases fuel with
    | zero => simp [DataW.trod] at h
    | succ m =>
      unfold DataW.trod at h
      rw [Tryz.underlying23] at h
      simp only [cells5, Nat.mul_one] at h
      split at h
      · rename_i hh
        simp only [Option.map_eq_some_iff] at h
        obtain ⟨ys, hys, _⟩ := h
        intro i hi
        obtain ⟨y, hy⟩ := mapM_all hys i (List.mem_range.2 hi)
        obtain ⟨n, hcs, _, hwf⟩ := DataW.trod_int Tryz.underlying5 hy
        have hb := bounds_u8 hwf
        refine ⟨n.toNat, by omega, ?_⟩
        have h0 : (List.take 1 (List.drop i cs.toList))[0]? = some (Value.int .u8 n) := by rw [hcs]; rfl
        rw [List.getElem?_take, if_pos (by decide), List.getElem?_drop, Nat.add_zero, Array.getElem?_toList] at h0
        rw [h0, Int.toNat_of_nonneg hb.1]
      · cases h
  refine ⟨(List.range 32).map fun i => natOf cs[i]?, by simp, fun y hy => ?_, ?_⟩
  · obtain ⟨i, hi, rfl⟩ := List.mem_map.1 hy
    obtain ⟨n, hn', e⟩ := hall i (List.mem_range.1 hi)
    rw [e]; simpa [natOf] using hn'
  · apply Array.ext_getElem?
    intro i
    by_cases hi : i < 32
    · obtain ⟨n, hn', e⟩ := hall i hi
      have h2 : (nums .u8 ((List.range 32).map fun i => natOf cs[i]?)).toArray[i]? = some (.int .u8 (n : Int)) := by
        rw [List.getElem?_toArray, nums_get .u8 _ i (by simpa using hi)]
        simp [List.getD_eq_getElem?_getD, List.getElem?_range hi, e, natOf]
      exact e.trans h2.symm
    · have h2 : (nums .u8 ((List.range 32).map fun i => natOf cs[i]?)).toArray[i]? = none := by
        rw [List.getElem?_toArray, List.getElem?_eq_none (by rw [nums_length]; simp; omega)]
      exact (Array.getElem?_eq_none (by omega)).trans h2.symm
theorem cellsHash : Tryz.prog.cellsOf 23 = 32 := by kernel_rfl
theorem cellsEn : Tryz.prog.cellsOf 45 = 46 := by kernel_rfl
theorem cellsBk : Tryz.prog.cellsOf 26 = 36 := by kernel_rfl
theorem cellsEs : Tryz.prog.cellsOf 24 = 1 := by kernel_rfl
theorem cellsAd : Tryz.prog.cellsOf 43 = 2 := by kernel_rfl
theorem cells4' : Tryz.prog.cellsOf 4 = 1 := by kernel_rfl
theorem bytesEn : 1 ≤ Tryz.prog.bytesOf 45 := of_decide_eq_true (by kernel_rfl)
theorem mkList {α : Type} {P : Nat → α → Prop} : ∀ (n : Nat), (∀ i, i < n → ∃ x, P i x) → ∃ l : List α, l.length = n ∧ ∀ i x, l[i]? = some x → P i x
  | 0, _ => ⟨[], rfl, fun i x h => by cases h⟩
  | n + 1, h => by
    obtain ⟨l, h1, h2⟩ := mkList n fun i hi => h i (by omega)
    obtain ⟨x, hx⟩ := h n (by omega)
    refine ⟨l ++ [x], by simp [h1], fun i y hy => ?_⟩
    by_cases hi : i < n
    · rw [List.getElem?_append_left (by omega)] at hy; exact h2 i y hy
    · have : i = n := by have := (List.getElem?_eq_some_iff.1 hy).1; simp [h1] at this; omega
      subst this
      rw [← h1, List.getElem?_concat_length] at hy
      rw [← Option.some.inj hy]; exact hx
theorem cutL {α : Type} (l : List α) (k n m : Nat) (h : k + n = m) : l.drop k = (l.drop k).take n ++ l.drop m := by
  subst h
  rw [← List.drop_drop]
  exact (List.take_append_drop n _).symm
theorem two_of {α : Type} : ∀ {x : List α} {p q : α}, x.length = 2 → (x.drop 0).take 1 = [p] → (x.drop 1).take 1 = [q] → x = [p, q]
  | [a, b], p, q, _, h1, h2 => by simp at h1 h2; rw [h1, h2]
theorem nineL {α : Type} : ∀ {l : List α}, l.length = 9 → ∃ a b c d e f g h i, l = [a, b, c, d, e, f, g, h, i]
  | [a, b, c, d, e, f, g, h, i], _ => ⟨a, b, c, d, e, f, g, h, i, rfl⟩
theorem fiveL {α : Type} : ∀ {l : List α}, l.length = 5 → ∃ a b c d e, l = [a, b, c, d, e]
  | [a, b, c, d, e], _ => ⟨a, b, c, d, e, rfl⟩
theorem i64_of {n : Int} (h : (Lit.int .i64 n).wf = true) : I64 n := by
  have := bounds_i64 h
  exact ⟨by omega, by omega⟩
set_option maxRecDepth 8000 in
theorem open_ent {H : Type} {enc : TypeId × Value → H} {W : World} {n : Nat} {cs : List Value} {y : DataW H × List MemPlace} (h : DataW.trod enc Tryz.prog W 0 (fun _ => true) true n 45 cs = some y) (hw : ∀ n ∈ y.1.weights Tryz.prog 45, n ≤ reachBytes) :
    ∃ e na nc ka kc, cs = eC e na nc ka kc ∧ Vl W e.v na nc ka kc ∧ EnW e := by
  obtain ⟨xs, k, hk, hxy, hlen, hxl, hf⟩ := DataW.trod_struct Tryz.underlying45 h
  rw [cellsEn] at hlen
  obtain ⟨y0, y1, y2, y3, y4, y5, y6, y7, y8, rfl⟩ := nineL (show xs.length = 9 from hxl)
  have g0 : DataW.trod enc Tryz.prog W 0 (fun _ => true) true k 3 ((cs.drop 0).take (Tryz.prog.cellsOf 3)) = some y0 := hf 0 _ rfl
  have g1 : DataW.trod enc Tryz.prog W 0 (fun _ => true) true k 9 ((cs.drop 1).take (Tryz.prog.cellsOf 9)) = some y1 := hf 1 _ rfl
  have g2 : DataW.trod enc Tryz.prog W 0 (fun _ => true) true k 3 ((cs.drop 2).take (Tryz.prog.cellsOf 3)) = some y2 := hf 2 _ rfl
  have g3 : DataW.trod enc Tryz.prog W 0 (fun _ => true) true k 3 ((cs.drop 3).take (Tryz.prog.cellsOf 3)) = some y3 := hf 3 _ rfl
  have g4 : DataW.trod enc Tryz.prog W 0 (fun _ => true) true k 3 ((cs.drop 4).take (Tryz.prog.cellsOf 3)) = some y4 := hf 4 _ rfl
  have g5 : DataW.trod enc Tryz.prog W 0 (fun _ => true) true k 41 ((cs.drop 5).take (Tryz.prog.cellsOf 41)) = some y5 := hf 5 _ rfl
  have g6 : DataW.trod enc Tryz.prog W 0 (fun _ => true) true k 23 ((cs.drop 11).take (Tryz.prog.cellsOf 23)) = some y6 := hf 6 _ rfl
  have g7 : DataW.trod enc Tryz.prog W 0 (fun _ => true) true k 4 ((cs.drop 43).take (Tryz.prog.cellsOf 4)) = some y7 := hf 7 _ rfl
  have g8 : DataW.trod enc Tryz.prog W 0 (fun _ => true) true k 43 ((cs.drop 44).take (Tryz.prog.cellsOf 43)) = some y8 := hf 8 _ rfl
  rw [cells3] at g0 g2 g3 g4
  rw [cells9] at g1
  rw [cells25] at g5
  rw [cellsHash] at g6
  rw [cells4'] at g7
  rw [cellsAd] at g8
  have hw2 : ∀ (j : Nat) (t : TypeId) (d : DataW H), [(3 : TypeId), 9, 3, 3, 3, 41, 23, 4, 43][j]? = some t → [y0.1, y1.1, y2.1, y3.1, y4.1, y5.1, y6.1, y7.1, y8.1][j]? = some d → ∀ n ∈ d.weights Tryz.prog t, n ≤ reachBytes := fun j t d ht hd n hn => by
    refine hw n ?_
    rw [hxy]
    simp only [DataW.weights, Tryz.underlying45]
    exact DataW.weights_mem_each (j := j) ht hd n hn
  obtain ⟨z0, e0, r0, q0⟩ := DataW.trod_int Tryz.underlying3 g0
  obtain ⟨s1, e1, r1, _⟩ := DataW.trod_string Tryz.underlying9 g1
  obtain ⟨z2, e2, r2, q2⟩ := DataW.trod_int Tryz.underlying3 g2
  obtain ⟨z3, e3, r3, q3⟩ := DataW.trod_int Tryz.underlying3 g3
  obtain ⟨z4, e4, r4, q4⟩ := DataW.trod_int Tryz.underlying3 g4
  obtain ⟨p, na, nc, ka, kc, e5, hvl, hwf⟩ := open_val k g5 (hw2 5 41 y5.1 rfl rfl)
  obtain ⟨l, hl1, hl2, e6⟩ := open_hash (cs := ((cs.drop 11).take 32).toArray) (by simp; omega) (by simpa using g6)
  have e6 : (cs.drop 11).take 32 = nums .u8 l := by simpa using congrArg Array.toList e6
  obtain ⟨b7, e7, _⟩ := DataW.trod_bool Tryz.underlying4 g7
  obtain ⟨u0, u1, k2, _, hlA, f0, f1⟩ := trod_struct2 Tryz.underlying43 g8
  have f0 : DataW.trod enc Tryz.prog W 0 (fun _ => true) true k2 3 ((((cs.drop 44).take 2).drop 0).take (Tryz.prog.cellsOf 3)) = some u0 := f0
  have f1 : DataW.trod enc Tryz.prog W 0 (fun _ => true) true k2 3 ((((cs.drop 44).take 2).drop 1).take (Tryz.prog.cellsOf 3)) = some u1 := f1
  rw [cells3] at f0 f1
  obtain ⟨z8, e8, r8, q8⟩ := DataW.trod_int Tryz.underlying3 f0
  obtain ⟨z9, e9, r9, q9⟩ := DataW.trod_int Tryz.underlying3 f1
  have e89 : (cs.drop 44).take 2 = [.int .i64 z8, .int .i64 z9] := two_of (by simp; omega) e8 e9
  have hT : s1.size ≤ 140737488355328 := by
    have := hw2 1 9 y1.1 rfl rfl s1.data.toList.length (by rw [r1]; simp [DataW.weights])
    simp only [reachBytes, Array.length_toList] at this
    exact Nat.le_trans this (by decide)
  refine ⟨⟨z0, s1, z2, z3, z4, p, l, b7, z8, z9⟩, na, nc, ka, kc, ?_, hvl, ⟨i64_of q0, hT, i64_of q2, i64_of q3, i64_of q4, hwf, ⟨hl1, hl2⟩, i64_of q8, i64_of q9⟩⟩
  have hend : cs.drop 46 = [] := List.drop_of_length_le (by omega)
  have c0 := cutL cs 0 1 1 rfl
  rw [cutL cs 1 1 2 rfl, cutL cs 2 1 3 rfl, cutL cs 3 1 4 rfl, cutL cs 4 1 5 rfl, cutL cs 5 6 11 rfl, cutL cs 11 32 43 rfl, cutL cs 43 1 44 rfl, cutL cs 44 2 46 rfl, hend, e0, e1, e2, e3, e4, e5, e6, e7, e89, List.drop_zero] at c0
  rw [c0]
  rfl
set_option maxRecDepth 8000 in
theorem open_blk {H : Type} {enc : TypeId × Value → H} {W : World} {n : Nat} {cs : List Value} {y : DataW H × List MemPlace} (h : DataW.trod enc Tryz.prog W 0 (fun _ => true) true n 26 cs = some y) (hw : ∀ n ∈ y.1.weights Tryz.prog 26, n ≤ reachBytes) :
    ∃ b a c, cs = bC b a c ∧ EsM W a b.es ∧ BkW b := by
  obtain ⟨xs, k, hk, hxy, hlen, hxl, hf⟩ := DataW.trod_struct Tryz.underlying26 h
  rw [cellsBk] at hlen
  obtain ⟨y0, y1, y2, y3, y4, rfl⟩ := fiveL (show xs.length = 5 from hxl)
  have g0 : DataW.trod enc Tryz.prog W 0 (fun _ => true) true k 3 ((cs.drop 0).take (Tryz.prog.cellsOf 3)) = some y0 := hf 0 _ rfl
  have g1 : DataW.trod enc Tryz.prog W 0 (fun _ => true) true k 3 ((cs.drop 1).take (Tryz.prog.cellsOf 3)) = some y1 := hf 1 _ rfl
  have g2 : DataW.trod enc Tryz.prog W 0 (fun _ => true) true k 3 ((cs.drop 2).take (Tryz.prog.cellsOf 3)) = some y2 := hf 2 _ rfl
  have g3 : DataW.trod enc Tryz.prog W 0 (fun _ => true) true k 23 ((cs.drop 3).take (Tryz.prog.cellsOf 23)) = some y3 := hf 3 _ rfl
  have g4 : DataW.trod enc Tryz.prog W 0 (fun _ => true) true k 24 ((cs.drop 35).take (Tryz.prog.cellsOf 24)) = some y4 := hf 4 _ rfl
  rw [cells3] at g0 g1 g2
  rw [cellsHash] at g3
  rw [cellsEs] at g4
  have hw4 : ∀ n ∈ y4.1.weights Tryz.prog 24, n ≤ reachBytes := fun n hn => by
    refine hw n ?_
    rw [hxy]
    simp only [DataW.weights, Tryz.underlying26]
    exact DataW.weights_mem_each (j := 4) (t := 24) (d := y4.1) rfl rfl n hn
  obtain ⟨z0, e0, r0, q0⟩ := DataW.trod_int Tryz.underlying3 g0
  obtain ⟨z1, e1, r1, q1⟩ := DataW.trod_int Tryz.underlying3 g1
  obtain ⟨z2, e2, r2, q2⟩ := DataW.trod_int Tryz.underlying3 g2
  obtain ⟨l, hl1, hl2, e3⟩ := open_hash (cs := ((cs.drop 3).take 32).toArray) (by simp; omega) (by simpa using g3)
  have e3 : (cs.drop 3).take 32 = nums .u8 l := by simpa using congrArg Array.toList e3
  obtain ⟨es, a, c, e4, hE, hEW, hEl⟩ : ∃ (es : List En) (a : Option Addr) (c : Nat), (cs.drop 35).take 1 = [.slice a es.length c] ∧ EsM W a es ∧ (∀ e ∈ es, EnW e) ∧ es.length ≤ 140737488355328 := by
    rcases DataW.trod_slice Tryz.underlying24 g4 with ⟨hcs, _⟩ | ⟨ad, len, cap, elems, rest, m, hm0, hcs, hx, _, hl, hm, hel, hei, _, _⟩
    · exact ⟨[], none, 0, hcs, .inl rfl, by simp, by simp⟩
    · have hlen : len ≤ 140737488355328 := by
        have := hw4 _ (by rw [hx]; simp only [DataW.weights, Tryz.underlying24]; exact List.mem_cons_self)
        have hb := bytesEn
        simp only [List.length_map, reachBytes] at this
        have h2 : (elems.length + rest.length) * 1 ≤ (elems.length + rest.length) * Tryz.prog.bytesOf 45 := Nat.mul_le_mul_left _ hb
        have h3 : elems.length = len := hel
        omega
      have each : ∀ i, i < len → ∃ e : En, EnW e ∧ ∃ na nc ka kc, W.cells? 0 (ad.add (i * 46)) 46 = some (eC e na nc ka kc) ∧ Vl W e.v na nc ka kc := by
        intro i hi
        have hh := hei i hi
        rw [List.getElem?_eq_getElem (by omega)] at hh
        obtain ⟨cs', c1, c2⟩ := Option.bind_eq_some_iff.1 hh
        obtain ⟨e, na, nc, ka, kc, d1, d2, d3⟩ := open_ent c2 (fun n hn => hw4 n (by
          rw [hx]
          simp only [DataW.weights, Tryz.underlying24]
          refine List.mem_cons_of_mem _ (List.mem_append.2 (.inl (weightsAll_mem (d := elems[i].1) (List.mem_map.2 ⟨elems[i], List.getElem_mem _, rfl⟩) hn)))))
        rw [cellsEn] at c1
        exact ⟨e, d3, na, nc, ka, kc, by rw [← d1]; exact c1, d2⟩
      obtain ⟨es, hL1, hL2⟩ := mkList (P := fun i (e : En) => EnW e ∧ ∃ na nc ka kc, W.cells? 0 (ad.add (i * 46)) 46 = some (eC e na nc ka kc) ∧ Vl W e.v na nc ka kc) len each
      refine ⟨es, some ad, cap, by rw [hcs, hL1], ?_, fun x hx => ?_, by omega⟩
      · by_cases h0 : len = 0
        · exact .inl (List.eq_nil_of_length_eq_zero (by omega))
        · obtain ⟨b, off, spot⟩ := ad
          have hs : spot = none := by
            obtain ⟨e, p1, na, nc, ka, kc, c1, _⟩ := each 0 (by omega)
            obtain ⟨_, _, hcell⟩ := World.cells?_some c1
            have := hcell 0 (by decide)
            simpa [Addr.add] using World.cell?_spot (this.trans (show (eC e na nc ka kc)[0]? = some (.int .i64 e.k) from rfl))
          subst hs
          refine .inr ⟨b, off, rfl, fun i x hx => ?_⟩
          obtain ⟨p1, na, nc, ka, kc, c1, c2⟩ := hL2 i x hx
          refine ⟨na, nc, ka, kc, fun j v hj => ?_, c2⟩
          obtain ⟨_, _, hcell⟩ := World.cells?_some c1
          simp only [Addr.add_lit] at hcell
          have hj2 := (List.getElem?_eq_some_iff.1 hj).1
          exact (hcell j (by rw [eC_len p1.h.1] at hj2; exact hj2)).trans hj
      · obtain ⟨i, hi, rfl⟩ := List.getElem_of_mem hx
        exact (hL2 i _ (List.getElem?_eq_getElem hi)).1
  refine ⟨⟨z0, z1, z2, l, es⟩, a, c, ?_, hE, ⟨i64_of q0, i64_of q1, i64_of q2, ⟨hl1, hl2⟩, hEW, hEl⟩⟩
  have hend : cs.drop 36 = [] := List.drop_of_length_le (by omega)
  have c0 := cutL cs 0 1 1 rfl
  rw [cutL cs 1 1 2 rfl, cutL cs 2 1 3 rfl, cutL cs 3 32 35 rfl, cutL cs 35 1 36 rfl, hend, e0, e1, e2, e3, e4, List.drop_zero] at c0
  rw [c0]
  rfl
end Go.Proofs.YtlefdnjokppibaaGreatDoor.Sh
namespace Go.Proofs.YtlefdnjokppibaaGreatDoor.Sh
open Go.RowKit Go.ChangeShapes Go.WideShapes
set_option linter.unusedVariables false
set_option maxRecDepth 8000
theorem tb_of {W : World} (h : laidMetH Tryz.prog [("math/bits.deBruijn32tab", Rows.laid_math_bits_deBruijn32tab), ("math/bits.deBruijn64tab", Rows.laid_math_bits_deBruijn64tab)] W) : Mer.Tb W := by
  rw [MakeChecks.laidMetH_plain _ _ _ (by kernel_rfl)] at h
  have h3 : laidMet Tryz.prog [("math/bits.deBruijn64tab", Lib.tabData .u8 (Lib.deBruijn64tab.map fun n : Nat => (n : Int)))] W := laidMet.tail h
  have h4 := Lib.tabIs_of_head (g := 1) (t := 100) (e := 5) (n := 64) (by kernel_rfl) (by kernel_rfl) (by kernel_rfl) (by kernel_rfl) (by kernel_rfl) (by kernel_rfl) h3
  unfold Lib.TabIs World.var? at h4
  rw [show Tryz.prog.globalNamed "math/bits.deBruijn64tab" = some 1 by kernel_rfl] at h4
  simp only [Option.bind_some] at h4
  intro j hj
  cases hc : W.heap[1]? with
  | none => rw [hc] at h4; cases h4
  | some ob =>
    rw [hc] at h4
    cases ob with
    | cells cs t f =>
      simp only [Option.some.injEq] at h4
      simp only [World.cell?, hc, h4]
      rw [List.getElem?_toArray]
      simp [List.getElem?_map, List.getElem?_eq_getElem hj, List.getD_eq_getElem?_getD]
    | _ => cases h4
end Go.Proofs.YtlefdnjokppibaaGreatDoor.Sh
