/-
  The law BlockBack, walked. · A block that comes in. · The table of the last noughts, out of what the rows list.
-/
import Derived.Test.YtmbglggodifboaaDoorSG48x
import Derived.Test.YtmbglggodifboaaDoorSG15x
import Derived.Laws.IdiomArrays
import Derived.OpenShut
import Derived.ChangeSame
import Derived.Test.YtmbglggodifboaaDoorRows
import Derived.Test.YtmbglggodifboaaDoorSG43x
import Derived.Lib.LaidTab
import Derived.MakeChecks
import Derived.Stop.LaidErr
import Derived.LaidMore
namespace Go.Proofs.YtmbglggodifboaaDoor.Sh
open Go Go.RowKit Math Mt
set_option linter.unusedVariables false
set_option linter.unusedSimpArgs false
theorem gon_bH {b : Bk} (h : chkB b = 0) : hsA (gonB b) = hsA b := by
  unfold hsA
  rw [if_pos h, if_pos (gon_chk h)]
  unfold bH
  have e1 : hedB (gonB b) = hedB b := rfl
  have e2 : (gonB b).es.map entB = b.es.map entB := by
    unfold gonB
    rw [List.map_map]
    congr 1
    funext e
    exact gon_ent e
  rw [e1, e2]
theorem gon_lk {b : Bk} (h : ∀ e ∈ b.es, Lk e.v) : ∀ e ∈ (gonB b).es, Lk e.v := fun e he => by
  obtain ⟨x, hx, rfl⟩ := List.mem_map.1 he
  by_cases c : x.k = 2
  · rw [gon_2 c]; exact lk_nv
  · rw [gon_n c]; exact h x hx
/-- What is asked of a block's bytes, with its Data or without. -/
structure BkL (b : Bk) (l : List Nat) (B : Bk) : Prop where
  len : l.length ≤ 262144
  oct : Oct l
  dec : decB l = 0
  decK : decK l = B
  sf : bSf l
  w : BkW B
  lk : ∀ e ∈ B.es, Lk e.v
  hs : hsA B = hsA b
  chk : chkB B = 0
theorem bkl_t {b : Bk} (hw : BkW b) (hl : ∀ e ∈ b.es, Lk e.v) (h : chkB b = 0) : BkL b (blkB b true) b := by
  have h1 := dec_bk hw h
  have h2 := bsf_blk hw h []
  rw [List.append_nil] at h2
  exact ⟨(chk_zero h).2.2, blk_oct hw (chk_zero h).2.1 true, h1.1, h1.2, h2, hw, hl, rfl, h⟩
theorem bkl_f {b : Bk} (hw : BkW b) (hl : ∀ e ∈ b.es, Lk e.v) (h : chkB b = 0) : BkL b (blkB b false) (gonB b) := by
  rw [← gon_blk b]
  have h0 := bkl_t (gon_bw hw) (gon_lk hl) (gon_chk h)
  exact ⟨h0.len, h0.oct, h0.dec, h0.decK, h0.sf, h0.w, h0.lk, gon_bH h, h0.chk⟩
theorem light_lk3 {b : Bk} (hb : BkW b) (h : Light b) : ∀ e ∈ b.es, Lk e.v := fun e he => lk_ws (hb.es e he).v (by have := (h.all e he).1; omega)
theorem gon_gone {b : Bk} {i : Nat} {e : En} (h : (gonB b).es[i]? = some e) : e.k = 2 → e.g = true := fun hk => by
  unfold gonB at h
  rw [List.getElem?_map] at h
  cases hx : b.es[i]? with
  | none => rw [hx] at h; cases h
  | some x =>
    rw [hx] at h
    obtain rfl : gonE x = e := Option.some.inj h
    rw [gon_k] at hk
    rw [gon_2 hk]
set_option maxRecDepth 8000 in
set_option maxHeartbeats 2000000 in
theorem blback_walk (b : Bk) (hb : BkW b) (a : Option Addr) (c : Nat) (W : World) (hE : EsM W a b.es) (hT : Mer.Tb W) :
    Calls Tryd.prog 3 #[.agg (bC b a c).toArray] W fun e w' => e = .returned (.bool true) ∧ Below W.heap.size W w' := by
  have HL : Hid (b.pv.length = 32) := hb.pv.1
  have HB : Hid (BkW b) := hb
  have HE : Hid (EsM W a b.es) := hE
  have HT : Hid (Mer.Tb W) := hT
  clear hb hE hT
  go_enter Tryd.func3, Tryd.ntmps3
  go_wp2_with (refine al_box rfl 26 (.tmp 0) rfl (bC b a c) rfl ?_)
  intro g1 w1 l1 B1 G0
  have Z1 := (Below.refl W.heap.size W).grown G0 (Nat.le_refl _) (by simp)
  clear G0
  have KH := heavy_any b HB.out a c w1 (HE.out.below Z1)
  go_wp2_with (refine ld_w (by rfl) 26 (.tmp 1) rfl g1 0 rfl (bC b a c) _ B1.all Tryd.underlying26 rfl (sB HL.out _ _) ?_)
  refine KH.mono ?_
  clear KH
  rintro e w2 ⟨t, rfl, H⟩
  have HZ2 : Hid (Below W.heap.size W w2) := Z1.trans (H.out.1.mono Z1.size)
  have HB2 : Hid (Blk w2 g1 26 (bC b a c)) := B1.below H.out.1 B1.lt
  have HLi : Hid (t = false → Light b) := H.out.2
  clear H Z1 B1
  cases t with
  | true =>
    go_wp2
    go_ret
    exact ⟨rfl, HZ2.out⟩
  | false =>
  have HLk : Hid (∀ e ∈ b.es, Lk e.v) := light_lk3 HB.out (HLi.out rfl)
  clear HLi
  have HCT : Hid (chkB b = 0 → BkL b (encL b true) b) := fun h => by unfold encL; rw [if_pos h]; exact bkl_t HB.out HLk.out h
  have HCF : Hid (chkB b = 0 → BkL b (encL b false) (gonB b) ∧ (gonB b).es.length = b.es.length) := fun h => ⟨by unfold encL; rw [if_pos h]; exact bkl_f HB.out HLk.out h, by simp [gonB]⟩
  have KE := enc_any b HB.out HLk.out a c true w2 (HE.out.below HZ2.out)
  obtain ⟨E, HEE⟩ : ∃ E, Hid (chkB b = E) := ⟨_, rfl⟩
  rw [HEE.out] at KE HCT HCF
  obtain ⟨lt, Hlt⟩ : ∃ lt, Hid (encL b true = lt) := ⟨_, rfl⟩
  rw [Hlt.out] at KE HCT
  go_wp2_with (refine ld_w (by rfl) 26 (.tmp 1) rfl g1 0 rfl (bC b a c) _ HB2.out.all Tryd.underlying26 rfl (sB HL.out _ _) ?_)
  refine KE.mono ?_
  clear KE
  rintro e w3 ⟨v3, rfl, H⟩
  have HZ3 : Hid (Below W.heap.size W w3) := HZ2.out.trans (H.out.2.mono HZ2.out.size)
  have HB3 : Hid (Blk w3 g1 26 (bC b a c)) := HB2.out.below H.out.2 HB2.out.lt
  obtain ⟨a3, c3, rfl, hb3, hn3, hl3, hc3⟩ := H.out.1.byt
  have HY3 : Hid (Byt w3 a3 lt) := hb3
  have HN3 : Hid (a3 = none → c3 = 0) := hn3
  have hcm3 : c3 ≤ 9223372036854775807 := by simpa [maxLen] using hc3
  clear H hb3 hn3 hc3 HZ2 HB2
  have KE := enc_any b HB.out HLk.out a c false w3 (HE.out.below HZ3.out)
  rw [HEE.out] at KE
  obtain ⟨lf, Hlf⟩ : ∃ lf, Hid (encL b false = lf) := ⟨_, rfl⟩
  rw [Hlf.out] at KE HCF
  go_wp2_with (refine ld_w (by rfl) 26 (.tmp 1) rfl g1 0 rfl (bC b a c) _ HB3.out.all Tryd.underlying26 rfl (sB HL.out _ _) ?_)
  refine KE.mono ?_
  clear KE
  rintro e w4 ⟨v4, rfl, H⟩
  have HZ4 : Hid (Below W.heap.size W w4) := HZ3.out.trans (H.out.2.mono HZ3.out.size)
  have HB4 : Hid (Blk w4 g1 26 (bC b a c)) := HB3.out.below H.out.2 HB3.out.lt
  have HY3 : Hid (Byt w4 a3 lt) := HY3.out.below H.out.2
  obtain ⟨a4, c4, rfl, hb4, hn4, hl4, hc4⟩ := H.out.1.byt
  have HY4 : Hid (Byt w4 a4 lf) := hb4
  have HN4 : Hid (a4 = none → c4 = 0) := hn4
  have hcm4 : c4 ≤ 9223372036854775807 := by simpa [maxLen] using hc4
  clear H hb4 hn4 hc4 HZ3 HB3 Hlt Hlf
  by_cases h0 : E = 0
  case neg =>
    have hb1 : (E != 0) = true := bne_iff_ne.2 h0
    have hb2 : (E == 0) = false := beq_eq_false_iff_ne.2 h0
    have KK := bknown_any w4
    clear HCT HCF
    go_wp2_with fail
    refine KK.mono ?_
    clear KK
    rintro e x1 ⟨rfl, H⟩
    have HF : Hid (Below W.heap.size W x1) := HZ4.out.trans (H.out.mono HZ4.out.size)
    go_wp2
    go_ret
    exact ⟨rfl, HF.out⟩
  subst h0
  have HX : Hid (BkL b lt b) := HCT.out rfl
  have HYB : Hid (BkL b lf (gonB b)) := (HCF.out rfl).1
  have HGL : Hid ((gonB b).es.length = b.es.length) := (HCF.out rfl).2
  have HGG : Hid (∀ (i : Nat) (e : En), (gonB b).es[i]? = some e → e.k = 2 → e.g = true) := fun i e h => gon_gone h
  have HHb : Hid (∀ w a c, EsM w a b.es → Mer.Tb w → Calls Tryd.prog 9 #[.agg (bC b a c).toArray] w fun e w' => e = .returned (.tuple #[.agg (nums .u8 (hsA b)).toArray, .int .i64 0]) ∧ Hid (Below w.heap.size w w')) := fun w a c h1 h2 => by
    have := bhsh_any b HB.out HLk.out a c w h1 h2
    rw [HEE.out] at this
    exact this
  have HHg : Hid (∀ w a c, EsM w a (gonB b).es → Mer.Tb w → Calls Tryd.prog 9 #[.agg (bC (gonB b) a c).toArray] w fun e w' => e = .returned (.tuple #[.agg (nums .u8 (hsA b)).toArray, .int .i64 0]) ∧ Hid (Below w.heap.size w w')) := fun w a c h1 h2 => by
    have := bhsh_any (gonB b) HYB.out.w HYB.out.lk a c w h1 h2
    rw [HYB.out.hs, HYB.out.chk] at this
    exact this
  have HLg : Hid ((gonB b).pv.length = 32) := HYB.out.w.pv.1
  have HLE : Hid (∀ e ∈ (gonB b).es, e.h.length = 32) := fun e he => (HYB.out.w.es e he).h.1
  have HDT := bdec_any w4 a3 c3 lt HY3.out HN3.out hl3 hcm3 HX.out.oct (by have := HX.out.len; omega) HX.out.sf
  have HDF : Hid (∀ w, Byt w a4 lf → Calls Tryd.prog 7 #[.slice a4 lf.length c4] w fun e w' => ∃ (a : Option Addr) (c : Nat), e = .returned (.tuple #[.agg (bC (gonB b) a c).toArray, .int .i64 0]) ∧ Hid (Below w.heap.size w w' ∧ EsM w' a (gonB b).es)) := fun w h => by
    have := bdec_any w a4 c4 lf h HN4.out hl4 hcm4 HYB.out.oct (by have := HYB.out.len; omega) HYB.out.sf
    rw [HYB.out.decK, HYB.out.dec] at this
    refine this.mono fun e w' ⟨a, c, h1, h2⟩ => ⟨a, c, h1, h2.out.bl, ?_⟩
    have := h2.out.esm
    rw [HYB.out.decK] at this
    exact this
  have HDK : Hid (decK lt = b) := HX.out.decK
  rw [HDK.out, HX.out.dec] at HDT
  obtain ⟨hs, Hhs⟩ : ∃ hs, Hid (hsA b = hs) := ⟨_, rfl⟩
  have HH3 : Hid (H32 hs) := by rw [← Hhs.out]; exact hsA32 b
  rw [Hhs.out] at HHb HHg
  have HLh : Hid (hs.length = 32) := HH3.out.1
  have HEQ : Hid (∀ w, (Op.equalIn 10000 23 (.agg (nums .u8 hs).toArray) (.agg (nums .u8 hs).toArray)).run Tryd.prog w = .ok true w) := fun w => by have := eq_hash HH3.out HH3.out w; simpa using this
  obtain ⟨gb, Hgb⟩ : ∃ gb, Hid (gonB b = gb) := ⟨_, rfl⟩
  rw [Hgb.out] at HGL HGG HHg HLg HDF HLE
  clear HCT HCF HX HYB HY3 Hhs Hgb HEE
  go_wp2_with fail
  refine HDT.mono ?_
  clear HDT
  rintro e w5 ⟨a5, c5, rfl, H⟩
  have HE5 : Hid (EsM w5 a5 b.es) := by have := H.out.esm; rw [HDK.out] at this; exact this
  have G5 := H.out.bl
  have HZ5 : Hid (Below W.heap.size W w5) := HZ4.out.trans (G5.mono HZ4.out.size)
  have HB5 : Hid (Blk w5 g1 26 (bC b a c)) := HB4.out.below G5 HB4.out.lt
  have HY5 : Hid (Byt w5 a4 lf) := HY4.out.below G5
  clear H G5 HZ4 HB4 HY4 HDK
  go_wp2_with (refine al_zero rfl 26 rfl (bC noB none 0) zBl ?_)
  intro g7 w6 l7 B7 GA
  go_wp2_with (refine st_all rfl 26 (.tmp 7) (.tmp 45) rfl g7 26 (bC noB none 0) (bC b a5 c5) rfl rfl B7 (by rw [bC_len HL.out, bC_len zr_len]) (sB HL.out _ _) (bC_one _ _ _) ?_)
  intro w7 B7' GB
  have G7 : Below w5.heap.size w5 w7 := below_new GA l7 GB
  have HZ7 : Hid (Below W.heap.size W w7) := HZ5.out.trans (G7.mono HZ5.out.size)
  have HB1 : Hid (Blk w7 g1 26 (bC b a c)) := HB5.out.below G7 HB5.out.lt
  have HB7 : Hid (Blk w7 g7 26 (bC b a5 c5)) := B7'
  have HE7 : Hid (EsM w7 a5 b.es) := HE5.out.below G7
  have HY7 : Hid (Byt w7 a4 lf) := HY5.out.below G7
  clear GA GB B7 B7' G7 HZ5 HB5 HE5 HY5 l7
  have K := HDF.out w7 HY7.out
  clear HDF HY7
  go_wp2_with fail
  refine K.mono ?_
  clear K
  rintro e w8 ⟨a8, c8, rfl, H⟩
  have G8 := H.out.1
  have HE9 : Hid (EsM w8 a8 gb.es) := H.out.2
  have HZ8 : Hid (Below W.heap.size W w8) := HZ7.out.trans (G8.mono HZ7.out.size)
  have HB1 : Hid (Blk w8 g1 26 (bC b a c)) := HB1.out.below G8 HB1.out.lt
  have HB7 : Hid (Blk w8 g7 26 (bC b a5 c5)) := HB7.out.below G8 HB7.out.lt
  have HE7 : Hid (EsM w8 a5 b.es) := HE7.out.below G8
  clear H G8 HZ7
  go_wp2_with (refine al_zero rfl 26 rfl (bC noB none 0) zBl ?_)
  intro g9 w9 l9 B9 GA
  go_wp2_with (refine st_all rfl 26 (.tmp 9) (.tmp 50) rfl g9 26 (bC noB none 0) (bC gb a8 c8) rfl rfl B9 (by rw [bC_len HLg.out, bC_len zr_len]) (sB HLg.out _ _) (bC_one _ _ _) ?_)
  intro w10 B9' GB
  have G10 : Below w8.heap.size w8 w10 := below_new GA l9 GB
  have HZ10 : Hid (Below W.heap.size W w10) := HZ8.out.trans (G10.mono HZ8.out.size)
  have HB1 : Hid (Blk w10 g1 26 (bC b a c)) := HB1.out.below G10 HB1.out.lt
  have HB7 : Hid (Blk w10 g7 26 (bC b a5 c5)) := HB7.out.below G10 HB7.out.lt
  have HB9 : Hid (Blk w10 g9 26 (bC gb a8 c8)) := B9'
  have HE7 : Hid (EsM w10 a5 b.es) := HE7.out.below G10
  have HE9 : Hid (EsM w10 a8 gb.es) := HE9.out.below G10
  clear GA GB B9 B9' G10 HZ8 l9
  have K := blocks_same b HB.out a5 c5 a c w10 HE7.out (HE.out.below HZ10.out)
  go_wp2_with (first | (refine ld_w (by rfl) 26 (.tmp 7) rfl g7 0 rfl (bC b a5 c5) _ HB7.out.all Tryd.underlying26 rfl (sB HL.out _ _) ?_) | (refine ld_w (by rfl) 26 (.tmp 1) rfl g1 0 rfl (bC b a c) _ HB1.out.all Tryd.underlying26 rfl (sB HL.out _ _) ?_))
  refine K.mono ?_
  clear K
  rintro e w11 ⟨rfl, H⟩
  have HZ11 : Hid (Below W.heap.size W w11) := HZ10.out.trans (H.out.mono HZ10.out.size)
  have HB1 : Hid (Blk w11 g1 26 (bC b a c)) := HB1.out.below H.out HB1.out.lt
  have HB7 : Hid (Blk w11 g7 26 (bC b a5 c5)) := HB7.out.below H.out HB7.out.lt
  have HB9 : Hid (Blk w11 g9 26 (bC gb a8 c8)) := HB9.out.below H.out HB9.out.lt
  have HE7 : Hid (EsM w11 a5 b.es) := HE7.out.below H.out
  have HE9 : Hid (EsM w11 a8 gb.es) := HE9.out.below H.out
  clear H HZ10
  have c1 := (bkF_of HL.out HB1.out).es
  have c9 := (bkF_of HLg.out HB9.out).es
  rw [HGL.out] at c9
  have hlen := HB.out.len
  go_wp2
  clear c1
  go_loopw [11] (fun i wr => ∃ k : Nat, k ≤ b.es.length ∧ i = .int .i64 (k : Int) ∧ wr = w11) (fun i _ => b.es.length - (intOf i).toNat)
  case atStart => exact ⟨0, by omega, rfl, by first | rfl | trivial⟩
  case round =>
    obtain ⟨k, hk, rfl, rfl⟩ := hrel
    by_cases hlt : k < b.es.length
    case pos =>
      obtain ⟨e, he⟩ : ∃ e, gb.es[k]? = some e := ⟨_, List.getElem?_eq_getElem (by rw [HGL.out]; exact hlt)⟩
      obtain ⟨bb, oo, na, nc, ka, kc, rfl, hM⟩ := HE9.out.get he
      have hg := HGG.out k e he
      have c0 := hM.at' 0 _ rfl
      have cg := hM.at' 43 (.bool e.g) (by
        have hx : e ∈ gb.es := List.mem_of_getElem? he
        exact eC_end e (HLE.out e hx) na nc ka kc 0 _ rfl)
      rw [Nat.add_zero] at c0
      by_cases hk2 : e.k = 2
      · rw [hk2] at c0
        rw [hg hk2] at cg
        clear hM he hg hk2
        go_wp2
        go_roundw
        case rel => exact ⟨k + 1, by omega, by go_num, by first | rfl | trivial⟩
        case measure => simp [intOf]; omega
      · have hb2 : (e.k == 2) = false := beq_eq_false_iff_ne.2 hk2
        clear hM he hg hk2 cg
        go_wp2
        go_roundw
        case rel => exact ⟨k + 1, by omega, by go_num, by first | rfl | trivial⟩
        case measure => simp [intOf]; omega
    obtain rfl : k = b.es.length := by omega
    have K := HHb.out wr a5 c5 HE7.out (HT.out.grow HZ11.out)
    go_wp2_with (refine ld_w (by rfl) 26 (.tmp 7) rfl g7 0 rfl (bC b a5 c5) _ HB7.out.all Tryd.underlying26 rfl (sB HL.out _ _) ?_)
    refine K.mono ?_
    clear K c9
    rintro e x1 ⟨rfl, H⟩
    have HZx : Hid (Below W.heap.size W x1) := HZ11.out.trans (H.out.mono HZ11.out.size)
    have HB1 : Hid (Blk x1 g1 26 (bC b a c)) := HB1.out.below H.out HB1.out.lt
    have HB9 : Hid (Blk x1 g9 26 (bC gb a8 c8)) := HB9.out.below H.out HB9.out.lt
    have HE9 : Hid (EsM x1 a8 gb.es) := HE9.out.below H.out
    clear H HZ11 HB7 HE7
    go_wp2_with (refine al_zero rfl 23 rfl (nums .u8 zr) zHt ?_)
    intro g12 x2 l12 B12 GA
    go_wp2_with (refine st_all rfl 23 (.tmp 12) (.tmp 99) rfl g12 23 (nums .u8 zr) (nums .u8 hs) rfl rfl B12 (by rw [nums_length, nums_length, HLh.out]; rfl) (sH HLh.out) (nums_one _ _) ?_)
    intro x3 B12' GB
    have G3 : Below x1.heap.size x1 x3 := below_new GA l12 GB
    have HZ3 : Hid (Below W.heap.size W x3) := HZx.out.trans (G3.mono HZx.out.size)
    have HB1 : Hid (Blk x3 g1 26 (bC b a c)) := HB1.out.below G3 HB1.out.lt
    have HB9 : Hid (Blk x3 g9 26 (bC gb a8 c8)) := HB9.out.below G3 HB9.out.lt
    have HE9 : Hid (EsM x3 a8 gb.es) := HE9.out.below G3
    have HB12 : Hid (Blk x3 g12 23 (nums .u8 hs)) := B12'
    clear GA GB B12 B12' G3 HZx l12
    have K := HHg.out x3 a8 c8 HE9.out (HT.out.grow HZ3.out)
    go_wp2_with (refine ld_w (by rfl) 26 (.tmp 9) rfl g9 0 rfl (bC gb a8 c8) _ HB9.out.all Tryd.underlying26 rfl (sB HLg.out _ _) ?_)
    refine K.mono ?_
    clear K
    rintro e x4 ⟨rfl, H⟩
    have HZ4 : Hid (Below W.heap.size W x4) := HZ3.out.trans (H.out.mono HZ3.out.size)
    have HB1 : Hid (Blk x4 g1 26 (bC b a c)) := HB1.out.below H.out HB1.out.lt
    have HB12 : Hid (Blk x4 g12 23 (nums .u8 hs)) := HB12.out.below H.out HB12.out.lt
    clear H HZ3 HB9 HE9
    go_wp2_with (refine al_zero rfl 23 rfl (nums .u8 zr) zHt ?_)
    intro g14 x5 l14 B14 GA
    go_wp2_with (refine st_all rfl 23 (.tmp 14) (.tmp 104) rfl g14 23 (nums .u8 zr) (nums .u8 hs) rfl rfl B14 (by rw [nums_length, nums_length, HLh.out]; rfl) (sH HLh.out) (nums_one _ _) ?_)
    intro x6 B14' GB
    have G6 : Below x4.heap.size x4 x6 := below_new GA l14 GB
    have HZ6 : Hid (Below W.heap.size W x6) := HZ4.out.trans (G6.mono HZ4.out.size)
    have HB1 : Hid (Blk x6 g1 26 (bC b a c)) := HB1.out.below G6 HB1.out.lt
    have HB12 : Hid (Blk x6 g12 23 (nums .u8 hs)) := HB12.out.below G6 HB12.out.lt
    have HB14 : Hid (Blk x6 g14 23 (nums .u8 hs)) := B14'
    clear GA GB B14 B14' G6 HZ4 l14
    have K := HHb.out x6 a c (HE.out.below HZ6.out) (HT.out.grow HZ6.out)
    go_wp2_with (refine ld_w (by rfl) 26 (.tmp 1) rfl g1 0 rfl (bC b a c) _ HB1.out.all Tryd.underlying26 rfl (sB HL.out _ _) ?_)
    refine K.mono ?_
    clear K
    rintro e x7 ⟨rfl, H⟩
    have HZ7 : Hid (Below W.heap.size W x7) := HZ6.out.trans (H.out.mono HZ6.out.size)
    have HB12 : Hid (Blk x7 g12 23 (nums .u8 hs)) := HB12.out.below H.out HB12.out.lt
    have HB14 : Hid (Blk x7 g14 23 (nums .u8 hs)) := HB14.out.below H.out HB14.out.lt
    clear H HZ6 HB1
    go_wp2_with (refine al_zero rfl 23 rfl (nums .u8 zr) zHt ?_)
    intro g16 x8 l16 B16 GA
    go_wp2_with (refine st_all rfl 23 (.tmp 16) (.tmp 109) rfl g16 23 (nums .u8 zr) (nums .u8 hs) rfl rfl B16 (by rw [nums_length, nums_length, HLh.out]; rfl) (sH HLh.out) (nums_one _ _) ?_)
    intro x9 B16' GB
    have G9 : Below x7.heap.size x7 x9 := below_new GA l16 GB
    have HZ9 : Hid (Below W.heap.size W x9) := HZ7.out.trans (G9.mono HZ7.out.size)
    have HB12 : Hid (Blk x9 g12 23 (nums .u8 hs)) := HB12.out.below G9 HB12.out.lt
    have HB14 : Hid (Blk x9 g14 23 (nums .u8 hs)) := HB14.out.below G9 HB14.out.lt
    have HB16 : Hid (Blk x9 g16 23 (nums .u8 hs)) := B16'
    clear GA GB B16 B16' G9 HZ7 l16
    have hEQ := HEQ.out x9
    have KK := bknown_any x9
    go_wp2_with (first | (refine ld_w (by rfl) 23 (.tmp 12) rfl g12 0 rfl (nums .u8 hs) _ HB12.out.all Tryd.underlying23 rfl (sH HLh.out) ?_) | (refine ld_w (by rfl) 23 (.tmp 14) rfl g14 0 rfl (nums .u8 hs) _ HB14.out.all Tryd.underlying23 rfl (sH HLh.out) ?_) | (refine ld_w (by rfl) 23 (.tmp 16) rfl g16 0 rfl (nums .u8 hs) _ HB16.out.all Tryd.underlying23 rfl (sH HLh.out) ?_))
    refine KK.mono ?_
    clear KK
    rintro e x10 ⟨rfl, H⟩
    have HF : Hid (Below W.heap.size W x10) := HZ9.out.trans (H.out.mono HZ9.out.size)
    clear H HZ9 hEQ HB12 HB14 HB16
    go_wp2
    go_ret
    exact ⟨rfl, HF.out⟩
end Go.Proofs.YtmbglggodifboaaDoor.Sh
namespace Go.Proofs.YtmbglggodifboaaDoor.Sh
open Go.RowKit Go.ChangeShapes Go.WideShapes Math Mt
set_option linter.unusedVariables false
theorem mapM_all {α β : Type} {f : α → Option β} : ∀ {l : List α} {ys : List β}, l.mapM f = some ys → ∀ a ∈ l, ∃ y, f a = some y
  | [], _, _, a, ha => by cases ha
  | b :: l, ys, h, a, ha => by
    rw [List.mapM_cons] at h
    simp only [bind, Option.bind_eq_some_iff, pure, Option.some.injEq] at h
    obtain ⟨y, hy, zs, hz, _⟩ := h
    rcases List.mem_cons.1 ha with rfl | ha
    · exact ⟨y, hy⟩
    · exact mapM_all hz a ha
def natOf : Option Value → Nat
  | some (.int _ n) => n.toNat
  | _ => 0
set_option maxRecDepth 8000 in
theorem open_hash {H : Type} {enc : TypeId × Value → H} {w : World} {base : Nat} {spare : Nat → Bool} {held : Bool} {fuel : Nat} {cs : Array Value} {x : DataW H × List MemPlace} (hn : cs.size = 32)
    (h : DataW.trod enc Tryd.prog w base spare held fuel 23 cs.toList = some x) : ∃ l : List Nat, l.length = 32 ∧ Oct l ∧ cs = (nums .u8 l).toArray := by
  have hall : ∀ i, i < 32 → ∃ n : Nat, n < 256 ∧ cs[i]? = some (.int .u8 (n : Int)) := by
    cases fuel with
    | zero => simp [DataW.trod] at h
    | succ m =>
      unfold DataW.trod at h
      rw [Tryd.underlying23] at h
      simp only [cells5, Nat.mul_one] at h
      split at h
      · rename_i hh
        simp only [Option.map_eq_some_iff] at h
        obtain ⟨ys, hys, _⟩ := h
        intro i hi
        obtain ⟨y, hy⟩ := mapM_all hys i (List.mem_range.2 hi)
        obtain ⟨n, hcs, _, hwf⟩ := DataW.trod_int Tryd.underlying5 hy
        have hb := bounds_u8 hwf
        refine ⟨n.toNat, by omega, ?_⟩
        have h0 : (List.take 1 (List.drop i cs.toList))[0]? = some (Value.int .u8 n) := by rw [hcs]; rfl
        rw [List.getElem?_take, if_pos (by decide), List.getElem?_drop, Nat.add_zero, Array.getElem?_toList] at h0
        rw [h0, Int.toNat_of_nonneg hb.1]
      · cases h
  refine ⟨(List.range 32).map fun i => natOf cs[i]?, by simp, fun y hy => ?_, ?_⟩
  · obtain ⟨i, hi, rfl⟩ := List.mem_map.1 hy
    obtain ⟨n, hn', e⟩ := hall i (List.mem_range.1 hi)
    rw [e]; simpa [natOf] using hn'
  · apply Array.ext_getElem?
    intro i
    by_cases hi : i < 32
    · obtain ⟨n, hn', e⟩ := hall i hi
      have h2 : (nums .u8 ((List.range 32).map fun i => natOf cs[i]?)).toArray[i]? = some (.int .u8 (n : Int)) := by
        rw [List.getElem?_toArray, nums_get .u8 _ i (by simpa using hi)]
        simp [List.getD_eq_getElem?_getD, List.getElem?_range hi, e, natOf]
      exact e.trans h2.symm
    · have h2 : (nums .u8 ((List.range 32).map fun i => natOf cs[i]?)).toArray[i]? = none := by
        rw [List.getElem?_toArray, List.getElem?_eq_none (by rw [nums_length]; simp; omega)]
      exact (Array.getElem?_eq_none (by omega)).trans h2.symm
theorem cellsHash : Tryd.prog.cellsOf 23 = 32 := by kernel_rfl
theorem cellsEn : Tryd.prog.cellsOf 43 = 46 := by kernel_rfl
theorem cellsBk : Tryd.prog.cellsOf 26 = 36 := by kernel_rfl
theorem cellsEs : Tryd.prog.cellsOf 24 = 1 := by kernel_rfl
theorem cellsAd : Tryd.prog.cellsOf 41 = 2 := by kernel_rfl
theorem cells4' : Tryd.prog.cellsOf 4 = 1 := by kernel_rfl
theorem bytesEn : 1 ≤ Tryd.prog.bytesOf 43 := of_decide_eq_true (by kernel_rfl)
theorem mkList {α : Type} {P : Nat → α → Prop} : ∀ (n : Nat), (∀ i, i < n → ∃ x, P i x) → ∃ l : List α, l.length = n ∧ ∀ i x, l[i]? = some x → P i x
  | 0, _ => ⟨[], rfl, fun i x h => by cases h⟩
  | n + 1, h => by
    obtain ⟨l, h1, h2⟩ := mkList n fun i hi => h i (by omega)
    obtain ⟨x, hx⟩ := h n (by omega)
    refine ⟨l ++ [x], by simp [h1], fun i y hy => ?_⟩
    by_cases hi : i < n
    · rw [List.getElem?_append_left (by omega)] at hy; exact h2 i y hy
    · have : i = n := by have := (List.getElem?_eq_some_iff.1 hy).1; simp [h1] at this; omega
      subst this
      rw [← h1, List.getElem?_concat_length] at hy
      rw [← Option.some.inj hy]; exact hx
theorem cutL {α : Type} (l : List α) (k n m : Nat) (h : k + n = m) : l.drop k = (l.drop k).take n ++ l.drop m := by
  subst h
  rw [← List.drop_drop]
  exact (List.take_append_drop n _).symm
theorem two_of {α : Type} : ∀ {x : List α} {p q : α}, x.length = 2 → (x.drop 0).take 1 = [p] → (x.drop 1).take 1 = [q] → x = [p, q]
  | [a, b], p, q, _, h1, h2 => by simp at h1 h2; rw [h1, h2]
theorem nineL {α : Type} : ∀ {l : List α}, l.length = 9 → ∃ a b c d e f g h i, l = [a, b, c, d, e, f, g, h, i]
  | [a, b, c, d, e, f, g, h, i], _ => ⟨a, b, c, d, e, f, g, h, i, rfl⟩
theorem fiveL {α : Type} : ∀ {l : List α}, l.length = 5 → ∃ a b c d e, l = [a, b, c, d, e]
  | [a, b, c, d, e], _ => ⟨a, b, c, d, e, rfl⟩
theorem i64_of {n : Int} (h : (Lit.int .i64 n).wf = true) : I64 n := by
  have := bounds_i64 h
  exact ⟨by omega, by omega⟩
set_option maxRecDepth 8000 in
theorem open_ent {H : Type} {enc : TypeId × Value → H} {W : World} {n : Nat} {cs : List Value} {y : DataW H × List MemPlace} (h : DataW.trod enc Tryd.prog W 0 (fun _ => true) true n 43 cs = some y) (hw : ∀ n ∈ y.1.weights Tryd.prog 43, n ≤ reachBytes) :
    ∃ e na nc ka kc, cs = eC e na nc ka kc ∧ Vl W e.v na nc ka kc ∧ EnW e := by
  obtain ⟨xs, k, hk, hxy, hlen, hxl, hf⟩ := DataW.trod_struct Tryd.underlying43 h
  rw [cellsEn] at hlen
  obtain ⟨y0, y1, y2, y3, y4, y5, y6, y7, y8, rfl⟩ := nineL (show xs.length = 9 from hxl)
  have g0 : DataW.trod enc Tryd.prog W 0 (fun _ => true) true k 3 ((cs.drop 0).take (Tryd.prog.cellsOf 3)) = some y0 := hf 0 _ rfl
  have g1 : DataW.trod enc Tryd.prog W 0 (fun _ => true) true k 9 ((cs.drop 1).take (Tryd.prog.cellsOf 9)) = some y1 := hf 1 _ rfl
  have g2 : DataW.trod enc Tryd.prog W 0 (fun _ => true) true k 3 ((cs.drop 2).take (Tryd.prog.cellsOf 3)) = some y2 := hf 2 _ rfl
  have g3 : DataW.trod enc Tryd.prog W 0 (fun _ => true) true k 3 ((cs.drop 3).take (Tryd.prog.cellsOf 3)) = some y3 := hf 3 _ rfl
  have g4 : DataW.trod enc Tryd.prog W 0 (fun _ => true) true k 3 ((cs.drop 4).take (Tryd.prog.cellsOf 3)) = some y4 := hf 4 _ rfl
  have g5 : DataW.trod enc Tryd.prog W 0 (fun _ => true) true k 39 ((cs.drop 5).take (Tryd.prog.cellsOf 39)) = some y5 := hf 5 _ rfl
  have g6 : DataW.trod enc Tryd.prog W 0 (fun _ => true) true k 23 ((cs.drop 11).take (Tryd.prog.cellsOf 23)) = some y6 := hf 6 _ rfl
  have g7 : DataW.trod enc Tryd.prog W 0 (fun _ => true) true k 4 ((cs.drop 43).take (Tryd.prog.cellsOf 4)) = some y7 := hf 7 _ rfl
  have g8 : DataW.trod enc Tryd.prog W 0 (fun _ => true) true k 41 ((cs.drop 44).take (Tryd.prog.cellsOf 41)) = some y8 := hf 8 _ rfl
  rw [cells3] at g0 g2 g3 g4
  rw [cells9] at g1
  rw [cells25] at g5
  rw [cellsHash] at g6
  rw [cells4'] at g7
  rw [cellsAd] at g8
  have hw2 : ∀ (j : Nat) (t : TypeId) (d : DataW H), [(3 : TypeId), 9, 3, 3, 3, 39, 23, 4, 41][j]? = some t → [y0.1, y1.1, y2.1, y3.1, y4.1, y5.1, y6.1, y7.1, y8.1][j]? = some d → ∀ n ∈ d.weights Tryd.prog t, n ≤ reachBytes := fun j t d ht hd n hn => by
    refine hw n ?_
    rw [hxy]
    simp only [DataW.weights, Tryd.underlying43]
    exact DataW.weights_mem_each (j := j) ht hd n hn
  obtain ⟨z0, e0, r0, q0⟩ := DataW.trod_int Tryd.underlying3 g0
  obtain ⟨s1, e1, r1, _⟩ := DataW.trod_string Tryd.underlying9 g1
  obtain ⟨z2, e2, r2, q2⟩ := DataW.trod_int Tryd.underlying3 g2
  obtain ⟨z3, e3, r3, q3⟩ := DataW.trod_int Tryd.underlying3 g3
  obtain ⟨z4, e4, r4, q4⟩ := DataW.trod_int Tryd.underlying3 g4
  obtain ⟨p, na, nc, ka, kc, e5, hvl, hwf⟩ := open_val k g5 (hw2 5 39 y5.1 rfl rfl)
  obtain ⟨l, hl1, hl2, e6⟩ := open_hash (cs := ((cs.drop 11).take 32).toArray) (by simp; omega) (by simpa using g6)
  have e6 : (cs.drop 11).take 32 = nums .u8 l := by simpa using congrArg Array.toList e6
  obtain ⟨b7, e7, _⟩ := DataW.trod_bool Tryd.underlying4 g7
  obtain ⟨u0, u1, k2, _, hlA, f0, f1⟩ := trod_struct2 Tryd.underlying41 g8
  have f0 : DataW.trod enc Tryd.prog W 0 (fun _ => true) true k2 3 ((((cs.drop 44).take 2).drop 0).take (Tryd.prog.cellsOf 3)) = some u0 := f0
  have f1 : DataW.trod enc Tryd.prog W 0 (fun _ => true) true k2 3 ((((cs.drop 44).take 2).drop 1).take (Tryd.prog.cellsOf 3)) = some u1 := f1
  rw [cells3] at f0 f1
  obtain ⟨z8, e8, r8, q8⟩ := DataW.trod_int Tryd.underlying3 f0
  obtain ⟨z9, e9, r9, q9⟩ := DataW.trod_int Tryd.underlying3 f1
  have e89 : (cs.drop 44).take 2 = [.int .i64 z8, .int .i64 z9] := two_of (by simp; omega) e8 e9
  have hT : s1.size ≤ 140737488355328 := by
    have := hw2 1 9 y1.1 rfl rfl s1.data.toList.length (by rw [r1]; simp [DataW.weights])
    simp only [reachBytes, Array.length_toList] at this
    exact Nat.le_trans this (by decide)
  refine ⟨⟨z0, s1, z2, z3, z4, p, l, b7, z8, z9⟩, na, nc, ka, kc, ?_, hvl, ⟨i64_of q0, hT, i64_of q2, i64_of q3, i64_of q4, hwf, ⟨hl1, hl2⟩, i64_of q8, i64_of q9⟩⟩
  have hend : cs.drop 46 = [] := List.drop_of_length_le (by omega)
  have c0 := cutL cs 0 1 1 rfl
  rw [cutL cs 1 1 2 rfl, cutL cs 2 1 3 rfl, cutL cs 3 1 4 rfl, cutL cs 4 1 5 rfl, cutL cs 5 6 11 rfl, cutL cs 11 32 43 rfl, cutL cs 43 1 44 rfl, cutL cs 44 2 46 rfl, hend, e0, e1, e2, e3, e4, e5, e6, e7, e89, List.drop_zero] at c0
  rw [c0]
  rfl
set_option maxRecDepth 8000 in
theorem open_blk {H : Type} {enc : TypeId × Value → H} {W : World} {n : Nat} {cs : List Value} {y : DataW H × List MemPlace} (h : DataW.trod enc Tryd.prog W 0 (fun _ => true) true n 26 cs = some y) (hw : ∀ n ∈ y.1.weights Tryd.prog 26, n ≤ reachBytes) :
    ∃ b a c, cs = bC b a c ∧ EsM W a b.es ∧ BkW b := by
  obtain ⟨xs, k, hk, hxy, hlen, hxl, hf⟩ := DataW.trod_struct Tryd.underlying26 h
  rw [cellsBk] at hlen
  obtain ⟨y0, y1, y2, y3, y4, rfl⟩ := fiveL (show xs.length = 5 from hxl)
  have g0 : DataW.trod enc Tryd.prog W 0 (fun _ => true) true k 3 ((cs.drop 0).take (Tryd.prog.cellsOf 3)) = some y0 := hf 0 _ rfl
  have g1 : DataW.trod enc Tryd.prog W 0 (fun _ => true) true k 3 ((cs.drop 1).take (Tryd.prog.cellsOf 3)) = some y1 := hf 1 _ rfl
  have g2 : DataW.trod enc Tryd.prog W 0 (fun _ => true) true k 3 ((cs.drop 2).take (Tryd.prog.cellsOf 3)) = some y2 := hf 2 _ rfl
  have g3 : DataW.trod enc Tryd.prog W 0 (fun _ => true) true k 23 ((cs.drop 3).take (Tryd.prog.cellsOf 23)) = some y3 := hf 3 _ rfl
  have g4 : DataW.trod enc Tryd.prog W 0 (fun _ => true) true k 24 ((cs.drop 35).take (Tryd.prog.cellsOf 24)) = some y4 := hf 4 _ rfl
  rw [cells3] at g0 g1 g2
  rw [cellsHash] at g3
  rw [cellsEs] at g4
  have hw4 : ∀ n ∈ y4.1.weights Tryd.prog 24, n ≤ reachBytes := fun n hn => by
    refine hw n ?_
    rw [hxy]
    simp only [DataW.weights, Tryd.underlying26]
    exact DataW.weights_mem_each (j := 4) (t := 24) (d := y4.1) rfl rfl n hn
  obtain ⟨z0, e0, r0, q0⟩ := DataW.trod_int Tryd.underlying3 g0
  obtain ⟨z1, e1, r1, q1⟩ := DataW.trod_int Tryd.underlying3 g1
  obtain ⟨z2, e2, r2, q2⟩ := DataW.trod_int Tryd.underlying3 g2
  obtain ⟨l, hl1, hl2, e3⟩ := open_hash (cs := ((cs.drop 3).take 32).toArray) (by simp; omega) (by simpa using g3)
  have e3 : (cs.drop 3).take 32 = nums .u8 l := by simpa using congrArg Array.toList e3
  obtain ⟨es, a, c, e4, hE, hEW, hEl⟩ : ∃ (es : List En) (a : Option Addr) (c : Nat), (cs.drop 35).take 1 = [.slice a es.length c] ∧ EsM W a es ∧ (∀ e ∈ es, EnW e) ∧ es.length ≤ 140737488355328 := by
    rcases DataW.trod_slice Tryd.underlying24 g4 with ⟨hcs, _⟩ | ⟨ad, len, cap, elems, rest, m, hm0, hcs, hx, _, hl, hm, hel, hei, _, _⟩
    · exact ⟨[], none, 0, hcs, .inl rfl, by simp, by simp⟩
    · have hlen : len ≤ 140737488355328 := by
        have := hw4 _ (by rw [hx]; simp only [DataW.weights, Tryd.underlying24]; exact List.mem_cons_self)
        have hb := bytesEn
        simp only [List.length_map, reachBytes] at this
        have h2 : (elems.length + rest.length) * 1 ≤ (elems.length + rest.length) * Tryd.prog.bytesOf 43 := Nat.mul_le_mul_left _ hb
        have h3 : elems.length = len := hel
        omega
      have each : ∀ i, i < len → ∃ e : En, EnW e ∧ ∃ na nc ka kc, W.cells? 0 (ad.add (i * 46)) 46 = some (eC e na nc ka kc) ∧ Vl W e.v na nc ka kc := by
        intro i hi
        have hh := hei i hi
        rw [List.getElem?_eq_getElem (by omega)] at hh
        obtain ⟨cs', c1, c2⟩ := Option.bind_eq_some_iff.1 hh
        obtain ⟨e, na, nc, ka, kc, d1, d2, d3⟩ := open_ent c2 (fun n hn => hw4 n (by
          rw [hx]
          simp only [DataW.weights, Tryd.underlying24]
          refine List.mem_cons_of_mem _ (List.mem_append.2 (.inl (weightsAll_mem (d := elems[i].1) (List.mem_map.2 ⟨elems[i], List.getElem_mem _, rfl⟩) hn)))))
        rw [cellsEn] at c1
        exact ⟨e, d3, na, nc, ka, kc, by rw [← d1]; exact c1, d2⟩
      obtain ⟨es, hL1, hL2⟩ := mkList (P := fun i (e : En) => EnW e ∧ ∃ na nc ka kc, W.cells? 0 (ad.add (i * 46)) 46 = some (eC e na nc ka kc) ∧ Vl W e.v na nc ka kc) len each
      refine ⟨es, some ad, cap, by rw [hcs, hL1], ?_, fun x hx => ?_, by omega⟩
      · by_cases h0 : len = 0
        · exact .inl (List.eq_nil_of_length_eq_zero (by omega))
        · obtain ⟨b, off, spot⟩ := ad
          have hs : spot = none := by
            obtain ⟨e, p1, na, nc, ka, kc, c1, _⟩ := each 0 (by omega)
            obtain ⟨_, _, hcell⟩ := World.cells?_some c1
            have := hcell 0 (by decide)
            simpa [Addr.add] using World.cell?_spot (this.trans (show (eC e na nc ka kc)[0]? = some (.int .i64 e.k) from rfl))
          subst hs
          refine .inr ⟨b, off, rfl, fun i x hx => ?_⟩
          obtain ⟨p1, na, nc, ka, kc, c1, c2⟩ := hL2 i x hx
          refine ⟨na, nc, ka, kc, fun j v hj => ?_, c2⟩
          obtain ⟨_, _, hcell⟩ := World.cells?_some c1
          simp only [Addr.add_lit] at hcell
          have hj2 := (List.getElem?_eq_some_iff.1 hj).1
          exact (hcell j (by rw [eC_len p1.h.1] at hj2; exact hj2)).trans hj
      · obtain ⟨i, hi, rfl⟩ := List.getElem_of_mem hx
        exact (hL2 i _ (List.getElem?_eq_getElem hi)).1
  refine ⟨⟨z0, z1, z2, l, es⟩, a, c, ?_, hE, ⟨i64_of q0, i64_of q1, i64_of q2, ⟨hl1, hl2⟩, hEW, hEl⟩⟩
  have hend : cs.drop 36 = [] := List.drop_of_length_le (by omega)
  have c0 := cutL cs 0 1 1 rfl
  rw [cutL cs 1 1 2 rfl, cutL cs 2 1 3 rfl, cutL cs 3 32 35 rfl, cutL cs 35 1 36 rfl, hend, e0, e1, e2, e3, e4, List.drop_zero] at c0
  rw [c0]
  rfl
end Go.Proofs.YtmbglggodifboaaDoor.Sh
namespace Go.Proofs.YtmbglggodifboaaDoor.Sh
open Go.RowKit Go.ChangeShapes Go.WideShapes
set_option linter.unusedVariables false
set_option maxRecDepth 8000
theorem tb_of {W : World} (h : laidMetH Tryd.prog [("math/bits.deBruijn32tab", Rows.laid_math_bits_deBruijn32tab), ("math/bits.deBruijn64tab", Rows.laid_math_bits_deBruijn64tab)] W) : Mer.Tb W := by
  rw [MakeChecks.laidMetH_plain _ _ _ (by kernel_rfl)] at h
  have h3 : laidMet Tryd.prog [("math/bits.deBruijn64tab", Lib.tabData .u8 (Lib.deBruijn64tab.map fun n : Nat => (n : Int)))] W := laidMet.tail h
  have h4 := Lib.tabIs_of_head (g := 1) (t := 100) (e := 5) (n := 64) (by kernel_rfl) (by kernel_rfl) (by kernel_rfl) (by kernel_rfl) (by kernel_rfl) (by kernel_rfl) h3
  unfold Lib.TabIs World.var? at h4
  rw [show Tryd.prog.globalNamed "math/bits.deBruijn64tab" = some 1 by kernel_rfl] at h4
  simp only [Option.bind_some] at h4
  intro j hj
  cases hc : W.heap[1]? with
  | none => rw [hc] at h4; cases h4
  | some ob =>
    rw [hc] at h4
    cases ob with
    | cells cs t f =>
      simp only [Option.some.injEq] at h4
      simp only [World.cell?, hc, h4]
      rw [List.getElem?_toArray]
      simp [List.getElem?_map, List.getElem?_eq_getElem hj, List.getD_eq_getElem?_getD]
    | _ => cases h4
end Go.Proofs.YtmbglggodifboaaDoor.Sh
