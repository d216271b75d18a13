/-
  block's reader: block.
-/
import Derived.Test.YtlefdnjokppibaaGreatDoorVG29x
namespace Go.Proofs.YtlefdnjokppibaaGreatDoor.Sh
open Go Go.RowKit Math Mt
set_option linter.unusedVariables false
set_option linter.unusedSimpArgs false
theorem qb_fl {C : World → Prop} {a : Act} {o : Oper} {K : Act → Prop} (x : Operand) (ho : o.op = .fieldAddr 115 x 1) (b : Nat) (hx : a.eval x = .pointer (some ⟨b, 0, none⟩))
    (hk : K (a.put o.dst (.pointer (some ⟨b, 1, none⟩)))) : o.quiet Tryz.prog a C K :=
  ⟨_, fun w hw => by
    unfold Oper.quietAt execOp
    simp only [ho, hx]
    go_simp, hk⟩
theorem qb_nil {C : World → Prop} {a : Act} {o : Oper} {K : Act → Prop} (x : Operand) (ho : o.op = .nilCheck x) (b k : Nat) (hx : a.eval x = .pointer (some ⟨b, k, none⟩))
    (hk : K (a.put o.dst (.pointer (some ⟨b, k, none⟩)))) : o.quiet Tryz.prog a C K :=
  ⟨_, fun w hw => by
    unfold Oper.quietAt execOp
    simp only [ho, hx]
    go_simp, hk⟩
theorem gr_row {W w1 w2 : World} {r : Nat} {row : Option Nat} (h : W.grownBy w1 (some r)) (k : w1.grownBy w2 row) (hg : ∀ x, row = some x → W.heap.size ≤ x) : W.grownBy w2 (some r) := by
  cases row with
  | none => exact gr_al h k
  | some x => exact gr_st h k (hg x rfl)
theorem Rb.row {w0 : World} {r : Nat} {w w' : World} {l : List Nat} {e : Int} (h : Rb w0 r w l e) {row : Option Nat} (k : w.grownBy w' row) (hg : ∀ x, row = some x → r ≠ x ∧ w0.heap.size ≤ x) : Rb w0 r w' l e := by
  cases row with
  | none => exact h.al k
  | some x => exact h.st k (hg x rfl).1 (hg x rfl).2
theorem s24' : (Tryz.prog.info? 24).map (·.size) = some 1 := by kernel_rfl
theorem RowE.be {M : Nat} {w w' : World} {v : Value} {is : List It} (h : RowE M w v is) (hg : Below w.heap.size w w') : RowE M w' v is := h.kept (row := none) ⟨hg.os, hg.tape, hg.output, hg.size, fun x hx _ => hg.block x hx⟩ (by intro x e; cases e)
set_option maxHeartbeats 4000000 in
set_option maxRecDepth 8000 in
theorem bblock_any (w0 W : World) (r : Nat) (l : List Nat) (h : Rb w0 r W l 0) (hd : bSf l) (keep : Bool) :
    Calls Tryz.prog 72 #[.pointer (some ⟨r, 0, none⟩), .bool keep] W fun e w' => ∃ (bb : Bk) (a : Option Addr) (c : Nat) (rf : Int) (l' : List Nat) (err' : Int) (B : Bk), e = .returned (.tuple #[.agg (bC bb a c).toArray, .int .i64 rf]) ∧ Hid (BlR w0 W w' r l keep bb a c rf l' err' B) := by
  have hrl := h.rlt
  have h0 := h.bl.size
  have HD : Hid (bSf l) := hd
  have R0 : Rb w0 r W l 0 := h
  have HG : W.grownBy W (some r) := World.grownBy.refl _ _
  clear h hd
  go_enter Tryz.func72, Tryz.ntmps72
  go_wp2_with (refine al_zero rfl 26 rfl (bC noB none 0) zBl ?_)
  intro g4 w1 l2 B4 G0
  have RR := R0.al G0
  have HG := gr_al HG G0
  have s1 := G0.size
  clear G0 R0
  go_wp2_with (refine al_zero rfl 26 rfl (bC noB none 0) zBl ?_)
  intro g6 w2 l3 B6 G0
  have n46 : g4 ≠ g6 := by have := B4.lt; omega
  have hw6 : W.heap.size ≤ g6 := by omega
  have RR := RR.al G0
  have HG := gr_al HG G0
  have B4 := B4.kept G0 (by simp)
  clear G0
  have K := bnum_any w0 w2 r l 0 RR
  clear RR
  go_wp2_with fail
  refine K.mono ?_
  clear K
  rintro e u0 ⟨ixx, l10, e10, rfl, hixx, H⟩
  have RR := H.out.1
  have B4 := B4.kept H.out.2.1 (fun e => by have := Option.some.inj e; omega)
  have B6 := B6.kept H.out.2.1 (fun e => by have := Option.some.inj e; omega)
  have HG := HG.trans H.out.2.1
  have S0 : Hid (Sq nR l 0 l10 e10 ixx) := H.out.2.2
  clear H
  go_wp2_with (refine st_one rfl 3 (.tmp 12) (.tmp 11) rfl g6 0 26 _ (.int .i64 (ixx : Int)) rfl rfl rfl rfl (by rw [bC_len zr_len]; decide) B6 s3 ?_)
  intro u0s B6' G0
  have RR := RR.st G0 (by omega) (by omega)
  have B4 := B4.kept G0 (fun e => n46 (Option.some.inj e))
  have HG := gr_st HG G0 hw6
  have B6 : Blk u0s g6 26 (bC ⟨(ixx : Int), 0, 0, zr, []⟩ none 0) := B6'
  clear B6' G0
  have K := bnum_any w0 u0s r l10 e10 RR
  clear RR
  go_wp2_with fail
  refine K.mono ?_
  clear K
  rintro e u1 ⟨tmx, l11, e11, rfl, htmx, H⟩
  have RR := H.out.1
  have B4 := B4.kept H.out.2.1 (fun e => by have := Option.some.inj e; omega)
  have B6 := B6.kept H.out.2.1 (fun e => by have := Option.some.inj e; omega)
  have HG := HG.trans H.out.2.1
  have S1 : Hid (Sq nR l10 e10 l11 e11 tmx) := H.out.2.2
  clear H
  go_wp2_with (refine st_one rfl 3 (.tmp 15) (.tmp 14) rfl g6 1 26 _ (.int .i64 (tmx : Int)) rfl rfl rfl rfl (by rw [bC_len zr_len]; decide) B6 s3 ?_)
  intro u1s B6' G0
  have RR := RR.st G0 (by omega) (by omega)
  have B4 := B4.kept G0 (fun e => n46 (Option.some.inj e))
  have HG := gr_st HG G0 hw6
  have B6 : Blk u1s g6 26 (bC ⟨(ixx : Int), (tmx : Int), 0, zr, []⟩ none 0) := B6'
  clear B6' G0
  have K := bnum_any w0 u1s r l11 e11 RR
  clear RR
  go_wp2_with fail
  refine K.mono ?_
  clear K
  rintro e u2 ⟨txx, l12, e12, rfl, htxx, H⟩
  have RR := H.out.1
  have B4 := B4.kept H.out.2.1 (fun e => by have := Option.some.inj e; omega)
  have B6 := B6.kept H.out.2.1 (fun e => by have := Option.some.inj e; omega)
  have HG := HG.trans H.out.2.1
  have S2 : Hid (Sq nR l11 e11 l12 e12 txx) := H.out.2.2
  clear H
  go_wp2_with (refine st_one rfl 3 (.tmp 18) (.tmp 17) rfl g6 2 26 _ (.int .i64 (txx : Int)) rfl rfl rfl rfl (by rw [bC_len zr_len]; decide) B6 s3 ?_)
  intro u2s B6' G0
  have RR := RR.st G0 (by omega) (by omega)
  have B4 := B4.kept G0 (fun e => n46 (Option.some.inj e))
  have HG := gr_st HG G0 hw6
  have B6 : Blk u2s g6 26 (bC ⟨(ixx : Int), (tmx : Int), (txx : Int), zr, []⟩ none 0) := B6'
  clear B6' G0
  have K := bhash_any w0 u2s r l12 e12 RR
  clear RR
  go_wp2_with fail
  refine K.mono ?_
  clear K
  rintro e v1 ⟨pvx, l13, e13, rfl, hpv, H⟩
  have RR := H.out.1
  have B4 := B4.kept H.out.2.1 (fun e => by have := Option.some.inj e; omega)
  have B6 := B6.kept H.out.2.1 (fun e => by have := Option.some.inj e; omega)
  have HG := HG.trans H.out.2.1
  have S3 : Hid (Sq (takeR 32) l12 e12 l13 e13 pvx) := H.out.2.2
  have HH : Hid (H32 pvx) := hpv
  clear H hpv
  have B6 : Blk v1 g6 26 ([.int .i64 (ixx : Int), .int .i64 (tmx : Int), .int .i64 (txx : Int)] ++ (nums .u8 zr ++ [.slice none 0 0])) := B6
  go_wp2_with (refine st_row rfl 23 (.tmp 21) (.tmp 20) rfl g6 3 26 [.int .i64 (ixx : Int), .int .i64 (tmx : Int), .int .i64 (txx : Int)] (nums .u8 zr) [.slice none 0 0] (nums .u8 pvx) rfl rfl rfl B6 (by rw [nums_length, nums_length, HH.out.1]; rfl) (sH HH.out.1) (nums_one _ _) ?_)
  intro v2 B6' G0
  have RR := RR.st G0 (by omega) (by omega)
  have B4 := B4.kept G0 (fun e => n46 (Option.some.inj e))
  have HG := gr_st HG G0 hw6
  have B6 : Blk v2 g6 26 (bC ⟨(ixx : Int), (tmx : Int), (txx : Int), pvx, []⟩ none 0) := B6'
  clear B6' G0
  have K := bnum_any w0 v2 r l13 e13 RR
  clear RR
  go_wp2_with fail
  refine K.mono ?_
  clear K
  rintro e v3 ⟨n, l14, e14, rfl, hn, H⟩
  have RR := H.out.1
  have B4 := B4.kept H.out.2.1 (fun e => by have := Option.some.inj e; omega)
  have B6 := B6.kept H.out.2.1 (fun e => by have := Option.some.inj e; omega)
  have HG := HG.trans H.out.2.1
  have S4 : Hid (Sq nR l13 e13 l14 e14 n) := H.out.2.2
  have HR14 : Hid (Rb w0 r v3 l14 e14) := H.out.1
  clear H
  obtain ⟨hd, Hhd⟩ : ∃ hd : Bk, Hid (hd = ⟨(ixx : Int), (tmx : Int), (txx : Int), pvx, []⟩) := ⟨_, rfl⟩
  have HW : Hid (BkW hd) := by rw [Hhd.out]; exact ⟨i64n hixx, i64n htmx, i64n htxx, HH.out, by simp, by simp⟩
  have HL : Hid (hd.pv.length = 32) := HW.out.pv.1
  have HSQ : Hid (∀ (l' : List Nat) (e' : Int) (es : List En), Sq (esR n) l14 e14 l' e' es → Sq bkR l 0 l' e' ⟨hd.ix, hd.tm, hd.tx, hd.pv, es⟩) := fun l' e' es q => by
    rw [Hhd.out]
    exact sq_bind S0.out (sq_bind S1.out (sq_bind S2.out (sq_bind S3.out (sq_bind S4.out (sq_bind q (sq_ret _ _ _))))))
  have HSF : Hid (∀ (k : Nat) (es : List En) (lk : List Nat), k < n → Sq (esR k) l14 e14 lk 0 es → eSf lk) := fun k es lk hk q => by
    obtain ⟨z5, q5⟩ := sq_ok q
    subst z5
    obtain ⟨z4, q4⟩ := sq_ok S4.out
    subst z4
    obtain ⟨z3, q3⟩ := sq_ok S3.out
    subst z3
    obtain ⟨z2, q2⟩ := sq_ok S2.out
    subst z2
    obtain ⟨z1, q1⟩ := sq_ok S1.out
    subst z1
    obtain ⟨z0, q0⟩ := sq_ok S0.out
    exact HD.out _ _ _ _ _ _ _ _ _ _ _ _ _ q0 q1 q2 q3 q4 hk q5
  have HHP : Hid (∀ es : List En, (HeadP (⟨hd.ix, hd.tm, hd.tx, hd.pv, es⟩ : Bk) (n : Int)) = HeadP hd (n : Int)) := fun es => rfl
  have B6 : Blk v3 g6 26 (bC hd none 0) := by rw [Hhd.out]; exact B6
  have e6 : hd.es = [] := by rw [Hhd.out]
  have B6 : Blk v3 g6 26 (hC hd (.slice none 0 0)) := by
    have := B6
    unfold bC at this
    rw [e6] at this
    exact this
  have hwb : Hid (∀ v c, hC hd (.slice v 0 c) = bC hd v c) := fun v c => by unfold hC bC; rw [e6]; rfl
  clear S0 S1 S2 S3 S4 HD Hhd HH hixx htmx htxx e6
  have HG : Hid (W.grownBy v3 (some r)) := HG
  have hv3 := HG.out.size
  have g4v : g4 < v3.heap.size := B4.lt
  have g6v : g6 < v3.heap.size := B6.lt
  obtain ⟨t, ht⟩ : ∃ t, Hid (decide (HeadP hd (n : Int)) = t) := ⟨_, rfl⟩
  have KR := head_any hd HW.out none 0 (n : Int) v3
  rw [ht.out, ← hwb.out] at KR
  go_wp2_with (refine ld_w (by rfl) 26 (.tmp 6) rfl g6 0 rfl (hC hd (.slice none 0 0)) _ B6.all Tryz.underlying26 rfl (by rw [hwb.out]; exact sB HL.out _ _) ?_)
  refine KR.mono ?_
  clear KR
  rintro e v4 ⟨rfl, Z0⟩
  have B4 := B4.below Z0 B4.lt
  have B6 := B6.below Z0 B6.lt
  have RR := RR.be Z0
  have HG : Hid (W.grownBy v4 (some r)) := gr_be HG.out Z0
  have hM := Z0.size
  clear Z0
  have HEL : Hid (∀ (k : Nat) (es : List En) (lk : List Nat), Sq (esR k) l14 e14 lk 0 es → es.length = k) := fun k es lk q => (es_inv k HR14.out.oct (by have := HR14.out.len; omega) (sq_ok q).2).2.1
  cases t with
  | true =>
    obtain ⟨RF, hRF⟩ : ∃ RF : List En → Int, Hid (RF = fstE) := ⟨_, rfl⟩
    have RF1 : Hid (∀ es x, RF es = 0 → RF (es ++ [x]) = mayE x) := fun es x h => by rw [hRF.out] at h ⊢; exact fst_snoc h
    have RF2 : Hid (∀ es x, RF es ≠ 0 → RF (es ++ [x]) = RF es) := fun es x h => by rw [hRF.out] at h ⊢; exact fst_left h
    have RF3 : Hid (∀ es : List En, (if HeadP hd (n : Int) then fstE es else 1) = RF es) := fun es => by rw [hRF.out]; rw [if_pos (of_decide_eq_true ht.out)]
    have HI0 : Hid (KInv w0 W r g4 g6 v3.heap.size keep hd l14 e14 RF v4 0 0 [] [] (.slice none 0 0) l14 e14) := ⟨RR, HG.out, B4, B6, RowE.nil _ _, by cases keep <;> rfl, sq_ret _ _ _, by rw [hRF.out]; rfl, fun h => absurd rfl h, by have := RR.len; omega, hM, Nat.le_refl _⟩
    clear RR HG B4 B6 ht hRF
    go_wp2
    go_loopw [8, 29] (fun vr i wr => ∃ (k : Nat) (rf : Int) (es : List En) (is : List It) (v : Value) (lk : List Nat) (ek : Int), k ≤ n ∧ vr = .int .i64 rf ∧ i = .int .i64 (k : Int) ∧ Hid (KInv w0 W r g4 g6 v3.heap.size keep hd l14 e14 RF wr k rf es is v lk ek)) (fun _ i _ => n - (intOf i).toNat)
    case atStart => exact ⟨0, _, [], [], _, _, _, by omega, rfl, rfl, HI0.out⟩
    case round =>
      clear HI0
      obtain ⟨k, rf, es, is, v, lk, ek, hk, rfl, rfl, HK⟩ := hrel
      have zr' := HK.out.m
      by_cases hlt : k < n
      case neg =>
        have B4 := HK.out.b4
        have B6 := HK.out.b6
        have H1C : Hid (∀ u ∈ hC hd v, u.oneCell' = true) := by
          obtain ⟨a, c, rfl, _⟩ := HK.out.row.esm
          have h := bC_one ⟨hd.ix, hd.tm, hd.tx, hd.pv, List.replicate is.length e0⟩ a c
          have e : bC ⟨hd.ix, hd.tm, hd.tx, hd.pv, List.replicate is.length e0⟩ a c = hC hd (.slice a is.length c) := by unfold bC hC; rw [List.length_replicate]
          rw [e] at h
          exact h
        have HSz : Hid ((Tryz.prog.info? 26).map (·.size) = some (hC hd v).length) := by show _ = _; rw [hC_len HL.out, ← bC_len (b := noB) zr_len none 0]; exact sB zr_len _ _
        have HSl : Hid ((hC hd v).length = (bC noB none 0).length) := by show _ = _; rw [hC_len HL.out, bC_len zr_len]
        go_wp2_with (first | (refine ld_w (by rfl) 26 (.tmp 6) rfl g6 0 rfl (hC hd v) _ B6.all Tryz.underlying26 rfl HSz.out ?_) | (refine st_all rfl 26 (.tmp 4) (.tmp 58) rfl g4 26 (bC noB none 0) (hC hd v) rfl rfl B4 HSl.out HSz.out H1C.out ?_))
        intro wz BZ G0
        have hF := HK.out
        have hE := (hF.row.kept G0 (fun x e => by have := Option.some.inj e; omega)).mono (M' := W.heap.size) (by omega)
        obtain ⟨a, c, rfl, _⟩ := hE.esm
        have hkn : k = n := by omega
        have HF : Hid (BlR w0 W wz r l keep ⟨hd.ix, hd.tm, hd.tx, hd.pv, is.map (·.e)⟩ a c rf lk ek ⟨hd.ix, hd.tm, hd.tx, hd.pv, es⟩) := by
          refine ⟨hF.rb.st G0 (by omega) (by omega), gr_st hF.gr G0 l2, HSQ.out _ _ _ (hkn ▸ hF.sq), ⟨HW.out.ix, HW.out.tm, HW.out.tx, HW.out.pv, fun e he => ?_, ?_⟩, ⟨is, hE, rfl⟩, fun z => ⟨?_, fun kp => ?_⟩⟩
          · obtain ⟨i, hi, rfl⟩ := List.mem_map.1 he
            exact hF.row.ew i hi
          · show (is.map (·.e)).length ≤ _
            rw [List.length_map]
            have := hF.isl
            have := hF.len
            omega
          · have hq := hF.sq
            rw [z] at hq
            have hr := hF.rb
            have hel : es.length = n := by
              rw [← hkn]
              exact HEL.out _ _ _ hq
            rw [hF.rf]
            show RF es = if HeadP (⟨hd.ix, hd.tm, hd.tx, hd.pv, es⟩ : Bk) (es.length : Int) then fstE es else 1
            rw [hel, ← RF3.out es]
          · have := hF.ise
            rw [kp, if_pos rfl] at this
            rw [this]
        have hbz : hC hd (.slice a is.length c) = bC ⟨hd.ix, hd.tm, hd.tx, hd.pv, is.map (·.e)⟩ a c := by unfold bC hC; rw [List.length_map]
        rw [hbz] at BZ
        clear G0 hF hE HK B4 B6 hbz
        go_wp2
        (try simp only [Exit.inBlock, Exit.then])
        refine bodyPost_ret (res_two rfl _ g4 26 _ _ rfl BZ Tryz.underlying26 rfl (sB (b := ⟨hd.ix, hd.tm, hd.tx, hd.pv, is.map (·.e)⟩) HL.out _ _)) rfl ⟨_, a, c, rf, lk, ek, _, rfl, HF.out⟩
      have K := bentry_any w0 wr r lk ek HK.out.rb (fun z => HSF.out k es lk hlt (z ▸ HK.out.sq))
      go_wp2_with fail
      refine K.mono ?_
      clear K
      rintro e x1 ⟨x, l2', e2', na, nc, ka, kc, rfl, H⟩
      obtain ⟨hR1, hG1, hS1, hV1, hW1⟩ := H.out
      have HEW : Hid (EnW x) := hW1
      have HS1 : Hid (Sq enR lk ek l2' e2' x) := hS1
      have RR := hR1
      have HG := HK.out.gr.trans hG1
      have B4 := HK.out.b4.kept hG1 (fun e => by have := Option.some.inj e; omega)
      have B6 := HK.out.b6.kept hG1 (fun e => by have := Option.some.inj e; omega)
      have ROW := HK.out.row.kept hG1 (fun z e => by have := Option.some.inj e; omega)
      have VV := hV1
      have s1' := hG1.size
      have hnv : Hid (∀ z, v.ownBlock = some z → z < wr.heap.size) := fun z e => (World.ownsRow.lt HK.out.row.row z e).2
      clear H hR1 hG1 hS1 hV1 hW1
      go_wp2_with (refine al_zero rfl 45 rfl (eC e0 none 0 none 0) zEn ?_)
      intro g9 x2 l9 B9 G0
      have Z6 := (Below.refl x1.heap.size x1).grown G0 (Nat.le_refl _) (by simp)
      clear G0
      go_wp2_with (refine st_all rfl 45 (.tmp 9) (.tmp 32) rfl g9 45 (eC e0 none 0 none 0) (eC x na nc ka kc) rfl rfl B9 (by rw [eC_len HEW.out.h.1, eC_len zr_len]) (sE HEW.out.h.1 _ _ _ _) (eC_one _ _ _ _ _) ?_)
      intro x3 B9' G0
      have Z7 := Sh.grown_below Z6 G0 Z6.size l9
      have RR := RR.be Z7
      have HG : Hid (W.grownBy x3 (some r)) := gr_be HG Z7
      have B4 := B4.below Z7 B4.lt
      have B6 := B6.below Z7 B6.lt
      have ROW : Hid (RowE v3.heap.size x3 v is) := ROW.be Z7
      have VV : Hid (VNew wr x3 x.v na nc ka kc) := VV.be Z7
      have s3' := Z7.size
      have B9 := B9'
      clear B9' G0 Z6 Z7
      obtain ⟨sa, sc, hbr, _⟩ := RR.ex
      have cr1 : x3.cell? ⟨r, 1, none⟩ = some (.int .i64 e2') := hbr.cell 1
      clear hbr
      by_cases he2 : e2' = 0
      · subst he2
        have hnb : ((0 : Int) != 0) = false := rfl
        obtain ⟨hek, hen⟩ := sq_ok HS1.out
        subst hek
        have HLK : Hid (Lk x.v) := en_lk HK.out.rb.oct hen
        have hless := en_less HK.out.rb.oct HK.out.rb.len hen
        have HS2 : Hid (Sq (esR (k + 1)) l14 e14 l2' 0 (es ++ [x])) := es_snoc HK.out.sq HS1.out
        have hrfe : Hid (rf = RF es) := HK.out.rf
        have hise : Hid (is.map (·.e) = if keep then es else []) := HK.out.ise
        have hlen := HK.out.len
        have hisl := HK.out.isl
        clear HK HS1 hen
        by_cases hrf : rf = 0
        · have hrb : (rf == 0) = true := by rw [hrf]; rfl
          have KP := pke_any x HEW.out HLK.out na nc ka kc x3 (by obtain ⟨L, h1, _⟩ := VV.out; exact h1.vl)
          go_wp2_with (refine ld_w (by rfl) 45 (.tmp 9) rfl g9 0 rfl (eC x na nc ka kc) _ B9.all Tryz.underlying45 rfl (sE HEW.out.h.1 _ _ _ _) ?_)
          refine KP.mono ?_
          rintro e' x4 ⟨p, rfl, HP⟩
          clear KP
          have Z8 := HP.out.bl
          have RR := RR.be Z8
          have HG : Hid (W.grownBy x4 (some r)) := gr_be HG.out Z8
          have B4 := B4.below Z8 B4.lt
          have B6 := B6.below Z8 B6.lt
          have B9 := B9.below Z8 B9.lt
          have ROW : Hid (RowE v3.heap.size x4 v is) := ROW.out.be Z8
          have VV : Hid (VNew wr x4 x.v na nc ka kc) := VV.out.be Z8
          have s4' := Z8.size
          obtain ⟨rf2, hrf2⟩ : ∃ rf2, Hid (mayE x = rf2) := ⟨_, rfl⟩
          rw [hrf2.out]
          have HR2 : Hid (rf2 = RF (es ++ [x])) := by show _ = _; rw [RF1.out es x (by rw [← hrfe.out]; exact hrf), hrf2.out]
          clear Z8 HP cr1 hrf hrb hrf2 hrfe
          cases keep with
          | false =>
            have HI : Hid (KInv w0 W r g4 g6 v3.heap.size false hd l14 e14 RF x4 (k + 1) rf2 (es ++ [x]) is v l2' 0) := ⟨RR, HG.out, B4, B6, ROW.out, hise.out, HS2.out, HR2.out, fun _ => rfl, by omega, by omega, by omega⟩
            clear RR HG B4 B6 ROW VV B9 HS2 HR2 hise
            go_wp2
            go_roundw
            case rel => exact ⟨k + 1, _, _, _, _, _, _, by omega, rfl, by go_num, HI.out⟩
            case measure => simp [intOf]; omega
          | true =>
            have c35 : x4.cell? ⟨g6, 35, none⟩ = some v := by have := B6.cell 35; rw [hC_last HL.out] at this; exact this
            have HB4 : Hid (Blk x4 g4 26 (bC noB none 0)) := B4
            have HB6 : Hid (Blk x4 g6 26 (hC hd v)) := B6
            have HRR : Hid (Rb w0 r x4 l2' 0) := RR
            have HLe : Hid ((eC x na nc ka kc).length = 46) := eC_len HEW.out.h.1 _ _ _ _
            clear B4 B6 RR
            go_wp2_with (first | (refine ld_w (by rfl) 45 (.tmp 9) rfl g9 0 rfl (eC x na nc ka kc) _ B9.all Tryz.underlying45 rfl (sE HEW.out.h.1 _ _ _ _) ?_) | (refine bs_en rfl (.tmp 53) rfl (eC x na nc ka kc) HLe.out rfl ?_) | (at_builtin; go_must (refine app_en rfl (.tmp 52) (.tmp 54) rfl v3.heap.size v is.length (is.flatMap itC) rfl (ROW.out.row.alloc _) x4.heap.size 1 1 (eC x na nc ka kc) rfl (by rw [HLe.out]) (fun j u hj => by rw [World.cell?_alloc_new]; show (eC x na nc ka kc).toArray[j]? = some u; rw [List.getElem?_toArray]; exact hj) (eC_one _ _ _ _ _) (by omega) (by simp; omega) ?_)))
            intro v7 x7 R7 G7 O7
            have ZA : Below x4.heap.size x4 (x4.alloc (.cells (eC x na nc ka kc).toArray 45)) := (Below.refl _ _).alloc (Nat.le_refl _) _
            have hlo : ∀ z, v.ownBlock = some z → v3.heap.size ≤ z := fun z e => (World.ownsRow.lt ROW.out.row z e).1
            have hRa := HRR.out.be ZA
            have RR := hRa.row G7 (fun z e => by have := hlo z e; omega)
            have HG7 := gr_row (gr_be HG.out ZA) G7 (fun z e => by have := hlo z e; omega)
            have B4 := (HB4.out.below ZA HB4.out.lt).kept G7 (fun e => by have := hlo _ e.symm; omega)
            have B6 := (HB6.out.below ZA HB6.out.lt).kept G7 (fun e => by have := hlo _ e.symm; omega)
            have ROW7 : RowE v3.heap.size x7 v7 (is ++ [⟨x, na, nc, ka, kc⟩]) := by
              obtain ⟨LL, q1, q2⟩ := VV.out.be ZA
              refine (ROW.out.be ZA).snoc (i := ⟨x, na, nc, ka, kc⟩) HEW.out q1 (fun z hz => ⟨by have := (q2 z hz).1; omega, (q2 z hz).2, fun e => ?_⟩) R7 G7 (O7.imp id fun e => by rw [e]; simp)
              have h1 := hnv.out z e
              have h2 := (q2 z hz).1
              omega
            obtain ⟨a7, c7, e7, _⟩ := ROW7.esm
            rw [List.length_append, List.length_singleton] at e7
            subst e7
            have s7' : v3.heap.size ≤ x7.heap.size := by have := ZA.size; have := G7.size; omega
            clear ZA hRa R7 G7 O7 c35 HRR HB4 HB6 ROW VV HG hlo
            go_wp2_with (refine st_one rfl 24 (.tmp 56) (.tmp 55) rfl g6 35 26 _ (.slice a7 (is.length + 1) c7) rfl rfl rfl rfl (by rw [hC_len HL.out]; decide) B6 s24' ?_)
            intro x8 B6' G8
            have s8' := G8.size
            have HI : Hid (KInv w0 W r g4 g6 v3.heap.size true hd l14 e14 RF x8 (k + 1) rf2 (es ++ [x]) (is ++ [⟨x, na, nc, ka, kc⟩]) (.slice a7 (is.length + 1) c7) l2' 0) := ⟨RR.st G8 (by omega) (by omega), gr_st HG7 G8 hw6, B4.kept G8 (fun e => n46 (Option.some.inj e)), by rw [hC_set HL.out] at B6'; exact B6', ROW7.kept G8 (fun z e => by have := Option.some.inj e; omega), by rw [List.map_append, hise.out]; rfl, HS2.out, HR2.out, fun _ => rfl, by omega, by omega, by rw [List.length_append, List.length_singleton]; omega⟩
            clear RR HG7 B4 B6 B6' G8 ROW7 HS2 HR2 hise B9
            go_wp2
            go_roundw
            case rel => exact ⟨k + 1, _, _, _, _, _, _, by omega, rfl, by go_num, HI.out⟩
            case measure => simp [intOf]; omega
        · have hrb : (rf == 0) = false := beq_eq_false_iff_ne.2 hrf
          have HR2 : Hid (rf = RF (es ++ [x])) := by show _ = _; rw [RF2.out es x (by rw [← hrfe.out]; exact hrf), hrfe.out]
          clear hrf hrfe
          cases keep with
          | false =>
            have HI : Hid (KInv w0 W r g4 g6 v3.heap.size false hd l14 e14 RF x3 (k + 1) rf (es ++ [x]) is v l2' 0) := ⟨RR, HG.out, B4, B6, ROW.out, hise.out, HS2.out, HR2.out, fun _ => rfl, by omega, by omega, by omega⟩
            clear RR HG B4 B6 ROW VV B9 HS2 HR2 hise
            go_wp2
            go_roundw
            case rel => exact ⟨k + 1, _, _, _, _, _, _, by omega, rfl, by go_num, HI.out⟩
            case measure => simp [intOf]; omega
          | true =>
            have c35 : x3.cell? ⟨g6, 35, none⟩ = some v := by have := B6.cell 35; rw [hC_last HL.out] at this; exact this
            have HB4 : Hid (Blk x3 g4 26 (bC noB none 0)) := B4
            have HB6 : Hid (Blk x3 g6 26 (hC hd v)) := B6
            have HRR : Hid (Rb w0 r x3 l2' 0) := RR
            have HLe : Hid ((eC x na nc ka kc).length = 46) := eC_len HEW.out.h.1 _ _ _ _
            clear B4 B6 RR
            go_wp2_with (first | (refine ld_w (by rfl) 45 (.tmp 9) rfl g9 0 rfl (eC x na nc ka kc) _ B9.all Tryz.underlying45 rfl (sE HEW.out.h.1 _ _ _ _) ?_) | (refine bs_en rfl (.tmp 53) rfl (eC x na nc ka kc) HLe.out rfl ?_) | (at_builtin; go_must (refine app_en rfl (.tmp 52) (.tmp 54) rfl v3.heap.size v is.length (is.flatMap itC) rfl (ROW.out.row.alloc _) x3.heap.size 1 1 (eC x na nc ka kc) rfl (by rw [HLe.out]) (fun j u hj => by rw [World.cell?_alloc_new]; show (eC x na nc ka kc).toArray[j]? = some u; rw [List.getElem?_toArray]; exact hj) (eC_one _ _ _ _ _) (by omega) (by simp; omega) ?_)))
            intro v7 x7 R7 G7 O7
            have ZA : Below x3.heap.size x3 (x3.alloc (.cells (eC x na nc ka kc).toArray 45)) := (Below.refl _ _).alloc (Nat.le_refl _) _
            have hlo : ∀ z, v.ownBlock = some z → v3.heap.size ≤ z := fun z e => (World.ownsRow.lt ROW.out.row z e).1
            have hRa := HRR.out.be ZA
            have RR := hRa.row G7 (fun z e => by have := hlo z e; omega)
            have HG7 := gr_row (gr_be HG.out ZA) G7 (fun z e => by have := hlo z e; omega)
            have B4 := (HB4.out.below ZA HB4.out.lt).kept G7 (fun e => by have := hlo _ e.symm; omega)
            have B6 := (HB6.out.below ZA HB6.out.lt).kept G7 (fun e => by have := hlo _ e.symm; omega)
            have ROW7 : RowE v3.heap.size x7 v7 (is ++ [⟨x, na, nc, ka, kc⟩]) := by
              obtain ⟨LL, q1, q2⟩ := VV.out.be ZA
              refine (ROW.out.be ZA).snoc (i := ⟨x, na, nc, ka, kc⟩) HEW.out q1 (fun z hz => ⟨by have := (q2 z hz).1; omega, (q2 z hz).2, fun e => ?_⟩) R7 G7 (O7.imp id fun e => by rw [e]; simp)
              have h1 := hnv.out z e
              have h2 := (q2 z hz).1
              omega
            obtain ⟨a7, c7, e7, _⟩ := ROW7.esm
            rw [List.length_append, List.length_singleton] at e7
            subst e7
            have s7' : v3.heap.size ≤ x7.heap.size := by have := ZA.size; have := G7.size; omega
            clear ZA hRa R7 G7 O7 c35 HRR HB4 HB6 ROW VV HG hlo
            go_wp2_with (refine st_one rfl 24 (.tmp 56) (.tmp 55) rfl g6 35 26 _ (.slice a7 (is.length + 1) c7) rfl rfl rfl rfl (by rw [hC_len HL.out]; decide) B6 s24' ?_)
            intro x8 B6' G8
            have s8' := G8.size
            have HI : Hid (KInv w0 W r g4 g6 v3.heap.size true hd l14 e14 RF x8 (k + 1) rf (es ++ [x]) (is ++ [⟨x, na, nc, ka, kc⟩]) (.slice a7 (is.length + 1) c7) l2' 0) := ⟨RR.st G8 (by omega) (by omega), gr_st HG7 G8 hw6, B4.kept G8 (fun e => n46 (Option.some.inj e)), by rw [hC_set HL.out] at B6'; exact B6', ROW7.kept G8 (fun z e => by have := Option.some.inj e; omega), by rw [List.map_append, hise.out]; rfl, HS2.out, HR2.out, fun _ => rfl, by omega, by omega, by rw [List.length_append, List.length_singleton]; omega⟩
            clear RR HG7 B4 B6 B6' G8 ROW7 HS2 HR2 hise B9
            go_wp2
            go_roundw
            case rel => exact ⟨k + 1, _, _, _, _, _, _, by omega, rfl, by go_num, HI.out⟩
            case measure => simp [intOf]; omega
      · have hnb : (e2' != 0) = true := by simpa using he2
        obtain ⟨C, hCd⟩ : ∃ C : World → Prop, C = fun W => W.cell? ⟨r, 1, none⟩ = some (.int .i64 e2') := ⟨_, rfl⟩
        have CN : Hid (∀ W, C W → W.cell? ⟨r, 1, none⟩ = some (.int .i64 e2')) := fun W h => by rw [hCd] at h; exact h
        have CI : Hid (∀ W : World, W.cell? ⟨r, 1, none⟩ = some (.int .i64 e2') → C W) := fun W h => by rw [hCd]; exact h
        have D0 : Below x3.heap.size x3 { x3 with drawn := x3.drawn + 1 } := Below.drew (Below.refl _ _)
        have C0 : Hid (C { x3 with drawn := x3.drawn + 1 }) := CI.out _ cr1
        have HB4v : Hid (Blk { x3 with drawn := x3.drawn + 1 } g4 26 (bC noB none 0)) := B4.below D0 B4.lt
        have HRv : Hid (Rb w0 r { x3 with drawn := x3.drawn + 1 } l2' e2') := RR.be D0
        have HGv : Hid (W.grownBy { x3 with drawn := x3.drawn + 1 } (some r)) := gr_be HG.out D0
        have HSN : Hid (Sq bkR l 0 l2' e2' ⟨hd.ix, hd.tm, hd.tx, hd.pv, es⟩) := HSQ.out _ _ _ (es_stop (show k + 1 ≤ n by omega) (es_snoc HK.out.sq HS1.out) he2)
        have HE2 : Hid (e2' ≠ 0) := he2
        clear hCd D0 B4 B6 RR HG ROW VV B9 HK HS1 he2 hnv
        go_wp2_with fail
        clear cr1
        refine region_calm C 6 (by kernel_rfl) ?_
        have hCp : ∀ p : Prop, (∀ W, C W → p) ↔ p := fun p => ⟨fun h => h _ C0.out, fun h _ _ => h⟩
        generalize ({ x3 with drawn := x3.drawn + 1 } : World) = y0 at *
        refine seg 2 [0, 1, 2, 3, 4] rfl (by kernel_rfl) whole_blind C0.out (by kernel_rfl) ?_
        change wpQuiet _ _ _ _ (_ :: _ :: _ :: _ :: _ :: []) _
        repeat (first
          | go_big_quiet_skip
          | (go_big_quiet_want
             first
             | (refine q_bd 26 #[] rfl (bC noB none 0) (bd_blk _) ?_
                simp only [Act.put, List.setIfInBounds_toArray, List.set_cons_zero, List.set_cons_succ]
                go_big_quiet_on)
             | (refine qb_nil (.tmp 39) rfl r 0 rfl ?_
                simp only [Act.put, List.setIfInBounds_toArray, List.set_cons_zero, List.set_cons_succ]
                go_big_quiet_on)
             | (refine qb_fl (.tmp 40) rfl r rfl ?_
                simp only [Act.put, List.setIfInBounds_toArray, List.set_cons_zero, List.set_cons_succ]
                go_big_quiet_on)
             | (refine q_one 29 (.inr (.inr (.inr (.inr (.inr rfl))))) (.tmp 41) rfl r 1 rfl _ CN.out ?_
                simp only [Act.put, List.setIfInBounds_toArray, List.set_cons_zero, List.set_cons_succ]
                go_big_quiet_on)
             | (go_big_quiet_op
                go_big_quiet_on)))
        refine wpQuiet_nil ?_
        refine lone_do (i := 5) 1 rfl (by kernel_rfl) rfl (by rfl) ?_
        intro K hK
        refine oper_sta 26 (.tmp 4) (.tmp 38) rfl rfl g4 26 (bC noB none 0) (bC noB none 0) rfl rfl HB4v.out rfl (sB zr_len _ _) (bC_one _ _ _) ?_
        intro y3 b3 gr3
        have HB3 : Hid (Blk y3 g4 26 (bC noB none 0)) := b3
        have hR3 := HRv.out.st gr3 (by omega) (by omega)
        have HF : Hid (BlR w0 W y3 r l keep noB none 0 e2' l2' e2' ⟨hd.ix, hd.tm, hd.tx, hd.pv, es⟩) := ⟨hR3, gr_st HGv.out gr3 l2, HSN.out, ⟨i64n (u := 0) (by omega), i64n (u := 0) (by omega), i64n (u := 0) (by omega), h32_zr, by simp [noB], by simp [noB]⟩, ⟨[], RowE.nil _ _, rfl⟩, fun z => absurd z HE2.out⟩
        have c3 : C y3 := by
          obtain ⟨sa, sc, hbr, _⟩ := hR3.ex
          exact CI.out _ (hbr.cell 1)
        clear b3 gr3 HB4v HRv HGv C0 HSN hR3
        refine hK _ _ c3 ?_
        simp only [Act.put, List.setIfInBounds_toArray, List.set_cons_zero, List.set_cons_succ]
        have hCq : ∀ p : Prop, (∀ W, C W → p) ↔ p := fun p => ⟨fun h => h _ c3, fun h _ _ => h⟩
        refine lone_calm (i := 6) 0 rfl (by kernel_rfl) rfl rfl c3 ?_
        go_big_quiet_want
        go_big_quiet_op
        go_big_quiet_on
        refine wpQuiet_nil ?_
        refine anyC_done (by kernel_rfl) ⟨rfl, ?_⟩
        clear c3 hCq CN CI hCp
        go_wp2
        (try simp only [Exit.inBlock, Exit.then])
        refine bodyPost_ret (res_two rfl _ g4 26 _ _ rfl HB3.out Tryz.underlying26 rfl (sB zr_len _ _)) rfl ⟨noB, none, 0, e2', l2', e2', _, rfl, HF.out⟩
  | false =>
    obtain ⟨RF, hRF⟩ : ∃ RF : List En → Int, Hid (RF = fun _ => 1) := ⟨_, rfl⟩
    have RF1 : Hid (∀ es x, RF es = 0 → RF (es ++ [x]) = mayE x) := fun es x h => by rw [hRF.out] at h ⊢; cases h
    have RF2 : Hid (∀ es x, RF es ≠ 0 → RF (es ++ [x]) = RF es) := fun es x h => by rw [hRF.out] at h ⊢; skip
    have RF3 : Hid (∀ es : List En, (if HeadP hd (n : Int) then fstE es else 1) = RF es) := fun es => by rw [hRF.out]; rw [if_neg (of_decide_eq_false ht.out)]
    have HI0 : Hid (KInv w0 W r g4 g6 v3.heap.size keep hd l14 e14 RF v4 0 1 [] [] (.slice none 0 0) l14 e14) := ⟨RR, HG.out, B4, B6, RowE.nil _ _, by cases keep <;> rfl, sq_ret _ _ _, by rw [hRF.out], fun h => absurd rfl h, by have := RR.len; omega, hM, Nat.le_refl _⟩
    clear RR HG B4 B6 ht hRF
    go_wp2
    go_loopw [8, 29] (fun vr i wr => ∃ (k : Nat) (rf : Int) (es : List En) (is : List It) (v : Value) (lk : List Nat) (ek : Int), k ≤ n ∧ vr = .int .i64 rf ∧ i = .int .i64 (k : Int) ∧ Hid (KInv w0 W r g4 g6 v3.heap.size keep hd l14 e14 RF wr k rf es is v lk ek)) (fun _ i _ => n - (intOf i).toNat)
    case atStart => exact ⟨0, _, [], [], _, _, _, by omega, rfl, rfl, HI0.out⟩
    case round =>
      clear HI0
      obtain ⟨k, rf, es, is, v, lk, ek, hk, rfl, rfl, HK⟩ := hrel
      have zr' := HK.out.m
      by_cases hlt : k < n
      case neg =>
        have B4 := HK.out.b4
        have B6 := HK.out.b6
        have H1C : Hid (∀ u ∈ hC hd v, u.oneCell' = true) := by
          obtain ⟨a, c, rfl, _⟩ := HK.out.row.esm
          have h := bC_one ⟨hd.ix, hd.tm, hd.tx, hd.pv, List.replicate is.length e0⟩ a c
          have e : bC ⟨hd.ix, hd.tm, hd.tx, hd.pv, List.replicate is.length e0⟩ a c = hC hd (.slice a is.length c) := by unfold bC hC; rw [List.length_replicate]
          rw [e] at h
          exact h
        have HSz : Hid ((Tryz.prog.info? 26).map (·.size) = some (hC hd v).length) := by show _ = _; rw [hC_len HL.out, ← bC_len (b := noB) zr_len none 0]; exact sB zr_len _ _
        have HSl : Hid ((hC hd v).length = (bC noB none 0).length) := by show _ = _; rw [hC_len HL.out, bC_len zr_len]
        go_wp2_with (first | (refine ld_w (by rfl) 26 (.tmp 6) rfl g6 0 rfl (hC hd v) _ B6.all Tryz.underlying26 rfl HSz.out ?_) | (refine st_all rfl 26 (.tmp 4) (.tmp 58) rfl g4 26 (bC noB none 0) (hC hd v) rfl rfl B4 HSl.out HSz.out H1C.out ?_))
        intro wz BZ G0
        have hF := HK.out
        have hE := (hF.row.kept G0 (fun x e => by have := Option.some.inj e; omega)).mono (M' := W.heap.size) (by omega)
        obtain ⟨a, c, rfl, _⟩ := hE.esm
        have hkn : k = n := by omega
        have HF : Hid (BlR w0 W wz r l keep ⟨hd.ix, hd.tm, hd.tx, hd.pv, is.map (·.e)⟩ a c rf lk ek ⟨hd.ix, hd.tm, hd.tx, hd.pv, es⟩) := by
          refine ⟨hF.rb.st G0 (by omega) (by omega), gr_st hF.gr G0 l2, HSQ.out _ _ _ (hkn ▸ hF.sq), ⟨HW.out.ix, HW.out.tm, HW.out.tx, HW.out.pv, fun e he => ?_, ?_⟩, ⟨is, hE, rfl⟩, fun z => ⟨?_, fun kp => ?_⟩⟩
          · obtain ⟨i, hi, rfl⟩ := List.mem_map.1 he
            exact hF.row.ew i hi
          · show (is.map (·.e)).length ≤ _
            rw [List.length_map]
            have := hF.isl
            have := hF.len
            omega
          · have hq := hF.sq
            rw [z] at hq
            have hr := hF.rb
            have hel : es.length = n := by
              rw [← hkn]
              exact HEL.out _ _ _ hq
            rw [hF.rf]
            show RF es = if HeadP (⟨hd.ix, hd.tm, hd.tx, hd.pv, es⟩ : Bk) (es.length : Int) then fstE es else 1
            rw [hel, ← RF3.out es]
          · have := hF.ise
            rw [kp, if_pos rfl] at this
            rw [this]
        have hbz : hC hd (.slice a is.length c) = bC ⟨hd.ix, hd.tm, hd.tx, hd.pv, is.map (·.e)⟩ a c := by unfold bC hC; rw [List.length_map]
        rw [hbz] at BZ
        clear G0 hF hE HK B4 B6 hbz
        go_wp2
        (try simp only [Exit.inBlock, Exit.then])
        refine bodyPost_ret (res_two rfl _ g4 26 _ _ rfl BZ Tryz.underlying26 rfl (sB (b := ⟨hd.ix, hd.tm, hd.tx, hd.pv, is.map (·.e)⟩) HL.out _ _)) rfl ⟨_, a, c, rf, lk, ek, _, rfl, HF.out⟩
      have K := bentry_any w0 wr r lk ek HK.out.rb (fun z => HSF.out k es lk hlt (z ▸ HK.out.sq))
      go_wp2_with fail
      refine K.mono ?_
      clear K
      rintro e x1 ⟨x, l2', e2', na, nc, ka, kc, rfl, H⟩
      obtain ⟨hR1, hG1, hS1, hV1, hW1⟩ := H.out
      have HEW : Hid (EnW x) := hW1
      have HS1 : Hid (Sq enR lk ek l2' e2' x) := hS1
      have RR := hR1
      have HG := HK.out.gr.trans hG1
      have B4 := HK.out.b4.kept hG1 (fun e => by have := Option.some.inj e; omega)
      have B6 := HK.out.b6.kept hG1 (fun e => by have := Option.some.inj e; omega)
      have ROW := HK.out.row.kept hG1 (fun z e => by have := Option.some.inj e; omega)
      have VV := hV1
      have s1' := hG1.size
      have hnv : Hid (∀ z, v.ownBlock = some z → z < wr.heap.size) := fun z e => (World.ownsRow.lt HK.out.row.row z e).2
      clear H hR1 hG1 hS1 hV1 hW1
      go_wp2_with (refine al_zero rfl 45 rfl (eC e0 none 0 none 0) zEn ?_)
      intro g9 x2 l9 B9 G0
      have Z6 := (Below.refl x1.heap.size x1).grown G0 (Nat.le_refl _) (by simp)
      clear G0
      go_wp2_with (refine st_all rfl 45 (.tmp 9) (.tmp 32) rfl g9 45 (eC e0 none 0 none 0) (eC x na nc ka kc) rfl rfl B9 (by rw [eC_len HEW.out.h.1, eC_len zr_len]) (sE HEW.out.h.1 _ _ _ _) (eC_one _ _ _ _ _) ?_)
      intro x3 B9' G0
      have Z7 := Sh.grown_below Z6 G0 Z6.size l9
      have RR := RR.be Z7
      have HG : Hid (W.grownBy x3 (some r)) := gr_be HG Z7
      have B4 := B4.below Z7 B4.lt
      have B6 := B6.below Z7 B6.lt
      have ROW : Hid (RowE v3.heap.size x3 v is) := ROW.be Z7
      have VV : Hid (VNew wr x3 x.v na nc ka kc) := VV.be Z7
      have s3' := Z7.size
      have B9 := B9'
      clear B9' G0 Z6 Z7
      obtain ⟨sa, sc, hbr, _⟩ := RR.ex
      have cr1 : x3.cell? ⟨r, 1, none⟩ = some (.int .i64 e2') := hbr.cell 1
      clear hbr
      by_cases he2 : e2' = 0
      · subst he2
        have hnb : ((0 : Int) != 0) = false := rfl
        obtain ⟨hek, hen⟩ := sq_ok HS1.out
        subst hek
        have HLK : Hid (Lk x.v) := en_lk HK.out.rb.oct hen
        have hless := en_less HK.out.rb.oct HK.out.rb.len hen
        have HS2 : Hid (Sq (esR (k + 1)) l14 e14 l2' 0 (es ++ [x])) := es_snoc HK.out.sq HS1.out
        have hrfe : Hid (rf = RF es) := HK.out.rf
        have hise : Hid (is.map (·.e) = if keep then es else []) := HK.out.ise
        have hlen := HK.out.len
        have hisl := HK.out.isl
        clear HK HS1 hen
        by_cases hrf : rf = 0
        · have hrb : (rf == 0) = true := by rw [hrf]; rfl
          have KP := pke_any x HEW.out HLK.out na nc ka kc x3 (by obtain ⟨L, h1, _⟩ := VV.out; exact h1.vl)
          go_wp2_with (refine ld_w (by rfl) 45 (.tmp 9) rfl g9 0 rfl (eC x na nc ka kc) _ B9.all Tryz.underlying45 rfl (sE HEW.out.h.1 _ _ _ _) ?_)
          refine KP.mono ?_
          rintro e' x4 ⟨p, rfl, HP⟩
          clear KP
          have Z8 := HP.out.bl
          have RR := RR.be Z8
          have HG : Hid (W.grownBy x4 (some r)) := gr_be HG.out Z8
          have B4 := B4.below Z8 B4.lt
          have B6 := B6.below Z8 B6.lt
          have B9 := B9.below Z8 B9.lt
          have ROW : Hid (RowE v3.heap.size x4 v is) := ROW.out.be Z8
          have VV : Hid (VNew wr x4 x.v na nc ka kc) := VV.out.be Z8
          have s4' := Z8.size
          obtain ⟨rf2, hrf2⟩ : ∃ rf2, Hid (mayE x = rf2) := ⟨_, rfl⟩
          rw [hrf2.out]
          have HR2 : Hid (rf2 = RF (es ++ [x])) := by show _ = _; rw [RF1.out es x (by rw [← hrfe.out]; exact hrf), hrf2.out]
          clear Z8 HP cr1 hrf hrb hrf2 hrfe
          cases keep with
          | false =>
            have HI : Hid (KInv w0 W r g4 g6 v3.heap.size false hd l14 e14 RF x4 (k + 1) rf2 (es ++ [x]) is v l2' 0) := ⟨RR, HG.out, B4, B6, ROW.out, hise.out, HS2.out, HR2.out, fun _ => rfl, by omega, by omega, by omega⟩
            clear RR HG B4 B6 ROW VV B9 HS2 HR2 hise
            go_wp2
            go_roundw
            case rel => exact ⟨k + 1, _, _, _, _, _, _, by omega, rfl, by go_num, HI.out⟩
            case measure => simp [intOf]; omega
          | true =>
            have c35 : x4.cell? ⟨g6, 35, none⟩ = some v := by have := B6.cell 35; rw [hC_last HL.out] at this; exact this
            have HB4 : Hid (Blk x4 g4 26 (bC noB none 0)) := B4
            have HB6 : Hid (Blk x4 g6 26 (hC hd v)) := B6
            have HRR : Hid (Rb w0 r x4 l2' 0) := RR
            have HLe : Hid ((eC x na nc ka kc).length = 46) := eC_len HEW.out.h.1 _ _ _ _
            clear B4 B6 RR
            go_wp2_with (first | (refine ld_w (by rfl) 45 (.tmp 9) rfl g9 0 rfl (eC x na nc ka kc) _ B9.all Tryz.underlying45 rfl (sE HEW.out.h.1 _ _ _ _) ?_) | (refine bs_en rfl (.tmp 53) rfl (eC x na nc ka kc) HLe.out rfl ?_) | (at_builtin; go_must (refine app_en rfl (.tmp 52) (.tmp 54) rfl v3.heap.size v is.length (is.flatMap itC) rfl (ROW.out.row.alloc _) x4.heap.size 1 1 (eC x na nc ka kc) rfl (by rw [HLe.out]) (fun j u hj => by rw [World.cell?_alloc_new]; show (eC x na nc ka kc).toArray[j]? = some u; rw [List.getElem?_toArray]; exact hj) (eC_one _ _ _ _ _) (by omega) (by simp; omega) ?_)))
            intro v7 x7 R7 G7 O7
            have ZA : Below x4.heap.size x4 (x4.alloc (.cells (eC x na nc ka kc).toArray 45)) := (Below.refl _ _).alloc (Nat.le_refl _) _
            have hlo : ∀ z, v.ownBlock = some z → v3.heap.size ≤ z := fun z e => (World.ownsRow.lt ROW.out.row z e).1
            have hRa := HRR.out.be ZA
            have RR := hRa.row G7 (fun z e => by have := hlo z e; omega)
            have HG7 := gr_row (gr_be HG.out ZA) G7 (fun z e => by have := hlo z e; omega)
            have B4 := (HB4.out.below ZA HB4.out.lt).kept G7 (fun e => by have := hlo _ e.symm; omega)
            have B6 := (HB6.out.below ZA HB6.out.lt).kept G7 (fun e => by have := hlo _ e.symm; omega)
            have ROW7 : RowE v3.heap.size x7 v7 (is ++ [⟨x, na, nc, ka, kc⟩]) := by
              obtain ⟨LL, q1, q2⟩ := VV.out.be ZA
              refine (ROW.out.be ZA).snoc (i := ⟨x, na, nc, ka, kc⟩) HEW.out q1 (fun z hz => ⟨by have := (q2 z hz).1; omega, (q2 z hz).2, fun e => ?_⟩) R7 G7 (O7.imp id fun e => by rw [e]; simp)
              have h1 := hnv.out z e
              have h2 := (q2 z hz).1
              omega
            obtain ⟨a7, c7, e7, _⟩ := ROW7.esm
            rw [List.length_append, List.length_singleton] at e7
            subst e7
            have s7' : v3.heap.size ≤ x7.heap.size := by have := ZA.size; have := G7.size; omega
            clear ZA hRa R7 G7 O7 c35 HRR HB4 HB6 ROW VV HG hlo
            go_wp2_with (refine st_one rfl 24 (.tmp 56) (.tmp 55) rfl g6 35 26 _ (.slice a7 (is.length + 1) c7) rfl rfl rfl rfl (by rw [hC_len HL.out]; decide) B6 s24' ?_)
            intro x8 B6' G8
            have s8' := G8.size
            have HI : Hid (KInv w0 W r g4 g6 v3.heap.size true hd l14 e14 RF x8 (k + 1) rf2 (es ++ [x]) (is ++ [⟨x, na, nc, ka, kc⟩]) (.slice a7 (is.length + 1) c7) l2' 0) := ⟨RR.st G8 (by omega) (by omega), gr_st HG7 G8 hw6, B4.kept G8 (fun e => n46 (Option.some.inj e)), by rw [hC_set HL.out] at B6'; exact B6', ROW7.kept G8 (fun z e => by have := Option.some.inj e; omega), by rw [List.map_append, hise.out]; rfl, HS2.out, HR2.out, fun _ => rfl, by omega, by omega, by rw [List.length_append, List.length_singleton]; omega⟩
            clear RR HG7 B4 B6 B6' G8 ROW7 HS2 HR2 hise B9
            go_wp2
            go_roundw
            case rel => exact ⟨k + 1, _, _, _, _, _, _, by omega, rfl, by go_num, HI.out⟩
            case measure => simp [intOf]; omega
        · have hrb : (rf == 0) = false := beq_eq_false_iff_ne.2 hrf
          have HR2 : Hid (rf = RF (es ++ [x])) := by show _ = _; rw [RF2.out es x (by rw [← hrfe.out]; exact hrf), hrfe.out]
          clear hrf hrfe
          cases keep with
          | false =>
            have HI : Hid (KInv w0 W r g4 g6 v3.heap.size false hd l14 e14 RF x3 (k + 1) rf (es ++ [x]) is v l2' 0) := ⟨RR, HG.out, B4, B6, ROW.out, hise.out, HS2.out, HR2.out, fun _ => rfl, by omega, by omega, by omega⟩
            clear RR HG B4 B6 ROW VV B9 HS2 HR2 hise
            go_wp2
            go_roundw
            case rel => exact ⟨k + 1, _, _, _, _, _, _, by omega, rfl, by go_num, HI.out⟩
            case measure => simp [intOf]; omega
          | true =>
            have c35 : x3.cell? ⟨g6, 35, none⟩ = some v := by have := B6.cell 35; rw [hC_last HL.out] at this; exact this
            have HB4 : Hid (Blk x3 g4 26 (bC noB none 0)) := B4
            have HB6 : Hid (Blk x3 g6 26 (hC hd v)) := B6
            have HRR : Hid (Rb w0 r x3 l2' 0) := RR
            have HLe : Hid ((eC x na nc ka kc).length = 46) := eC_len HEW.out.h.1 _ _ _ _
            clear B4 B6 RR
            go_wp2_with (first | (refine ld_w (by rfl) 45 (.tmp 9) rfl g9 0 rfl (eC x na nc ka kc) _ B9.all Tryz.underlying45 rfl (sE HEW.out.h.1 _ _ _ _) ?_) | (refine bs_en rfl (.tmp 53) rfl (eC x na nc ka kc) HLe.out rfl ?_) | (at_builtin; go_must (refine app_en rfl (.tmp 52) (.tmp 54) rfl v3.heap.size v is.length (is.flatMap itC) rfl (ROW.out.row.alloc _) x3.heap.size 1 1 (eC x na nc ka kc) rfl (by rw [HLe.out]) (fun j u hj => by rw [World.cell?_alloc_new]; show (eC x na nc ka kc).toArray[j]? = some u; rw [List.getElem?_toArray]; exact hj) (eC_one _ _ _ _ _) (by omega) (by simp; omega) ?_)))
            intro v7 x7 R7 G7 O7
            have ZA : Below x3.heap.size x3 (x3.alloc (.cells (eC x na nc ka kc).toArray 45)) := (Below.refl _ _).alloc (Nat.le_refl _) _
            have hlo : ∀ z, v.ownBlock = some z → v3.heap.size ≤ z := fun z e => (World.ownsRow.lt ROW.out.row z e).1
            have hRa := HRR.out.be ZA
            have RR := hRa.row G7 (fun z e => by have := hlo z e; omega)
            have HG7 := gr_row (gr_be HG.out ZA) G7 (fun z e => by have := hlo z e; omega)
            have B4 := (HB4.out.below ZA HB4.out.lt).kept G7 (fun e => by have := hlo _ e.symm; omega)
            have B6 := (HB6.out.below ZA HB6.out.lt).kept G7 (fun e => by have := hlo _ e.symm; omega)
            have ROW7 : RowE v3.heap.size x7 v7 (is ++ [⟨x, na, nc, ka, kc⟩]) := by
              obtain ⟨LL, q1, q2⟩ := VV.out.be ZA
              refine (ROW.out.be ZA).snoc (i := ⟨x, na, nc, ka, kc⟩) HEW.out q1 (fun z hz => ⟨by have := (q2 z hz).1; omega, (q2 z hz).2, fun e => ?_⟩) R7 G7 (O7.imp id fun e => by rw [e]; simp)
              have h1 := hnv.out z e
              have h2 := (q2 z hz).1
              omega
            obtain ⟨a7, c7, e7, _⟩ := ROW7.esm
            rw [List.length_append, List.length_singleton] at e7
            subst e7
            have s7' : v3.heap.size ≤ x7.heap.size := by have := ZA.size; have := G7.size; omega
            clear ZA hRa R7 G7 O7 c35 HRR HB4 HB6 ROW VV HG hlo
            go_wp2_with (refine st_one rfl 24 (.tmp 56) (.tmp 55) rfl g6 35 26 _ (.slice a7 (is.length + 1) c7) rfl rfl rfl rfl (by rw [hC_len HL.out]; decide) B6 s24' ?_)
            intro x8 B6' G8
            have s8' := G8.size
            have HI : Hid (KInv w0 W r g4 g6 v3.heap.size true hd l14 e14 RF x8 (k + 1) rf (es ++ [x]) (is ++ [⟨x, na, nc, ka, kc⟩]) (.slice a7 (is.length + 1) c7) l2' 0) := ⟨RR.st G8 (by omega) (by omega), gr_st HG7 G8 hw6, B4.kept G8 (fun e => n46 (Option.some.inj e)), by rw [hC_set HL.out] at B6'; exact B6', ROW7.kept G8 (fun z e => by have := Option.some.inj e; omega), by rw [List.map_append, hise.out]; rfl, HS2.out, HR2.out, fun _ => rfl, by omega, by omega, by rw [List.length_append, List.length_singleton]; omega⟩
            clear RR HG7 B4 B6 B6' G8 ROW7 HS2 HR2 hise B9
            go_wp2
            go_roundw
            case rel => exact ⟨k + 1, _, _, _, _, _, _, by omega, rfl, by go_num, HI.out⟩
            case measure => simp [intOf]; omega
      · have hnb : (e2' != 0) = true := by simpa using he2
        obtain ⟨C, hCd⟩ : ∃ C : World → Prop, C = fun W => W.cell? ⟨r, 1, none⟩ = some (.int .i64 e2') := ⟨_, rfl⟩
        have CN : Hid (∀ W, C W → W.cell? ⟨r, 1, none⟩ = some (.int .i64 e2')) := fun W h => by rw [hCd] at h; exact h
        have CI : Hid (∀ W : World, W.cell? ⟨r, 1, none⟩ = some (.int .i64 e2') → C W) := fun W h => by rw [hCd]; exact h
        have D0 : Below x3.heap.size x3 { x3 with drawn := x3.drawn + 1 } := Below.drew (Below.refl _ _)
        have C0 : Hid (C { x3 with drawn := x3.drawn + 1 }) := CI.out _ cr1
        have HB4v : Hid (Blk { x3 with drawn := x3.drawn + 1 } g4 26 (bC noB none 0)) := B4.below D0 B4.lt
        have HRv : Hid (Rb w0 r { x3 with drawn := x3.drawn + 1 } l2' e2') := RR.be D0
        have HGv : Hid (W.grownBy { x3 with drawn := x3.drawn + 1 } (some r)) := gr_be HG.out D0
        have HSN : Hid (Sq bkR l 0 l2' e2' ⟨hd.ix, hd.tm, hd.tx, hd.pv, es⟩) := HSQ.out _ _ _ (es_stop (show k + 1 ≤ n by omega) (es_snoc HK.out.sq HS1.out) he2)
        have HE2 : Hid (e2' ≠ 0) := he2
        clear hCd D0 B4 B6 RR HG ROW VV B9 HK HS1 he2 hnv
        go_wp2_with fail
        clear cr1
        refine region_calm C 6 (by kernel_rfl) ?_
        have hCp : ∀ p : Prop, (∀ W, C W → p) ↔ p := fun p => ⟨fun h => h _ C0.out, fun h _ _ => h⟩
        generalize ({ x3 with drawn := x3.drawn + 1 } : World) = y0 at *
        refine seg 2 [0, 1, 2, 3, 4] rfl (by kernel_rfl) whole_blind C0.out (by kernel_rfl) ?_
        change wpQuiet _ _ _ _ (_ :: _ :: _ :: _ :: _ :: []) _
        repeat (first
          | go_big_quiet_skip
          | (go_big_quiet_want
             first
             | (refine q_bd 26 #[] rfl (bC noB none 0) (bd_blk _) ?_
                simp only [Act.put, List.setIfInBounds_toArray, List.set_cons_zero, List.set_cons_succ]
                go_big_quiet_on)
             | (refine qb_nil (.tmp 39) rfl r 0 rfl ?_
                simp only [Act.put, List.setIfInBounds_toArray, List.set_cons_zero, List.set_cons_succ]
                go_big_quiet_on)
             | (refine qb_fl (.tmp 40) rfl r rfl ?_
                simp only [Act.put, List.setIfInBounds_toArray, List.set_cons_zero, List.set_cons_succ]
                go_big_quiet_on)
             | (refine q_one 29 (.inr (.inr (.inr (.inr (.inr rfl))))) (.tmp 41) rfl r 1 rfl _ CN.out ?_
                simp only [Act.put, List.setIfInBounds_toArray, List.set_cons_zero, List.set_cons_succ]
                go_big_quiet_on)
             | (go_big_quiet_op
                go_big_quiet_on)))
        refine wpQuiet_nil ?_
        refine lone_do (i := 5) 1 rfl (by kernel_rfl) rfl (by rfl) ?_
        intro K hK
        refine oper_sta 26 (.tmp 4) (.tmp 38) rfl rfl g4 26 (bC noB none 0) (bC noB none 0) rfl rfl HB4v.out rfl (sB zr_len _ _) (bC_one _ _ _) ?_
        intro y3 b3 gr3
        have HB3 : Hid (Blk y3 g4 26 (bC noB none 0)) := b3
        have hR3 := HRv.out.st gr3 (by omega) (by omega)
        have HF : Hid (BlR w0 W y3 r l keep noB none 0 e2' l2' e2' ⟨hd.ix, hd.tm, hd.tx, hd.pv, es⟩) := ⟨hR3, gr_st HGv.out gr3 l2, HSN.out, ⟨i64n (u := 0) (by omega), i64n (u := 0) (by omega), i64n (u := 0) (by omega), h32_zr, by simp [noB], by simp [noB]⟩, ⟨[], RowE.nil _ _, rfl⟩, fun z => absurd z HE2.out⟩
        have c3 : C y3 := by
          obtain ⟨sa, sc, hbr, _⟩ := hR3.ex
          exact CI.out _ (hbr.cell 1)
        clear b3 gr3 HB4v HRv HGv C0 HSN hR3
        refine hK _ _ c3 ?_
        simp only [Act.put, List.setIfInBounds_toArray, List.set_cons_zero, List.set_cons_succ]
        have hCq : ∀ p : Prop, (∀ W, C W → p) ↔ p := fun p => ⟨fun h => h _ c3, fun h _ _ => h⟩
        refine lone_calm (i := 6) 0 rfl (by kernel_rfl) rfl rfl c3 ?_
        go_big_quiet_want
        go_big_quiet_op
        go_big_quiet_on
        refine wpQuiet_nil ?_
        refine anyC_done (by kernel_rfl) ⟨rfl, ?_⟩
        clear c3 hCq CN CI hCp
        go_wp2
        (try simp only [Exit.inBlock, Exit.then])
        refine bodyPost_ret (res_two rfl _ g4 26 _ _ rfl HB3.out Tryz.underlying26 rfl (sB zr_len _ _)) rfl ⟨noB, none, 0, e2', l2', e2', _, rfl, HF.out⟩
end Go.Proofs.YtlefdnjokppibaaGreatDoor.Sh
