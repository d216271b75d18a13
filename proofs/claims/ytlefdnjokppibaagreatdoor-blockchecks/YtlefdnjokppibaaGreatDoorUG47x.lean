/-
  The digests of an entry and of a block: the program's EntryHash; the document's Head, EntryHash, Hash. · The document's Hash of a block.
-/
import Derived.Test.YtlefdnjokppibaaGreatDoorUG38x
import Derived.Test.YtlefdnjokppibaaGreatDoorUG39x
import Derived.Test.YtlefdnjokppibaaGreatDoorUG46x
namespace Go.Proofs.YtlefdnjokppibaaGreatDoor.Sh
open Go Go.RowKit Math Mt
set_option linter.unusedVariables false
set_option linter.unusedSimpArgs false
/-- What EntryHash answers. -/
def ehA (e : En) : List Nat := if mayE e = 0 then lfE e else zr
theorem ehA32 (e : En) : H32 (ehA e) := by
  unfold ehA
  split
  · exact D32 _
  · exact h32_zr
set_option maxHeartbeats 1000000 in
set_option maxRecDepth 8000 in
theorem rhead_any (b : Bk) (hb : BkW b) (a : Option Addr) (c : Nat) (w : World) :
    Calls Tryz.prog 13 #[.agg (bC b a c).toArray] w fun e w' => e = .returned (.agg (nums .u8 (D (hedB b))).toArray) ∧ Hid (Below w.heap.size w w') := by
  have HL : Hid (b.pv.length = 32) := hb.pv.1
  have HB : Hid (BkW b) := hb
  clear hb
  go_enter Tryz.func13, Tryz.ntmps13
  go_wp2_with (refine al_box rfl 26 (.tmp 0) rfl (bC b a c) rfl ?_)
  intro g1 w1 l1 B1 G0
  have Z := (Below.refl w.heap.size w).grown G0 (Nat.le_refl _) (by simp)
  clear G0
  go_wp2_with (refine al_zero rfl 23 rfl (nums .u8 zr) zHt ?_)
  intro g2 w2 l2 B2 G0
  have hg2 : w.heap.size ≤ g2 := Nat.le_trans Z.size l2
  have Z := Z.grown G0 Z.size (by simp)
  have B1 := B1.kept G0 (by simp)
  clear G0
  have K := rhed_any b HB.out a c w2
  go_wp2_with (refine ld_w (by rfl) 26 (.tmp 1) rfl g1 0 rfl (bC b a c) _ B1.all Tryz.underlying26 rfl (sB HL.out _ _) ?_)
  refine K.mono ?_
  clear K
  rintro e w3 ⟨v3, rfl, O3⟩
  have H := O3.out.2
  have Z3 := Z.trans (H.mono Z.size)
  have B2 := B2.below H B2.lt
  obtain ⟨ax, cx, rfl, hby, hnil, hlc, _⟩ := O3.out.1.byt
  have hle := hed_len HB.out
  have K := rsum_any ax cx (hedB b) (by omega) w3 hby hnil (hed_oct HB.out)
  obtain ⟨L, hL⟩ : ∃ L, Hid (hedB b = L) := ⟨_, rfl⟩
  rw [hL.out] at K ⊢
  clear O3 H hby Z
  go_wp2_with fail
  refine K.mono ?_
  clear K
  rintro e w4 ⟨rfl, H⟩
  have Z4 := Z3.trans (H.mono Z3.size)
  have B2 := B2.below H B2.lt
  clear H
  go_wp2_with (refine st_all rfl 23 (.tmp 2) (.tmp 5) rfl g2 23 (nums .u8 zr) (nums .u8 (D L)) rfl rfl B2 (by rw [nums_length, nums_length, D_len]; rfl) (sD _) (nums_one _ _) ?_)
  intro w5 B5 G0
  have HF : Hid (Below w.heap.size w w5) := Sh.grown_below Z4 G0 Z4.size hg2
  clear G0 B2 B1
  go_wp2
  (try simp only [Exit.inBlock, Exit.then])
  refine bodyPost_ret (Sh.res_row rfl _ g2 23 _ _ rfl B5 Tryz.underlying23 rfl (sD _)) rfl ⟨by rw [hL.out], HF.out⟩
set_option maxHeartbeats 1000000 in
set_option maxRecDepth 8000 in
theorem rehsh_any (e : En) (he : EnW e) (hws : Go.Proofs.YtlefdnjokppibaaGreatDoor.ws e.v ≤ 100000) (na : Option Addr) (nc : Nat) (ka : Option Addr) (kc : Nat) (w : World) (hv : Vl w e.v na nc ka kc) :
    Calls Tryz.prog 15 #[.agg (eC e na nc ka kc).toArray] w fun e' w' => e' = .returned (.tuple #[.agg (nums .u8 (ehA e)).toArray, .int .i64 (mayE e)]) ∧ Hid (Below w.heap.size w w') := by
  have HL : Hid (e.h.length = 32) := he.h.1
  have HE : Hid (EnW e) := he
  have HX0 : Hid (mayE e = 0 → ehA e = D (0 :: entB e) ∧ Num e) := fun h => ⟨by unfold ehA; rw [if_pos h]; rfl, (may_form h).num⟩
  have HX1 : Hid (mayE e ≠ 0 → ehA e = zr) := fun h => by unfold ehA; rw [if_neg h]
  have HX3 : Hid (H32 (ehA e)) := ehA32 e
  have HV : Hid (Vl w e.v na nc ka kc) := hv
  have K : Hid (∀ W, Vl W e.v na nc ka kc → Calls Tryz.prog 31 #[.agg (eC e na nc ka kc).toArray] W fun e' w' => e' = .returned (.int .i64 (mayE e)) ∧ Hid (Below W.heap.size W w')) := fun W h => rmay_any e he hws na nc ka kc W h
  obtain ⟨R, hR⟩ : ∃ R, Hid (mayE e = R) := ⟨_, rfl⟩
  obtain ⟨X, hX⟩ : ∃ X, Hid (ehA e = X) := ⟨_, rfl⟩
  rw [hR.out, hX.out] at HX0 HX1
  rw [hX.out] at HX3
  rw [hR.out] at K
  rw [hR.out, hX.out]
  clear he hv hws hR hX
  go_enter Tryz.func15, Tryz.ntmps15
  go_wp2_with (refine al_box rfl 45 (.tmp 0) rfl (eC e na nc ka kc) rfl ?_)
  intro gb w1 l1 BB G0
  have Z := (Below.refl w.heap.size w).grown G0 (Nat.le_refl _) (by simp)
  clear G0
  go_wp2_with (refine al_zero rfl 23 rfl (nums .u8 zr) zHt ?_)
  intro g2 w2 l2 B2 G0
  have hg2 : w.heap.size ≤ g2 := Nat.le_trans Z.size l2
  have Z := Z.grown G0 Z.size (by simp)
  have BB := BB.kept G0 (by simp)
  clear G0
  have KR := K.out w2 (HV.out.below Z)
  go_wp2_with (refine ld_w (by rfl) 45 (.tmp 1) rfl gb 0 rfl (eC e na nc ka kc) _ BB.all Tryz.underlying45 rfl (sE HL.out _ _ _ _) ?_)
  refine KR.mono ?_
  rintro e' w3 ⟨rfl, H⟩
  have BB := BB.below H.out BB.lt
  have B2 := B2.below H.out B2.lt
  have Z := Z.trans (H.out.mono Z.size)
  clear KR K H
  by_cases h0 : R = 0
  case neg =>
    obtain rfl : X = zr := HX1.out h0
    have hb1 : (R != 0) = true := bne_iff_ne.2 h0
    have hb2 : (R == 0) = false := beq_eq_false_iff_ne.2 h0
    clear HX0 HX1
    go_wp2_with (first | (refine bd_w (by rfl) 23 #[] rfl (nums .u8 zr) (bd_zh _) ?_) | (refine st_all rfl 23 (.tmp 2) (.tmp 9) rfl g2 23 (nums .u8 zr) (nums .u8 zr) rfl rfl B2 rfl (sH zr_len) (nums_one _ _) ?_))
    intro w4 B4 G0
    have HF : Hid (Below w.heap.size w w4) := Sh.grown_below Z G0 Z.size hg2
    clear G0 B2
    go_wp2
    (try simp only [Exit.inBlock, Exit.then])
    refine bodyPost_ret (res_two rfl _ g2 23 _ _ rfl B4 Tryz.underlying23 rfl (sH zr_len)) rfl ⟨rfl, HF.out⟩
  subst h0
  obtain ⟨hel, hnm⟩ := HX0.out rfl
  have hen := ent_len HE.out hnm
  have hoc : Hid (Oct (entB e)) := ent_oct HE.out hnm
  have K := rent_any e HE.out hnm na nc ka kc w3
  obtain ⟨ol, hol⟩ : ∃ ol, Hid (entB e = ol) := ⟨_, rfl⟩
  rw [hol.out] at K hel hoc hen
  have HXE : Hid (X = D (0 :: ol)) := hel
  clear HX0 HX1 hol hel hnm
  go_wp2_with (refine ld_w (by rfl) 45 (.tmp 1) rfl gb 0 rfl (eC e na nc ka kc) _ BB.all Tryz.underlying45 rfl (sE HL.out _ _ _ _) ?_)
  refine K.mono ?_
  clear K
  rintro e' w4 ⟨v4, rfl, H⟩
  have B2 := B2.below H.out.2 B2.lt
  have Z := Z.trans (H.out.2.mono Z.size)
  obtain ⟨ax, cx, rfl, hby, hnil, hlc, _⟩ := H.out.1.byt
  have K := rleaf_any ax cx ol (by omega) w4 hby hnil hoc
  rw [← HXE.out] at K
  clear H hby hnil hlc HXE
  go_wp2_with fail
  refine K.mono ?_
  clear K
  rintro e' w5 ⟨rfl, H⟩
  have B2 := B2.below H B2.lt
  have Z := Z.trans (H.mono Z.size)
  clear H
  go_wp2_with (refine st_all rfl 23 (.tmp 2) (.tmp 13) rfl g2 23 (nums .u8 zr) (nums .u8 X) rfl rfl B2 (by rw [nums_length, nums_length, HX3.out.1]; rfl) (sH HX3.out.1) (nums_one _ _) ?_)
  intro w9 B9 G0
  have HF : Hid (Below w.heap.size w w9) := Sh.grown_below Z G0 Z.size hg2
  clear G0 B2 BB
  go_wp2
  (try simp only [Exit.inBlock, Exit.then])
  refine bodyPost_ret (res_two rfl _ g2 23 _ _ rfl B9 Tryz.underlying23 rfl (sH HX3.out.1)) rfl ⟨rfl, HF.out⟩
set_option maxHeartbeats 1000000 in
set_option maxRecDepth 8000 in
theorem behsh_any (e : En) (he : EnW e) (hws : Lk e.v) (na : Option Addr) (nc : Nat) (ka : Option Addr) (kc : Nat) (w : World) (hv : Vl w e.v na nc ka kc) :
    Calls Tryz.prog 14 #[.agg (eC e na nc ka kc).toArray] w fun e' w' => e' = .returned (.tuple #[.agg (nums .u8 (ehA e)).toArray, .int .i64 (mayE e)]) ∧ Hid (Below w.heap.size w w') := by
  have HL : Hid (e.h.length = 32) := he.h.1
  have HE : Hid (EnW e) := he
  have HX0 : Hid (mayE e = 0 → ehA e = D (0 :: entB e) ∧ Num e) := fun h => ⟨by unfold ehA; rw [if_pos h]; rfl, (may_form h).num⟩
  have HX1 : Hid (mayE e ≠ 0 → ehA e = zr) := fun h => by unfold ehA; rw [if_neg h]
  have HX3 : Hid (H32 (ehA e)) := ehA32 e
  have HV : Hid (Vl w e.v na nc ka kc) := hv
  have K : Hid (∀ W, Vl W e.v na nc ka kc → Calls Tryz.prog 37 #[.agg (eC e na nc ka kc).toArray] W fun e' w' => ∃ p, e' = .returned (.tuple #[.agg (pC p).toArray, .int .i64 (mayE e)]) ∧ Hid (PkR W w' e p)) := fun W h => pke_any e he hws na nc ka kc W h
  have HQ : Hid (∀ W W' p, PkR W W' e p → mayE e = 0 → PkO W' p ∧ p.ol = entB e) := fun W W' p h hm => by
    obtain ⟨h1, h2, h3, h4, h5⟩ := h.ok hm
    exact ⟨own_pk h1 h2 (by unfold triP triE; rw [h3, h4, h5]) he hm, h3⟩
  obtain ⟨R, hR⟩ : ∃ R, Hid (mayE e = R) := ⟨_, rfl⟩
  obtain ⟨X, hX⟩ : ∃ X, Hid (ehA e = X) := ⟨_, rfl⟩
  rw [hR.out, hX.out] at HX0 HX1
  rw [hX.out] at HX3
  rw [hR.out] at K HQ
  rw [hR.out, hX.out]
  clear he hv hws hR hX
  go_enter Tryz.func14, Tryz.ntmps14
  go_wp2_with (refine al_box rfl 45 (.tmp 0) rfl (eC e na nc ka kc) rfl ?_)
  intro gb w1 l1 BB G0
  have Z := (Below.refl w.heap.size w).grown G0 (Nat.le_refl _) (by simp)
  clear G0
  go_wp2_with (refine al_zero rfl 23 rfl (nums .u8 zr) zHt ?_)
  intro g2 w2 l2 B2 G0
  have hg2 : w.heap.size ≤ g2 := Nat.le_trans Z.size l2
  have Z := Z.grown G0 Z.size (by simp)
  have BB := BB.kept G0 (by simp)
  clear G0
  have KR := K.out w2 (HV.out.below Z)
  go_wp2_with (refine ld_w (by rfl) 45 (.tmp 1) rfl gb 0 rfl (eC e na nc ka kc) _ BB.all Tryz.underlying45 rfl (sE HL.out _ _ _ _) ?_)
  refine KR.mono ?_
  rintro e' w3 ⟨p, rfl, HR⟩
  have BB := BB.below HR.out.bl BB.lt
  have B2 := B2.below HR.out.bl B2.lt
  have Z := Z.trans (HR.out.bl.mono Z.size)
  clear KR K
  go_wp2_with (refine al_zero rfl 75 rfl (pC pN) zPk ?_)
  intro g4 w4 l4 B4 GA
  go_wp2_with (refine st_all rfl 75 (.tmp 4) (.tmp 9) rfl g4 75 (pC pN) (pC p) rfl rfl B4 rfl (sPk p) (pC_one p) ?_)
  intro w5 B4' GB
  have G5 : Below w3.heap.size w3 w5 := below_new GA l4 GB
  have B2 := B2.below G5 B2.lt
  have Z := Z.trans (G5.mono Z.size)
  have HP : Hid (R = 0 → PkO w5 p ∧ p.ol = entB e) := fun h => ⟨(HQ.out _ _ _ HR.out h).1.below G5, (HQ.out _ _ _ HR.out h).2⟩
  have HB4 : Hid (Blk w5 g4 75 (pC p)) := B4'
  clear GA GB B4 B4' G5 HR HQ l4
  by_cases h0 : R = 0
  case neg =>
    obtain rfl : X = zr := HX1.out h0
    have hb1 : (R != 0) = true := bne_iff_ne.2 h0
    have hb2 : (R == 0) = false := beq_eq_false_iff_ne.2 h0
    clear HX0 HX1
    go_wp2_with (first | (refine bd_w (by rfl) 23 #[] rfl (nums .u8 zr) (bd_zh _) ?_) | (refine st_all rfl 23 (.tmp 2) (.tmp 13) rfl g2 23 (nums .u8 zr) (nums .u8 zr) rfl rfl B2 rfl (sH zr_len) (nums_one _ _) ?_))
    intro w4 B4 G0
    have HF : Hid (Below w.heap.size w w4) := Sh.grown_below Z G0 Z.size hg2
    clear G0 B2
    go_wp2
    (try simp only [Exit.inBlock, Exit.then])
    refine bodyPost_ret (res_two rfl _ g2 23 _ _ rfl B4 Tryz.underlying23 rfl (sH zr_len)) rfl ⟨rfl, HF.out⟩
  subst h0
  obtain ⟨hel, hnm⟩ := HX0.out rfl
  have K := phash_any p w5 (HP.out rfl).1
  rw [(HP.out rfl).2, ← hel] at K
  clear HX0 HX1 hel hnm HP
  go_wp2_with (refine ld_w (by rfl) 75 (.tmp 4) rfl g4 0 rfl (pC p) _ HB4.out.all Tryz.underlying75 rfl (sPk p) ?_)
  refine K.mono ?_
  clear K
  rintro e' w6 ⟨rfl, H⟩
  have B2 := B2.below H.out B2.lt
  have Z := Z.trans (H.out.mono Z.size)
  clear H
  go_wp2_with (refine st_all rfl 23 (.tmp 2) (.tmp 16) rfl g2 23 (nums .u8 zr) (nums .u8 X) rfl rfl B2 (by rw [nums_length, nums_length, HX3.out.1]; rfl) (sH HX3.out.1) (nums_one _ _) ?_)
  intro w9 B9 G0
  have HF : Hid (Below w.heap.size w w9) := Sh.grown_below Z G0 Z.size hg2
  clear G0 B2 BB
  go_wp2
  (try simp only [Exit.inBlock, Exit.then])
  refine bodyPost_ret (res_two rfl _ g2 23 _ _ rfl B9 Tryz.underlying23 rfl (sH HX3.out.1)) rfl ⟨rfl, HF.out⟩
end Go.Proofs.YtlefdnjokppibaaGreatDoor.Sh
namespace Go.Proofs.YtlefdnjokppibaaGreatDoor.Sh
open Go Go.RowKit Math Mt
set_option linter.unusedVariables false
set_option linter.unusedSimpArgs false
set_option maxHeartbeats 1000000 in
set_option maxRecDepth 8000 in
theorem rbhsh_any (b : Bk) (hb : BkW b) (hws : ∀ e ∈ b.es, Go.Proofs.YtlefdnjokppibaaGreatDoor.ws e.v ≤ 100000) (a : Option Addr) (c : Nat) (w : World) (hE : EsM w a b.es) :
    Calls Tryz.prog 9 #[.agg (bC b a c).toArray] w fun e w' => e = .returned (.tuple #[.agg (nums .u8 (hsA b)).toArray, .int .i64 (chkB b)]) ∧ Hid (Below w.heap.size w w') := by
  have HL : Hid (b.pv.length = 32) := hb.pv.1
  have HB : Hid (BkW b) := hb
  have HE : Hid (EsM w a b.es) := hE
  have K : Hid (∀ V, EsM V a b.es → Calls Tryz.prog 11 #[.agg (bC b a c).toArray] V fun e' w' => e' = .returned (.int .i64 (chkB b)) ∧ Hid (Below V.heap.size V w')) := fun V h => rchk_any b hb hws a c V h
  have HC0 : Hid (chkB b = 0 → b.es.length ≤ 200 ∧ (∀ e ∈ b.es, Num e) ∧ hsA b = D (1 :: (D (hedB b) ++ eH (b.es.map entB)))) := fun h => ⟨by have := (chk_zero h).1.2.2.2.2; omega, fun e he => (may_form (fst_all (chk_zero h).2.1 e he)).num, by unfold hsA; rw [if_pos h]; rfl⟩
  have HX1 : Hid (chkB b ≠ 0 → hsA b = zr) := fun h => by unfold hsA; rw [if_neg h]
  have HX3 : Hid (H32 (hsA b)) := hsA32 b
  obtain ⟨R, hR⟩ : ∃ R, Hid (chkB b = R) := ⟨_, rfl⟩
  obtain ⟨X, hX⟩ : ∃ X, Hid (hsA b = X) := ⟨_, rfl⟩
  rw [hR.out, hX.out] at HC0 HX1
  rw [hX.out] at HX3
  rw [hR.out] at K
  rw [hR.out, hX.out]
  clear hb hE hws hR hX
  go_enter Tryz.func9, Tryz.ntmps9
  go_wp2_with (refine al_box rfl 26 (.tmp 0) rfl (bC b a c) rfl ?_)
  intro gb w1 l1 BB G0
  have Z := (Below.refl w.heap.size w).grown G0 (Nat.le_refl _) (by simp)
  clear G0
  go_wp2_with (refine al_zero rfl 23 rfl (nums .u8 zr) zHt ?_)
  intro g2 w2 l2 B2 G0
  have hg2 : w.heap.size ≤ g2 := Nat.le_trans Z.size l2
  have hgn : Hid (gb ≠ g2) := by have := BB.lt; show gb ≠ g2; omega
  have Z := Z.grown G0 Z.size (by simp)
  have BB := BB.kept G0 (by simp)
  clear G0
  have KR := K.out w2 (HE.out.below Z)
  go_wp2_with (refine ld_w (by rfl) 26 (.tmp 1) rfl gb 0 rfl (bC b a c) _ BB.all Tryz.underlying26 rfl (sB HL.out _ _) ?_)
  refine KR.mono ?_
  rintro e' w3 ⟨rfl, H⟩
  have BB := BB.below H.out BB.lt
  have B2 := B2.below H.out B2.lt
  have Z := Z.trans (H.out.mono Z.size)
  clear KR K H
  by_cases h0 : R = 0
  case neg =>
    obtain rfl : X = zr := HX1.out h0
    have hb1 : (R != 0) = true := bne_iff_ne.2 h0
    have hb2 : (R == 0) = false := beq_eq_false_iff_ne.2 h0
    clear HC0 HX1
    go_wp2_with (first | (refine bd_w (by rfl) 23 #[] rfl (nums .u8 zr) (bd_zh _) ?_) | (refine st_all rfl 23 (.tmp 2) (.tmp 9) rfl g2 23 (nums .u8 zr) (nums .u8 zr) rfl rfl B2 rfl (sH zr_len) (nums_one _ _) ?_))
    intro w4 B4 G0
    have HF : Hid (Below w.heap.size w w4) := Sh.grown_below Z G0 Z.size hg2
    clear G0 B2
    go_wp2
    (try simp only [Exit.inBlock, Exit.then])
    refine bodyPost_ret (res_two rfl _ g2 23 _ _ rfl B4 Tryz.underlying23 rfl (sH zr_len)) rfl ⟨rfl, HF.out⟩
  subst h0
  obtain ⟨hn2, hnm, hhs⟩ := HC0.out rfl
  have KL : Hid (∀ V, EsM V a b.es → Calls Tryz.prog 20 #[.agg (bC b a c).toArray] V fun e w' => ∃ v', e = .returned v' ∧ Hid (Mer.OwE (nums .u8) 23 32 w' V.heap.size v' (b.es.map lfE) ∧ Below V.heap.size V w')) := fun V h => rleaves_any b HB.out hn2 hnm a c V h
  obtain ⟨Lf, hLf⟩ : ∃ Lf, Hid (b.es.map lfE = Lf) := ⟨_, rfl⟩
  have HHl : Hid (Mer.Hl Lf) := by rw [← hLf.out]; exact hl_lfE _
  have hll : Lf.length ≤ 200 := by rw [← hLf.out, List.length_map]; exact hn2
  obtain ⟨Rt, hRt⟩ : ∃ Rt, Hid (Mer.Mk.R Mer.nd Mer.em Lf = Rt) := ⟨_, rfl⟩
  have HRt : Hid (H32 Rt) := by rw [← hRt.out]; have h := Mer.R_hh HHl.out; exact ⟨h.1, h.2⟩
  have KR : Hid (∀ al cl V, Lf.length ≤ cl → Mer.ES (nums .u8) 32 V al Lf → Calls Tryz.prog 19 #[.slice al Lf.length cl] V fun e w' => e = .returned (.agg (nums .u8 Rt).toArray) ∧ Below V.heap.size V w') := fun al cl V h1 h2 => by
    have h := Mer.rroot_any al cl Lf V (by omega) HHl.out h1 h2
    rw [hRt.out] at h
    exact h
  obtain ⟨eh, heh⟩ : ∃ eh, Hid (D (2 :: (Rt ++ uv b.es.length)) = eh) := ⟨_, rfl⟩
  have Heh : Hid (H32 eh) := by rw [← heh.out]; exact D32 _
  have KN : Hid (∀ V, Calls Tryz.prog 18 #[.agg (nums .u8 Rt).toArray, .int .i64 (b.es.length : Int)] V fun e w' => e = .returned (.agg (nums .u8 eh).toArray) ∧ Hid (Below V.heap.size V w')) := fun V => by
    have h := rents_any Rt HRt.out b.es.length hn2 V
    rw [heh.out] at h
    exact h
  obtain ⟨hd, hhd⟩ : ∃ hd, Hid (D (hedB b) = hd) := ⟨_, rfl⟩
  have Hhd : Hid (H32 hd) := by rw [← hhd.out]; exact D32 _
  have KD : Hid (∀ V, Calls Tryz.prog 13 #[.agg (bC b a c).toArray] V fun e w' => e = .returned (.agg (nums .u8 hd).toArray) ∧ Hid (Below V.heap.size V w')) := fun V => by
    have h := rhead_any b HB.out a c V
    rw [hhd.out] at h
    exact h
  have hE2 : D (1 :: (hd ++ eh)) = X := by rw [hhs, ← hhd.out, ← heh.out, ← hRt.out, ← hLf.out, eH_of]
  have KJ : Hid (∀ V, Calls Tryz.prog 22 #[.agg (nums .u8 hd).toArray, .agg (nums .u8 eh).toArray] V fun e w' => e = .returned (.agg (nums .u8 X).toArray) ∧ Below V.heap.size V w') := fun V => by
    have h := rnode_any hd eh Hhd.out.1 Heh.out.1 Hhd.out.2 Heh.out.2 V
    rw [hE2] at h
    exact h
  rw [hLf.out] at KL
  have HB2 : Hid (Blk w3 g2 23 (nums .u8 zr)) := B2
  have HHg2 : Hid (w.heap.size ≤ g2) := hg2
  clear HC0 hnm hhs hLf hRt heh hhd hE2 HHl HRt Hhd Heh HX1
  obtain ⟨C, hC⟩ : ∃ C : World → Prop, C = fun V => Blk V gb 26 (bC b a c) ∧ Below w.heap.size w V := ⟨_, rfl⟩
  have D0 : Below w3.heap.size w3 { w3 with drawn := w3.drawn + 1 } := Below.drew (Below.refl _ _)
  have C0 : Hid (C { w3 with drawn := w3.drawn + 1 }) := by rw [hC]; exact ⟨BB.below D0 BB.lt, Z.trans (D0.mono Z.size)⟩
  have HB2 : Hid (Blk { w3 with drawn := w3.drawn + 1 } g2 23 (nums .u8 zr)) := HB2.out.below D0 HB2.out.lt
  have CO : Hid (∀ V, C V → Blk V gb 26 (bC b a c) ∧ Below w.heap.size w V) := fun V h => by rw [hC] at h; exact h
  have CI : Hid (∀ V, Blk V gb 26 (bC b a c) ∧ Below w.heap.size w V → C V) := fun V h => by rw [hC]; exact h
  have CK : Hid (∀ V V', C V → Below V.heap.size V V' → C V') := fun V V' h1 h2 => by rw [hC] at h1 ⊢; exact ⟨h1.1.below h2 h1.1.lt, h1.2.trans (h2.mono h1.2.size)⟩
  have FB : Hid (∀ V, C V → V.rangeAt gb 0 (bC b a c)) := fun V h => (CO.out V h).1.all
  have FE : Hid (∀ V, C V → V.cell? ⟨gb, 35, none⟩ = some (.slice a b.es.length c)) := fun V h => (bkF_of HL.out (CO.out V h).1).es
  have FM : Hid (∀ V, C V → EsM V a b.es) := fun V h => HE.out.below (CO.out V h).2
  clear hC D0 BB B2 Z
  go_wp2
  refine region_calm C 11 (by kernel_rfl) ?_
  have hCp : ∀ p : Prop, (∀ W, C W → p) ↔ p := fun p => ⟨fun h => h _ C0.out, fun h _ _ => h⟩
  generalize ({ w3 with drawn := w3.drawn + 1 } : World) = y0 at *
  refine seg 8 [0, 2, 5, 6] rfl (by kernel_rfl) whole_blind (C0.out) (by kernel_rfl) ?_
  change wpQuiet _ _ _ _ (_ :: _ :: _ :: _ :: []) _
  repeat (first
    | go_big_quiet_skip
    | (go_big_quiet_want
       first
       | (refine q_load 26 (.tmp 1) rfl gb 0 rfl (bC b a c) _ FB.out Tryz.underlying26 rfl (sB HL.out _ _) ?_
          simp only [Act.put, List.setIfInBounds_toArray, List.set_cons_zero, List.set_cons_succ]
          go_big_quiet_on)
       | (refine q_cell 24 (.inr (.inr (.inl rfl))) (.tmp 16) rfl gb 35 rfl _ FE.out ?_
          simp only [Act.put, List.setIfInBounds_toArray, List.set_cons_zero, List.set_cons_succ]
          go_big_quiet_on)
       | (go_big_quiet_op
          go_big_quiet_on)))
  refine wpQuiet_nil ?_
  refine len_first (i := 7) 7 rfl (by kernel_rfl) whole_blind (C0.out) (by kernel_rfl) rfl (by rfl) (.tmp 17) 24 rfl 45 Tryz.underlying24 a b.es.length c rfl ?_
  simp only [Act.put, List.setIfInBounds_toArray, List.set_cons_zero, List.set_cons_succ]
  refine lone_do (i := 1) 6 rfl (by kernel_rfl) rfl (by rfl) ?_
  intro K hK
  refine oper_call 13 _ _ rfl #[.agg (bC b a c).toArray] (by rw [List.map_toArray]; rfl) (enters Tryz.func13 (by kernel_rfl) rfl) (fun v w' => v = .agg (nums .u8 hd).toArray ∧ Hid (Below y0.heap.size y0 w')) ((KD.out y0).mono (by rintro e w' ⟨rfl, h⟩; exact ⟨_, rfl, rfl, h⟩)) ?_
  rintro v9 y1 ⟨rfl, H1⟩
  have C1 : Hid (C y1) := CK.out _ _ C0.out H1.out
  have HB2 : Hid (Blk y1 g2 23 (nums .u8 zr)) := HB2.out.below H1.out HB2.out.lt
  refine hK _ _ C1.out ?_
  clear hK K H1
  simp only [Act.put, List.setIfInBounds_toArray, List.set_cons_zero, List.set_cons_succ]
  refine lone_do (i := 3) 5 rfl (by kernel_rfl) rfl (by rfl) ?_
  intro K hK
  refine oper_call 20 _ _ rfl #[.agg (bC b a c).toArray] (by rw [List.map_toArray]; rfl) (enters Tryz.func20 (by kernel_rfl) rfl) (fun v w' => Hid (Mer.OwE (nums .u8) 23 32 w' y1.heap.size v Lf ∧ Below y1.heap.size y1 w')) ((KL.out y1 (FM.out _ C1.out)).mono (by rintro e w' ⟨v, rfl, h⟩; exact ⟨_, rfl, h⟩)) ?_
  rintro v19 y2 H1
  obtain ⟨al, cl, rfl, hlc, hnl, hes, _⟩ := H1.out.1.es
  have HS : Hid (Mer.ES (nums .u8) 32 y2 al Lf) := hes
  have C2 : Hid (C y2) := CK.out _ _ C1.out H1.out.2
  have HB2 : Hid (Blk y2 g2 23 (nums .u8 zr)) := HB2.out.below H1.out.2 HB2.out.lt
  refine hK _ _ C2.out ?_
  clear hK K H1 hes hnl
  simp only [Act.put, List.setIfInBounds_toArray, List.set_cons_zero, List.set_cons_succ]
  refine lone_do (i := 4) 4 rfl (by kernel_rfl) rfl (by rfl) ?_
  intro K hK
  refine oper_call 19 _ _ rfl #[.slice al Lf.length cl] (by rw [List.map_toArray]; rfl) (enters Tryz.func19 (by kernel_rfl) rfl) (fun v w' => v = .agg (nums .u8 Rt).toArray ∧ Below y2.heap.size y2 w') ((KR.out al cl y2 hlc HS.out).mono (by rintro e w' ⟨rfl, h⟩; exact ⟨_, rfl, rfl, h⟩)) ?_
  rintro v9 y3 ⟨rfl, H1⟩
  have C3 : Hid (C y3) := CK.out _ _ C2.out H1
  have HB2 : Hid (Blk y3 g2 23 (nums .u8 zr)) := HB2.out.below H1 HB2.out.lt
  refine hK _ _ C3.out ?_
  clear hK K H1
  simp only [Act.put, List.setIfInBounds_toArray, List.set_cons_zero, List.set_cons_succ]
  refine lone_do (i := 8) 3 rfl (by kernel_rfl) rfl (by rfl) ?_
  intro K hK
  refine oper_call 18 _ _ rfl #[.agg (nums .u8 Rt).toArray, .int .i64 (b.es.length : Int)] (by rw [List.map_toArray]; rfl) (enters Tryz.func18 (by kernel_rfl) rfl) (fun v w' => v = .agg (nums .u8 eh).toArray ∧ Hid (Below y3.heap.size y3 w')) ((KN.out y3).mono (by rintro e w' ⟨rfl, h⟩; exact ⟨_, rfl, rfl, h⟩)) ?_
  rintro v9 y4 ⟨rfl, H1⟩
  have C4 : Hid (C y4) := CK.out _ _ C3.out H1.out
  have HB2 : Hid (Blk y4 g2 23 (nums .u8 zr)) := HB2.out.below H1.out HB2.out.lt
  refine hK _ _ C4.out ?_
  clear hK K H1
  simp only [Act.put, List.setIfInBounds_toArray, List.set_cons_zero, List.set_cons_succ]
  refine lone_do (i := 9) 2 rfl (by kernel_rfl) rfl (by rfl) ?_
  intro K hK
  refine oper_call 22 _ _ rfl #[.agg (nums .u8 hd).toArray, .agg (nums .u8 eh).toArray] (by rw [List.map_toArray]; rfl) (enters Tryz.func22 (by kernel_rfl) rfl) (fun v w' => v = .agg (nums .u8 X).toArray ∧ Below y4.heap.size y4 w') ((KJ.out y4).mono (by rintro e w' ⟨rfl, h⟩; exact ⟨_, rfl, rfl, h⟩)) ?_
  rintro v9 y5 ⟨rfl, H1⟩
  have C5 : Hid (C y5) := CK.out _ _ C4.out H1
  have HB2 : Hid (Blk y5 g2 23 (nums .u8 zr)) := HB2.out.below H1 HB2.out.lt
  refine hK _ _ C5.out ?_
  clear hK K H1
  simp only [Act.put, List.setIfInBounds_toArray, List.set_cons_zero, List.set_cons_succ]
  refine lone_do (i := 10) 1 rfl (by kernel_rfl) rfl (by rfl) ?_
  intro K hK
  refine oper_sta 23 (.tmp 2) (.tmp 20) rfl rfl g2 23 (nums .u8 zr) (nums .u8 X) rfl rfl HB2.out (by rw [nums_length, nums_length, HX3.out.1]; rfl) (sH HX3.out.1) (nums_one _ _) ?_
  intro y6 B6 G6
  have HB6 : Hid (Blk y6 g2 23 (nums .u8 X)) := B6
  have HZ6 : Hid (Below w.heap.size w y6) := Sh.grown_below (CO.out _ C5.out).2 G6 (CO.out _ C5.out).2.size HHg2.out
  have C6 : Hid (C y6) := CI.out _ ⟨(CO.out _ C5.out).1.kept G6 (fun q => hgn.out (Option.some.inj q)), HZ6.out⟩
  refine hK _ _ C6.out ?_
  clear hK K G6 B6 HB2
  simp only [Act.put, List.setIfInBounds_toArray, List.set_cons_zero, List.set_cons_succ]
  refine lone_calm (i := 11) 0 rfl (by kernel_rfl) rfl rfl (C6.out) ?_
  repeat (first
    | go_big_quiet_skip
    | (go_big_quiet_want
       first
       | (go_big_quiet_op
          go_big_quiet_on)))
  refine wpQuiet_nil ?_
  refine anyC_done (by kernel_rfl) ⟨rfl, ?_⟩
  clear C0 C1 C2 C3 C4 C5 C6 CO CI CK FB FE FM hCp HS KL KR KN KD KJ
  go_wp2
  (try simp only [Exit.inBlock, Exit.then])
  refine bodyPost_ret (res_two rfl _ g2 23 _ _ rfl HB6.out Tryz.underlying23 rfl (sH HX3.out.1)) rfl ⟨rfl, HZ6.out⟩
end Go.Proofs.YtlefdnjokppibaaGreatDoor.Sh
