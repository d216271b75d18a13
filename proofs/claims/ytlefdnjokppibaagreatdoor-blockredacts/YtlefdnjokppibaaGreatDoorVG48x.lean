/-
  block's digests: packed.hash, entriesHash, Head, Join, Hash. · block's Hash.
-/
import Derived.Test.YtlefdnjokppibaaGreatDoorVG42x
import Derived.Test.YtlefdnjokppibaaGreatDoorVG47x
import Derived.Test.YtlefdnjokppibaaGreatDoorVG43x
import Derived.Test.YtlefdnjokppibaaGreatDoorVG20x
namespace Go.Proofs.YtlefdnjokppibaaGreatDoor.Sh
open Go Go.RowKit Math Mt
set_option linter.unusedVariables false
set_option linter.unusedSimpArgs false
theorem zHt : (Tryz.prog.info? 23).map (fun i => i.zero.map (·.cells)) = some (some (nums .u8 zr).toArray) := by kernel_rfl
theorem D32 (l : List Nat) : H32 (D l) := ⟨D_len l, D_oct l⟩
theorem sD (l : List Nat) : (Tryz.prog.info? 23).map (·.size) = some (nums .u8 (D l)).length := sH (D_len l)
/-- The digest of the entries, by their bytes. -/
def eH (os : List (List Nat)) : List Nat := D (2 :: (Mer.Mk.R Mer.nd Mer.em (os.map fun o => D (0 :: o)) ++ uv os.length))
/-- A block's digest. -/
def bH (b : Bk) : List Nat := D (1 :: (D (hedB b) ++ eH (b.es.map entB)))
theorem sPk (p : Pk) : (Tryz.prog.info? 75).map (·.size) = some (pC p).length := by
  show _ = some 3
  kernel_rfl
theorem zPk : (Tryz.prog.info? 75).map (fun i => i.zero.map (·.cells)) = some (some (pC pN).toArray) := by kernel_rfl
set_option maxHeartbeats 1000000 in
set_option maxRecDepth 8000 in
theorem phash_any (p : Pk) (w : World) (hO : PkO w p) :
    Calls Tryz.prog 38 #[.agg (pC p).toArray] w fun e w' => e = .returned (.agg (nums .u8 (D (0 :: p.ol))).toArray) ∧ Hid (Below w.heap.size w w') := by
  have HO : Hid (PkO w p) := hO
  have hol := hO.olen
  have hoc := hO.ocap
  clear hO
  go_enter Tryz.func38, Tryz.ntmps38
  go_wp2_with (refine al_box rfl 75 (.tmp 0) rfl (pC p) rfl ?_)
  intro g1 w1 l1 B1 G0
  have Z := (Below.refl w.heap.size w).grown G0 (Nat.le_refl _) (by simp)
  clear G0
  go_wp2_with (refine al_zero rfl 23 rfl (nums .u8 zr) zHt ?_)
  intro g2 w2 l2 B2 G0
  have hg2 : w.heap.size ≤ g2 := Nat.le_trans Z.size l2
  have Z := Z.grown G0 Z.size (by simp)
  have B1 := B1.kept G0 (by simp)
  clear G0
  have c0 : w2.cell? ⟨g1, 0, none⟩ = some (.slice p.oa p.ol.length p.oc) := B1.cell 0
  have K := leaf_any p.oa p.oc p.ol (by omega) w2 (HO.out.own.below Z) hoc HO.out.ooct
  go_wp2_with fail
  refine K.mono ?_
  clear K c0
  rintro e w3 ⟨rfl, H⟩
  have Z3 := Z.trans (H.mono Z.size)
  have B2 := B2.below H B2.lt
  clear H
  go_wp2_with (refine st_all rfl 23 (.tmp 2) (.tmp 5) rfl g2 23 (nums .u8 zr) (nums .u8 (D (0 :: p.ol))) rfl rfl B2 (by rw [nums_length, nums_length, D_len]; rfl) (sD _) (nums_one _ _) ?_)
  intro w4 B4 G0
  have HF : Hid (Below w.heap.size w w4) := Sh.grown_below Z3 G0 Z3.size hg2
  clear G0 B2 B1
  go_wp2
  (try simp only [Exit.inBlock, Exit.then])
  refine bodyPost_ret (Sh.res_row rfl _ g2 23 _ _ rfl B4 Tryz.underlying23 rfl (sD _)) rfl ⟨rfl, HF.out⟩
set_option maxHeartbeats 1000000 in
set_option maxRecDepth 8000 in
theorem bhead_any (b : Bk) (hb : BkW b) (a : Option Addr) (c : Nat) (w : World) :
    Calls Tryz.prog 12 #[.agg (bC b a c).toArray] w fun e w' => e = .returned (.agg (nums .u8 (D (hedB b))).toArray) ∧ Hid (Below w.heap.size w w') := by
  have HL : Hid (b.pv.length = 32) := hb.pv.1
  have HB : Hid (BkW b) := hb
  clear hb
  go_enter Tryz.func12, Tryz.ntmps12
  go_wp2_with (refine al_box rfl 26 (.tmp 0) rfl (bC b a c) rfl ?_)
  intro g1 w1 l1 B1 G0
  have Z := (Below.refl w.heap.size w).grown G0 (Nat.le_refl _) (by simp)
  clear G0
  go_wp2_with (refine al_zero rfl 23 rfl (nums .u8 zr) zHt ?_)
  intro g2 w2 l2 B2 G0
  have hg2 : w.heap.size ≤ g2 := Nat.le_trans Z.size l2
  have Z := Z.grown G0 Z.size (by simp)
  have B1 := B1.kept G0 (by simp)
  clear G0
  have K := hed_any b HB.out a c w2
  go_wp2_with (refine ld_w (by rfl) 26 (.tmp 1) rfl g1 0 rfl (bC b a c) _ B1.all Tryz.underlying26 rfl (sB HL.out _ _) ?_)
  refine K.mono ?_
  clear K
  rintro e w3 ⟨v3, rfl, O3, H⟩
  have Z3 := Z.trans (H.mono Z.size)
  have B2 := B2.below H B2.lt
  obtain ⟨ax, cx, rfl, hby, hnil, hlc, _⟩ := O3.byt
  have hle := hed_len HB.out
  have K := sum_any ax cx (hedB b) (by omega) w3 hby hlc (hed_oct HB.out)
  obtain ⟨L, hL⟩ : ∃ L, Hid (hedB b = L) := ⟨_, rfl⟩
  rw [hL.out] at K ⊢
  clear O3 H hby Z
  go_wp2_with fail
  refine K.mono ?_
  clear K
  rintro e w4 ⟨rfl, H⟩
  have Z4 := Z3.trans (H.mono Z3.size)
  have B2 := B2.below H B2.lt
  clear H
  go_wp2_with (refine st_all rfl 23 (.tmp 2) (.tmp 5) rfl g2 23 (nums .u8 zr) (nums .u8 (D L)) rfl rfl B2 (by rw [nums_length, nums_length, D_len]; rfl) (sD _) (nums_one _ _) ?_)
  intro w5 B5 G0
  have HF : Hid (Below w.heap.size w w5) := Sh.grown_below Z4 G0 Z4.size hg2
  clear G0 B2 B1
  go_wp2
  (try simp only [Exit.inBlock, Exit.then])
  refine bodyPost_ret (Sh.res_row rfl _ g2 23 _ _ rfl B5 Tryz.underlying23 rfl (sD _)) rfl ⟨by rw [hL.out], HF.out⟩
set_option maxHeartbeats 1000000 in
set_option maxRecDepth 8000 in
theorem bjoin_any (x y : List Nat) (hx : H32 x) (hy : H32 y) (w : World) :
    Calls Tryz.prog 21 #[.agg (nums .u8 x).toArray, .agg (nums .u8 y).toArray] w fun e w' => e = .returned (.agg (nums .u8 (D (1 :: (x ++ y)))).toArray) ∧ Hid (Below w.heap.size w w') := by
  have HX : Hid (H32 x) := hx
  have HY : Hid (H32 y) := hy
  clear hx hy
  go_enter Tryz.func21, Tryz.ntmps21
  go_wp2_with (refine al_box rfl 23 (.tmp 0) rfl (nums .u8 x) rfl ?_)
  intro g2 w1 l1 B2 G0
  have Z := (Below.refl w.heap.size w).grown G0 (Nat.le_refl _) (by simp)
  clear G0
  go_wp2_with (refine al_box rfl 23 (.tmp 1) rfl (nums .u8 y) rfl ?_)
  intro g3 w2 l2 B3 G0
  have Z := Z.grown G0 Z.size (by simp)
  have B2 := B2.kept G0 (by simp)
  clear G0
  go_wp2_with (refine al_zero rfl 23 rfl (nums .u8 zr) zHt ?_)
  intro g4 w3 l4 B4 G0
  have hg4 : w.heap.size ≤ g4 := Nat.le_trans Z.size l4
  have Z := Z.grown G0 Z.size (by simp)
  have B2 := B2.kept G0 (by simp)
  have B3 := B3.kept G0 (by simp)
  clear G0
  have K := node_any x y HX.out.1 HY.out.1 HX.out.2 HY.out.2 w3
  go_wp2_with (first | (refine ld_w (by rfl) 23 (.tmp 2) rfl g2 0 rfl (nums .u8 x) _ B2.all Tryz.underlying23 rfl (sH HX.out.1) ?_) | (refine ld_w (by rfl) 23 (.tmp 3) rfl g3 0 rfl (nums .u8 y) _ B3.all Tryz.underlying23 rfl (sH HY.out.1) ?_))
  refine K.mono ?_
  clear K
  rintro e w4 ⟨rfl, H⟩
  have Z4 := Z.trans (H.mono Z.size)
  have B4 := B4.below H B4.lt
  clear H
  go_wp2_with (refine st_all rfl 23 (.tmp 4) (.tmp 7) rfl g4 23 (nums .u8 zr) (nums .u8 (D (1 :: (x ++ y)))) rfl rfl B4 (by rw [nums_length, nums_length, D_len]; rfl) (sD _) (nums_one _ _) ?_)
  intro w5 B5 G0
  have HF : Hid (Below w.heap.size w w5) := Sh.grown_below Z4 G0 Z4.size hg4
  clear G0 B2 B3 B4
  go_wp2
  (try simp only [Exit.inBlock, Exit.then])
  refine bodyPost_ret (Sh.res_row rfl _ g4 23 _ _ rfl B5 Tryz.underlying23 rfl (sD _)) rfl ⟨rfl, HF.out⟩
theorem hl_leaf (os : List (List Nat)) : Mer.Hl (os.map fun o => D (0 :: o)) := fun x hx => by
  obtain ⟨o, _, rfl⟩ := List.mem_map.1 hx
  exact ⟨D_len _, D_oct _⟩
set_option maxHeartbeats 1000000 in
set_option maxRecDepth 8000 in
theorem ehash_any (ps : List Pk) (hn : ps.length ≤ 200) (ae : Option Addr) (ce : Nat) (w : World) (hP : PkM w ae ps) (hT : Mer.Tb w) :
    Calls Tryz.prog 29 #[.slice ae ps.length ce] w fun e w' => e = .returned (.agg (nums .u8 (eH (ps.map (·.ol)))).toArray) ∧ Hid (Below w.heap.size w w') := by
  have HP : Hid (PkM w ae ps) := hP
  have HT : Hid (Mer.Tb w) := hT
  obtain ⟨Lf, hLf⟩ : ∃ Lf : List (List Nat), Hid ((ps.map (·.ol)).map (fun o => D (0 :: o)) = Lf) := ⟨_, rfl⟩
  have HHl : Hid (Mer.Hl Lf) := by rw [← hLf.out]; exact hl_leaf _
  have hlf : Lf.length = ps.length := by rw [← hLf.out]; simp
  have HEH : Hid (eH (ps.map (·.ol)) = D (2 :: (Mer.Mk.R Mer.nd Mer.em Lf ++ uv ps.length))) := by show _ = _; unfold eH; rw [hLf.out, List.length_map]
  have h1w := Mer.tb_lt hT
  clear hP hT
  go_enter Tryz.func29, Tryz.ntmps29
  go_wp2_with (refine al_zero rfl 23 rfl (nums .u8 zr) zHt ?_)
  intro g2 w1 l2 B2 G0
  have HZ1 : Hid (Below w.heap.size w w1) := (Below.refl w.heap.size w).grown G0 (Nat.le_refl _) (by simp)
  have HB2 : Hid (Blk w1 g2 23 (nums .u8 zr)) := B2
  have hw1 : Hid (w.heap.size ≤ w1.heap.size) := HZ1.out.size
  have hg2 : Hid (w.heap.size ≤ g2) := l2
  clear G0 B2 l2
  have K := Mer.new_any w1
  go_wp2_with fail
  refine K.mono ?_
  clear K
  rintro e w2 ⟨bt, rfl, hTr, Z2⟩
  have HI0 : Hid (Mer.Tr w2 bt w1.heap.size (Lf.take 0) ∧ Below w1.heap.size w1 w2) := ⟨hTr, Z2⟩
  clear hTr Z2
  go_wp2
  go_loopw [11] (fun i wr => ∃ k : Nat, k ≤ ps.length ∧ i = .int .i64 (k : Int) ∧ Hid (Mer.Tr wr bt w1.heap.size (Lf.take k) ∧ Below w1.heap.size w1 wr)) (fun i _ => ps.length - (intOf i).toNat)
  case atStart => exact ⟨0, by omega, rfl, HI0.out⟩
  case round =>
    clear HI0
    obtain ⟨k, hk, rfl, HK⟩ := hrel
    by_cases hlt : k < ps.length
    case pos =>
      obtain ⟨p, hp⟩ : ∃ p, ps[k]? = some p := ⟨_, List.getElem?_eq_getElem hlt⟩
      have hpx : Lf[k]? = some (D (0 :: p.ol)) := by rw [← hLf.out, List.getElem?_map, List.getElem?_map, hp]; rfl
      have HTK : Hid (Lf.take k ++ [D (0 :: p.ol)] = Lf.take (k + 1)) := by
        obtain ⟨h1, h2⟩ := List.getElem?_eq_some_iff.1 hpx
        show _ = _
        rw [List.take_succ_eq_append_getElem h1, h2]
      obtain ⟨bb, oo, hae, hall⟩ := HP.out.resolve_left (fun h => by rw [h] at hp; simp at hp)
      obtain ⟨hr0, hO0⟩ := hall k p hp
      have Zwr : Below w.heap.size w wr := HZ1.out.trans (HK.out.2.mono hw1.out)
      have HR : Hid (wr.rangeAt bb (oo + k * 3) (pC p)) := range_below hr0 Zwr
      have HOp : Hid (PkO wr p) := hO0.below Zwr
      clear hall hr0 hO0 hp hpx Zwr
      subst hae
      go_wp2_with (first | (refine ld_w (by rfl) 75 (.tmp 13) rfl bb (oo + k * 3) (by first | rfl | simp [Act.eval]) (pC p) _ HR.out Tryz.underlying75 rfl (sPk p) ?_) | (refine al_zero rfl 75 rfl (pC pN) zPk ?_))
      intro g5 w3 l5 B5 GA
      go_wp2_with (refine st_all rfl 75 (.tmp 5) (.tmp 14) rfl g5 75 (pC pN) (pC p) rfl rfl B5 rfl (sPk p) (pC_one p) ?_)
      intro w4 B5' GB
      have G4 : Hid (Below wr.heap.size wr w4) := below_new GA l5 GB
      have HB5 : Hid (Blk w4 g5 75 (pC p)) := B5'
      clear GA GB B5 B5' HR l5
      have K := phash_any p w4 (HOp.out.below G4.out)
      go_wp2_with (refine ld_w (by rfl) 75 (.tmp 5) rfl g5 0 rfl (pC p) _ HB5.out.all Tryz.underlying75 rfl (sPk p) ?_)
      refine K.mono ?_
      clear K
      rintro e w5 ⟨rfl, H⟩
      have G5 : Hid (Below wr.heap.size wr w5) := G4.out.trans (H.out.mono G4.out.size)
      have hkl : (Lf.take k).length = k := by rw [List.length_take]; omega
      have HZ5 : Hid (Below w1.heap.size w1 w5) := HK.out.2.trans (G5.out.mono HK.out.2.size)
      have Zw5 : Below w.heap.size w w5 := HZ1.out.trans (HZ5.out.mono hw1.out)
      have K := Mer.add_tree bt w1.heap.size (Lf.take k) (HHl.out.take k) (D (0 :: p.ol)) ⟨D_len _, D_oct _⟩ (by rw [hkl]; omega) w5 (HT.out.grow Zw5) HZ5.out.size (by have := hw1.out; omega) (HK.out.1.grow G5.out)
      rw [hkl, HTK.out] at K
      clear H HB5 G4 G5 hkl Zw5 HK HOp
      go_wp2_with fail
      refine K.mono ?_
      clear K
      rintro e w6 ⟨rfl, hTr, Z6⟩
      have HI : Hid (Mer.Tr w6 bt w1.heap.size (Lf.take (k + 1)) ∧ Below w1.heap.size w1 w6) := ⟨hTr, HZ5.out.trans Z6⟩
      clear hTr Z6 HZ5
      go_wp2
      go_roundw
      case rel => exact ⟨k + 1, by omega, by go_num, HI.out⟩
      case measure => simp [intOf]; omega
    obtain rfl : k = ps.length := by omega
    have HTr : Hid (Mer.Tr wr bt w1.heap.size Lf) := by have := HK.out.1; rw [List.take_of_length_le (by omega)] at this; exact this
    have HZr : Hid (Below w1.heap.size w1 wr) := HK.out.2
    clear HK
    have K := Mer.size_any bt w1.heap.size Lf wr HTr.out
    rw [hlf] at K
    go_wp2_with fail
    refine K.mono ?_
    clear K
    rintro e w3 ⟨rfl, hw3⟩
    have hw3' := hw3.symm
    subst hw3'
    clear hw3
    have K := Mer.root_in bt w1.heap.size Lf HHl.out (by omega) ps.length (by omega) wr HTr.out
    rw [List.take_of_length_le (by omega)] at K
    have HRt : Hid (H32 (Mer.Mk.R Mer.nd Mer.em Lf)) := by have h := Mer.R_hh HHl.out; exact ⟨h.1, h.2⟩
    obtain ⟨Rt, hRt⟩ : ∃ Rt, Hid (Mer.Mk.R Mer.nd Mer.em Lf = Rt) := ⟨_, rfl⟩
    rw [hRt.out] at K HRt HEH
    clear hRt
    go_wp2_with fail
    refine K.mono ?_
    clear K
    rintro e w4 ⟨rfl, Z4⟩
    have HZ4 : Hid (Below w1.heap.size w1 w4) := HZr.out.trans (Z4.mono HZr.out.size)
    clear Z4 HTr HZr
    have HLr : Hid (Rt.length = 32) := HRt.out.1
    go_wp2_with (refine al_zero rfl 23 rfl (nums .u8 zr) zHt ?_)
    intro g6 w5 l6 B6 GA
    go_wp2_with (refine st_all rfl 23 (.tmp 6) (.tmp 25) rfl g6 23 (nums .u8 zr) (nums .u8 Rt) rfl rfl B6 (by rw [nums_length, nums_length, HLr.out]; rfl) (sH HLr.out) (nums_one _ _) ?_)
    intro w6 B6' GB
    have G6 : Below w4.heap.size w4 w6 := below_new GA l6 GB
    have HZ6 : Hid (Below w1.heap.size w1 w6) := HZ4.out.trans (G6.mono HZ4.out.size)
    have HB6 : Hid (Blk w6 g6 23 (nums .u8 Rt)) := B6'
    have HB26 : Hid (Blk w6 g2 23 (nums .u8 zr)) := HB2.out.below HZ6.out HB2.out.lt
    have h10 := uv_ten ps.length (by omega)
    clear GA GB B6 B6' G6 HZ4 l6
    obtain ⟨C, hC⟩ : ∃ C : World → Prop, C = fun V => Below w6.heap.size w6 V := ⟨_, rfl⟩
    have C0 : Hid (C { w6 with drawn := w6.drawn + 1 }) := by rw [hC]; exact Below.drew (Below.refl _ _)
    have CO : Hid (∀ V, C V → Below w6.heap.size w6 V) := fun V h => by rw [hC] at h; exact h
    have CI : Hid (∀ V, Below w6.heap.size w6 V → C V) := fun V h => by rw [hC]; exact h
    have FR : Hid (∀ V, C V → V.rangeAt g6 0 (nums .u8 Rt)) := fun V h => (HB6.out.below (CO.out V h) HB6.out.lt).all
    clear hC
    go_wp2_with fail
    refine region_calm C 6 (by kernel_rfl) ?_
    have hCp : ∀ p : Prop, (∀ W, C W → p) ↔ p := fun p => ⟨fun h => h _ C0.out, fun h _ _ => h⟩
    generalize ({ w6 with drawn := w6.drawn + 1 } : World) = y0 at *
    refine seg 5 [0, 1] rfl (by kernel_rfl) whole_blind (C0.out) (by kernel_rfl) ?_
    change wpQuiet _ _ _ _ (_ :: _ :: []) _
    repeat (first
      | go_big_quiet_skip
      | (go_big_quiet_want
         first
         | (refine q_load 23 (.tmp 6) rfl g6 0 rfl (nums .u8 Rt) _ FR.out Tryz.underlying23 rfl (sH HLr.out) ?_
            simp only [Act.put, List.setIfInBounds_toArray, List.set_cons_zero, List.set_cons_succ]
            go_big_quiet_on)
         | (go_big_quiet_op
            go_big_quiet_on)))
    refine wpQuiet_nil ?_
    refine len_first (i := 2) 4 rfl (by kernel_rfl) whole_blind (C0.out) (by kernel_rfl) rfl (by rfl) (.tmp 28) 64 rfl 75 Tryz.underlying64 ae ps.length ce rfl ?_
    simp only [Act.put, List.setIfInBounds_toArray, List.set_cons_zero, List.set_cons_succ]
    refine seg 3 [3] rfl (by kernel_rfl) whole_blind (C0.out) (by kernel_rfl) ?_
    change wpQuiet _ _ _ _ (_ :: []) _
    repeat (first
      | go_big_quiet_skip
      | (go_big_quiet_want
         first
         | (go_big_quiet_op
            go_big_quiet_on)))
    refine wpQuiet_nil ?_
    refine lone_do (i := 4) 2 rfl (by kernel_rfl) rfl (by rfl) ?_
    intro K hK
    refine oper_call 57 _ _ rfl #[.int .u64 ((ps.length : Nat) : Int)] (by rw [List.map_toArray]; rfl) (enters Tryz.func57 (by kernel_rfl) rfl) (fun v w' => Hid (Own w' y0.heap.size v (uv ps.length) ∧ Below y0.heap.size y0 w')) ((uv_any ps.length (by omega) y0).mono (by rintro e w' ⟨v, rfl, h⟩; exact ⟨_, rfl, h⟩)) ?_
    rintro v1 y1 H1
    have Z1 : Hid (Below w6.heap.size w6 y1) := (CO.out _ C0.out).trans (H1.out.2.mono (CO.out _ C0.out).size)
    obtain ⟨ax, cx, rfl, hby, hnil, hlc, _⟩ := H1.out.1.byt
    have HY : Hid (Byt y1 ax (uv ps.length)) := hby
    have C1 : Hid (C y1) := CI.out _ Z1.out
    refine hK _ _ (C1.out) ?_
    clear hK K H1 hby
    simp only [Act.put, List.setIfInBounds_toArray, List.set_cons_zero, List.set_cons_succ]
    refine lone_do (i := 5) 1 rfl (by kernel_rfl) rfl (by rfl) ?_
    intro K hK
    refine oper_call 56 _ _ rfl #[.agg (nums .u8 Rt).toArray, .slice ax (uv ps.length).length cx] (by rw [List.map_toArray]; rfl) (enters Tryz.func56 (by kernel_rfl) rfl) (fun v w' => v = .agg (nums .u8 (D (2 :: (Rt ++ uv ps.length)))).toArray ∧ Below y1.heap.size y1 w') ((chain_any Rt (uv ps.length) HLr.out ax cx (by omega) HRt.out.2 (uv_oct _) y1 HY.out hlc).mono (by rintro e w' ⟨rfl, h⟩; exact ⟨_, rfl, rfl, h⟩)) ?_
    rintro v2 y2 ⟨rfl, H2⟩
    have Z2 : Hid (Below w6.heap.size w6 y2) := Z1.out.trans (H2.mono Z1.out.size)
    have C2 : Hid (C y2) := CI.out _ Z2.out
    refine hK _ _ (C2.out) ?_
    clear hK K H2 HY Z1
    simp only [Act.put, List.setIfInBounds_toArray, List.set_cons_zero, List.set_cons_succ]
    refine lone_last (i := 6) 0 rfl rfl (by kernel_rfl) rfl (by rfl) ?_
    intro K hK
    refine oper_sta 23 (.tmp 2) (.tmp 32) rfl rfl g2 23 (nums .u8 zr) (nums .u8 (D (2 :: (Rt ++ uv ps.length)))) rfl rfl (HB26.out.below Z2.out HB26.out.lt) (by rw [nums_length, nums_length, D_len]; rfl) (sD _) (nums_one _ _) ?_
    intro y3 B3 G3
    have HF : Hid (Below w.heap.size w y3) := by
      have h := HZ1.out.trans ((HZ6.out.trans (Z2.out.mono HZ6.out.size)).mono hw1.out)
      exact Sh.grown_below h G3 h.size hg2.out
    refine hK _ _ ?_
    clear hK K G3 C0 C1 C2 CO CI FR hCp Z2 HB6 HB26
    simp only [Act.put]
    refine anyC_done (by kernel_rfl) ⟨rfl, ?_⟩
    go_wp2
    (try simp only [Exit.inBlock, Exit.then])
    refine bodyPost_ret (Sh.res_row rfl _ g2 23 _ _ rfl B3 Tryz.underlying23 rfl (sD _)) rfl ⟨by rw [HEH.out], HF.out⟩
end Go.Proofs.YtlefdnjokppibaaGreatDoor.Sh
namespace Go.Proofs.YtlefdnjokppibaaGreatDoor.Sh
open Go Go.RowKit Math Mt
set_option linter.unusedVariables false
set_option linter.unusedSimpArgs false
theorem eH32 (os : List (List Nat)) : H32 (eH os) := D32 _
/-- What Hash answers. -/
def hsA (b : Bk) : List Nat := if chkB b = 0 then bH b else zr
theorem hsA32 (b : Bk) : H32 (hsA b) := by
  unfold hsA
  split
  · exact D32 _
  · exact h32_zr
theorem bd_zh (a : Act) : Tryz.prog.built 23 ((#[] : Array (Nat × Operand)).map fun p => (p.1, a.eval p.2)).toList = some (nums .u8 zr).toArray := by kernel_rfl
theorem tri_ol {ps : List Pk} {es : List En} (h : ps.map triP = es.map triE) : ps.map (·.ol) = es.map entB := by
  have := congrArg (List.map (fun t : List Nat × List Nat × Int => t.1)) h
  rw [List.map_map, List.map_map] at this
  exact this
set_option maxHeartbeats 1000000 in
set_option maxRecDepth 8000 in
theorem bhsh_any (b : Bk) (hb : BkW b) (hws : ∀ e ∈ b.es, Lk e.v) (a : Option Addr) (c : Nat) (w : World) (hE : EsM w a b.es) (hT : Mer.Tb w) :
    Calls Tryz.prog 8 #[.agg (bC b a c).toArray] w fun e w' => e = .returned (.tuple #[.agg (nums .u8 (hsA b)).toArray, .int .i64 (chkB b)]) ∧ Hid (Below w.heap.size w w') := by
  have HL : Hid (b.pv.length = 32) := hb.pv.1
  have HB : Hid (BkW b) := hb
  have HT : Hid (Mer.Tb w) := hT
  have K : Hid (∀ W, EsM W a b.es → Calls Tryz.prog 28 #[.agg (bC b a c).toArray] W fun e w' => ∃ v, e = .returned (.tuple #[v, .int .i64 (chkB b)]) ∧ Hid (PaR W w' b v)) := fun W h => pack_any b hb hws a c W h
  have HE : Hid (EsM w a b.es) := hE
  have H0 : Hid (chkB b = 0 → b.es.length ≤ 200 ∧ hsA b = bH b) := fun h => ⟨by have := (chk_zero h).1.2.2.2.2; omega, by unfold hsA; rw [if_pos h]⟩
  have H1 : Hid (chkB b ≠ 0 → hsA b = zr) := fun h => by unfold hsA; rw [if_neg h]
  have HQ : Hid (∀ W W' v, PaR W W' b v → chkB b = 0 → ∃ (ps : List Pk) (ae : Option Addr) (ce : Nat), v = .slice ae ps.length ce ∧ PkM W' ae ps ∧ ps.map triP = b.es.map triE) := fun W W' v h => h.ok
  obtain ⟨R, hR⟩ : ∃ R, Hid (chkB b = R) := ⟨_, rfl⟩
  obtain ⟨X, hX⟩ : ∃ X, Hid (hsA b = X) := ⟨_, rfl⟩
  rw [hR.out] at K H0 H1 HQ ⊢
  rw [hX.out] at H0 H1 ⊢
  clear hb hE hws hR hT hX
  go_enter Tryz.func8, Tryz.ntmps8
  go_wp2_with (refine al_box rfl 26 (.tmp 0) rfl (bC b a c) rfl ?_)
  intro gb w1 l1 BB G0
  have Z := (Below.refl w.heap.size w).grown G0 (Nat.le_refl _) (by simp)
  clear G0
  go_wp2_with (refine al_zero rfl 23 rfl (nums .u8 zr) zHt ?_)
  intro g2 w2 l2 B2 G0
  have hg2 : w.heap.size ≤ g2 := Nat.le_trans Z.size l2
  have Z := Z.grown G0 Z.size (by simp)
  have BB := BB.kept G0 (by simp)
  clear G0
  have KR := K.out w2 (HE.out.below Z)
  go_wp2_with (refine ld_w (by rfl) 26 (.tmp 1) rfl gb 0 rfl (bC b a c) _ BB.all Tryz.underlying26 rfl (sB HL.out _ _) ?_)
  refine KR.mono ?_
  rintro e w3 ⟨v, rfl, HR⟩
  have BB := BB.below HR.out.bl BB.lt
  have B2 := B2.below HR.out.bl B2.lt
  have Z := Z.trans (HR.out.bl.mono Z.size)
  clear KR K
  by_cases h0 : R = 0
  case neg =>
    obtain rfl : X = zr := H1.out h0
    have hb1 : (R != 0) = true := bne_iff_ne.2 h0
    have hb2 : (R == 0) = false := beq_eq_false_iff_ne.2 h0
    clear HQ H0 H1 HR
    go_wp2_with (first | (refine bd_w (by rfl) 23 #[] rfl (nums .u8 zr) (bd_zh _) ?_) | (refine st_all rfl 23 (.tmp 2) (.tmp 13) rfl g2 23 (nums .u8 zr) (nums .u8 zr) rfl rfl B2 rfl (sH zr_len) (nums_one _ _) ?_))
    intro w4 B4 G0
    have HF : Hid (Below w.heap.size w w4) := Sh.grown_below Z G0 Z.size hg2
    clear G0 B2 BB
    go_wp2
    (try simp only [Exit.inBlock, Exit.then])
    refine bodyPost_ret (res_two rfl _ g2 23 _ _ rfl B4 Tryz.underlying23 rfl (sH zr_len)) rfl ⟨rfl, HF.out⟩
  subst h0
  obtain ⟨ps, ae, ce, rfl, hM, hps⟩ := HQ.out _ _ _ HR.out rfl
  obtain ⟨h200, hel⟩ := H0.out rfl
  have hpl : ps.length = b.es.length := by have := congrArg List.length hps; simpa only [List.length_map] using this
  have HX : Hid (X = D (1 :: (D (hedB b) ++ eH (ps.map (·.ol))))) := by show _ = _; rw [hel, tri_ol hps]; rfl
  have HM : Hid (PkM w3 ae ps) := hM
  have hp2 : ps.length ≤ 200 := by omega
  clear HQ H0 H1 HR hM hel hpl hps h200
  have K := bhead_any b HB.out a c w3
  obtain ⟨hd, hhd⟩ : ∃ hd, Hid (D (hedB b) = hd) := ⟨_, rfl⟩
  have HH1 : Hid (H32 hd) := by rw [← hhd.out]; exact D32 _
  rw [hhd.out] at K HX
  clear hhd
  go_wp2_with (refine ld_w (by rfl) 26 (.tmp 1) rfl gb 0 rfl (bC b a c) _ BB.all Tryz.underlying26 rfl (sB HL.out _ _) ?_)
  refine K.mono ?_
  clear K
  rintro e w4 ⟨rfl, H⟩
  have B2 := B2.below H.out B2.lt
  have Z4 := Z.trans (H.out.mono Z.size)
  have K := ehash_any ps (by omega) ae ce w4 (HM.out.below H.out) (HT.out.grow Z4)
  obtain ⟨eh, heh⟩ : ∃ eh, Hid (eH (ps.map (·.ol)) = eh) := ⟨_, rfl⟩
  have HH2 : Hid (H32 eh) := by rw [← heh.out]; exact eH32 _
  rw [heh.out] at K HX
  clear heh H Z HM
  go_wp2_with fail
  refine K.mono ?_
  clear K
  rintro e w5 ⟨rfl, H⟩
  have B2 := B2.below H.out B2.lt
  have Z5 := Z4.trans (H.out.mono Z4.size)
  clear H Z4
  have K := bjoin_any hd eh HH1.out HH2.out w5
  rw [← HX.out] at K
  have HX3 : Hid (H32 X) := by rw [HX.out]; exact D32 _
  go_wp2_with fail
  refine K.mono ?_
  clear K
  rintro e w6 ⟨rfl, H⟩
  have B2 := B2.below H.out B2.lt
  have Z6 := Z5.trans (H.out.mono Z5.size)
  clear H Z5 HX
  go_wp2_with (refine st_all rfl 23 (.tmp 2) (.tmp 19) rfl g2 23 (nums .u8 zr) (nums .u8 X) rfl rfl B2 (by rw [nums_length, nums_length, HX3.out.1]; rfl) (sH HX3.out.1) (nums_one _ _) ?_)
  intro w7 B7 G0
  have HF : Hid (Below w.heap.size w w7) := Sh.grown_below Z6 G0 Z6.size hg2
  clear G0 B2 BB
  go_wp2
  (try simp only [Exit.inBlock, Exit.then])
  refine bodyPost_ret (res_two rfl _ g2 23 _ _ rfl B7 Tryz.underlying23 rfl (sH HX3.out.1)) rfl ⟨rfl, HF.out⟩
end Go.Proofs.YtlefdnjokppibaaGreatDoor.Sh
