/-
  The contract of the document's own Leaf. · The contract of the document's own Chain. · The document's Leaves and Entries. · The document's bytes of a block's head. · The document's plain.
-/
import Derived.Test.YtlefdnjokppibaaGreatDoorUSRsum
import Derived.Test.YtlefdnjokppibaaGreatDoorUG19x
import Derived.Test.YtlefdnjokppibaaGreatDoorUG33x
import Derived.Test.YtlefdnjokppibaaGreatDoorUG37x
import Derived.Test.YtlefdnjokppibaaGreatDoorUG38x
namespace Go.Proofs.YtlefdnjokppibaaGreatDoor.Sh
open Go.RowKit Mt
set_option maxHeartbeats 1000000 in
set_option maxRecDepth 8000 in
theorem rleaf_any (a0 : Option Addr) (cap : Nat) (l : List Nat) (hn : l.length ≤ 90000) (w : World) (hc : Hid (Byt w a0 l)) (hnil : a0 = none → cap = 0) (ho : Hid (Oct l)) :
    Calls Tryz.prog 39 #[.slice a0 l.length cap] w fun e w' => e = .returned (.agg (nums .u8 (D (0 :: l))).toArray) ∧ Below w.heap.size w w' := by
  go_enter Tryz.func39, Tryz.ntmps39
  go_wp2_with (refine al_zero rfl 23 rfl _ z25 ?_)
  intro g1 w1 l1 B1 G1
  have Z := (Below.refl w.heap.size w).grown G1 (Nat.le_refl _) (by simp)
  have hc1 := (hc.out.below Z).below ((Below.refl w1.heap.size w1).alloc (Nat.le_refl _) (.cells #[.int .u8 ((0 : Nat) : Int)] 5))
  have oe := own_one w1 0 w1.heap.size (Nat.le_refl _)
  clear G1
  go_wp2_with (at_builtin; go_must (refine app_bytes rfl (.tmp 3) (.tmp 4) rfl w1.heap.size _ [0] rfl oe a0 _ cap l rfl rfl hc1 hnil (by simp; omega) (by simp) ?_))
  intro v1 w2 o1 g2
  have b2 := below_app ((Below.refl w1.heap.size w1).alloc (Nat.le_refl _) (.cells #[.int .u8 ((0 : Nat) : Int)] 5)) (by simp) oe g2
  have B1 := B1.below b2 B1.lt
  have Z := Z.trans (b2.mono Z.size)
  have HC : Hid (Calls Tryz.prog 35 #[v1] w2 fun e w' => e = .returned (.agg (nums .u8 (D (0 :: l))).toArray) ∧ Below w2.heap.size w2 w') :=
    rsum_own (l := 0 :: l) o1 (by simp) (by simp; omega) (fun x hx => by
      rcases List.mem_cons.1 hx with rfl | hx
      · decide
      · exact ho.out x hx)
  clear g2 oe hc1 b2 o1
  go_wp2_with fail
  refine HC.out.mono ?_; rintro e w3 ⟨rfl, Z3⟩
  have B1 := B1.below Z3 B1.lt
  have Z := Z.trans (Z3.mono Z.size)
  have ID : Hid ((Tryz.prog.info? 23).map (·.size) = some (nums .u8 (D (0 :: l))).length) := by show _ = _; rw [nums_length, D_len]; exact s25
  have ND : Hid ((nums .u8 (D (0 :: l))).length = (nums .u8 (List.replicate 32 0)).length) := by show _ = _; rw [nums_length, nums_length, D_len, List.length_replicate]
  clear Z3 HC
  go_wp2_with (refine st_all rfl 23 (.tmp 2) (.tmp 6) rfl g1 23 (nums .u8 (List.replicate 32 0)) (nums .u8 (D (0 :: l))) rfl rfl B1 ND.out ID.out (nums_one _ _) ?_)
  intro we BE GE
  go_wp2
  (try simp only [Exit.inBlock, Exit.then])
  refine bodyPost_ret (res_row rfl _ g1 23 _ _ rfl BE Tryz.underlying23 rfl ID.out) rfl ⟨rfl, grown_below Z GE Z.size l1⟩
end Go.Proofs.YtlefdnjokppibaaGreatDoor.Sh
namespace Go.Proofs.YtlefdnjokppibaaGreatDoor.Sh
open Go.RowKit Mt
set_option maxHeartbeats 1000000 in
set_option maxRecDepth 8000 in
theorem rchain_any (lh rh : List Nat) (hl : lh.length = 32) (a0 : Option Addr) (cap : Nat) (hn : rh.length ≤ 90000) (hol : Hid (Oct lh)) (hor : Hid (Oct rh)) (w : World) (hc : Hid (Byt w a0 rh)) (hnil : a0 = none → cap = 0) :
    Calls Tryz.prog 44 #[.agg (nums .u8 lh).toArray, .slice a0 rh.length cap] w fun e w' => e = .returned (.agg (nums .u8 (D (2 :: (lh ++ rh)))).toArray) ∧ Below w.heap.size w w' := by
  go_enter Tryz.func44, Tryz.ntmps44
  go_wp2_with (refine al_box rfl 23 (.tmp 0) rfl (nums .u8 lh) rfl ?_)
  intro ga wa la BA GA
  have Z := (Below.refl w.heap.size w).grown GA (Nat.le_refl _) (by simp)
  clear GA
  go_wp2_with (refine al_zero rfl 23 rfl _ z25 ?_)
  intro g1 w1 l1 B1 G1
  have BA := BA.kept G1 (by simp)
  have hg1 : w.heap.size ≤ g1 := Nat.le_trans Z.size l1
  have Z := Z.grown G1 Z.size (by simp)
  have HB : Hid (Byt w1 a0 rh) := hc.out.below Z
  have HL : Hid (Byt (w1.alloc (.cells #[.int .u8 ((2 : Nat) : Int)] 5)) (some ⟨ga, 0, none⟩) lh) := .inr ⟨ga, 0, rfl, blk_cells (BA.alloc _)⟩
  have oe := own_one w1 2 w1.heap.size (Nat.le_refl _)
  have b1 := (Below.refl w1.heap.size w1).alloc (Nat.le_refl _) (.cells #[.int .u8 ((2 : Nat) : Int)] 5)
  clear G1 BA hc
  go_wp2_with (at_builtin; go_must (refine app_bytes rfl (.tmp 5) (.tmp 6) rfl w1.heap.size _ [2] rfl oe (some ⟨ga, 0, none⟩) 32 32 lh hl.symm rfl HL.out (by simp) (by simp; omega) (by simp) ?_))
  intro v1 w2 o1 g2
  have b2 := below_app b1 (by simp) oe g2
  have HB2 : Hid (Byt w2 a0 rh) := HB.out.below b2
  have s2 := b2.size
  clear g2 oe b1 HL HB
  go_wp2_with (at_builtin; go_must (refine app_bytes rfl (.tmp 7) (.tmp 8) rfl w1.heap.size _ (2 :: lh) rfl o1 a0 _ cap rh rfl rfl HB2.out hnil (by simp; omega) s2 ?_))
  intro v2 w3 o2 g3
  have b3 := below_app b2 s2 o1 g3
  have B1 := B1.below b3 B1.lt
  have Z := Z.trans (b3.mono Z.size)
  have HC : Hid (Calls Tryz.prog 35 #[v2] w3 fun e w' => e = .returned (.agg (nums .u8 (D (2 :: (lh ++ rh)))).toArray) ∧ Below w3.heap.size w3 w') := by
    have o3 : Own w3 w1.heap.size v2 (2 :: (lh ++ rh)) := by simpa using o2
    exact rsum_own o3 (by simp) (by simp; omega) (fun x hx => by
      rcases List.mem_cons.1 hx with rfl | hx
      · decide
      rcases List.mem_append.1 hx with hx | hx
      · exact hol.out x hx
      · exact hor.out x hx)
  clear g3 o1 o2 b2 b3 HB2
  go_wp2_with fail
  refine HC.out.mono ?_; rintro e w4 ⟨rfl, Z3⟩
  have B1 := B1.below Z3 B1.lt
  have Z := Z.trans (Z3.mono Z.size)
  have ID : Hid ((Tryz.prog.info? 23).map (·.size) = some (nums .u8 (D (2 :: (lh ++ rh)))).length) := by show _ = _; rw [nums_length, D_len]; exact s25
  have ND : Hid ((nums .u8 (D (2 :: (lh ++ rh)))).length = (nums .u8 (List.replicate 32 0)).length) := by show _ = _; rw [nums_length, nums_length, D_len, List.length_replicate]
  clear Z3 HC
  go_wp2_with (refine st_all rfl 23 (.tmp 4) (.tmp 10) rfl g1 23 (nums .u8 (List.replicate 32 0)) (nums .u8 (D (2 :: (lh ++ rh)))) rfl rfl B1 ND.out ID.out (nums_one _ _) ?_)
  intro we BE GE
  go_wp2
  (try simp only [Exit.inBlock, Exit.then])
  refine bodyPost_ret (res_row rfl _ g1 23 _ _ rfl BE Tryz.underlying23 rfl ID.out) rfl ⟨rfl, grown_below Z GE Z.size hg1⟩
end Go.Proofs.YtlefdnjokppibaaGreatDoor.Sh
namespace Go.Proofs.YtlefdnjokppibaaGreatDoor.Sh
open Go Go.RowKit Math Mt
set_option linter.unusedVariables false
set_option linter.unusedSimpArgs false
/-- A leaf of a block. -/
def lfE (e : En) : List Nat := D (0 :: entB e)
/-- While the leaves are made. -/
structure LInv (w1 wr : World) (v : Value) (es : List En) (k : Nat) : Prop where
  own : Mer.OwE (nums .u8) 23 32 wr w1.heap.size v ((es.take k).map lfE)
  bl : Below w1.heap.size w1 wr
theorem eH_of (es : List En) : eH (es.map entB) = D (2 :: (Mer.Mk.R Mer.nd Mer.em (es.map lfE) ++ uv es.length)) := by
  unfold eH lfE
  rw [List.map_map, List.length_map]
  rfl
theorem hl_lfE (es : List En) : Mer.Hl (es.map lfE) := fun x hx => by
  obtain ⟨o, _, rfl⟩ := List.mem_map.1 hx
  exact ⟨D_len _, D_oct _⟩
theorem own_low {w : World} {base base' : Nat} {e : TypeId} {size : Nat} {v : Value} {n : Nat} {xs : List Value} (h : w.ownsRow base e size v n xs) (hb : base' ≤ base) : w.ownsRow base' e size v n xs := by
  rcases h with ⟨h1, h2 | ⟨g, cap, cur, e1, e2, e3⟩⟩
  · exact ⟨h1, .inl h2⟩
  · exact ⟨h1, .inr ⟨g, cap, cur, e1, Nat.le_trans hb e2, e3⟩⟩
set_option maxHeartbeats 1000000 in
set_option maxRecDepth 8000 in
theorem rleaves_any (b : Bk) (hb : BkW b) (hn : b.es.length ≤ 200) (hm : ∀ e ∈ b.es, Num e) (a : Option Addr) (c : Nat) (w : World) (hE : EsM w a b.es) :
    Calls Tryz.prog 20 #[.agg (bC b a c).toArray] w fun e w' => ∃ v', e = .returned v' ∧ Hid (Mer.OwE (nums .u8) 23 32 w' w.heap.size v' (b.es.map lfE) ∧ Below w.heap.size w w') := by
  have HL : Hid (b.pv.length = 32) := hb.pv.1
  have HB : Hid (BkW b) := hb
  have HE : Hid (EsM w a b.es) := hE
  have HM : Hid (∀ e ∈ b.es, Num e) := hm
  clear hb hE hm
  go_enter Tryz.func20, Tryz.ntmps20
  go_wp2_with (refine al_box rfl 26 (.tmp 0) rfl (bC b a c) rfl ?_)
  intro gb w1 l1 B1 G0
  have HZ : Hid (Below w.heap.size w w1) := (Below.refl w.heap.size w).grown G0 (Nat.le_refl _) (by simp)
  have HB1 : Hid (Blk w1 gb 26 (bC b a c)) := B1
  have hw01 : Hid (w.heap.size ≤ w1.heap.size) := HZ.out.size
  clear G0 B1
  have HI0 : Hid (LInv w1 w1 (.slice none 0 0) b.es 0) := ⟨Mer.owe_nil _ _ _ _ _, Below.refl _ _⟩
  go_wp2
  go_loopw [3, 4] (fun v i wr => ∃ k : Nat, k ≤ b.es.length ∧ i = .int .i64 (k : Int) ∧ Hid (LInv w1 wr v b.es k)) (fun _ i _ => b.es.length - (intOf i).toNat)
  case atStart => exact ⟨0, by omega, rfl, HI0.out⟩
  case round =>
    clear HI0
    obtain ⟨k, hk, rfl, HK⟩ := hrel
    have c35 := (bkF_of HL.out (HB1.out.below HK.out.bl HB1.out.lt)).es
    by_cases hlt : k < b.es.length
    case neg =>
      have HF : Hid (Mer.OwE (nums .u8) 23 32 wr w.heap.size u3 (b.es.map lfE) ∧ Below w.heap.size w wr) := by
        have h := HK.out.own
        rw [List.take_of_length_le (by omega)] at h
        exact ⟨⟨own_low h.1 hw01.out, h.2⟩, HZ.out.trans (HK.out.bl.mono hw01.out)⟩
      clear HK
      go_wp2
      go_ret
      exact ⟨u3, rfl, HF.out⟩
    obtain ⟨e, he⟩ : ∃ e, b.es[k]? = some e := ⟨_, List.getElem?_eq_getElem hlt⟩
    obtain ⟨bb, oo, na, nc, ka, kc, rfl, hM⟩ := HE.out.get he
    have hmem := List.mem_of_getElem? he
    have HEW : Hid (EnW e) := HB.out.es e hmem
    have HNm : Hid (Num e) := HM.out e hmem
    have HLh : Hid (e.h.length = 32) := HEW.out.h.1
    have HT : Hid ((b.es.take (k + 1)).map lfE = (b.es.take k).map lfE ++ [D (0 :: entB e)]) := by
      obtain ⟨h1, h2⟩ := List.getElem?_eq_some_iff.1 he
      show _ = _
      rw [List.take_succ_eq_append_getElem h1, h2, List.map_append]
      rfl
    have hkl : Hid (((b.es.take k).map lfE).length = k) := by show _ = _; rw [List.length_map, List.length_take]; omega
    have Zwr : Below w.heap.size w wr := HZ.out.trans (HK.out.bl.mono hw01.out)
    have HR : Hid (wr.rangeAt bb (oo + k * 46) (eC e na nc ka kc)) := (hM.below Zwr).at'
    have hel : Hid ((entB e).length ≤ 4196) := by have := ent_len HEW.out HNm.out; show _ ≤ _; omega
    have hoc : Hid (Oct (entB e)) := ent_oct HEW.out HNm.out
    have K := rent_any e HEW.out HNm.out na nc ka kc wr
    obtain ⟨L, hL⟩ : ∃ L, Hid ((b.es.take k).map lfE = L) := ⟨_, rfl⟩
    have HO : Hid (Mer.OwE (nums .u8) 23 32 wr w1.heap.size u3 L) := by rw [← hL.out]; exact HK.out.own
    have HZr : Hid (Below w1.heap.size w1 wr) := HK.out.bl
    rw [hL.out] at HT hkl
    obtain ⟨ol, hol⟩ : ∃ ol, Hid (entB e = ol) := ⟨_, rfl⟩
    rw [hol.out] at K hel hoc HT
    clear hM hmem Zwr he HK hL hol
    go_wp2_with (refine ld_w (by rfl) 45 (.tmp 16) rfl bb (oo + k * 46) (by first | rfl | simp [Act.eval]) (eC e na nc ka kc) _ HR.out Tryz.underlying45 rfl (sE HLh.out _ _ _ _) ?_)
    refine K.mono ?_
    clear K c35 HR
    rintro e' w2 ⟨v2, rfl, H⟩
    obtain ⟨ax, cx, rfl, hby, hnil, hlc, _⟩ := H.out.1.byt
    have HZ2 : Hid (Below w1.heap.size w1 w2) := HZr.out.trans (H.out.2.mono HZr.out.size)
    have HO2 : Hid (Mer.OwE (nums .u8) 23 32 w2 w1.heap.size u3 L) := HO.out.grow H.out.2
    have K := rleaf_any ax cx ol (by have := hel.out; omega) w2 hby hnil hoc
    clear H hby hnil hlc HZr HO
    go_wp2_with fail
    refine K.mono ?_
    clear K
    rintro e' w3 ⟨rfl, G3⟩
    have HZ3 : Hid (Below w1.heap.size w1 w3) := HZ2.out.trans (G3.mono HZ2.out.size)
    have HO3 : Hid (Mer.OwE (nums .u8) 23 32 w3 w1.heap.size u3 L) := HO2.out.grow G3
    obtain ⟨d, hd⟩ : ∃ d, Hid (D (0 :: ol) = d) := ⟨_, rfl⟩
    have Hdl : Hid (d.length = 32) := by rw [← hd.out]; exact D_len _
    rw [hd.out] at HT ⊢
    have HX : Hid (Mer.OwE (nums .u8) 23 32 (w3.alloc (.cells (nums .u8 d).toArray 23)) w1.heap.size u3 L) := HO3.out.alloc _
    have HS : Hid (Mer.ES (nums .u8) 32 (w3.alloc (.cells (nums .u8 d).toArray 23)) (some ⟨w3.heap.size, 0, none⟩) [d]) := Mer.es_lit w3 23 d
    have HZx : Hid (Below w1.heap.size w1 (w3.alloc (.cells (nums .u8 d).toArray 23))) := HZ3.out.alloc HZ3.out.size _
    have hLl : L.length + 1 ≤ 100000000 := by have := hkl.out; omega
    clear G3 HZ2 HO2 HO3 HZ3 hd hkl
    have hsx : w1.heap.size ≤ (w3.alloc (.cells (nums .u8 d).toArray 23)).heap.size := HZx.out.size
    go_wp2_with (first | (refine wpList_plain rfl fun K hK => Mer.bs_one 51 23 (.tmp 19) rfl Tryz.underlying51 32 (by decide) (by decide) _ Tryz.sizeOf23 Tryz.zeroValue23 (nums .u8 d) (by rw [nums_length]; exact Hdl.out) rfl (hK _ _ ?_); clear hK K) | (at_builtin; go_must (refine Mer.app_wl rfl (.tmp 12) (.tmp 20) 51 23 rfl Tryz.underlying51 _ 32 Mer.iH (by decide) (by decide) (by decide) w1.heap.size u3 L [d] rfl HX.out (some ⟨w3.heap.size, 0, none⟩) 1 rfl HS.out (fun e => by cases e) (fun y hy => by rw [List.mem_singleton.1 hy, nums_length]; exact ⟨Hdl.out, nums_one _ _⟩) hLl hsx ?_)))
    intro v5 w5 O5 G5
    have HI : Hid (LInv w1 w5 v5 b.es (k + 1)) := ⟨by rw [HT.out]; exact O5, HZx.out.grown G5 hsx (fun z q => (World.ownsRow.lt HX.out.1 z q).1)⟩
    clear O5 G5 HX HS HZx
    go_wp2
    go_roundw
    case rel => exact ⟨k + 1, by omega, by go_num, HI.out⟩
    case measure => simp [intOf]; omega
set_option maxHeartbeats 1000000 in
set_option maxRecDepth 8000 in
theorem rents_any (x : List Nat) (hx : H32 x) (n : Nat) (hn : n ≤ 200) (w : World) :
    Calls Tryz.prog 18 #[.agg (nums .u8 x).toArray, .int .i64 (n : Int)] w fun e w' => e = .returned (.agg (nums .u8 (D (2 :: (x ++ uv n)))).toArray) ∧ Hid (Below w.heap.size w w') := by
  have HX : Hid (H32 x) := hx
  have HLr : Hid (x.length = 32) := hx.1
  have h10 := uv_ten n (by omega)
  clear hx
  go_enter Tryz.func18, Tryz.ntmps18
  go_wp2_with (refine al_box rfl 23 (.tmp 0) rfl (nums .u8 x) rfl ?_)
  intro g2 w1 l2 B2 G0
  have Z := (Below.refl w.heap.size w).grown G0 (Nat.le_refl _) (by simp)
  clear G0
  go_wp2_with (refine al_zero rfl 23 rfl (nums .u8 zr) zHt ?_)
  intro g4 w2 l4 B4 G0
  have hg4 : Hid (w.heap.size ≤ g4) := Nat.le_trans Z.size l4
  have HZ : Hid (Below w.heap.size w w2) := Z.grown G0 Z.size (by simp)
  have HB2 : Hid (Blk w2 g2 23 (nums .u8 x)) := B2.kept G0 (by simp)
  have HB4 : Hid (Blk w2 g4 23 (nums .u8 zr)) := B4
  clear G0 B2 B4 Z l2 l4
  obtain ⟨C, hC⟩ : ∃ C : World → Prop, C = fun V => Below w2.heap.size w2 V := ⟨_, rfl⟩
  have C0 : Hid (C { w2 with drawn := w2.drawn + 1 }) := by rw [hC]; exact Below.drew (Below.refl _ _)
  have CO : Hid (∀ V, C V → Below w2.heap.size w2 V) := fun V h => by rw [hC] at h; exact h
  have CI : Hid (∀ V, Below w2.heap.size w2 V → C V) := fun V h => by rw [hC]; exact h
  have FR : Hid (∀ V, C V → V.rangeAt g2 0 (nums .u8 x)) := fun V h => (HB2.out.below (CO.out V h) HB2.out.lt).all
  clear hC
  go_wp2_with fail
  refine region_calm C 5 (by kernel_rfl) ?_
  have hCp : ∀ p : Prop, (∀ W, C W → p) ↔ p := fun p => ⟨fun h => h _ C0.out, fun h _ _ => h⟩
  generalize ({ w2 with drawn := w2.drawn + 1 } : World) = y0 at *
  refine seg 3 [0, 1, 2] rfl (by kernel_rfl) whole_blind (C0.out) (by kernel_rfl) ?_
  change wpQuiet _ _ _ _ (_ :: _ :: _ :: []) _
  repeat (first
    | go_big_quiet_skip
    | (go_big_quiet_want
       first
       | (refine q_load 23 (.tmp 2) rfl g2 0 rfl (nums .u8 x) _ FR.out Tryz.underlying23 rfl (sH HLr.out) ?_
          simp only [Act.put, List.setIfInBounds_toArray, List.set_cons_zero, List.set_cons_succ]
          go_big_quiet_on)
       | (go_big_quiet_op
          go_big_quiet_on)))
  refine wpQuiet_nil ?_
  refine lone_do (i := 3) 2 rfl (by kernel_rfl) rfl (by rfl) ?_
  intro K hK
  refine oper_call 45 _ _ rfl #[.int .u64 (n : Int)] (by rw [List.map_toArray]; rfl) (enters Tryz.func45 (by kernel_rfl) rfl) (fun v w' => Hid (Own w' y0.heap.size v (uv n) ∧ Below y0.heap.size y0 w')) ((uvr_any n (by omega) y0).mono (by rintro e w' ⟨v, rfl, h⟩; exact ⟨_, rfl, h⟩)) ?_
  rintro v1 y1 H1
  have Z1 : Hid (Below w2.heap.size w2 y1) := (CO.out _ C0.out).trans (H1.out.2.mono (CO.out _ C0.out).size)
  obtain ⟨ax, cx, rfl, hby, hnil, hlc, _⟩ := H1.out.1.byt
  have HY : Hid (Byt y1 ax (uv n)) := hby
  have C1 : Hid (C y1) := CI.out _ Z1.out
  refine hK _ _ (C1.out) ?_
  clear hK K H1 hby
  simp only [Act.put, List.setIfInBounds_toArray, List.set_cons_zero, List.set_cons_succ]
  refine lone_do (i := 4) 1 rfl (by kernel_rfl) rfl (by rfl) ?_
  intro K hK
  refine oper_call 44 _ _ rfl #[.agg (nums .u8 x).toArray, .slice ax (uv n).length cx] (by rw [List.map_toArray]; rfl) (enters Tryz.func44 (by kernel_rfl) rfl) (fun v w' => v = .agg (nums .u8 (D (2 :: (x ++ uv n)))).toArray ∧ Below y1.heap.size y1 w') ((rchain_any x (uv n) HLr.out ax cx (by omega) HX.out.2 (uv_oct _) y1 HY.out hnil).mono (by rintro e w' ⟨rfl, h⟩; exact ⟨_, rfl, rfl, h⟩)) ?_
  rintro v2 y2 ⟨rfl, H2⟩
  have Z2 : Hid (Below w2.heap.size w2 y2) := Z1.out.trans (H2.mono Z1.out.size)
  have C2 : Hid (C y2) := CI.out _ Z2.out
  refine hK _ _ (C2.out) ?_
  clear hK K H2 HY Z1
  simp only [Act.put, List.setIfInBounds_toArray, List.set_cons_zero, List.set_cons_succ]
  refine lone_last (i := 5) 0 rfl rfl (by kernel_rfl) rfl (by rfl) ?_
  intro K hK
  refine oper_sta 23 (.tmp 4) (.tmp 9) rfl rfl g4 23 (nums .u8 zr) (nums .u8 (D (2 :: (x ++ uv n)))) rfl rfl (HB4.out.below Z2.out HB4.out.lt) (by rw [nums_length, nums_length, D_len]; rfl) (sD _) (nums_one _ _) ?_
  intro y3 B3 G3
  have HF : Hid (Below w.heap.size w y3) := by
    have h := HZ.out.trans (Z2.out.mono HZ.out.size)
    exact Sh.grown_below h G3 h.size hg4.out
  refine hK _ _ ?_
  clear hK K G3 C0 C1 C2 CO CI FR hCp Z2 HB2 HB4
  simp only [Act.put]
  refine anyC_done (by kernel_rfl) ⟨rfl, ?_⟩
  go_wp2
  (try simp only [Exit.inBlock, Exit.then])
  refine bodyPost_ret (Sh.res_row rfl _ g4 23 _ _ rfl B3 Tryz.underlying23 rfl (sD _)) rfl ⟨rfl, HF.out⟩
end Go.Proofs.YtlefdnjokppibaaGreatDoor.Sh
namespace Go.Proofs.YtlefdnjokppibaaGreatDoor.Sh
open Go Go.RowKit Math Mt
set_option linter.unusedVariables false
set_option linter.unusedSimpArgs false
set_option maxHeartbeats 1000000 in
set_option maxRecDepth 8000 in
theorem rhed_any (b : Bk) (hb : BkW b) (a : Option Addr) (c : Nat) (w : World) :
    Calls Tryz.prog 36 #[.agg (bC b a c).toArray] w fun e w' => ∃ v', e = .returned v' ∧ Hid (Own w' w.heap.size v' (hedB b) ∧ Below w.heap.size w w') := by
  have HL : Hid (b.pv.length = 32) := hb.pv.1
  obtain ⟨ns, hns⟩ : ∃ ns : List Int, Hid ([b.ix, b.tm, b.tx] = ns) := ⟨_, rfl⟩
  have hn3 : ns.length = 3 := by rw [← hns.out]; rfl
  have HX : Hid (ns.flatMap uvI ++ b.pv = hedB b) := by show _ = _; rw [← hns.out]; simp [hedB]
  have HN : Hid (∀ n ∈ ns, I64 n) := fun n hn => by
    rw [← hns.out] at hn
    simp only [List.mem_cons, List.not_mem_nil, or_false] at hn
    rcases hn with rfl | rfl | rfl
    · exact hb.ix
    · exact hb.tm
    · exact hb.tx
  have HFL : Hid (∀ k, ((ns.take k).flatMap uvI).length ≤ 100) := fun k => by
    have a := flat_uv (ns.take k) fun n hn => HN.out n (List.mem_of_mem_take hn)
    have b : (ns.take k).length ≤ 3 := by rw [List.length_take]; omega
    omega
  clear hb
  go_enter Tryz.func36, Tryz.ntmps36
  go_wp2_with (refine al_box rfl 26 (.tmp 0) rfl (bC b a c) rfl ?_)
  intro gb w1 l1 BB G0
  have HZ : Hid (Below w.heap.size w w1) := (Below.refl w.heap.size w).grown G0 (Nat.le_refl _) (by simp)
  clear G0
  obtain ⟨c0, c1, c2, _, _⟩ := bkF_of HL.out BB
  obtain ⟨W1, HW1⟩ : ∃ W1, Hid (w1.alloc (.cells #[.int .i64 b.ix, .int .i64 b.tm, .int .i64 b.tx] 3) = W1) := ⟨_, rfl⟩
  have HG : Hid (IntsM W1 w1.heap.size ns) := by rw [← HW1.out, ← hns.out]; exact ints_new w1 [b.ix, b.tm, b.tx]
  have hz1 : Hid (W1.heap.size = w1.heap.size + 1) := by show _ = _; rw [← HW1.out]; simp
  have HZ1 : Hid (Below w.heap.size w W1) := by rw [← HW1.out]; exact HZ.out.alloc HZ.out.size _
  have HBB : Hid (Blk W1 gb 26 (bC b a c)) := by rw [← HW1.out]; exact BB.alloc _
  have hzw : w.heap.size ≤ W1.heap.size := HZ1.out.size
  have HA0 : Hid (Ap W1.heap.size W1 W1 (.slice none 0 0) (.slice none 0 0) ((ns.take 0).flatMap uvI)) := by
    show Ap W1.heap.size W1 W1 (.slice none 0 0) (.slice none 0 0) ((ns.take 0).flatMap uvI)
    rw [List.take_zero, List.flatMap_nil]
    exact Ap.refl (World.ownsRow_nil _ _ _ _)
  clear BB HZ
  go_wp2
  generalize hWW : World.alloc w1 _ = W9
  obtain rfl : W1 = W9 := by rw [← hWW, ← HW1.out]
  clear hWW HW1 c0 c1 c2
  go_loopw [3, 5] (fun vb i wr => ∃ k : Nat, k ≤ 3 ∧ i = .int .i64 (k : Int) ∧ Hid (Ap W1.heap.size W1 wr (.slice none 0 0) vb ((ns.take k).flatMap uvI))) (fun _ i _ => 3 - (intOf i).toNat)
  case atStart => exact ⟨0, by omega, rfl, HA0.out⟩
  case round =>
    clear HA0
    obtain ⟨k, hk, rfl, HK⟩ := hrel
    have hs := HK.out.gr.size
    by_cases hlt : k < 3
    case neg =>
      have HF : Hid (Ap W1.heap.size W1 wr (.slice none 0 0) u3 (ns.flatMap uvI)) := by
        have := HK.out
        rw [List.take_of_length_le (by omega)] at this
        exact this
      have hfl : (ns.flatMap uvI).length ≤ 100 := by have := HFL.out 3; rw [List.take_of_length_le (by omega)] at this; exact this
      have BB2 : Blk wr gb 26 (bC b a c) := HF.out.blk HBB.out (by simp [Value.ownBlock])
      have HY : Hid (Byt wr (some ⟨gb, 3, none⟩) b.pv) := .inr ⟨gb, 3, rfl, cells_range (bkF_of HL.out BB2).pv⟩
      clear HK BB2
      go_wp2_with (at_builtin; go_must (refine ap_bytes rfl (.tmp 26) (.tmp 28) rfl W1.heap.size u3 (ns.flatMap uvI) rfl HF.out.own (some ⟨gb, 3, none⟩) 32 32 b.pv HL.out.symm rfl HY.out (by intro h; cases h) (by have := HL.out; omega) hs ?_))
      intro v3 w3 A3
      have HQ : Hid (Own w3 w.heap.size v3 (hedB b) ∧ Below w.heap.size w w3) := by
        have hA := HF.out.trans A3
        refine ⟨by rw [← HX.out]; exact own_mono A3.own hzw, HZ1.out.grown hA.gr hzw (fun x e => by cases e)⟩
      clear A3 HY HF
      go_wp2
      go_ret
      exact ⟨v3, rfl, HQ.out⟩
    obtain ⟨n, hn⟩ : ∃ n, ns[k]? = some n := ⟨_, List.getElem?_eq_getElem (by omega)⟩
    obtain ⟨hn0, hn1⟩ := HN.out n (List.mem_of_getElem? hn)
    obtain ⟨u, hu⟩ : ∃ u : Nat, Hid (u = n.toNat) := ⟨_, rfl⟩
    have hm : max n 0 = (u : Int) := by rw [hu.out]; omega
    have hm2 : max 0 n = (u : Int) := by rw [hu.out]; omega
    have hu1 : u < 9223372036854775808 := by rw [hu.out]; omega
    have cg : wr.cell? ⟨w1.heap.size, k, none⟩ = some (.int .i64 n) := (cell_keep (HK.out.gr.block w1.heap.size (by have := hz1.out; omega) (fun e => by cases e))).trans (HG.out k n hn)
    have HX2 : Hid ((ns.take (k + 1)).flatMap uvI = (ns.take k).flatMap uvI ++ uv u) := by rw [hu.out]; exact flat_take ns k n hn
    have hlk : ((ns.take k).flatMap uvI).length ≤ 100 := HFL.out k
    have h10 := uv_ten u (by omega)
    have KU : ∀ W (z : Int), z = (u : Int) → Calls Tryz.prog 45 #[.int .u64 z] W fun e w' => ∃ r, e = .returned r ∧ Own w' W.heap.size r (uv u) ∧ Below W.heap.size W w' := fun W z hz => by rw [hz]; exact uvr_any u (by omega) W
    clear hu hn
    go_wp2_with fail
    all_goals
      refine (KU _ _ (by omega)).mono ?_
      rintro e w4 ⟨r, rfl, o1, b1⟩
      obtain ⟨ax, cx, rfl, hby, hnil, _⟩ := o1.byt
      have hs1 := b1.size
      have HB : Hid (Below wr.heap.size wr w4) := b1
      have HY : Hid (Byt w4 ax (uv u)) := hby
      clear o1 b1 KU hby
      go_wp2_with (at_builtin; go_must (refine ap_bytes rfl (.tmp 17) (.tmp 24) rfl W1.heap.size u3 ((ns.take k).flatMap uvI) rfl (HK.out.own.below HB.out) ax _ cx (uv u) rfl rfl HY.out hnil (by omega) (by omega) ?_))
      intro v2 w2 A2
      have HA : Hid (Ap W1.heap.size W1 w2 (.slice none 0 0) v2 ((ns.take (k + 1)).flatMap uvI)) := by
        have := HK.out.trans (Ap.after HB.out A2)
        show Ap W1.heap.size W1 w2 (.slice none 0 0) v2 ((ns.take (k + 1)).flatMap uvI)
        rw [HX2.out]
        exact this
      clear A2 HB HY HX2 HK hm hm2 cg
      go_wp2
      go_roundw
      case rel => exact ⟨k + 1, by omega, by go_num, HA.out⟩
      case measure => simp [intOf]; omega
end Go.Proofs.YtlefdnjokppibaaGreatDoor.Sh
namespace Go.Proofs.YtlefdnjokppibaaGreatDoor.Sh
open Go Go.RowKit Math Mt
set_option linter.unusedVariables false
set_option linter.unusedSimpArgs false
/-- Has an entry nothing but the fields of another one? -/
structure Pl (e x : En) : Prop where
  k : e.k = x.k
  t : e.t = x.t
  tb : e.tb = x.tb
  dc : e.dc = x.dc
  vr : e.vr = x.vr
  h : e.h = x.h
  g : e.g = x.g
  ab : e.ab = x.ab
  ae : e.ae = x.ae
  v : e.v = nv
theorem bstr1 {a b : ByteArray} (h : ¬ a = b) : ¬ a.toList = b.toList := fun q => h (by
  rw [ByteArray.toList_eq, ByteArray.toList_eq] at q
  have q2 := Array.toList_inj.1 q
  cases a; cases b
  simp only at q2
  rw [q2])
theorem gstr1 {a b : Bool} (h : ¬ a = b) : (a = true ∧ b = false) ∨ (a = false ∧ b = true) := by cases a <;> cases b <;> simp_all
theorem off_pl {e x : En} {t : Bool} (h : t = true ↔ Pl e x) (hn : ¬ Pl e x) : t = false := by
  cases t
  · rfl
  · exact absurd (h.1 rfl) hn
set_option maxHeartbeats 4000000 in
set_option maxRecDepth 8000 in
theorem plain_any (e f : En) (he : EnW e) (hf : EnW f) (na : Option Addr) (nc : Nat) (ka : Option Addr) (kc : Nat) (na2 : Option Addr) (nc2 : Nat) (ka2 : Option Addr) (kc2 : Nat) (w : World) (hv : Vl w e.v na nc ka kc) (hv2 : Vl w f.v na2 nc2 ka2 kc2) (t : Bool) (ht : Hid (t = true ↔ Pl e f)) :
    Calls Tryz.prog 80 #[.agg (eC e na nc ka kc).toArray, .agg (eC f na2 nc2 ka2 kc2).toArray] w fun e' w' => e' = .returned (.bool t) ∧ Hid (Below w.heap.size w w') := by
  have HL : Hid (e.h.length = 32) := he.h.1
  have HL2 : Hid (f.h.length = 32) := hf.h.1
  have HE : Hid (EnW e) := he
  have HE2 : Hid (EnW f) := hf
  have HV : Hid (Vl w e.v na nc ka kc) := hv
  have HV2 : Hid (Vl w f.v na2 nc2 ka2 kc2) := hv2
  obtain ⟨th, hth⟩ : ∃ th, Hid (decide (e.h = f.h) = th) := ⟨_, rfl⟩
  have HH : Hid (∀ w, (Op.equalIn 10000 23 (.agg (nums .u8 e.h).toArray) (.agg (nums .u8 f.h).toArray)).run Tryz.prog w = .ok th w) := fun w => by rw [← hth.out]; exact eq_hash he.h hf.h w
  clear he hf hv hv2
  go_enter Tryz.func80, Tryz.ntmps80
  go_wp2_with (refine al_box rfl 45 (.tmp 0) rfl (eC e na nc ka kc) rfl ?_)
  intro g2 w1 l1 B2 G0
  have Z := (Below.refl w.heap.size w).grown G0 (Nat.le_refl _) (by simp)
  clear G0
  go_wp2_with (refine al_box rfl 45 (.tmp 1) rfl (eC f na2 nc2 ka2 kc2) rfl ?_)
  intro g3 w2 l3 B3 G0
  have Z := Z.grown G0 Z.size (by simp)
  have B2 := B2.kept G0 (by simp)
  clear G0
  obtain ⟨a1, a2, a3, a4, a5, a6, a7, a8, a9, a10⟩ := enF_of HL.out B2.all
  obtain ⟨b1, b2, b3, b4, b5, b6, b7, b8, b9, b10⟩ := enF_of HL2.out B3.all
  simp only [Nat.zero_add] at a1 a2 a3 a4 a5 a6 a7 a8 a9 a10 b1 b2 b3 b4 b5 b6 b7 b8 b9 b10
  have A6 : Hid (w2.rangeAt g2 5 (six e.v.1 na nc ka e.v.2.list.length kc)) := a6
  have A7 : Hid (w2.rangeAt g2 11 (nums .u8 e.h)) := a7
  have C6 : Hid (w2.rangeAt g3 5 (six f.v.1 na2 nc2 ka2 f.v.2.list.length kc2)) := b6
  have C7 : Hid (w2.rangeAt g3 11 (nums .u8 f.h)) := b7
  have hHH := HH.out w2
  have HZ : Hid (Below w.heap.size w w2) := Z
  clear a6 a7 b6 b7 B2 B3
  by_cases hk : e.k = f.k
  case neg =>
    obtain rfl : t = false := off_pl ht.out (fun q => hk q.k)
    have hb : (e.k == f.k) = false := beq_eq_false_iff_ne.2 hk
    go_wp2
    go_ret
    exact ⟨rfl, HZ.out⟩
  have Hk : Hid (e.k = f.k) := hk
  rw [← hk] at b1
  clear hk
  by_cases hxt : e.t = f.t
  case neg =>
    obtain rfl : t = false := off_pl ht.out (fun q => hxt q.t)
    have hb : ¬ e.t.toList = f.t.toList := bstr1 hxt
    clear hxt
    go_wp2
    go_ret
    exact ⟨rfl, HZ.out⟩
  have Hxt : Hid (e.t = f.t) := hxt
  rw [← hxt] at b2
  clear hxt
  by_cases htb : e.tb = f.tb
  case neg =>
    obtain rfl : t = false := off_pl ht.out (fun q => htb q.tb)
    have hb : (e.tb == f.tb) = false := beq_eq_false_iff_ne.2 htb
    go_wp2
    go_ret
    exact ⟨rfl, HZ.out⟩
  have Htb : Hid (e.tb = f.tb) := htb
  rw [← htb] at b3
  clear htb
  by_cases hdc : e.dc = f.dc
  case neg =>
    obtain rfl : t = false := off_pl ht.out (fun q => hdc q.dc)
    have hb : (e.dc == f.dc) = false := beq_eq_false_iff_ne.2 hdc
    go_wp2
    go_ret
    exact ⟨rfl, HZ.out⟩
  have Hdc : Hid (e.dc = f.dc) := hdc
  rw [← hdc] at b4
  clear hdc
  by_cases hvr : e.vr = f.vr
  case neg =>
    obtain rfl : t = false := off_pl ht.out (fun q => hvr q.vr)
    have hb : (e.vr == f.vr) = false := beq_eq_false_iff_ne.2 hvr
    go_wp2
    go_ret
    exact ⟨rfl, HZ.out⟩
  have Hvr : Hid (e.vr = f.vr) := hvr
  rw [← hvr] at b5
  clear hvr
  by_cases hh : e.h = f.h
  case neg =>
    obtain rfl : th = false := by rw [← hth.out]; exact decide_eq_false hh
    obtain rfl : t = false := off_pl ht.out (fun q => hh q.h)
    clear hh
    go_wp2_with (first
      | (refine ld_w (by rfl) 23 (.tmp 39) rfl g2 11 rfl (nums .u8 e.h) _ A7.out Tryz.underlying23 rfl (sH HL.out) ?_)
      | (refine ld_w (by rfl) 23 (.tmp 41) rfl g3 11 rfl (nums .u8 f.h) _ C7.out Tryz.underlying23 rfl (sH HL2.out) ?_))
    go_ret
    exact ⟨rfl, HZ.out⟩
  obtain rfl : th = true := by rw [← hth.out]; exact decide_eq_true hh
  have HHh : Hid (e.h = f.h) := hh
  clear hh
  by_cases hg : e.g = f.g
  case neg =>
    obtain rfl : t = false := off_pl ht.out (fun q => hg q.g)
    rcases gstr1 hg with ⟨p, q⟩ | ⟨p, q⟩
    · rw [p] at a8; rw [q] at b8; clear hg p q
      go_wp2_with (first
        | (refine ld_w (by rfl) 23 (.tmp 39) rfl g2 11 rfl (nums .u8 e.h) _ A7.out Tryz.underlying23 rfl (sH HL.out) ?_)
        | (refine ld_w (by rfl) 23 (.tmp 41) rfl g3 11 rfl (nums .u8 f.h) _ C7.out Tryz.underlying23 rfl (sH HL2.out) ?_))
      go_ret
      exact ⟨rfl, HZ.out⟩
    · rw [p] at a8; rw [q] at b8; clear hg p q
      go_wp2_with (first
        | (refine ld_w (by rfl) 23 (.tmp 39) rfl g2 11 rfl (nums .u8 e.h) _ A7.out Tryz.underlying23 rfl (sH HL.out) ?_)
        | (refine ld_w (by rfl) 23 (.tmp 41) rfl g3 11 rfl (nums .u8 f.h) _ C7.out Tryz.underlying23 rfl (sH HL2.out) ?_))
      go_ret
      exact ⟨rfl, HZ.out⟩
  have Hg : Hid (e.g = f.g) := hg
  rw [← hg] at b8
  clear hg
  by_cases hab : e.ab = f.ab
  case neg =>
    obtain rfl : t = false := off_pl ht.out (fun q => hab q.ab)
    have hb : (e.ab == f.ab) = false := beq_eq_false_iff_ne.2 hab
    go_wp2_with (first
      | (refine ld_w (by rfl) 23 (.tmp 39) rfl g2 11 rfl (nums .u8 e.h) _ A7.out Tryz.underlying23 rfl (sH HL.out) ?_)
      | (refine ld_w (by rfl) 23 (.tmp 41) rfl g3 11 rfl (nums .u8 f.h) _ C7.out Tryz.underlying23 rfl (sH HL2.out) ?_))
    go_ret
    exact ⟨rfl, HZ.out⟩
  have Hab : Hid (e.ab = f.ab) := hab
  rw [← hab] at b9
  clear hab
  by_cases hae : e.ae = f.ae
  case neg =>
    obtain rfl : t = false := off_pl ht.out (fun q => hae q.ae)
    have hb : (e.ae == f.ae) = false := beq_eq_false_iff_ne.2 hae
    go_wp2_with (first
      | (refine ld_w (by rfl) 23 (.tmp 39) rfl g2 11 rfl (nums .u8 e.h) _ A7.out Tryz.underlying23 rfl (sH HL.out) ?_)
      | (refine ld_w (by rfl) 23 (.tmp 41) rfl g3 11 rfl (nums .u8 f.h) _ C7.out Tryz.underlying23 rfl (sH HL2.out) ?_))
    go_ret
    exact ⟨rfl, HZ.out⟩
  have Hae : Hid (e.ae = f.ae) := hae
  rw [← hae] at b10
  clear hae
  obtain ⟨tv, HTV⟩ : ∃ tv : Bool, Hid (tv = true ↔ e.v = nv) := by
    by_cases h : e.v = nv
    · exact ⟨true, ⟨fun _ => h, fun _ => rfl⟩⟩
    · exact ⟨false, ⟨fun q => (by cases q), fun q => absurd q h⟩⟩
  have KE := empty_any e.v HE.out.v na nc ka kc w2 (HV.out.below Z) tv HTV
  go_wp2_with (first
    | (refine ld_w (by rfl) 23 (.tmp 39) rfl g2 11 rfl (nums .u8 e.h) _ A7.out Tryz.underlying23 rfl (sH HL.out) ?_)
    | (refine ld_w (by rfl) 23 (.tmp 41) rfl g3 11 rfl (nums .u8 f.h) _ C7.out Tryz.underlying23 rfl (sH HL2.out) ?_)
    | (refine ld_w (by rfl) 41 (.tmp 60) rfl g2 5 rfl (six e.v.1 na nc ka e.v.2.list.length kc) _ A6.out Tryz.underlying41 rfl (szV _ _ _ _ _ _) ?_))
  refine KE.mono ?_
  rintro e' w3 ⟨rfl, H⟩
  obtain rfl : t = tv := by
    refine Bool.eq_iff_iff.2 ?_
    rw [ht.out, HTV.out]
    exact ⟨fun q => q.v, fun q => ⟨Hk.out, Hxt.out, Htb.out, Hdc.out, Hvr.out, HHh.out, Hg.out, Hab.out, Hae.out, q⟩⟩
  have HF : Hid (Below w.heap.size w w3) := Z.trans (H.out.mono Z.size)
  clear KE H Z A6 A7 C6 C7 HV HV2 hHH a1 a2 a3 a4 a5 a8 a9 a10 b1 b2 b3 b4 b5 b8 b9 b10
  go_wp2
  go_ret
  exact ⟨rfl, HF.out⟩
end Go.Proofs.YtlefdnjokppibaaGreatDoor.Sh
