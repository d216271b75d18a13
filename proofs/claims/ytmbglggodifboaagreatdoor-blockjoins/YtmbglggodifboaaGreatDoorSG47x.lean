/-
  The contract of the document's own Leaf. · The contract of the document's own Chain. · The document's Leaves and Entries. · What the document's own Path and Sub make, over lists (no program). · The document's own Root.
-/
import Derived.Test.YtmbglggodifboaaGreatDoorSSRsum
import Derived.Test.YtmbglggodifboaaGreatDoorSG18x
import Derived.Test.YtmbglggodifboaaGreatDoorSG39x
import Derived.Test.YtmbglggodifboaaGreatDoorSBt1
import Derived.Test.YtmbglggodifboaaGreatDoorSG46x
import Derived.Test.YtmbglggodifboaaGreatDoorSG38x
import Derived.Test.YtmbglggodifboaaGreatDoorSG44x
import Derived.Test.YtmbglggodifboaaGreatDoorSG40x
import Derived.Test.YtmbglggodifboaaGreatDoorSG41x
namespace Go.Proofs.YtmbglggodifboaaGreatDoor.Sh
open Go.RowKit Mt
set_option maxHeartbeats 1000000 in
set_option maxRecDepth 8000 in
theorem rleaf_any (a0 : Option Addr) (cap : Nat) (l : List Nat) (hn : l.length ≤ 90000) (w : World) (hc : Hid (Byt w a0 l)) (hnil : a0 = none → cap = 0) (ho : Hid (Oct l)) :
    Calls Tryz.prog 39 #[.slice a0 l.length cap] w fun e w' => e = .returned (.agg (nums .u8 (D (0 :: l))).toArray) ∧ Below w.heap.size w w' := by
  go_enter Tryz.func39, Tryz.ntmps39
  go_wp2_with (refine al_zero rfl 23 rfl _ z25 ?_)
  intro g1 w1 l1 B1 G1
  have Z := (Below.refl w.heap.size w).grown G1 (Nat.le_refl _) (by simp)
  have hc1 := (hc.out.below Z).below ((Below.refl w1.heap.size w1).alloc (Nat.le_refl _) (.cells #[.int .u8 ((0 : Nat) : Int)] 5))
  have oe := own_one w1 0 w1.heap.size (Nat.le_refl _)
  clear G1
  go_wp2_with (at_builtin; go_must (refine app_bytes rfl (.tmp 3) (.tmp 4) rfl w1.heap.size _ [0] rfl oe a0 _ cap l rfl rfl hc1 hnil (by simp; omega) (by simp) ?_))
  intro v1 w2 o1 g2
  have b2 := below_app ((Below.refl w1.heap.size w1).alloc (Nat.le_refl _) (.cells #[.int .u8 ((0 : Nat) : Int)] 5)) (by simp) oe g2
  have B1 := B1.below b2 B1.lt
  have Z := Z.trans (b2.mono Z.size)
  have HC : Hid (Calls Tryz.prog 35 #[v1] w2 fun e w' => e = .returned (.agg (nums .u8 (D (0 :: l))).toArray) ∧ Below w2.heap.size w2 w') :=
    rsum_own (l := 0 :: l) o1 (by simp) (by simp; omega) (fun x hx => by
      rcases List.mem_cons.1 hx with rfl | hx
      · decide
      · exact ho.out x hx)
  clear g2 oe hc1 b2 o1
  go_wp2_with fail
  refine HC.out.mono ?_; rintro e w3 ⟨rfl, Z3⟩
  have B1 := B1.below Z3 B1.lt
  have Z := Z.trans (Z3.mono Z.size)
  have ID : Hid ((Tryz.prog.info? 23).map (·.size) = some (nums .u8 (D (0 :: l))).length) := by show _ = _; rw [nums_length, D_len]; exact s25
  have ND : Hid ((nums .u8 (D (0 :: l))).length = (nums .u8 (List.replicate 32 0)).length) := by show _ = _; rw [nums_length, nums_length, D_len, List.length_replicate]
  clear Z3 HC
  go_wp2_with (refine st_all rfl 23 (.tmp 2) (.tmp 6) rfl g1 23 (nums .u8 (List.replicate 32 0)) (nums .u8 (D (0 :: l))) rfl rfl B1 ND.out ID.out (nums_one _ _) ?_)
  intro we BE GE
  go_wp2
  (try simp only [Exit.inBlock, Exit.then])
  refine bodyPost_ret (res_row rfl _ g1 23 _ _ rfl BE Tryz.underlying23 rfl ID.out) rfl ⟨rfl, grown_below Z GE Z.size l1⟩
end Go.Proofs.YtmbglggodifboaaGreatDoor.Sh
namespace Go.Proofs.YtmbglggodifboaaGreatDoor.Sh
open Go.RowKit Mt
set_option maxHeartbeats 1000000 in
set_option maxRecDepth 8000 in
theorem rchain_any (lh rh : List Nat) (hl : lh.length = 32) (a0 : Option Addr) (cap : Nat) (hn : rh.length ≤ 90000) (hol : Hid (Oct lh)) (hor : Hid (Oct rh)) (w : World) (hc : Hid (Byt w a0 rh)) (hnil : a0 = none → cap = 0) :
    Calls Tryz.prog 44 #[.agg (nums .u8 lh).toArray, .slice a0 rh.length cap] w fun e w' => e = .returned (.agg (nums .u8 (D (2 :: (lh ++ rh)))).toArray) ∧ Below w.heap.size w w' := by
  go_enter Tryz.func44, Tryz.ntmps44
  go_wp2_with (refine al_box rfl 23 (.tmp 0) rfl (nums .u8 lh) rfl ?_)
  intro ga wa la BA GA
  have Z := (Below.refl w.heap.size w).grown GA (Nat.le_refl _) (by simp)
  clear GA
  go_wp2_with (refine al_zero rfl 23 rfl _ z25 ?_)
  intro g1 w1 l1 B1 G1
  have BA := BA.kept G1 (by simp)
  have hg1 : w.heap.size ≤ g1 := Nat.le_trans Z.size l1
  have Z := Z.grown G1 Z.size (by simp)
  have HB : Hid (Byt w1 a0 rh) := hc.out.below Z
  have HL : Hid (Byt (w1.alloc (.cells #[.int .u8 ((2 : Nat) : Int)] 5)) (some ⟨ga, 0, none⟩) lh) := .inr ⟨ga, 0, rfl, blk_cells (BA.alloc _)⟩
  have oe := own_one w1 2 w1.heap.size (Nat.le_refl _)
  have b1 := (Below.refl w1.heap.size w1).alloc (Nat.le_refl _) (.cells #[.int .u8 ((2 : Nat) : Int)] 5)
  clear G1 BA hc
  go_wp2_with (at_builtin; go_must (refine app_bytes rfl (.tmp 5) (.tmp 6) rfl w1.heap.size _ [2] rfl oe (some ⟨ga, 0, none⟩) 32 32 lh hl.symm rfl HL.out (by simp) (by simp; omega) (by simp) ?_))
  intro v1 w2 o1 g2
  have b2 := below_app b1 (by simp) oe g2
  have HB2 : Hid (Byt w2 a0 rh) := HB.out.below b2
  have s2 := b2.size
  clear g2 oe b1 HL HB
  go_wp2_with (at_builtin; go_must (refine app_bytes rfl (.tmp 7) (.tmp 8) rfl w1.heap.size _ (2 :: lh) rfl o1 a0 _ cap rh rfl rfl HB2.out hnil (by simp; omega) s2 ?_))
  intro v2 w3 o2 g3
  have b3 := below_app b2 s2 o1 g3
  have B1 := B1.below b3 B1.lt
  have Z := Z.trans (b3.mono Z.size)
  have HC : Hid (Calls Tryz.prog 35 #[v2] w3 fun e w' => e = .returned (.agg (nums .u8 (D (2 :: (lh ++ rh)))).toArray) ∧ Below w3.heap.size w3 w') := by
    have o3 : Own w3 w1.heap.size v2 (2 :: (lh ++ rh)) := by simpa using o2
    exact rsum_own o3 (by simp) (by simp; omega) (fun x hx => by
      rcases List.mem_cons.1 hx with rfl | hx
      · decide
      rcases List.mem_append.1 hx with hx | hx
      · exact hol.out x hx
      · exact hor.out x hx)
  clear g3 o1 o2 b2 b3 HB2
  go_wp2_with fail
  refine HC.out.mono ?_; rintro e w4 ⟨rfl, Z3⟩
  have B1 := B1.below Z3 B1.lt
  have Z := Z.trans (Z3.mono Z.size)
  have ID : Hid ((Tryz.prog.info? 23).map (·.size) = some (nums .u8 (D (2 :: (lh ++ rh)))).length) := by show _ = _; rw [nums_length, D_len]; exact s25
  have ND : Hid ((nums .u8 (D (2 :: (lh ++ rh)))).length = (nums .u8 (List.replicate 32 0)).length) := by show _ = _; rw [nums_length, nums_length, D_len, List.length_replicate]
  clear Z3 HC
  go_wp2_with (refine st_all rfl 23 (.tmp 4) (.tmp 10) rfl g1 23 (nums .u8 (List.replicate 32 0)) (nums .u8 (D (2 :: (lh ++ rh)))) rfl rfl B1 ND.out ID.out (nums_one _ _) ?_)
  intro we BE GE
  go_wp2
  (try simp only [Exit.inBlock, Exit.then])
  refine bodyPost_ret (res_row rfl _ g1 23 _ _ rfl BE Tryz.underlying23 rfl ID.out) rfl ⟨rfl, grown_below Z GE Z.size hg1⟩
end Go.Proofs.YtmbglggodifboaaGreatDoor.Sh
namespace Go.Proofs.YtmbglggodifboaaGreatDoor.Sh
open Go Go.RowKit Math Mt
set_option linter.unusedVariables false
set_option linter.unusedSimpArgs false
/-- A leaf of a block. -/
def lfE (e : En) : List Nat := D (0 :: entB e)
/-- While the leaves are made. -/
structure LInv (w1 wr : World) (v : Value) (es : List En) (k : Nat) : Prop where
  own : Mer.OwE (nums .u8) 23 32 wr w1.heap.size v ((es.take k).map lfE)
  bl : Below w1.heap.size w1 wr
theorem eH_of (es : List En) : eH (es.map entB) = D (2 :: (Mer.Mk.R Mer.nd Mer.em (es.map lfE) ++ uv es.length)) := by
  unfold eH lfE
  rw [List.map_map, List.length_map]
  rfl
theorem hl_lfE (es : List En) : Mer.Hl (es.map lfE) := fun x hx => by
  obtain ⟨o, _, rfl⟩ := List.mem_map.1 hx
  exact ⟨D_len _, D_oct _⟩
theorem own_low {w : World} {base base' : Nat} {e : TypeId} {size : Nat} {v : Value} {n : Nat} {xs : List Value} (h : w.ownsRow base e size v n xs) (hb : base' ≤ base) : w.ownsRow base' e size v n xs := by
  rcases h with ⟨h1, h2 | ⟨g, cap, cur, e1, e2, e3⟩⟩
  · exact ⟨h1, .inl h2⟩
  · exact ⟨h1, .inr ⟨g, cap, cur, e1, Nat.le_trans hb e2, e3⟩⟩
set_option maxHeartbeats 1000000 in
set_option maxRecDepth 8000 in
theorem rleaves_any (b : Bk) (hb : BkW b) (hn : b.es.length ≤ 200) (hm : ∀ e ∈ b.es, Num e) (a : Option Addr) (c : Nat) (w : World) (hE : EsM w a b.es) :
    Calls Tryz.prog 20 #[.agg (bC b a c).toArray] w fun e w' => ∃ v', e = .returned v' ∧ Hid (Mer.OwE (nums .u8) 23 32 w' w.heap.size v' (b.es.map lfE) ∧ Below w.heap.size w w') := by
  have HL : Hid (b.pv.length = 32) := hb.pv.1
  have HB : Hid (BkW b) := hb
  have HE : Hid (EsM w a b.es) := hE
  have HM : Hid (∀ e ∈ b.es, Num e) := hm
  clear hb hE hm
  go_enter Tryz.func20, Tryz.ntmps20
  go_wp2_with (refine al_box rfl 26 (.tmp 0) rfl (bC b a c) rfl ?_)
  intro gb w1 l1 B1 G0
  have HZ : Hid (Below w.heap.size w w1) := (Below.refl w.heap.size w).grown G0 (Nat.le_refl _) (by simp)
  have HB1 : Hid (Blk w1 gb 26 (bC b a c)) := B1
  have hw01 : Hid (w.heap.size ≤ w1.heap.size) := HZ.out.size
  clear G0 B1
  have HI0 : Hid (LInv w1 w1 (.slice none 0 0) b.es 0) := ⟨Mer.owe_nil _ _ _ _ _, Below.refl _ _⟩
  go_wp2
  go_loopw [3, 4] (fun v i wr => ∃ k : Nat, k ≤ b.es.length ∧ i = .int .i64 (k : Int) ∧ Hid (LInv w1 wr v b.es k)) (fun _ i _ => b.es.length - (intOf i).toNat)
  case atStart => exact ⟨0, by omega, rfl, HI0.out⟩
  case round =>
    clear HI0
    obtain ⟨k, hk, rfl, HK⟩ := hrel
    have c35 := (bkF_of HL.out (HB1.out.below HK.out.bl HB1.out.lt)).es
    by_cases hlt : k < b.es.length
    case neg =>
      have HF : Hid (Mer.OwE (nums .u8) 23 32 wr w.heap.size u3 (b.es.map lfE) ∧ Below w.heap.size w wr) := by
        have h := HK.out.own
        rw [List.take_of_length_le (by omega)] at h
        exact ⟨⟨own_low h.1 hw01.out, h.2⟩, HZ.out.trans (HK.out.bl.mono hw01.out)⟩
      clear HK
      go_wp2
      go_ret
      exact ⟨u3, rfl, HF.out⟩
    obtain ⟨e, he⟩ : ∃ e, b.es[k]? = some e := ⟨_, List.getElem?_eq_getElem hlt⟩
    obtain ⟨bb, oo, na, nc, ka, kc, rfl, hM⟩ := HE.out.get he
    have hmem := List.mem_of_getElem? he
    have HEW : Hid (EnW e) := HB.out.es e hmem
    have HNm : Hid (Num e) := HM.out e hmem
    have HLh : Hid (e.h.length = 32) := HEW.out.h.1
    have HT : Hid ((b.es.take (k + 1)).map lfE = (b.es.take k).map lfE ++ [D (0 :: entB e)]) := by
      obtain ⟨h1, h2⟩ := List.getElem?_eq_some_iff.1 he
      show _ = _
      rw [List.take_succ_eq_append_getElem h1, h2, List.map_append]
      rfl
    have hkl : Hid (((b.es.take k).map lfE).length = k) := by show _ = _; rw [List.length_map, List.length_take]; omega
    have Zwr : Below w.heap.size w wr := HZ.out.trans (HK.out.bl.mono hw01.out)
    have HR : Hid (wr.rangeAt bb (oo + k * 46) (eC e na nc ka kc)) := (hM.below Zwr).at'
    have hel : Hid ((entB e).length ≤ 4196) := by have := ent_len HEW.out HNm.out; show _ ≤ _; omega
    have hoc : Hid (Oct (entB e)) := ent_oct HEW.out HNm.out
    have K := rent_any e HEW.out HNm.out na nc ka kc wr
    obtain ⟨L, hL⟩ : ∃ L, Hid ((b.es.take k).map lfE = L) := ⟨_, rfl⟩
    have HO : Hid (Mer.OwE (nums .u8) 23 32 wr w1.heap.size u3 L) := by rw [← hL.out]; exact HK.out.own
    have HZr : Hid (Below w1.heap.size w1 wr) := HK.out.bl
    rw [hL.out] at HT hkl
    obtain ⟨ol, hol⟩ : ∃ ol, Hid (entB e = ol) := ⟨_, rfl⟩
    rw [hol.out] at K hel hoc HT
    clear hM hmem Zwr he HK hL hol
    go_wp2_with (refine ld_w (by rfl) 45 (.tmp 16) rfl bb (oo + k * 46) (by first | rfl | simp [Act.eval]) (eC e na nc ka kc) _ HR.out Tryz.underlying45 rfl (sE HLh.out _ _ _ _) ?_)
    refine K.mono ?_
    clear K c35 HR
    rintro e' w2 ⟨v2, rfl, H⟩
    obtain ⟨ax, cx, rfl, hby, hnil, hlc, _⟩ := H.out.1.byt
    have HZ2 : Hid (Below w1.heap.size w1 w2) := HZr.out.trans (H.out.2.mono HZr.out.size)
    have HO2 : Hid (Mer.OwE (nums .u8) 23 32 w2 w1.heap.size u3 L) := HO.out.grow H.out.2
    have K := rleaf_any ax cx ol (by have := hel.out; omega) w2 hby hnil hoc
    clear H hby hnil hlc HZr HO
    go_wp2_with fail
    refine K.mono ?_
    clear K
    rintro e' w3 ⟨rfl, G3⟩
    have HZ3 : Hid (Below w1.heap.size w1 w3) := HZ2.out.trans (G3.mono HZ2.out.size)
    have HO3 : Hid (Mer.OwE (nums .u8) 23 32 w3 w1.heap.size u3 L) := HO2.out.grow G3
    obtain ⟨d, hd⟩ : ∃ d, Hid (D (0 :: ol) = d) := ⟨_, rfl⟩
    have Hdl : Hid (d.length = 32) := by rw [← hd.out]; exact D_len _
    rw [hd.out] at HT ⊢
    have HX : Hid (Mer.OwE (nums .u8) 23 32 (w3.alloc (.cells (nums .u8 d).toArray 23)) w1.heap.size u3 L) := HO3.out.alloc _
    have HS : Hid (Mer.ES (nums .u8) 32 (w3.alloc (.cells (nums .u8 d).toArray 23)) (some ⟨w3.heap.size, 0, none⟩) [d]) := Mer.es_lit w3 23 d
    have HZx : Hid (Below w1.heap.size w1 (w3.alloc (.cells (nums .u8 d).toArray 23))) := HZ3.out.alloc HZ3.out.size _
    have hLl : L.length + 1 ≤ 100000000 := by have := hkl.out; omega
    clear G3 HZ2 HO2 HO3 HZ3 hd hkl
    have hsx : w1.heap.size ≤ (w3.alloc (.cells (nums .u8 d).toArray 23)).heap.size := HZx.out.size
    go_wp2_with (first | (refine wpList_plain rfl fun K hK => Mer.bs_one 51 23 (.tmp 19) rfl Tryz.underlying51 32 (by decide) (by decide) _ Tryz.sizeOf23 Tryz.zeroValue23 (nums .u8 d) (by rw [nums_length]; exact Hdl.out) rfl (hK _ _ ?_); clear hK K) | (at_builtin; go_must (refine Mer.app_wl rfl (.tmp 12) (.tmp 20) 51 23 rfl Tryz.underlying51 _ 32 Mer.iH (by decide) (by decide) (by decide) w1.heap.size u3 L [d] rfl HX.out (some ⟨w3.heap.size, 0, none⟩) 1 rfl HS.out (fun e => by cases e) (fun y hy => by rw [List.mem_singleton.1 hy, nums_length]; exact ⟨Hdl.out, nums_one _ _⟩) hLl hsx ?_)))
    intro v5 w5 O5 G5
    have HI : Hid (LInv w1 w5 v5 b.es (k + 1)) := ⟨by rw [HT.out]; exact O5, HZx.out.grown G5 hsx (fun z q => (World.ownsRow.lt HX.out.1 z q).1)⟩
    clear O5 G5 HX HS HZx
    go_wp2
    go_roundw
    case rel => exact ⟨k + 1, by omega, by go_num, HI.out⟩
    case measure => simp [intOf]; omega
set_option maxHeartbeats 1000000 in
set_option maxRecDepth 8000 in
theorem rents_any (x : List Nat) (hx : H32 x) (n : Nat) (hn : n ≤ 200) (w : World) :
    Calls Tryz.prog 18 #[.agg (nums .u8 x).toArray, .int .i64 (n : Int)] w fun e w' => e = .returned (.agg (nums .u8 (D (2 :: (x ++ uv n)))).toArray) ∧ Hid (Below w.heap.size w w') := by
  have HX : Hid (H32 x) := hx
  have HLr : Hid (x.length = 32) := hx.1
  have h10 := uv_ten n (by omega)
  clear hx
  go_enter Tryz.func18, Tryz.ntmps18
  go_wp2_with (refine al_box rfl 23 (.tmp 0) rfl (nums .u8 x) rfl ?_)
  intro g2 w1 l2 B2 G0
  have Z := (Below.refl w.heap.size w).grown G0 (Nat.le_refl _) (by simp)
  clear G0
  go_wp2_with (refine al_zero rfl 23 rfl (nums .u8 zr) zHt ?_)
  intro g4 w2 l4 B4 G0
  have hg4 : Hid (w.heap.size ≤ g4) := Nat.le_trans Z.size l4
  have HZ : Hid (Below w.heap.size w w2) := Z.grown G0 Z.size (by simp)
  have HB2 : Hid (Blk w2 g2 23 (nums .u8 x)) := B2.kept G0 (by simp)
  have HB4 : Hid (Blk w2 g4 23 (nums .u8 zr)) := B4
  clear G0 B2 B4 Z l2 l4
  obtain ⟨C, hC⟩ : ∃ C : World → Prop, C = fun V => Below w2.heap.size w2 V := ⟨_, rfl⟩
  have C0 : Hid (C { w2 with drawn := w2.drawn + 1 }) := by rw [hC]; exact Below.drew (Below.refl _ _)
  have CO : Hid (∀ V, C V → Below w2.heap.size w2 V) := fun V h => by rw [hC] at h; exact h
  have CI : Hid (∀ V, Below w2.heap.size w2 V → C V) := fun V h => by rw [hC]; exact h
  have FR : Hid (∀ V, C V → V.rangeAt g2 0 (nums .u8 x)) := fun V h => (HB2.out.below (CO.out V h) HB2.out.lt).all
  clear hC
  go_wp2_with fail
  refine region_calm C 5 (by kernel_rfl) ?_
  have hCp : ∀ p : Prop, (∀ W, C W → p) ↔ p := fun p => ⟨fun h => h _ C0.out, fun h _ _ => h⟩
  generalize ({ w2 with drawn := w2.drawn + 1 } : World) = y0 at *
  refine seg 3 [0, 1, 2] rfl (by kernel_rfl) whole_blind (C0.out) (by kernel_rfl) ?_
  change wpQuiet _ _ _ _ (_ :: _ :: _ :: []) _
  repeat (first
    | go_big_quiet_skip
    | (go_big_quiet_want
       first
       | (refine q_load 23 (.tmp 2) rfl g2 0 rfl (nums .u8 x) _ FR.out Tryz.underlying23 rfl (sH HLr.out) ?_
          simp only [Act.put, List.setIfInBounds_toArray, List.set_cons_zero, List.set_cons_succ]
          go_big_quiet_on)
       | (go_big_quiet_op
          go_big_quiet_on)))
  refine wpQuiet_nil ?_
  refine lone_do (i := 3) 2 rfl (by kernel_rfl) rfl (by rfl) ?_
  intro K hK
  refine oper_call 45 _ _ rfl #[.int .u64 (n : Int)] (by rw [List.map_toArray]; rfl) (enters Tryz.func45 (by kernel_rfl) rfl) (fun v w' => Hid (Own w' y0.heap.size v (uv n) ∧ Below y0.heap.size y0 w')) ((uvr_any n (by omega) y0).mono (by rintro e w' ⟨v, rfl, h⟩; exact ⟨_, rfl, h⟩)) ?_
  rintro v1 y1 H1
  have Z1 : Hid (Below w2.heap.size w2 y1) := (CO.out _ C0.out).trans (H1.out.2.mono (CO.out _ C0.out).size)
  obtain ⟨ax, cx, rfl, hby, hnil, hlc, _⟩ := H1.out.1.byt
  have HY : Hid (Byt y1 ax (uv n)) := hby
  have C1 : Hid (C y1) := CI.out _ Z1.out
  refine hK _ _ (C1.out) ?_
  clear hK K H1 hby
  simp only [Act.put, List.setIfInBounds_toArray, List.set_cons_zero, List.set_cons_succ]
  refine lone_do (i := 4) 1 rfl (by kernel_rfl) rfl (by rfl) ?_
  intro K hK
  refine oper_call 44 _ _ rfl #[.agg (nums .u8 x).toArray, .slice ax (uv n).length cx] (by rw [List.map_toArray]; rfl) (enters Tryz.func44 (by kernel_rfl) rfl) (fun v w' => v = .agg (nums .u8 (D (2 :: (x ++ uv n)))).toArray ∧ Below y1.heap.size y1 w') ((rchain_any x (uv n) HLr.out ax cx (by omega) HX.out.2 (uv_oct _) y1 HY.out hnil).mono (by rintro e w' ⟨rfl, h⟩; exact ⟨_, rfl, rfl, h⟩)) ?_
  rintro v2 y2 ⟨rfl, H2⟩
  have Z2 : Hid (Below w2.heap.size w2 y2) := Z1.out.trans (H2.mono Z1.out.size)
  have C2 : Hid (C y2) := CI.out _ Z2.out
  refine hK _ _ (C2.out) ?_
  clear hK K H2 HY Z1
  simp only [Act.put, List.setIfInBounds_toArray, List.set_cons_zero, List.set_cons_succ]
  refine lone_last (i := 5) 0 rfl rfl (by kernel_rfl) rfl (by rfl) ?_
  intro K hK
  refine oper_sta 23 (.tmp 4) (.tmp 9) rfl rfl g4 23 (nums .u8 zr) (nums .u8 (D (2 :: (x ++ uv n)))) rfl rfl (HB4.out.below Z2.out HB4.out.lt) (by rw [nums_length, nums_length, D_len]; rfl) (sD _) (nums_one _ _) ?_
  intro y3 B3 G3
  have HF : Hid (Below w.heap.size w y3) := by
    have h := HZ.out.trans (Z2.out.mono HZ.out.size)
    exact Sh.grown_below h G3 h.size hg4.out
  refine hK _ _ ?_
  clear hK K G3 C0 C1 C2 CO CI FR hCp Z2 HB2 HB4
  simp only [Act.put]
  refine anyC_done (by kernel_rfl) ⟨rfl, ?_⟩
  go_wp2
  (try simp only [Exit.inBlock, Exit.then])
  refine bodyPost_ret (Sh.res_row rfl _ g4 23 _ _ rfl B3 Tryz.underlying23 rfl (sD _)) rfl ⟨rfl, HF.out⟩
end Go.Proofs.YtmbglggodifboaaGreatDoor.Sh
namespace Go.Proofs.YtmbglggodifboaaGreatDoor.Mer
namespace Mk
section
variable {H : Type} (nd : H → H → H) (em : H)
def hd2 (c u : Nat) (w : Bool) (n : Nat) : List (Nat × Nat) := if w = true ∧ u = 0 then wy c (2 * u) n else (c, 2 * u) :: wy c (2 * u) n
end
end Mk
end Go.Proofs.YtmbglggodifboaaGreatDoor.Mer
namespace Go.Proofs.YtmbglggodifboaaGreatDoor.Mer
open Go Go.RowKit Go.Maps Sh
/-- Root of at most so many leaves. -/
def RootC (B : Nat) : Prop := ∀ (a : Option Addr) (cap : Nat) (L : List (List Nat)) (w : World), L.length ≤ B → Hl L → L.length ≤ cap → ES (nums .u8) 32 w a L →
    Calls Tryz.prog 19 #[.slice a L.length cap] w fun e w' => e = .returned (.agg (nums .u8 (Mk.R nd em L)).toArray) ∧ Below w.heap.size w w'
set_option maxHeartbeats 2000000 in
set_option maxRecDepth 8000 in
theorem rroot_nil (a : Option Addr) (cap : Nat) (w : World) : Calls Tryz.prog 19 #[.slice a 0 cap] w fun e w' => e = .returned (.agg (nums .u8 em).toArray) ∧ Below w.heap.size w w' := by
  have HS1 : Hid ((Tryz.prog.info? 23).map (·.size) = some (nums .u8 em).length) := sH em_hh
  have HL1 : Hid ((nums .u8 em).length = (nums .u8 (List.replicate 32 0)).length) := by show _ = _; rw [nums_length, nums_length, em_hh.1, List.length_replicate]
  have KS := fun W => rsum_any none 0 [] (by simp) W (.inl rfl) (fun _ => rfl) (by intro x hx; cases hx)
  obtain ⟨E, hE⟩ : ∃ E, E = em := ⟨_, rfl⟩
  have KS' : Hid (∀ W, Calls Tryz.prog 35 #[.slice none 0 0] W fun e w' => e = .returned (.agg (nums .u8 E).toArray) ∧ Below W.heap.size W w') := by rw [hE]; exact KS
  rw [← hE] at HS1 HL1 ⊢
  clear KS hE
  go_enter Tryz.func19, Tryz.ntmps19
  go_wp2_with (refine Sh.al_zero rfl 23 rfl _ Sh.z25 ?_)
  intro g1 w1 l1 B1 G1
  have Z := (Below.refl w.heap.size w).grown G1 (Nat.le_refl _) (by simp)
  clear G1
  go_wp2_with fail
  refine (KS'.out w1).mono ?_
  rintro e w2 ⟨rfl, Z2⟩
  have B1 := B1.below Z2 B1.lt
  have Z := Z.trans (Z2.mono Z.size)
  clear Z2
  go_wp2_with (refine Sh.st_all rfl 23 (.tmp 2) (.tmp 8) rfl g1 23 (nums .u8 (List.replicate 32 0)) (nums .u8 E) rfl rfl B1 HL1.out HS1.out (nums_one _ _) ?_)
  intro we BE GE
  go_wp2
  (try simp only [Exit.inBlock, Exit.then])
  refine bodyPost_ret (res_row rfl _ g1 23 _ _ rfl BE Tryz.underlying23 rfl HS1.out) rfl ⟨rfl, grown_below Z GE Z.size l1⟩
set_option maxHeartbeats 2000000 in
set_option maxRecDepth 8000 in
theorem rroot_one (a : Option Addr) (cap : Nat) (x : List Nat) (hx : Hh x) (w : World) (hS : ES (nums .u8) 32 w a [x]) : Calls Tryz.prog 19 #[.slice a 1 cap] w fun e w' => e = .returned (.agg (nums .u8 x).toArray) ∧ Below w.heap.size w w' := by
  have HX : Hid (Hh x) := hx
  have HS1 : Hid ((Tryz.prog.info? 23).map (·.size) = some (nums .u8 x).length) := sH hx
  have HL1 : Hid ((nums .u8 x).length = (nums .u8 (List.replicate 32 0)).length) := by show _ = _; rw [nums_length, nums_length, hx.1, List.length_replicate]
  obtain ⟨b, off, rfl, rl⟩ := hS.at (i := 0) (x := x) rfl
  rw [Nat.zero_mul, Nat.add_zero] at rl
  clear hx hS
  go_enter Tryz.func19, Tryz.ntmps19
  go_wp2_with (refine Sh.al_zero rfl 23 rfl _ Sh.z25 ?_)
  intro g1 w1 l1 B1 G1
  have Z := (Below.refl w.heap.size w).grown G1 (Nat.le_refl _) (by simp)
  have RL := range_below rl Z
  clear G1 rl
  go_wp2_with (first | (refine ld_mid rfl 23 (.tmp 12) rfl b off (by first | rfl | simp [Act.eval]) (nums .u8 x) _ RL Tryz.underlying23 rfl (sH HX.out) ?_) | (refine Sh.st_all rfl 23 (.tmp 2) (.tmp 13) rfl g1 23 (nums .u8 (List.replicate 32 0)) (nums .u8 x) rfl rfl B1 HL1.out HS1.out (nums_one _ _) ?_))
  intro we BE GE
  go_wp2
  (try simp only [Exit.inBlock, Exit.then])
  refine bodyPost_ret (res_row rfl _ g1 23 _ _ rfl BE Tryz.underlying23 rfl HS1.out) rfl ⟨rfl, grown_below Z GE Z.size l1⟩
set_option maxHeartbeats 2000000 in
set_option maxRecDepth 8000 in
theorem rroot_step (T P : Nat) (hP : Hid (P = 2 ^ T)) (ih : RootC P) (L : List (List Nat)) (hL : Hl L) (a : Option Addr) (cap : Nat) (h1 : P < L.length) (h2 : L.length ≤ 2 * P) (hlen : L.length ≤ 1000000) (hcap : L.length ≤ cap) (w : World) (hS : ES (nums .u8) 32 w a L) :
    Calls Tryz.prog 19 #[.slice a L.length cap] w fun e w' => e = .returned (.agg (nums .u8 (Mk.R nd em L)).toArray) ∧ Below w.heap.size w w' := by
  have hp1 : 1 ≤ P := by rw [hP.out]; exact Mk.pow_pos2 T
  obtain ⟨LT, hLT⟩ : ∃ LT, Hid (LT = L.take P) := ⟨_, rfl⟩
  obtain ⟨LD, hLD⟩ : ∃ LD, Hid (LD = L.drop P) := ⟨_, rfl⟩
  have lT : Hid (LT.length = P) := by show _ = _; rw [hLT.out, List.length_take]; omega
  have lD : Hid (LD.length = L.length - P) := by show _ = _; rw [hLD.out, List.length_drop]
  have HLT : Hid (Hl LT) := by show Hl LT; rw [hLT.out]; exact hL.take P
  have HLD : Hid (Hl LD) := by show Hl LD; rw [hLD.out]; exact hL.drop P
  have HA : Hid (ES (nums .u8) 32 w (lo a cap 0) LT) := by show ES _ _ _ _ LT; rw [hLT.out]; exact lo_zero (hS.take P) cap
  have HB : Hid (ES (nums .u8) 32 w (lo a cap P) LD) := by show ES _ _ _ _ LD; rw [hLD.out]; exact hS.lo cap P hcap
  obtain ⟨x, hx⟩ : ∃ x, Hid (x = Mk.R nd em LT) := ⟨_, rfl⟩
  obtain ⟨y, hy⟩ : ∃ y, Hid (y = Mk.R nd em LD) := ⟨_, rfl⟩
  have HX : Hid (Hh x) := by show Hh x; rw [hx.out]; exact R_hh HLT.out
  have HY : Hid (Hh y) := by show Hh y; rw [hy.out]; exact R_hh HLD.out
  have HR : Mk.R nd em L = nd x y := by rw [hx.out, hy.out, hLT.out, hLD.out, hP.out]; exact Mk.R_split nd em (T := T) (by rw [← hP.out]; exact h1) (by rw [Nat.pow_succ, ← hP.out]; omega)
  have KX : Hid (∀ W, ES (nums .u8) 32 W (lo a cap 0) LT → Calls Tryz.prog 19 #[.slice (lo a cap 0) P cap] W fun e w' => e = .returned (.agg (nums .u8 x).toArray) ∧ Below W.heap.size W w') := fun W hW => by
    have K := ih (lo a cap 0) cap LT W (by rw [lT.out]; exact Nat.le_refl _) HLT.out (by rw [lT.out]; omega) hW
    rw [lT.out, ← hx.out] at K; exact K
  have KY : Hid (∀ W, ES (nums .u8) 32 W (lo a cap P) LD → Calls Tryz.prog 19 #[.slice (lo a cap P) (L.length - P) (cap - P)] W fun e w' => e = .returned (.agg (nums .u8 y).toArray) ∧ Below W.heap.size W w') := fun W hW => by
    have K := ih (lo a cap P) (cap - P) LD W (by rw [lD.out]; omega) HLD.out (by rw [lD.out]; omega) hW
    rw [lD.out, ← hy.out] at K; exact K
  have KHH : Hid (∀ W, Calls Tryz.prog 46 #[.int .i64 (L.length : Int)] W fun e w' => e = .returned (.int .i64 (P : Int)) ∧ w' = W) := fun W => half_any L.length T P hP (by rw [← hP.out]; exact h1) (by rw [Nat.pow_succ, ← hP.out]; omega) (by omega) W
  have HNs : Hid ((Tryz.prog.info? 23).map (·.size) = some (nums .u8 (nd x y)).length) := sH (nd_hh _ _)
  have HNl : Hid ((nums .u8 (nd x y)).length = (nums .u8 (List.replicate 32 0)).length) := by show _ = _; rw [nums_length, nums_length, (nd_hh x y).1, List.length_replicate]
  have hne0 : ((L.length : Int) == 0) = false := by rw [beq_eq_false_iff_ne]; omega
  have hne1 : ((L.length : Int) == 1) = false := by rw [beq_eq_false_iff_ne]; omega
  rw [HR]
  clear hL hS ih HR hLT hLD lT lD hx hy
  go_enter Tryz.func19, Tryz.ntmps19
  go_wp2_with (refine Sh.al_zero rfl 23 rfl _ Sh.z25 ?_)
  intro g1 w1 l1 B1 G1
  have Z := (Below.refl w.heap.size w).grown G1 (Nat.le_refl _) (by simp)
  clear G1
  go_wp2_with fail
  refine (KHH.out w1).mono ?_
  rintro e w1' ⟨rfl, hw1⟩
  rw [hw1]
  clear hw1 w1'
  go_wp2_with fail
  obtain ⟨C, hC⟩ : ∃ C : World → Prop, C = fun W => Below w1.heap.size w1 W := ⟨_, rfl⟩
  have FA : Hid (∀ W, C W → ES (nums .u8) 32 W (lo a cap 0) LT) := fun W hW => by rw [hC] at hW; exact HA.out.below (Z.trans (hW.mono Z.size))
  have FB : Hid (∀ W, C W → ES (nums .u8) 32 W (lo a cap P) LD) := fun W hW => by rw [hC] at hW; exact HB.out.below (Z.trans (hW.mono Z.size))
  have F1 : Hid (∀ W, C W → Sh.Blk W g1 23 (nums .u8 (List.replicate 32 0))) := fun W hW => by rw [hC] at hW; exact B1.below hW B1.lt
  have CK : Hid (∀ W W', C W → Below W.heap.size W W' → C W') := fun W W' h1 h2 => by rw [hC] at h1 ⊢; exact h1.trans (h2.mono h1.size)
  have CA : Hid (∀ W W', C W → Below w1.heap.size W W' → C W') := fun W W' h1 h2 => by rw [hC] at h1 ⊢; exact h1.trans h2
  have CE : Hid (∀ W, C W → Below w1.heap.size w1 W) := fun W h => by rw [hC] at h; exact h
  have C0 : Hid (C { w1 with drawn := w1.drawn + 1 }) := by rw [hC]; exact Below.drew (Below.refl _ _)
  clear hC
  refine region_calm C 9 (by kernel_rfl) ?_
  have hCp : ∀ p : Prop, (∀ W, C W → p) ↔ p := fun p => ⟨fun h => h _ C0.out, fun h _ _ => h⟩
  generalize ({ w1 with drawn := w1.drawn + 1 } : World) = y0 at *
  refine seg 4 [0, 1, 2, 4, 5, 6] rfl (by kernel_rfl) whole_blind (C0.out) (by kernel_rfl) ?_
  change wpQuiet _ _ _ _ (_ :: _ :: _ :: _ :: _ :: _ :: []) _
  repeat (first
    | go_big_quiet_skip
    | (go_big_quiet_want
       first
       | (refine q_hi (.tmp 17) (.tmp 18) rfl a L.length cap P rfl rfl (by omega) ?_
          simp only [Act.put, List.setIfInBounds_toArray, List.set_cons_zero, List.set_cons_succ]
          go_big_quiet_on)
       | (refine q_lo (.tmp 21) (.tmp 22) rfl a L.length cap P rfl rfl (by omega) (by omega) ?_
          simp only [Act.put, List.setIfInBounds_toArray, List.set_cons_zero, List.set_cons_succ]
          go_big_quiet_on)
       | (go_big_quiet_op
          go_big_quiet_on)))
  refine wpQuiet_nil ?_
  refine lone_do (i := 3) 3 rfl (by kernel_rfl) rfl (by rfl) ?_
  intro K hK
  refine oper_calls 19 _ _ rfl #[.slice (lo a cap 0) P cap] (by rw [List.map_toArray]; rfl) (enters Tryz.func19 (by kernel_rfl) rfl) (fun v w' => v = .agg (nums .u8 x).toArray ∧ Below y0.heap.size y0 w') ((KX.out y0 (FA.out _ C0.out)).mono (by rintro e w' ⟨rfl, g⟩; exact ⟨_, rfl, rfl, g⟩)) ?_
  rintro v y1 ⟨rfl, Z1⟩
  have C1 : Hid (C y1) := CK.out _ _ C0.out Z1
  clear Z1
  refine hK _ _ (C1.out) ?_
  clear hK K
  simp only [Act.put, List.setIfInBounds_toArray, List.set_cons_zero, List.set_cons_succ]
  refine lone_do (i := 7) 2 rfl (by kernel_rfl) rfl (by rfl) ?_
  intro K hK
  refine oper_calls 19 _ _ rfl #[.slice (lo a cap P) (L.length - P) (cap - P)] (by rw [List.map_toArray]; rfl) (enters Tryz.func19 (by kernel_rfl) rfl) (fun v w' => v = .agg (nums .u8 y).toArray ∧ Below y1.heap.size y1 w') ((KY.out y1 (FB.out _ C1.out)).mono (by rintro e w' ⟨rfl, g⟩; exact ⟨_, rfl, rfl, g⟩)) ?_
  rintro v y2 ⟨rfl, Z2⟩
  have C2 : Hid (C y2) := CK.out _ _ C1.out Z2
  clear Z2
  refine hK _ _ (C2.out) ?_
  clear hK K
  simp only [Act.put, List.setIfInBounds_toArray, List.set_cons_zero, List.set_cons_succ]
  refine lone_do (i := 8) 1 rfl (by kernel_rfl) rfl (by rfl) ?_
  intro K hK
  refine oper_calls 22 _ _ rfl #[.agg (nums .u8 x).toArray, .agg (nums .u8 y).toArray] (by rw [List.map_toArray]; rfl) (enters Tryz.func22 (by kernel_rfl) rfl) (fun v w' => v = .agg (nums .u8 (nd x y)).toArray ∧ Below y2.heap.size y2 w') ((rnode_any x y HX.out.1 HY.out.1 HX.out.2 HY.out.2 y2).mono (by rintro e w' ⟨rfl, g⟩; exact ⟨_, rfl, rfl, g⟩)) ?_
  rintro v y3 ⟨rfl, Z3⟩
  have C3 : Hid (C y3) := CK.out _ _ C2.out Z3
  clear Z3
  refine hK _ _ (C3.out) ?_
  clear hK K
  simp only [Act.put, List.setIfInBounds_toArray, List.set_cons_zero, List.set_cons_succ]
  refine lone_last (i := 9) 0 rfl rfl (by kernel_rfl) rfl (by rfl) ?_
  intro K hK
  refine oper_all 23 (.tmp 2) (.tmp 25) rfl g1 23 (nums .u8 (List.replicate 32 0)) (nums .u8 (nd x y)) rfl rfl (F1.out _ C3.out) HNl.out HNs.out (nums_one _ _) ?_
  intro y4 B4 G4
  refine hK _ _ ?_
  clear hK K
  refine anyC_done (by kernel_rfl) ⟨rfl, ?_⟩
  simp only [Act.put]
  have ZE := grown_below (Z.trans ((CE.out _ C3.out).mono Z.size)) G4 (Z.trans ((CE.out _ C3.out).mono Z.size)).size l1
  clear C0 C1 C2 C3 CK CA CE FA FB F1 hCp
  go_wp2
  (try simp only [Exit.inBlock, Exit.then])
  refine bodyPost_ret (res_row rfl _ g1 23 _ _ rfl B4 Tryz.underlying23 rfl HNs.out) rfl ⟨rfl, ZE⟩
theorem rroot_all : ∀ T, T ≤ 19 → RootC (2 ^ T)
  | 0, _ => fun a cap L w hn hL hcap hS => by
    match L, hn, hL, hS with
    | [], _, _, _ => exact rroot_nil a cap w
    | [x], _, hL, hS => rw [Mk.R_one]; exact rroot_one a cap x (hL x (by simp)) w hS
    | x :: y :: r, hn, _, _ => simp at hn
  | T + 1, hT => fun a cap L w hn hL hcap hS => by
    have ih := rroot_all T (by omega)
    by_cases hs : L.length ≤ 2 ^ T
    · exact ih a cap L w hs hL hcap hS
    · have hb : 2 ^ (T + 1) ≤ 2 ^ 19 := Nat.pow_le_pow_right (by decide) hT
      have e2 : 2 ^ (T + 1) = 2 * 2 ^ T := by rw [Nat.pow_succ, Nat.mul_comm]
      exact rroot_step T (2 ^ T) rfl ih L hL a cap (by omega) (by omega) (by omega) hcap w hS
theorem rroot_any : RootC 524288 := rroot_all 19 (Nat.le_refl _)
end Go.Proofs.YtmbglggodifboaaGreatDoor.Mer
