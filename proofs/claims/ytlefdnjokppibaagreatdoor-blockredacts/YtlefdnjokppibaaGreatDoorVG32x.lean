/-
  Which bytes are not too long to be read. · heavy: is a block more than is looked at? · Two entries that are the same. · The document's in, empty, bare, plain.
-/
import Derived.Test.YtlefdnjokppibaaGreatDoorVBq7
import Derived.Test.YtlefdnjokppibaaGreatDoorVG2x
namespace Go.Proofs.YtlefdnjokppibaaGreatDoor.Sh
open Go Go.RowKit Math Mt
set_option linter.unusedVariables false
end Go.Proofs.YtlefdnjokppibaaGreatDoor.Sh
namespace Go.Proofs.YtlefdnjokppibaaGreatDoor.Sh
open Go Go.RowKit Math Mt
set_option linter.unusedVariables false
set_option linter.unusedSimpArgs false
theorem zI : (Tryz.prog.info? 3).map (fun i => i.zero.map (·.cells)) = some (some [Value.int .i64 0].toArray) := by kernel_rfl
theorem EnM.six {w : World} {b o : Nat} {e : En} {na : Option Addr} {nc : Nat} {ka : Option Addr} {kc : Nat} (h : EnM w b o e na nc ka kc) : w.rangeAt b (o + 5) (six e.v.1 na nc ka e.v.2.list.length kc) := fun j u hj => by
  have := h.at' (5 + j) u (eC_data e na nc ka kc j u hj)
  rw [show o + 5 + j = o + (5 + j) by omega]
  exact this
/-- While the entries are weighed. -/
structure HInv (w wr : World) (gb g3 : Nat) (b : Bk) (a : Option Addr) (c : Nat) (k m : Nat) : Prop where
  bl : Below w.heap.size w wr
  blk : Blk wr gb 26 (bC b a c)
  n : Blk wr g3 3 [.int .i64 (m : Int)]
  mle : m ≤ 3000
  five : 5 * k ≤ m
  all : ∀ e ∈ b.es.take k, Go.Proofs.YtlefdnjokppibaaGreatDoor.ws e.v ≤ 3000 ∧ e.t.size ≤ 60020
/-- A block that is looked at. -/
structure Light (b : Bk) : Prop where
  len : b.es.length ≤ 600
  all : ∀ e ∈ b.es, Go.Proofs.YtlefdnjokppibaaGreatDoor.ws e.v ≤ 3000 ∧ e.t.size ≤ 60020
/-- What heavy answers. -/
def HvR (b : Bk) (w : World) (e : Ending) (w' : World) : Prop := ∃ t, e = .returned (.bool t) ∧ Hid (Below w.heap.size w w' ∧ (t = false → Light b))
theorem hvR_yes {b : Bk} {w w' : World} (h : Below w.heap.size w w') : HvR b w (.returned (.bool true)) w' := ⟨true, rfl, h, fun e => by cases e⟩
theorem hvR_no {b : Bk} {w w' : World} (h : Below w.heap.size w w') (hl : Light b) : HvR b w (.returned (.bool false)) w' := ⟨false, rfl, h, fun _ => hl⟩
set_option maxHeartbeats 800000 in
set_option maxRecDepth 8000 in
theorem heavy_any (b : Bk) (hb : BkW b) (a : Option Addr) (c : Nat) (w : World) (hE : EsM w a b.es) :
    Calls Tryz.prog 6 #[.agg (bC b a c).toArray] w fun e w' => HvR b w e w' := by
  have HL : Hid (b.pv.length = 32) := hb.pv.1
  have HB : Hid (BkW b) := hb
  have HE : Hid (EsM w a b.es) := hE
  have hlen := hb.len
  clear hb hE
  go_enter Tryz.func6, Tryz.ntmps6
  go_wp2_with (refine al_box rfl 26 (.tmp 0) rfl (bC b a c) rfl ?_)
  intro gb w1 l1 BB G0
  have Z := (Below.refl w.heap.size w).grown G0 (Nat.le_refl _) (by simp)
  clear G0
  go_wp2_with (refine al_zero rfl 3 rfl [.int .i64 0] zI ?_)
  intro g3 w2 l3 B3 G0
  have s1 := Z.size
  have n3 : gb ≠ g3 := by have := BB.lt; omega
  have hg3 : w.heap.size ≤ g3 := by omega
  have Z := Z.grown G0 Z.size (by simp)
  have BB := BB.kept G0 (by simp)
  clear G0
  go_wp2_with (refine st_one rfl 3 (.tmp 3) (.const (.int .i64 0)) rfl g3 0 3 _ (.int .i64 0) rfl rfl rfl rfl (by simp) B3 s3 ?_)
  intro w3 B3' G0
  have B3 : Blk w3 g3 3 [.int .i64 ((0 : Nat) : Int)] := B3'
  have BB := BB.kept G0 (fun e => n3 (Option.some.inj e))
  have Z := Sh.grown_below Z G0 Z.size hg3
  have HI0 : Hid (HInv w w3 gb g3 b a c 0 0) := ⟨Z, BB, B3, by omega, by omega, by simp⟩
  clear G0 B3' B3 BB Z
  go_wp2
  go_loopw [4] (fun i wr => ∃ (k m : Nat), k ≤ b.es.length ∧ i = .int .i64 (k : Int) ∧ Hid (HInv w wr gb g3 b a c k m)) (fun i _ => b.es.length - (intOf i).toNat)
  case atStart => exact ⟨0, 0, by omega, rfl, HI0.out⟩
  case round =>
    clear HI0
    obtain ⟨k, m, hk, rfl, HK⟩ := hrel
    have zr := HK.out.bl.size
    have hm := HK.out.mle
    have ce := (bkF_of HL.out HK.out.blk).es
    have c3 : wr.cell? ⟨g3, 0, none⟩ = some (.int .i64 (m : Int)) := HK.out.n.cell 0
    by_cases hlt : k < b.es.length
    case neg =>
      have HF : Hid (HvR b w (.returned (.bool false)) wr) := by
        refine hvR_no HK.out.bl ⟨by have := HK.out.five; omega, ?_⟩
        have := HK.out.all
        rw [List.take_of_length_le (by omega)] at this
        exact this
      have hmb : decide ((3000 : Int) < (m : Int)) = false := decide_eq_false (by omega)
      have hmn : ¬ 3000 < m := by omega
      clear HK
      go_wp2
      go_ret
      exact HF.out
    obtain ⟨e, he⟩ : ∃ e, b.es[k]? = some e := ⟨_, List.getElem?_eq_getElem hlt⟩
    obtain ⟨bb, oo, na, nc, ka, kc, rfl, hM⟩ := HE.out.get he
    have hmem := List.mem_of_getElem? he
    have HEW : Hid (EnW e) := HB.out.es e hmem
    have HT : Hid (b.es.take (k + 1) = b.es.take k ++ [e]) := by
      obtain ⟨h1, h2⟩ := List.getElem?_eq_some_iff.1 he
      show _ = _
      rw [List.take_succ_eq_append_getElem h1, h2]
    have HVL : Hid (Vl w e.v na nc ka kc) := hM.vl
    have HM : Hid (EnM w bb (oo + k * 46) e na nc ka kc) := hM
    have hM' := hM.below HK.out.bl
    have EF := enF_of HEW.out.h.1 hM'.at'
    have ct := EF.t
    have htl := HEW.out.t
    obtain ⟨m1, HM1⟩ : ∃ m1 : Nat, Hid (m1 = m + 5 + e.t.size / 20) := ⟨_, rfl⟩
    have hm1 : m1 ≤ 150000000000000 := by rw [HM1.out]; omega
    have HX : Hid ((m : Int) + 5 + (e.t.size : Int) / 20 = (m1 : Int)) := by
      show _ = _
      rw [HM1.out]
      omega
    clear hM hM' EF he hmem
    have fr : wr.frozen? ⟨g3, 0, none⟩ = false := HK.out.n.frozen _
    obtain ⟨V, HV⟩ : ∃ V, Hid ((wr.setCell ⟨g3, 0, none⟩ (.int .i64 ((m : Int) + 5 + (e.t.size : Int) / 20))).drew = V) := ⟨_, rfl⟩
    have HG2 : Hid (wr.grownBy V (some g3)) := by
      rw [← HV.out]
      have h := grown_setCell wr ⟨g3, 0, none⟩ (.int .i64 ((m : Int) + 5 + (e.t.size : Int) / 20))
      exact ⟨h.os, h.tape, h.output, h.size, h.block⟩
    have HB2 : Hid (Blk V g3 3 [.int .i64 (m1 : Int)]) := by
      rw [← HV.out, HX.out]
      exact HK.out.n.set 0 (.int .i64 (m1 : Int))
    have HZ2 : Hid (Below w.heap.size w V) := Sh.grown_below HK.out.bl HG2.out HK.out.bl.size hg3
    have HBB : Hid (Blk V gb 26 (bC b (some ⟨bb, oo, none⟩) c)) := HK.out.blk.kept HG2.out (fun e => n3 (Option.some.inj e))
    have HR2 : Hid ((wr.setCell ⟨g3, 0, none⟩ (.int .i64 ((m : Int) + 5 + (e.t.size : Int) / 20))).drew.rangeAt bb (oo + k * 46 + 5) (six e.v.1 na nc ka e.v.2.list.length kc)) := by rw [HV.out]; exact (HM.out.below HZ2.out).six
    go_wp2
    go_region
    go_wp2_with (refine ld_w (by rfl) 41 (.tmp 27) rfl bb (oo + k * 46 + 5) rfl (six e.v.1 na nc ka e.v.2.list.length kc) _ HR2.out Tryz.underlying41 rfl (szV _ _ _ _ _ _) ?_)
    rw [HV.out]
    have hn5 := HK.out.five
    have hall := HK.out.all
    have HA : Hid (∀ e ∈ b.es.take k, Go.Proofs.YtlefdnjokppibaaGreatDoor.ws e.v ≤ 3000 ∧ e.t.size ≤ 60020) := hall
    have HF5 : Hid (5 * k ≤ m) := hn5
    have hmm : m ≤ m1 := by rw [HM1.out]; omega
    clear HR2 HV ce c3 fr HK hall hn5 HX ct
    by_cases hg : m1 ≤ 3000
    · have KG := great_any (wt e.v) e.v (Nat.le_refl _) HEW.out.v na nc ka kc g3 m1 w V HVL.out HZ2.out hg3 HB2.out hg
      refine KG.mono ?_
      rintro e' x1 ⟨m2, rfl, H⟩
      clear KG
      have Z3 := Sh.grown_below HZ2.out H.out.gr HZ2.out.size hg3
      have BB := HBB.out.kept H.out.gr (fun e => n3 (Option.some.inj e))
      by_cases h2 : 3000 < m2
      · have hb2 : decide (3000 < m2) = true := decide_eq_true h2
        have HF : Hid (HvR b w (.returned (.bool true)) x1) := hvR_yes Z3
        rw [hb2]
        clear H Z3 BB HBB HZ2 HG2 HB2 h2 hb2
        go_wp2
        go_ret
        exact HF.out
      · have hb2 : decide (3000 < m2) = false := decide_eq_false h2
        have hge := H.out.ge (by omega)
        have HI : Hid (HInv w x1 gb g3 b (some ⟨bb, oo, none⟩) c (k + 1) m2) := by
          refine ⟨Z3, BB, H.out.blk, by omega, ?_, fun y hy => ?_⟩
          · have := HF5.out
            have := HM1.out
            omega
          · rw [HT.out] at hy
            rcases List.mem_append.1 hy with hy | hy
            · exact HA.out y hy
            · rw [List.mem_singleton.1 hy]
              have := HM1.out
              exact ⟨by omega, by omega⟩
        rw [hb2]
        clear H Z3 BB HBB HZ2 HG2 HB2 h2 hb2 hge
        go_wp2
        go_roundw
        case rel => exact ⟨k + 1, m2, by omega, by go_num, HI.out⟩
        case measure => simp [intOf]; omega
    · have KG := great_big e.v HEW.out.v na nc ka kc g3 m1 w V HVL.out HZ2.out hg3 HB2.out hm1 (by omega)
      refine KG.mono ?_
      rintro e' x1 ⟨rfl, H⟩
      clear KG
      have HF : Hid (HvR b w (.returned (.bool true)) x1) := hvR_yes (Sh.grown_below HZ2.out H.out HZ2.out.size hg3)
      clear H HBB HZ2 HG2 HB2
      go_wp2
      go_ret
      exact HF.out
end Go.Proofs.YtlefdnjokppibaaGreatDoor.Sh
namespace Go.Proofs.YtlefdnjokppibaaGreatDoor.Sh
open Go Go.RowKit Math Mt
set_option linter.unusedVariables false
set_option linter.unusedSimpArgs false
set_option maxHeartbeats 800000 in
set_option maxRecDepth 8000 in
theorem ent_same (e : En) (he : EnW e) (na : Option Addr) (nc : Nat) (ka : Option Addr) (kc : Nat) (na2 : Option Addr) (nc2 : Nat) (ka2 : Option Addr) (kc2 : Nat) (w : World) (hv : Vl w e.v na nc ka kc) (hv2 : Vl w e.v na2 nc2 ka2 kc2) :
    Calls Tryz.prog 49 #[.agg (eC e na nc ka kc).toArray, .agg (eC e na2 nc2 ka2 kc2).toArray] w fun e' w' => e' = .returned (.bool true) ∧ Hid (Below w.heap.size w w') := by
  have HL : Hid (e.h.length = 32) := he.h.1
  have HE : Hid (EnW e) := he
  have HV : Hid (Vl w e.v na nc ka kc) := hv
  have HV2 : Hid (Vl w e.v na2 nc2 ka2 kc2) := hv2
  have HH : Hid (∀ w, (Op.equalIn 10000 23 (.agg (nums .u8 e.h).toArray) (.agg (nums .u8 e.h).toArray)).run Tryz.prog w = .ok true w) := fun w => by have := eq_hash he.h he.h w; simpa using this
  clear he hv hv2
  go_enter Tryz.func49, Tryz.ntmps49
  go_wp2_with (refine al_box rfl 45 (.tmp 0) rfl (eC e na nc ka kc) rfl ?_)
  intro g2 w1 l1 B2 G0
  have Z := (Below.refl w.heap.size w).grown G0 (Nat.le_refl _) (by simp)
  clear G0
  go_wp2_with (refine al_box rfl 45 (.tmp 1) rfl (eC e na2 nc2 ka2 kc2) rfl ?_)
  intro g3 w2 l3 B3 G0
  have Z := Z.grown G0 Z.size (by simp)
  have B2 := B2.kept G0 (by simp)
  clear G0
  have F2 := enF_of HL.out B2.all
  have F3 := enF_of HL.out B3.all
  obtain ⟨a1, a2, a3, a4, a5, a6, a7, a8, a9, a10⟩ := F2
  obtain ⟨b1, b2, b3, b4, b5, b6, b7, b8, b9, b10⟩ := F3
  simp only [Nat.zero_add] at a1 a2 a3 a4 a5 a6 a7 a8 a9 a10 b1 b2 b3 b4 b5 b6 b7 b8 b9 b10
  have A6 : Hid (w2.rangeAt g2 5 (six e.v.1 na nc ka e.v.2.list.length kc)) := a6
  have A7 : Hid (w2.rangeAt g2 11 (nums .u8 e.h)) := a7
  have C6 : Hid (w2.rangeAt g3 5 (six e.v.1 na2 nc2 ka2 e.v.2.list.length kc2)) := b6
  have C7 : Hid (w2.rangeAt g3 11 (nums .u8 e.h)) := b7
  have hHH := HH.out w2
  clear a6 a7 b6 b7 B2 B3
  have KE := equal_any (wt e.v) e.v (Nat.le_refl _) HE.out.v e.v HE.out.v na nc ka kc na2 nc2 ka2 kc2 w2 (HV.out.below Z) (HV2.out.below Z)
  go_wp2_with (first
    | (refine ld_w (by rfl) 23 (.tmp 39) rfl g2 11 rfl (nums .u8 e.h) _ A7.out Tryz.underlying23 rfl (sH HL.out) ?_)
    | (refine ld_w (by rfl) 23 (.tmp 41) rfl g3 11 rfl (nums .u8 e.h) _ C7.out Tryz.underlying23 rfl (sH HL.out) ?_)
    | (refine ld_w (by rfl) 41 (.tmp 60) rfl g2 5 rfl (six e.v.1 na nc ka e.v.2.list.length kc) _ A6.out Tryz.underlying41 rfl (szV _ _ _ _ _ _) ?_)
    | (refine ld_w (by rfl) 41 (.tmp 62) rfl g3 5 rfl (six e.v.1 na2 nc2 ka2 e.v.2.list.length kc2) _ C6.out Tryz.underlying41 rfl (szV _ _ _ _ _ _) ?_))
  refine KE.mono ?_
  rintro e' w3 ⟨t, rfl, H⟩
  obtain rfl : t = true := by have h := H.out.1; simpa using h
  have HF : Hid (Below w.heap.size w w3) := Z.trans (H.out.2.mono Z.size)
  clear KE H Z A6 A7 C6 C7 HV HV2 hHH a1 a2 a3 a4 a5 a8 a9 a10 b1 b2 b3 b4 b5 b8 b9 b10
  go_wp2
  go_ret
  exact ⟨rfl, HF.out⟩
set_option maxHeartbeats 400000 in
set_option maxRecDepth 8000 in
theorem entries_same (e : En) (he : EnW e) (na : Option Addr) (nc : Nat) (ka : Option Addr) (kc : Nat) (na2 : Option Addr) (nc2 : Nat) (ka2 : Option Addr) (kc2 : Nat) (w : World) (hv : Vl w e.v na nc ka kc) (hv2 : Vl w e.v na2 nc2 ka2 kc2) :
    Calls Tryz.prog 25 #[.agg (eC e na nc ka kc).toArray, .agg (eC e na2 nc2 ka2 kc2).toArray] w fun e' w' => e' = .returned (.bool true) ∧ Hid (Below w.heap.size w w') := by
  have HL : Hid (e.h.length = 32) := he.h.1
  have HE : Hid (EnW e) := he
  have HV : Hid (Vl w e.v na nc ka kc) := hv
  have HV2 : Hid (Vl w e.v na2 nc2 ka2 kc2) := hv2
  clear he hv hv2
  go_enter Tryz.func25, Tryz.ntmps25
  go_wp2_with (refine al_box rfl 45 (.tmp 0) rfl (eC e na nc ka kc) rfl ?_)
  intro g2 w1 l1 B2 G0
  have Z := (Below.refl w.heap.size w).grown G0 (Nat.le_refl _) (by simp)
  clear G0
  go_wp2_with (refine al_box rfl 45 (.tmp 1) rfl (eC e na2 nc2 ka2 kc2) rfl ?_)
  intro g3 w2 l3 B3 G0
  have Z := Z.grown G0 Z.size (by simp)
  have B2 := B2.kept G0 (by simp)
  clear G0
  have KE := ent_same e HE.out na nc ka kc na2 nc2 ka2 kc2 w2 (HV.out.below Z) (HV2.out.below Z)
  go_wp2_with (first
    | (refine ld_w (by rfl) 45 (.tmp 2) rfl g2 0 rfl (eC e na nc ka kc) _ B2.all Tryz.underlying45 rfl (sE HL.out _ _ _ _) ?_)
    | (refine ld_w (by rfl) 45 (.tmp 3) rfl g3 0 rfl (eC e na2 nc2 ka2 kc2) _ B3.all Tryz.underlying45 rfl (sE HL.out _ _ _ _) ?_))
  refine KE.mono ?_
  rintro e' w3 ⟨rfl, H⟩
  have HF : Hid (Below w.heap.size w w3) := Z.trans (H.out.mono Z.size)
  clear KE H Z B2 B3
  go_wp2
  go_ret
  exact ⟨rfl, HF.out⟩
end Go.Proofs.YtlefdnjokppibaaGreatDoor.Sh
namespace Go.Proofs.YtlefdnjokppibaaGreatDoor.Sh
open Go Go.RowKit Math Mt
set_option linter.unusedVariables false
set_option linter.unusedSimpArgs false
set_option maxHeartbeats 400000 in
set_option maxRecDepth 8000 in
theorem in_any (n lo hi : Int) (w : World) (t : Bool) (ht : Hid (t = true ↔ inP n lo hi)) :
    Calls Tryz.prog 30 #[.int .i64 n, .int .i64 lo, .int .i64 hi] w fun e w' => e = .returned (.bool t) ∧ w' = w := by
  by_cases h1 : lo ≤ n
  · by_cases h2 : n ≤ hi
    · obtain rfl : t = true := ht.out.2 ⟨h1, h2⟩
      clear ht
      go_enter Tryz.func30, Tryz.ntmps30
      go_wp2
      go_ret
      exact ⟨rfl, rfl⟩
    · obtain rfl : t = false := Bool.eq_false_iff.2 fun h => h2 (ht.out.1 h).2
      clear ht
      go_enter Tryz.func30, Tryz.ntmps30
      go_wp2
      go_ret
      exact ⟨rfl, rfl⟩
  · obtain rfl : t = false := Bool.eq_false_iff.2 fun h => h1 (ht.out.1 h).1
    clear ht
    go_enter Tryz.func30, Tryz.ntmps30
    go_wp2
    go_ret
    exact ⟨rfl, rfl⟩
theorem vl_nv (w : World) : Vl w nv none 0 none 0 := (vl_lf w 0 0 0 em).vl
theorem bd_nv (a : Act) : Tryz.prog.built 41 ((#[] : Array (Nat × Operand)).map fun p => (p.1, a.eval p.2)).toList = some (six nv.1 none 0 none nv.2.list.length 0).toArray := by kernel_rfl
set_option maxHeartbeats 1000000 in
set_option maxRecDepth 8000 in
theorem empty_any (p : Vt) (hp : WfV p) (na : Option Addr) (nc : Nat) (ka : Option Addr) (kc : Nat) (w : World) (hv : Vl w p na nc ka kc) (t : Bool) (ht : Hid (t = true ↔ p = nv)) :
    Calls Tryz.prog 81 #[.agg (six p.1 na nc ka p.2.list.length kc).toArray] w fun e w' => e = .returned (.bool t) ∧ Hid (Below w.heap.size w w') := by
  have HV : Hid (Vl w p na nc ka kc) := hv
  have HP : Hid (WfV p) := hp
  clear hv hp
  go_enter Tryz.func81, Tryz.ntmps81
  go_wp2_with (refine al_box rfl 41 (.tmp 0) rfl (six p.1 na nc ka p.2.list.length kc) rfl ?_)
  intro g1 w1 l1 B1 G0
  have Z := (Below.refl w.heap.size w).grown G0 (Nat.le_refl _) (by simp)
  clear G0
  have KE := equal_any (wt p) p (Nat.le_refl _) HP.out nv wf_nv na nc ka kc none 0 none 0 w1 (HV.out.below Z) (vl_nv w1)
  go_wp2_with (first
    | (refine ld_w (by rfl) 41 (.tmp 1) rfl g1 0 rfl (six p.1 na nc ka p.2.list.length kc) _ B1.all Tryz.underlying41 rfl (szV _ _ _ _ _ _) ?_)
    | (refine bd_w (by rfl) 41 #[] rfl (six nv.1 none 0 none nv.2.list.length 0) (bd_nv _) ?_))
  refine KE.mono ?_
  rintro e' w3 ⟨t2, rfl, H⟩
  obtain rfl : t = t2 := Bool.eq_iff_iff.2 (ht.out.trans H.out.1.symm)
  have HF : Hid (Below w.heap.size w w3) := Z.trans (H.out.2.mono Z.size)
  clear KE H Z B1
  go_wp2
  go_ret
  exact ⟨rfl, HF.out⟩
set_option maxHeartbeats 1000000 in
set_option maxRecDepth 8000 in
theorem bare_any (e : En) (hl : e.h.length = 32) (na : Option Addr) (nc : Nat) (ka : Option Addr) (kc : Nat) (w : World) :
    Calls Tryz.prog 82 #[.agg (eC e na nc ka kc).toArray] w fun e' w' => e' = .returned (.agg (eC { e with v := nv } none 0 none 0).toArray) ∧ Hid (Below w.heap.size w w') := by
  have HL : Hid (e.h.length = 32) := hl
  clear hl
  go_enter Tryz.func82, Tryz.ntmps82
  go_wp2_with (refine al_box rfl 45 (.tmp 0) rfl (eC e na nc ka kc) rfl ?_)
  intro g1 w1 l1 B1 G0
  have Z := (Below.refl w.heap.size w).grown G0 (Nat.le_refl _) (by simp)
  clear G0
  go_wp2_with (refine al_zero rfl 45 rfl (eC e0 none 0 none 0) zEn ?_)
  intro g2 w2 l2 B2 G0
  have hg2 : w.heap.size ≤ g2 := Nat.le_trans Z.size l2
  have n12 : g1 ≠ g2 := by have := B1.lt; omega
  have Z := Z.grown G0 Z.size (by simp)
  have B1 := B1.kept G0 (by simp)
  clear G0
  have B1 : Blk w2 g1 45 ([.int .i64 e.k, .string e.t, .int .i64 e.tb, .int .i64 e.dc, .int .i64 e.vr] ++ (six e.v.1 na nc ka e.v.2.list.length kc ++ (nums .u8 e.h ++ [.bool e.g, .int .i64 e.ab, .int .i64 e.ae]))) := B1
  go_wp2_with (first
    | (refine bd_w (by rfl) 41 #[] rfl (six nv.1 none 0 none nv.2.list.length 0) (bd_nv _) ?_)
    | (refine st_row rfl 41 (.tmp 4) (.tmp 3) rfl g1 5 45 [.int .i64 e.k, .string e.t, .int .i64 e.tb, .int .i64 e.dc, .int .i64 e.vr] (six e.v.1 na nc ka e.v.2.list.length kc) (nums .u8 e.h ++ [.bool e.g, .int .i64 e.ab, .int .i64 e.ae]) (six nv.1 none 0 none nv.2.list.length 0) rfl rfl rfl B1 rfl (szV _ _ _ _ _ _) (six_one _ _ _ _ _ _) ?_))
  intro w3 B1' G0
  have B1 : Blk w3 g1 45 (eC { e with v := nv } none 0 none 0) := B1'
  have B2 := B2.kept G0 (fun e => n12 (Option.some.inj e).symm)
  have Z := Sh.grown_below Z G0 Z.size l1
  clear G0 B1'
  go_wp2_with (first
    | (refine ld_w (by rfl) 45 (.tmp 1) rfl g1 0 rfl (eC { e with v := nv } none 0 none 0) _ B1.all Tryz.underlying45 rfl (sE (e := { e with v := nv }) HL.out _ _ _ _) ?_)
    | (refine st_all rfl 45 (.tmp 2) (.tmp 5) rfl g2 45 (eC e0 none 0 none 0) (eC { e with v := nv } none 0 none 0) rfl rfl B2 (by rw [eC_len (e := { e with v := nv }) HL.out, eC_len zr_len]) (sE (e := { e with v := nv }) HL.out _ _ _ _) (eC_one _ _ _ _ _) ?_))
  intro w4 B2' G0
  have HF : Hid (Below w.heap.size w w4) := Sh.grown_below Z G0 Z.size hg2
  clear G0 B2 B1 Z
  go_wp2
  (try simp only [Exit.inBlock, Exit.then])
  refine bodyPost_ret (Sh.res_row rfl _ g2 45 _ _ rfl B2' Tryz.underlying45 rfl (sE (e := { e with v := nv }) HL.out _ _ _ _)) rfl ⟨rfl, HF.out⟩
end Go.Proofs.YtlefdnjokppibaaGreatDoor.Sh
