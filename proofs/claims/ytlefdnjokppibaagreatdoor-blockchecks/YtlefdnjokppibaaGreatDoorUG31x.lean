/-
  Which bytes are not too long to be read. · heavy: is a block more than is looked at? · Two entries that are the same. · Two blocks that are the same. · small: one with a table. · known: there and back. · Trees of digests over lists (no program): roots, ways up, paths, consistencies, and what they make again. · Consistencies over lists (no program).
-/
import Derived.Test.YtlefdnjokppibaaGreatDoorUBq7
import Derived.Test.YtlefdnjokppibaaGreatDoorUG5x
import Derived.Test.YtlefdnjokppibaaGreatDoorRows
namespace Go.Proofs.YtlefdnjokppibaaGreatDoor.Sh
open Go Go.RowKit Math Mt
set_option linter.unusedVariables false
end Go.Proofs.YtlefdnjokppibaaGreatDoor.Sh
namespace Go.Proofs.YtlefdnjokppibaaGreatDoor.Sh
open Go Go.RowKit Math Mt
set_option linter.unusedVariables false
set_option linter.unusedSimpArgs false
theorem zI : (Tryz.prog.info? 3).map (fun i => i.zero.map (·.cells)) = some (some [Value.int .i64 0].toArray) := by kernel_rfl
theorem EnM.six {w : World} {b o : Nat} {e : En} {na : Option Addr} {nc : Nat} {ka : Option Addr} {kc : Nat} (h : EnM w b o e na nc ka kc) : w.rangeAt b (o + 5) (six e.v.1 na nc ka e.v.2.list.length kc) := fun j u hj => by
  have := h.at' (5 + j) u (eC_data e na nc ka kc j u hj)
  rw [show o + 5 + j = o + (5 + j) by omega]
  exact this
/-- While the entries are weighed. -/
structure HInv (w wr : World) (gb g3 : Nat) (b : Bk) (a : Option Addr) (c : Nat) (k m : Nat) : Prop where
  bl : Below w.heap.size w wr
  blk : Blk wr gb 26 (bC b a c)
  n : Blk wr g3 3 [.int .i64 (m : Int)]
  mle : m ≤ 3000
  five : 5 * k ≤ m
  all : ∀ e ∈ b.es.take k, Go.Proofs.YtlefdnjokppibaaGreatDoor.ws e.v ≤ 3000 ∧ e.t.size ≤ 60020
/-- A block that is looked at. -/
structure Light (b : Bk) : Prop where
  len : b.es.length ≤ 600
  all : ∀ e ∈ b.es, Go.Proofs.YtlefdnjokppibaaGreatDoor.ws e.v ≤ 3000 ∧ e.t.size ≤ 60020
/-- What heavy answers. -/
def HvR (b : Bk) (w : World) (e : Ending) (w' : World) : Prop := ∃ t, e = .returned (.bool t) ∧ Hid (Below w.heap.size w w' ∧ (t = false → Light b))
theorem hvR_yes {b : Bk} {w w' : World} (h : Below w.heap.size w w') : HvR b w (.returned (.bool true)) w' := ⟨true, rfl, h, fun e => by cases e⟩
theorem hvR_no {b : Bk} {w w' : World} (h : Below w.heap.size w w') (hl : Light b) : HvR b w (.returned (.bool false)) w' := ⟨false, rfl, h, fun _ => hl⟩
set_option maxHeartbeats 800000 in
set_option maxRecDepth 8000 in
theorem heavy_any (b : Bk) (hb : BkW b) (a : Option Addr) (c : Nat) (w : World) (hE : EsM w a b.es) :
    Calls Tryz.prog 6 #[.agg (bC b a c).toArray] w fun e w' => HvR b w e w' := by
  have HL : Hid (b.pv.length = 32) := hb.pv.1
  have HB : Hid (BkW b) := hb
  have HE : Hid (EsM w a b.es) := hE
  have hlen := hb.len
  clear hb hE
  go_enter Tryz.func6, Tryz.ntmps6
  go_wp2_with (refine al_box rfl 26 (.tmp 0) rfl (bC b a c) rfl ?_)
  intro gb w1 l1 BB G0
  have Z := (Below.refl w.heap.size w).grown G0 (Nat.le_refl _) (by simp)
  clear G0
  go_wp2_with (refine al_zero rfl 3 rfl [.int .i64 0] zI ?_)
  intro g3 w2 l3 B3 G0
  have s1 := Z.size
  have n3 : gb ≠ g3 := by have := BB.lt; omega
  have hg3 : w.heap.size ≤ g3 := by omega
  have Z := Z.grown G0 Z.size (by simp)
  have BB := BB.kept G0 (by simp)
  clear G0
  go_wp2_with (refine st_one rfl 3 (.tmp 3) (.const (.int .i64 0)) rfl g3 0 3 _ (.int .i64 0) rfl rfl rfl rfl (by simp) B3 s3 ?_)
  intro w3 B3' G0
  have B3 : Blk w3 g3 3 [.int .i64 ((0 : Nat) : Int)] := B3'
  have BB := BB.kept G0 (fun e => n3 (Option.some.inj e))
  have Z := Sh.grown_below Z G0 Z.size hg3
  have HI0 : Hid (HInv w w3 gb g3 b a c 0 0) := ⟨Z, BB, B3, by omega, by omega, by simp⟩
  clear G0 B3' B3 BB Z
  go_wp2
  go_loopw [4] (fun i wr => ∃ (k m : Nat), k ≤ b.es.length ∧ i = .int .i64 (k : Int) ∧ Hid (HInv w wr gb g3 b a c k m)) (fun i _ => b.es.length - (intOf i).toNat)
  case atStart => exact ⟨0, 0, by omega, rfl, HI0.out⟩
  case round =>
    clear HI0
    obtain ⟨k, m, hk, rfl, HK⟩ := hrel
    have zr := HK.out.bl.size
    have hm := HK.out.mle
    have ce := (bkF_of HL.out HK.out.blk).es
    have c3 : wr.cell? ⟨g3, 0, none⟩ = some (.int .i64 (m : Int)) := HK.out.n.cell 0
    by_cases hlt : k < b.es.length
    case neg =>
      have HF : Hid (HvR b w (.returned (.bool false)) wr) := by
        refine hvR_no HK.out.bl ⟨by have := HK.out.five; omega, ?_⟩
        have := HK.out.all
        rw [List.take_of_length_le (by omega)] at this
        exact this
      have hmb : decide ((3000 : Int) < (m : Int)) = false := decide_eq_false (by omega)
      have hmn : ¬ 3000 < m := by omega
      clear HK
      go_wp2
      go_ret
      exact HF.out
    obtain ⟨e, he⟩ : ∃ e, b.es[k]? = some e := ⟨_, List.getElem?_eq_getElem hlt⟩
    obtain ⟨bb, oo, na, nc, ka, kc, rfl, hM⟩ := HE.out.get he
    have hmem := List.mem_of_getElem? he
    have HEW : Hid (EnW e) := HB.out.es e hmem
    have HT : Hid (b.es.take (k + 1) = b.es.take k ++ [e]) := by
      obtain ⟨h1, h2⟩ := List.getElem?_eq_some_iff.1 he
      show _ = _
      rw [List.take_succ_eq_append_getElem h1, h2]
    have HVL : Hid (Vl w e.v na nc ka kc) := hM.vl
    have HM : Hid (EnM w bb (oo + k * 46) e na nc ka kc) := hM
    have hM' := hM.below HK.out.bl
    have EF := enF_of HEW.out.h.1 hM'.at'
    have ct := EF.t
    have htl := HEW.out.t
    obtain ⟨m1, HM1⟩ : ∃ m1 : Nat, Hid (m1 = m + 5 + e.t.size / 20) := ⟨_, rfl⟩
    have hm1 : m1 ≤ 150000000000000 := by rw [HM1.out]; omega
    have HX : Hid ((m : Int) + 5 + (e.t.size : Int) / 20 = (m1 : Int)) := by
      show _ = _
      rw [HM1.out]
      omega
    clear hM hM' EF he hmem
    have fr : wr.frozen? ⟨g3, 0, none⟩ = false := HK.out.n.frozen _
    obtain ⟨V, HV⟩ : ∃ V, Hid ((wr.setCell ⟨g3, 0, none⟩ (.int .i64 ((m : Int) + 5 + (e.t.size : Int) / 20))).drew = V) := ⟨_, rfl⟩
    have HG2 : Hid (wr.grownBy V (some g3)) := by
      rw [← HV.out]
      have h := grown_setCell wr ⟨g3, 0, none⟩ (.int .i64 ((m : Int) + 5 + (e.t.size : Int) / 20))
      exact ⟨h.os, h.tape, h.output, h.size, h.block⟩
    have HB2 : Hid (Blk V g3 3 [.int .i64 (m1 : Int)]) := by
      rw [← HV.out, HX.out]
      exact HK.out.n.set 0 (.int .i64 (m1 : Int))
    have HZ2 : Hid (Below w.heap.size w V) := Sh.grown_below HK.out.bl HG2.out HK.out.bl.size hg3
    have HBB : Hid (Blk V gb 26 (bC b (some ⟨bb, oo, none⟩) c)) := HK.out.blk.kept HG2.out (fun e => n3 (Option.some.inj e))
    have HR2 : Hid ((wr.setCell ⟨g3, 0, none⟩ (.int .i64 ((m : Int) + 5 + (e.t.size : Int) / 20))).drew.rangeAt bb (oo + k * 46 + 5) (six e.v.1 na nc ka e.v.2.list.length kc)) := by rw [HV.out]; exact (HM.out.below HZ2.out).six
    go_wp2
    go_region
    go_wp2_with (refine ld_w (by rfl) 41 (.tmp 27) rfl bb (oo + k * 46 + 5) rfl (six e.v.1 na nc ka e.v.2.list.length kc) _ HR2.out Tryz.underlying41 rfl (szV _ _ _ _ _ _) ?_)
    rw [HV.out]
    have hn5 := HK.out.five
    have hall := HK.out.all
    have HA : Hid (∀ e ∈ b.es.take k, Go.Proofs.YtlefdnjokppibaaGreatDoor.ws e.v ≤ 3000 ∧ e.t.size ≤ 60020) := hall
    have HF5 : Hid (5 * k ≤ m) := hn5
    have hmm : m ≤ m1 := by rw [HM1.out]; omega
    clear HR2 HV ce c3 fr HK hall hn5 HX ct
    by_cases hg : m1 ≤ 3000
    · have KG := great_any (wt e.v) e.v (Nat.le_refl _) HEW.out.v na nc ka kc g3 m1 w V HVL.out HZ2.out hg3 HB2.out hg
      refine KG.mono ?_
      rintro e' x1 ⟨m2, rfl, H⟩
      clear KG
      have Z3 := Sh.grown_below HZ2.out H.out.gr HZ2.out.size hg3
      have BB := HBB.out.kept H.out.gr (fun e => n3 (Option.some.inj e))
      by_cases h2 : 3000 < m2
      · have hb2 : decide (3000 < m2) = true := decide_eq_true h2
        have HF : Hid (HvR b w (.returned (.bool true)) x1) := hvR_yes Z3
        rw [hb2]
        clear H Z3 BB HBB HZ2 HG2 HB2 h2 hb2
        go_wp2
        go_ret
        exact HF.out
      · have hb2 : decide (3000 < m2) = false := decide_eq_false h2
        have hge := H.out.ge (by omega)
        have HI : Hid (HInv w x1 gb g3 b (some ⟨bb, oo, none⟩) c (k + 1) m2) := by
          refine ⟨Z3, BB, H.out.blk, by omega, ?_, fun y hy => ?_⟩
          · have := HF5.out
            have := HM1.out
            omega
          · rw [HT.out] at hy
            rcases List.mem_append.1 hy with hy | hy
            · exact HA.out y hy
            · rw [List.mem_singleton.1 hy]
              have := HM1.out
              exact ⟨by omega, by omega⟩
        rw [hb2]
        clear H Z3 BB HBB HZ2 HG2 HB2 h2 hb2 hge
        go_wp2
        go_roundw
        case rel => exact ⟨k + 1, m2, by omega, by go_num, HI.out⟩
        case measure => simp [intOf]; omega
    · have KG := great_big e.v HEW.out.v na nc ka kc g3 m1 w V HVL.out HZ2.out hg3 HB2.out hm1 (by omega)
      refine KG.mono ?_
      rintro e' x1 ⟨rfl, H⟩
      clear KG
      have HF : Hid (HvR b w (.returned (.bool true)) x1) := hvR_yes (Sh.grown_below HZ2.out H.out HZ2.out.size hg3)
      clear H HBB HZ2 HG2 HB2
      go_wp2
      go_ret
      exact HF.out
end Go.Proofs.YtlefdnjokppibaaGreatDoor.Sh
namespace Go.Proofs.YtlefdnjokppibaaGreatDoor.Sh
open Go Go.RowKit Math Mt
set_option linter.unusedVariables false
set_option linter.unusedSimpArgs false
set_option maxHeartbeats 800000 in
set_option maxRecDepth 8000 in
theorem ent_same (e : En) (he : EnW e) (na : Option Addr) (nc : Nat) (ka : Option Addr) (kc : Nat) (na2 : Option Addr) (nc2 : Nat) (ka2 : Option Addr) (kc2 : Nat) (w : World) (hv : Vl w e.v na nc ka kc) (hv2 : Vl w e.v na2 nc2 ka2 kc2) :
    Calls Tryz.prog 49 #[.agg (eC e na nc ka kc).toArray, .agg (eC e na2 nc2 ka2 kc2).toArray] w fun e' w' => e' = .returned (.bool true) ∧ Hid (Below w.heap.size w w') := by
  have HL : Hid (e.h.length = 32) := he.h.1
  have HE : Hid (EnW e) := he
  have HV : Hid (Vl w e.v na nc ka kc) := hv
  have HV2 : Hid (Vl w e.v na2 nc2 ka2 kc2) := hv2
  have HH : Hid (∀ w, (Op.equalIn 10000 23 (.agg (nums .u8 e.h).toArray) (.agg (nums .u8 e.h).toArray)).run Tryz.prog w = .ok true w) := fun w => by have := eq_hash he.h he.h w; simpa using this
  clear he hv hv2
  go_enter Tryz.func49, Tryz.ntmps49
  go_wp2_with (refine al_box rfl 45 (.tmp 0) rfl (eC e na nc ka kc) rfl ?_)
  intro g2 w1 l1 B2 G0
  have Z := (Below.refl w.heap.size w).grown G0 (Nat.le_refl _) (by simp)
  clear G0
  go_wp2_with (refine al_box rfl 45 (.tmp 1) rfl (eC e na2 nc2 ka2 kc2) rfl ?_)
  intro g3 w2 l3 B3 G0
  have Z := Z.grown G0 Z.size (by simp)
  have B2 := B2.kept G0 (by simp)
  clear G0
  have F2 := enF_of HL.out B2.all
  have F3 := enF_of HL.out B3.all
  obtain ⟨a1, a2, a3, a4, a5, a6, a7, a8, a9, a10⟩ := F2
  obtain ⟨b1, b2, b3, b4, b5, b6, b7, b8, b9, b10⟩ := F3
  simp only [Nat.zero_add] at a1 a2 a3 a4 a5 a6 a7 a8 a9 a10 b1 b2 b3 b4 b5 b6 b7 b8 b9 b10
  have A6 : Hid (w2.rangeAt g2 5 (six e.v.1 na nc ka e.v.2.list.length kc)) := a6
  have A7 : Hid (w2.rangeAt g2 11 (nums .u8 e.h)) := a7
  have C6 : Hid (w2.rangeAt g3 5 (six e.v.1 na2 nc2 ka2 e.v.2.list.length kc2)) := b6
  have C7 : Hid (w2.rangeAt g3 11 (nums .u8 e.h)) := b7
  have hHH := HH.out w2
  clear a6 a7 b6 b7 B2 B3
  have KE := equal_any (wt e.v) e.v (Nat.le_refl _) HE.out.v e.v HE.out.v na nc ka kc na2 nc2 ka2 kc2 w2 (HV.out.below Z) (HV2.out.below Z)
  go_wp2_with (first
    | (refine ld_w (by rfl) 23 (.tmp 39) rfl g2 11 rfl (nums .u8 e.h) _ A7.out Tryz.underlying23 rfl (sH HL.out) ?_)
    | (refine ld_w (by rfl) 23 (.tmp 41) rfl g3 11 rfl (nums .u8 e.h) _ C7.out Tryz.underlying23 rfl (sH HL.out) ?_)
    | (refine ld_w (by rfl) 41 (.tmp 60) rfl g2 5 rfl (six e.v.1 na nc ka e.v.2.list.length kc) _ A6.out Tryz.underlying41 rfl (szV _ _ _ _ _ _) ?_)
    | (refine ld_w (by rfl) 41 (.tmp 62) rfl g3 5 rfl (six e.v.1 na2 nc2 ka2 e.v.2.list.length kc2) _ C6.out Tryz.underlying41 rfl (szV _ _ _ _ _ _) ?_))
  refine KE.mono ?_
  rintro e' w3 ⟨t, rfl, H⟩
  obtain rfl : t = true := by have h := H.out.1; simpa using h
  have HF : Hid (Below w.heap.size w w3) := Z.trans (H.out.2.mono Z.size)
  clear KE H Z A6 A7 C6 C7 HV HV2 hHH a1 a2 a3 a4 a5 a8 a9 a10 b1 b2 b3 b4 b5 b8 b9 b10
  go_wp2
  go_ret
  exact ⟨rfl, HF.out⟩
set_option maxHeartbeats 400000 in
set_option maxRecDepth 8000 in
theorem entries_same (e : En) (he : EnW e) (na : Option Addr) (nc : Nat) (ka : Option Addr) (kc : Nat) (na2 : Option Addr) (nc2 : Nat) (ka2 : Option Addr) (kc2 : Nat) (w : World) (hv : Vl w e.v na nc ka kc) (hv2 : Vl w e.v na2 nc2 ka2 kc2) :
    Calls Tryz.prog 25 #[.agg (eC e na nc ka kc).toArray, .agg (eC e na2 nc2 ka2 kc2).toArray] w fun e' w' => e' = .returned (.bool true) ∧ Hid (Below w.heap.size w w') := by
  have HL : Hid (e.h.length = 32) := he.h.1
  have HE : Hid (EnW e) := he
  have HV : Hid (Vl w e.v na nc ka kc) := hv
  have HV2 : Hid (Vl w e.v na2 nc2 ka2 kc2) := hv2
  clear he hv hv2
  go_enter Tryz.func25, Tryz.ntmps25
  go_wp2_with (refine al_box rfl 45 (.tmp 0) rfl (eC e na nc ka kc) rfl ?_)
  intro g2 w1 l1 B2 G0
  have Z := (Below.refl w.heap.size w).grown G0 (Nat.le_refl _) (by simp)
  clear G0
  go_wp2_with (refine al_box rfl 45 (.tmp 1) rfl (eC e na2 nc2 ka2 kc2) rfl ?_)
  intro g3 w2 l3 B3 G0
  have Z := Z.grown G0 Z.size (by simp)
  have B2 := B2.kept G0 (by simp)
  clear G0
  have KE := ent_same e HE.out na nc ka kc na2 nc2 ka2 kc2 w2 (HV.out.below Z) (HV2.out.below Z)
  go_wp2_with (first
    | (refine ld_w (by rfl) 45 (.tmp 2) rfl g2 0 rfl (eC e na nc ka kc) _ B2.all Tryz.underlying45 rfl (sE HL.out _ _ _ _) ?_)
    | (refine ld_w (by rfl) 45 (.tmp 3) rfl g3 0 rfl (eC e na2 nc2 ka2 kc2) _ B3.all Tryz.underlying45 rfl (sE HL.out _ _ _ _) ?_))
  refine KE.mono ?_
  rintro e' w3 ⟨rfl, H⟩
  have HF : Hid (Below w.heap.size w w3) := Z.trans (H.out.mono Z.size)
  clear KE H Z B2 B3
  go_wp2
  go_ret
  exact ⟨rfl, HF.out⟩
end Go.Proofs.YtlefdnjokppibaaGreatDoor.Sh
namespace Go.Proofs.YtlefdnjokppibaaGreatDoor.Sh
open Go Go.RowKit Math Mt
set_option linter.unusedVariables false
set_option linter.unusedSimpArgs false
/-- A call whose answer is known, and that keeps the class. -/
theorem q_callv {C : World → Prop} {a : Act} {o : Oper} {K : Act → Prop} (k : Nat) (xs : Array Operand) (ts : Array TypeId)
    (hop : o.op = Op.call { callee := Callee.value (Operand.func k), args := xs, argTypes := ts }) (args : Array Value) (hargs : xs.map a.eval = args)
    (hent : ∀ (args : Array Value) (w : World), (callFunc k args).run Tryz.prog w = .ok (.enter k args) w) (v : Value)
    (hc : ∀ w, C w → Calls Tryz.prog k args w fun e w' => e = .returned v ∧ C w') (hk : K (a.put o.dst v)) : o.quiet Tryz.prog a C K :=
  ⟨v, fun w hw => by
    unfold Oper.quietAt
    have : (execOp a.eval o).run Tryz.prog w = .ok (.enter k args) w := by
      simp [execOp, hop, resolve, invoke, Act.eval, hargs, hent, Deferred.ofValue]
    rw [this]
    exact ⟨rfl, hc w hw⟩, hk⟩
theorem q_ixe {C : World → Prop} {a : Act} {o : Oper} {K : Act → Prop} (x y : Operand) (ho : o.op = .indexAddr 24 x y) (b off n c k : Nat) (hx : a.eval x = .slice (some ⟨b, off, none⟩) n c) (hy : a.eval y = .int .i64 (k : Int)) (hk1 : k < n)
    (hk : K (a.put o.dst (.pointer (some ⟨b, off + k * 46, none⟩)))) : o.quiet Tryz.prog a C K :=
  ⟨_, fun w hw => by
    unfold Oper.quietAt execOp
    have h1 : ¬ ((k : Int) < 0) := by omega
    have h2 : ¬ ((n : Int) ≤ (k : Int)) := by omega
    simp only [ho, hx, hy]
    go_simp, hk⟩
set_option maxHeartbeats 1000000 in
set_option maxRecDepth 8000 in
theorem blocks_same (b : Bk) (hb : BkW b) (a : Option Addr) (c : Nat) (a2 : Option Addr) (c2 : Nat) (w : World) (hE : EsM w a b.es) (hE2 : EsM w a2 b.es) :
    Calls Tryz.prog 16 #[.agg (bC b a c).toArray, .agg (bC b a2 c2).toArray] w fun e' w' => e' = .returned (.bool true) ∧ Hid (Below w.heap.size w w') := by
  have HL : Hid (b.pv.length = 32) := hb.pv.1
  have HB : Hid (BkW b) := hb
  have HE : Hid (EsM w a b.es) := hE
  have HE2 : Hid (EsM w a2 b.es) := hE2
  have HH : Hid (∀ w, (Op.equalIn 10000 23 (.agg (nums .u8 b.pv).toArray) (.agg (nums .u8 b.pv).toArray)).run Tryz.prog w = .ok true w) := fun w => by have := eq_hash hb.pv hb.pv w; simpa using this
  have hlen := hb.len
  clear hb hE hE2
  go_enter Tryz.func16, Tryz.ntmps16
  go_wp2_with (refine al_box rfl 26 (.tmp 0) rfl (bC b a c) rfl ?_)
  intro g2 w1 l1 B2 G0
  have Z := (Below.refl w.heap.size w).grown G0 (Nat.le_refl _) (by simp)
  clear G0
  go_wp2_with (refine al_box rfl 26 (.tmp 1) rfl (bC b a2 c2) rfl ?_)
  intro g3 w2 l3 B3 G0
  have Z := Z.grown G0 Z.size (by simp)
  have B2 := B2.kept G0 (by simp)
  clear G0
  have HB2 : Hid (Blk w2 g2 26 (bC b a c)) := B2
  have HB3 : Hid (Blk w2 g3 26 (bC b a2 c2)) := B3
  have HZ : Hid (Below w.heap.size w w2) := Z
  obtain ⟨x1, x2, x3, x4, x5⟩ := bkF_of HL.out B2
  obtain ⟨y1, y2, y3, y4, y5⟩ := bkF_of HL.out B3
  have A4 : Hid (w2.rangeAt g2 3 (nums .u8 b.pv)) := x4
  have C4 : Hid (w2.rangeAt g3 3 (nums .u8 b.pv)) := y4
  have hHH := HH.out w2
  clear x4 y4 B2 B3 Z
  go_wp2_with (first
    | (refine ld_w (by rfl) 23 (.tmp 26) rfl g2 3 rfl (nums .u8 b.pv) _ A4.out Tryz.underlying23 rfl (sH HL.out) ?_)
    | (refine ld_w (by rfl) 23 (.tmp 28) rfl g3 3 rfl (nums .u8 b.pv) _ C4.out Tryz.underlying23 rfl (sH HL.out) ?_))
  clear x1 x2 x3 x5 y1 y2 y3 y5 A4 C4 hHH
  go_loopw [5] (fun i wr => ∃ k : Nat, k ≤ b.es.length ∧ i = .int .i64 (k : Int) ∧ Hid (Below w2.heap.size w2 wr)) (fun i _ => b.es.length - (intOf i).toNat)
  case atStart => exact ⟨0, by omega, rfl, Below.refl _ _⟩
  case round =>
    obtain ⟨k, hk, rfl, HK⟩ := hrel
    have c35 := (bkF_of HL.out (HB2.out.below HK.out HB2.out.lt)).es
    by_cases hlt : k < b.es.length
    case neg =>
      have HF : Hid (Below w.heap.size w wr) := HZ.out.trans (HK.out.mono HZ.out.size)
      clear HK
      go_wp2
      go_ret
      exact ⟨rfl, HF.out⟩
    obtain ⟨e, he⟩ : ∃ e, b.es[k]? = some e := ⟨_, List.getElem?_eq_getElem hlt⟩
    obtain ⟨bb, oo, na, nc, ka, kc, rfl, hM⟩ := HE.out.get he
    obtain ⟨bb2, oo2, na2, nc2, ka2, kc2, rfl, hM2⟩ := HE2.out.get he
    have HEW : Hid (EnW e) := HB.out.es e (List.mem_of_getElem? he)
    have HM : Hid (EnM w2 bb (oo + k * 46) e na nc ka kc) := hM.below HZ.out
    have HM2 : Hid (EnM w2 bb2 (oo2 + k * 46) e na2 nc2 ka2 kc2) := hM2.below HZ.out
    clear hM hM2 he
    obtain ⟨C, hC⟩ : ∃ C : World → Prop, C = fun W => Below w2.heap.size w2 W := ⟨_, rfl⟩
    have C0 : Hid (C { wr with drawn := wr.drawn + 1 }) := by rw [hC]; exact Below.drew HK.out
    have F1 : Hid (∀ W, C W → W.cell? ⟨g2, 35, none⟩ = some (.slice (some ⟨bb, oo, none⟩) b.es.length c)) := fun W h => by rw [hC] at h; exact (bkF_of HL.out (HB2.out.below h HB2.out.lt)).es
    have F2 : Hid (∀ W, C W → W.cell? ⟨g3, 35, none⟩ = some (.slice (some ⟨bb2, oo2, none⟩) b.es.length c2)) := fun W h => by rw [hC] at h; exact (bkF_of HL.out (HB3.out.below h HB3.out.lt)).es
    have F3 : Hid (∀ W, C W → W.rangeAt bb (oo + k * 46) (eC e na nc ka kc)) := fun W h => by rw [hC] at h; exact (HM.out.below h).at'
    have F4 : Hid (∀ W, C W → W.rangeAt bb2 (oo2 + k * 46) (eC e na2 nc2 ka2 kc2)) := fun W h => by rw [hC] at h; exact (HM2.out.below h).at'
    have F5 : Hid (∀ W, C W → Calls Tryz.prog 25 #[.agg (eC e na nc ka kc).toArray, .agg (eC e na2 nc2 ka2 kc2).toArray] W fun e' w' => e' = .returned (.bool true) ∧ C w') := fun W h => by
      rw [hC] at h ⊢
      refine (entries_same e HEW.out na nc ka kc na2 nc2 ka2 kc2 W (HM.out.below h).vl (HM2.out.below h).vl).mono ?_
      rintro e' w' ⟨rfl, H⟩
      exact ⟨rfl, h.trans (H.out.mono h.size)⟩
    have CO : Hid (∀ W, C W → Below w2.heap.size w2 W) := fun W h => by rw [hC] at h; exact h
    clear hC HK
    go_wp2_with fail
    have hCp : ∀ p : Prop, (∀ W, C W → p) ↔ p := fun p => ⟨fun h => h _ C0.out, fun h _ _ => h⟩
    clear c35
    refine wp_region_quiet (C := C) (by kernel_rfl) (by kernel_rfl) C0.out ?_
    change wpQuiet _ _ _ _ (_ :: _ :: _ :: _ :: _ :: _ :: _ :: _ :: _ :: _ :: _ :: _ :: []) _
    repeat (first
      | go_big_quiet_skip
      | (go_big_quiet_want
         first
         | (refine q_cell 24 (.inr (.inr (.inl rfl))) (.tmp 48) rfl g2 35 rfl _ F1.out ?_
            simp only [Act.put, List.setIfInBounds_toArray, List.set_cons_zero, List.set_cons_succ]
            go_big_quiet_on)
         | (refine q_cell 24 (.inr (.inr (.inl rfl))) (.tmp 53) rfl g3 35 rfl _ F2.out ?_
            simp only [Act.put, List.setIfInBounds_toArray, List.set_cons_zero, List.set_cons_succ]
            go_big_quiet_on)
         | (refine q_ixe (.tmp 49) (.tmp 50) rfl bb oo b.es.length c k rfl rfl hlt ?_
            simp only [Act.put, List.setIfInBounds_toArray, List.set_cons_zero, List.set_cons_succ]
            go_big_quiet_on)
         | (refine q_ixe (.tmp 54) (.tmp 55) rfl bb2 oo2 b.es.length c2 k rfl rfl hlt ?_
            simp only [Act.put, List.setIfInBounds_toArray, List.set_cons_zero, List.set_cons_succ]
            go_big_quiet_on)
         | (refine q_load 45 (.tmp 51) rfl bb (oo + k * 46) rfl (eC e na nc ka kc) _ F3.out Tryz.underlying45 rfl (sE HEW.out.h.1 _ _ _ _) ?_
            simp only [Act.put, List.setIfInBounds_toArray, List.set_cons_zero, List.set_cons_succ]
            go_big_quiet_on)
         | (refine q_load 45 (.tmp 56) rfl bb2 (oo2 + k * 46) rfl (eC e na2 nc2 ka2 kc2) _ F4.out Tryz.underlying45 rfl (sE HEW.out.h.1 _ _ _ _) ?_
            simp only [Act.put, List.setIfInBounds_toArray, List.set_cons_zero, List.set_cons_succ]
            go_big_quiet_on)
         | (refine q_callv 25 _ _ rfl #[.agg (eC e na nc ka kc).toArray, .agg (eC e na2 nc2 ka2 kc2).toArray] (by rw [List.map_toArray]; rfl) (enters Tryz.func25 (by kernel_rfl) rfl) (.bool true) F5.out ?_
            simp only [Act.put, List.setIfInBounds_toArray, List.set_cons_zero, List.set_cons_succ]
            go_big_quiet_on)
         | (go_big_quiet_op
            go_big_quiet_on)))
    refine wpQuiet_nil ?_
    intro w9 h9
    have HN : Hid (Below w2.heap.size w2 w9) := CO.out _ h9
    clear h9 hCp C0 F1 F2 F3 F4 F5 CO
    go_wp2
    go_roundw
    case rel => exact ⟨k + 1, by omega, by go_num, HN.out⟩
    case measure => simp [intOf]; omega
end Go.Proofs.YtlefdnjokppibaaGreatDoor.Sh
namespace Go.Proofs.YtlefdnjokppibaaGreatDoor.Sh
open Go Go.RowKit Math Mt
set_option linter.unusedVariables false
set_option linter.unusedSimpArgs false
def smE : En := ⟨5, ⟨#[116]⟩, 1, 0, 0, nv, zr, false, 0, 0⟩
def smB : Bk := ⟨0, 0, 0, zr, [smE]⟩
theorem smE_w : EnW smE := ⟨⟨by decide, by decide⟩, by decide, ⟨by decide, by decide⟩, ⟨by decide, by decide⟩, ⟨by decide, by decide⟩, wf_nv, h32_zr, ⟨by decide, by decide⟩, ⟨by decide, by decide⟩⟩
theorem smB_w : BkW smB := ⟨⟨by decide, by decide⟩, ⟨by decide, by decide⟩, ⟨by decide, by decide⟩, h32_zr, fun e he => by rw [List.mem_singleton.1 he]; exact smE_w, by decide⟩
theorem smB_lk : ∀ e ∈ smB.es, Lk e.v := fun e he => by rw [List.mem_singleton.1 he]; exact lk_nv
theorem bd_sm (a : Act) : Tryz.prog.built 45 ((#[(0, .const (.int .i64 5)), (2, .const (.int .i64 1)), (1, .const (.string ⟨#[116]⟩))] : Array (Nat × Operand)).map fun p => (p.1, a.eval p.2)).toList = some (eC smE none 0 none 0).toArray := by kernel_rfl
theorem bd_sb (a : Act) (g : Nat) (hx : a.eval (.tmp 2) = .slice (some ⟨g, 0, none⟩) 1 1) : Tryz.prog.built 26 ((#[(4, .tmp 2)] : Array (Nat × Operand)).map fun p => (p.1, a.eval p.2)).toList = some (bC smB (some ⟨g, 0, none⟩) 1).toArray := by
  simp only [List.map_toArray, List.map_cons, List.map_nil, hx]
  kernel_rfl
set_option maxHeartbeats 400000 in
set_option maxRecDepth 8000 in
theorem small_any (w : World) :
    Calls Tryz.prog 42 #[] w fun e' w' => ∃ g, e' = .returned (.agg (bC smB (some ⟨g, 0, none⟩) 1).toArray) ∧ Hid (EsM w' (some ⟨g, 0, none⟩) smB.es ∧ Below w.heap.size w w') := by
  go_enter Tryz.func42, Tryz.ntmps42
  go_wp2_with (refine al_zero rfl 26 rfl (bC noB none 0) zBl ?_)
  intro g0 w1 l0 B0 G0
  have Z := (Below.refl w.heap.size w).grown G0 (Nat.le_refl _) (by simp)
  clear G0
  have B0' := B0.alloc (.cells (eC smE none 0 none 0).toArray 45)
  have HZ : Hid (Below w.heap.size w (w1.alloc (.cells (eC smE none 0 none 0).toArray 45))) := Z.alloc Z.size _
  have HR : Hid ((w1.alloc (.cells (eC smE none 0 none 0).toArray 45)).rangeAt w1.heap.size 0 (eC smE none 0 none 0)) := fun j u hj => by
    rw [Nat.zero_add, World.cell?_alloc_new]
    show (eC smE none 0 none 0).toArray[j]? = some u
    rw [List.getElem?_toArray]
    exact hj
  have hb0 := B0.lt
  clear Z B0
  go_wp2_with (first
    | (refine bd_w (by rfl) 45 _ rfl (eC smE none 0 none 0) (bd_sm _) ?_)
    | (refine bs_en rfl (.tmp 1) rfl (eC smE none 0 none 0) rfl rfl ?_)
    | (refine bd_w (by rfl) 26 _ rfl (bC smB (some ⟨w1.heap.size, 0, none⟩) 1) (bd_sb _ _ rfl) ?_)
    | (refine st_all rfl 26 (.tmp 0) (.tmp 3) rfl g0 26 (bC noB none 0) (bC smB (some ⟨w1.heap.size, 0, none⟩) 1) rfl rfl B0' rfl (sB zr_len _ _) (bC_one _ _ _) ?_))
  intro wz BZ G0
  have HF : Hid (EsM wz (some ⟨w1.heap.size, 0, none⟩) smB.es ∧ Below w.heap.size w wz) := by
    refine ⟨.inr ⟨w1.heap.size, 0, rfl, fun i e he => ?_⟩, Sh.grown_below HZ.out G0 HZ.out.size l0⟩
    obtain ⟨hi, he'⟩ := List.getElem?_eq_some_iff.1 he
    have hi0 : i = 0 := by have : i < 1 := hi; omega
    subst hi0
    obtain rfl : smE = e := he'
    refine ⟨none, 0, none, 0, fun j u hj => ?_, (vl_lf wz 0 0 0 em).vl⟩
    exact G0.cell (HR.out j u hj) (by intro e; have := Option.some.inj e; simp at this; omega)
  clear G0 B0' HR HZ
  go_wp2
  (try simp only [Exit.inBlock, Exit.then])
  refine bodyPost_ret (Sh.res_row rfl _ g0 26 _ _ rfl BZ Tryz.underlying26 rfl (sB zr_len _ _)) rfl ⟨w1.heap.size, rfl, HF.out⟩
end Go.Proofs.YtlefdnjokppibaaGreatDoor.Sh
namespace Go.Proofs.YtlefdnjokppibaaGreatDoor.Sh
open Go Go.RowKit Math Mt
set_option linter.unusedVariables false
set_option linter.unusedSimpArgs false
theorem sm_chk : chkB smB = 0 := by kernel_rfl
theorem no_chk : chkB noB = 1 := by kernel_rfl
theorem sm_enc : encL smB true = blkB smB true := by unfold encL; rw [if_pos sm_chk]
theorem sm_len : (blkB smB true).length ≤ 65536 := of_decide_eq_true (by kernel_rfl)
theorem sm_oct : Oct (blkB smB true) := blk_oct smB_w (chk_zero sm_chk).2.1 true
def smR : Rdr Nat := nR.bind fun _ => nR.bind fun _ => nR.bind fun _ => (takeR 32).bind fun _ => nR.bind fun n => .ret n
theorem sm_rd : (match smR (blkB smB true) with | .ok (n, q) => n == 1 && q.head? == some 5 | .error _ => false) = true := by kernel_rfl
theorem sm_sf : bSf (blkB smB true) := by
  intro ix tm tx n pv k es l1 l2 l3 l4 l5 r h1 h2 h3 h4 h5 hk h6 k' l' hb
  have e : smR (blkB smB true) = .ok (n, l5) := by
    unfold smR
    simp only [Rdr.bind, h1, h2, h3, h4, h5]
    rfl
  have g := sm_rd
  rw [e] at g
  simp only [Bool.and_eq_true, beq_iff_eq] at g
  obtain ⟨g1, g2⟩ := g
  obtain rfl : k = 0 := by omega
  obtain ⟨_, rfl⟩ := ret_inv h6
  cases r with
  | nil => cases g2
  | cons y t =>
    simp only [List.head?_cons, Option.some.injEq] at g2
    subst g2
    unfold byR at hb
    injection hb with hb
    injection hb with e1 _
    omega
theorem sm_dec : decB (blkB smB true) = 0 ∧ decK (blkB smB true) = smB := dec_bk smB_w sm_chk
set_option maxHeartbeats 1000000 in
set_option maxRecDepth 8000 in
theorem bknown_any (w : World) : Calls Tryz.prog 17 #[] w fun e' w' => e' = .returned (.bool true) ∧ Hid (Below w.heap.size w w') := by
  go_enter Tryz.func17, Tryz.ntmps17
  have K := small_any w
  go_wp2_with fail
  refine K.mono ?_
  clear K
  rintro e w1 ⟨g, rfl, H⟩
  have Z := H.out.2
  have K := enc_any smB smB_w smB_lk (some ⟨g, 0, none⟩) 1 true w1 H.out.1
  rw [sm_chk, sm_enc] at K
  clear H
  obtain ⟨L, hL⟩ : ∃ L, Hid (blkB smB true = L) := ⟨_, rfl⟩
  rw [hL.out] at K
  go_wp2_with fail
  refine K.mono ?_
  clear K
  rintro e w2 ⟨v, rfl, H⟩
  have Z := Z.trans (H.out.2.mono Z.size)
  have hO := H.out.1
  clear H
  obtain ⟨ax, cx, rfl, hB, hnil, hc, hcm⟩ := hO.byt
  unfold maxLen at hcm
  have HO : Hid (Own w2 w1.heap.size (.slice ax L.length cx) L) := hO
  have K := bdec_any w2 ax cx L hB hnil (by omega) (by omega) (by rw [← hL.out]; exact sm_oct) (by rw [← hL.out]; have := sm_len; omega) (by rw [← hL.out]; exact sm_sf)
  have e1 : decB L = 0 := by rw [← hL.out]; exact sm_dec.1
  have e2 : decK L = smB := by rw [← hL.out]; exact sm_dec.2
  rw [e1, e2] at K
  clear hB hnil hc hO HO e1
  go_wp2_with fail
  refine K.mono ?_
  clear K
  rintro e w3 ⟨a, c, rfl, H⟩
  have Z := Z.trans (H.out.bl.mono Z.size)
  have HE : Hid (EsM w3 a smB.es) := by have h := H.out.esm; rw [e2] at h; exact h
  clear H e2 hL
  go_wp2_with (refine al_zero rfl 26 rfl (bC noB none 0) zBl ?_)
  intro g3 w4 l3 B3 G0
  have Z6 := (Below.refl w3.heap.size w3).grown G0 (Nat.le_refl _) (by simp)
  clear G0
  go_wp2_with (refine st_all rfl 26 (.tmp 3) (.tmp 13) rfl g3 26 (bC noB none 0) (bC smB a c) rfl rfl B3 (by rw [bC_len (b := smB) zr_len, bC_len zr_len]) (sB (b := smB) zr_len _ _) (bC_one _ _ _) ?_)
  intro w5 B3' G0
  have Z7 := Sh.grown_below Z6 G0 Z6.size l3
  have HE : Hid (EsM w5 a smB.es) := HE.out.below Z7
  have HZ : Hid (Below w.heap.size w w5) := Z.trans (Z7.mono Z.size)
  have HB : Hid (Blk w5 g3 26 (bC smB a c)) := B3'
  clear B3' G0 Z6 Z7 Z B3
  obtain ⟨C, hC⟩ : ∃ C : World → Prop, C = fun W => Below w5.heap.size w5 W := ⟨_, rfl⟩
  have C0 : Hid (C { w5 with drawn := w5.drawn + 1 }) := by rw [hC]; exact Below.drew (Below.refl _ _)
  have CO : Hid (∀ W, C W → Below w5.heap.size w5 W) := fun W h => by rw [hC] at h; exact h
  have CB : Hid (∀ W W', C W → Below W.heap.size W W' → C W') := fun W W' h h2 => by rw [hC] at h ⊢; exact h.trans (h2.mono h.size)
  have FB : Hid (∀ W, C W → W.rangeAt g3 0 (bC smB a c)) := fun W h => (HB.out.below (CO.out W h) HB.out.lt).all
  have FE : Hid (∀ W, C W → EsM W a smB.es) := fun W h => HE.out.below (CO.out W h)
  clear hC
  go_wp2_with fail
  refine region_calm C 16 (by kernel_rfl) ?_
  have hCp : ∀ p : Prop, (∀ W, C W → p) ↔ p := fun p => ⟨fun h => h _ C0.out, fun h _ _ => h⟩
  generalize ({ w5 with drawn := w5.drawn + 1 } : World) = y0 at *
  refine seg 10 [0, 1, 2, 3, 4, 5, 6] rfl (by kernel_rfl) whole_blind (C0.out) (by kernel_rfl) ?_
  change wpQuiet _ _ _ _ (_ :: _ :: _ :: _ :: _ :: _ :: _ :: []) _
  repeat (first
    | go_big_quiet_skip
    | (go_big_quiet_want
       first
       | (go_big_quiet_op
          go_big_quiet_on)))
  refine wpQuiet_nil ?_
  refine seg 9 [7] rfl (by kernel_rfl) whole_blind (C0.out) (by kernel_rfl) ?_
  change wpQuiet _ _ _ _ (_ :: []) _
  repeat (first
    | go_big_quiet_skip
    | (go_big_quiet_want
       first
       | (refine q_load 26 (.tmp 3) rfl g3 0 rfl (bC smB a c) _ FB.out Tryz.underlying26 rfl (sB (b := smB) zr_len _ _) ?_
          simp only [Act.put, List.setIfInBounds_toArray, List.set_cons_zero, List.set_cons_succ]
          go_big_quiet_on)
       | (go_big_quiet_op
          go_big_quiet_on)))
  refine wpQuiet_nil ?_
  refine lone_do (i := 8) 8 rfl (by kernel_rfl) rfl (by rfl) ?_
  intro K hK
  refine oper_call 42 _ _ rfl #[] (by rw [List.map_toArray]; rfl) (enters Tryz.func42 (by kernel_rfl) rfl) (fun v w' => ∃ g, v = .agg (bC smB (some ⟨g, 0, none⟩) 1).toArray ∧ Hid (EsM w' (some ⟨g, 0, none⟩) smB.es ∧ Below y0.heap.size y0 w')) ((small_any y0).mono (by rintro e w' ⟨g, rfl, h⟩; exact ⟨_, rfl, g, rfl, h⟩)) ?_
  rintro v y1 ⟨gs, rfl, HS⟩
  have C1 : Hid (C y1) := CB.out y0 y1 C0.out HS.out.2
  refine hK _ _ (C1.out) ?_
  clear hK K
  simp only [Act.put, List.setIfInBounds_toArray, List.set_cons_zero, List.set_cons_succ]
  refine lone_do (i := 9) 7 rfl (by kernel_rfl) rfl (by rfl) ?_
  intro K hK
  refine oper_call 16 _ _ rfl #[.agg (bC smB a c).toArray, .agg (bC smB (some ⟨gs, 0, none⟩) 1).toArray] (by rw [List.map_toArray]; rfl) (enters Tryz.func16 (by kernel_rfl) rfl) (fun v w' => v = .bool true ∧ Hid (Below y1.heap.size y1 w')) ((blocks_same smB smB_w a c (some ⟨gs, 0, none⟩) 1 y1 (FE.out _ C1.out) HS.out.1).mono (by rintro e w' ⟨rfl, h⟩; exact ⟨_, rfl, rfl, h⟩)) ?_
  rintro v y2 ⟨rfl, H2⟩
  have C2 : Hid (C y2) := CB.out y1 y2 C1.out H2.out
  clear hCp
  have hCp : ∀ p : Prop, (∀ W, C W → p) ↔ p := fun p => ⟨fun h => h _ C2.out, fun h _ _ => h⟩
  refine hK _ _ (C2.out) ?_
  clear hK K
  simp only [Act.put, List.setIfInBounds_toArray, List.set_cons_zero, List.set_cons_succ]
  refine seg 4 [10, 11, 12] rfl (by kernel_rfl) whole_blind (C2.out) (by kernel_rfl) ?_
  change wpQuiet _ _ _ _ (_ :: _ :: _ :: []) _
  repeat (first
    | go_big_quiet_skip
    | (go_big_quiet_want
       first
       | (refine q_bd 26 #[] rfl (bC noB none 0) (bd_blk _) ?_
          simp only [Act.put, List.setIfInBounds_toArray, List.set_cons_zero, List.set_cons_succ]
          go_big_quiet_on)
       | (go_big_quiet_op
          go_big_quiet_on)))
  refine wpQuiet_nil ?_
  refine lone_do (i := 13) 3 rfl (by kernel_rfl) rfl (by rfl) ?_
  intro K hK
  refine oper_call 10 _ _ rfl #[.agg (bC noB none 0).toArray] (by rw [List.map_toArray]; rfl) (enters Tryz.func10 (by kernel_rfl) rfl) (fun v w' => v = .int .i64 1 ∧ Below y2.heap.size y2 w') ((check_any noB w_noB (by simp [noB]) none 0 y2 (.inl rfl)).mono (by rintro e w' ⟨rfl, h⟩; rw [no_chk]; exact ⟨_, rfl, rfl, h⟩)) ?_
  rintro v y3 ⟨rfl, H3⟩
  have C3 : Hid (C y3) := CB.out y2 y3 C2.out H3
  refine hK _ _ (C3.out) ?_
  clear hK K
  simp only [Act.put, List.setIfInBounds_toArray, List.set_cons_zero, List.set_cons_succ]
  refine seg 1 [14, 15] rfl (by kernel_rfl) whole_blind (C3.out) (by kernel_rfl) ?_
  change wpQuiet _ _ _ _ (_ :: _ :: []) _
  repeat (first
    | go_big_quiet_skip
    | (go_big_quiet_want
       first
       | (go_big_quiet_op
          go_big_quiet_on)))
  refine wpQuiet_nil ?_
  refine lone_calm (i := 16) 0 rfl (by kernel_rfl) rfl rfl (C3.out) ?_
  repeat (first
    | go_big_quiet_skip
    | (go_big_quiet_want
       first
       | (go_big_quiet_op
          go_big_quiet_on)))
  refine wpQuiet_nil ?_
  refine anyC_done (by kernel_rfl) ⟨rfl, ?_⟩
  have HF : Hid (Below w.heap.size w y3) := HZ.out.trans ((CO.out _ C3.out).mono HZ.out.size)
  clear C0 C1 C2 C3 CO CB FB FE hCp
  go_wp2
  go_ret
  exact ⟨rfl, HF.out⟩
end Go.Proofs.YtlefdnjokppibaaGreatDoor.Sh
namespace Go.Proofs.YtlefdnjokppibaaGreatDoor.Mer
namespace Mk

/-! ### powers of two -/
theorem pow_pos2 (n : Nat) : 0 < 2 ^ n := Nat.pow_pos (by decide)
theorem pow_split {a b : Nat} (h : a ≤ b) : 2 ^ b = 2 ^ a * 2 ^ (b - a) := by rw [← Nat.pow_add]; congr 1; omega
theorem pow_even {k : Nat} (h : 0 < k) : 2 ^ k = 2 * 2 ^ (k - 1) := by
  obtain ⟨j, rfl⟩ : ∃ j, k = j + 1 := ⟨k - 1, by omega⟩
  rw [Nat.pow_succ, Nat.mul_comm, Nat.add_sub_cancel]
theorem two_exists (n : Nat) (h : 2 ≤ n) : ∃ T, 2 ^ T < n ∧ n ≤ 2 ^ (T + 1) := by
  refine ⟨Nat.log2 (n - 1), ?_, ?_⟩
  · have := Nat.log2_self_le (n := n - 1) (by omega); omega
  · have := Nat.lt_log2_self (n := n - 1); omega
theorem two_one {n T T' : Nat} (h1 : 2 ^ T < n) (h2 : n ≤ 2 ^ (T + 1)) (h3 : 2 ^ T' < n) (h4 : n ≤ 2 ^ (T' + 1)) : T = T' := by
  rcases Nat.lt_trichotomy T T' with h | h | h
  · have := Nat.pow_le_pow_right (n := 2) (by decide) (show T + 1 ≤ T' by omega); omega
  · exact h
  · have := Nat.pow_le_pow_right (n := 2) (by decide) (show T' + 1 ≤ T by omega); omega
/-- the greatest power of two below n. -/
def hp (n : Nat) : Nat := 2 ^ Nat.log2 (n - 1)
theorem hp_of {n T : Nat} (h1 : 2 ^ T < n) (h2 : n ≤ 2 ^ (T + 1)) : hp n = 2 ^ T := by
  have hp0 := pow_pos2 T
  have a := Nat.log2_self_le (n := n - 1) (by omega)
  have b := Nat.lt_log2_self (n := n - 1)
  unfold hp
  rw [two_one (n := n) (T := Nat.log2 (n - 1)) (T' := T) (by omega) (by omega) h1 h2]

section
variable {H : Type} (nd : H → H → H) (em : H)

/-! ### the root -/
def rtF : Nat → List H → H
  | 0, l => l.headD em
  | f + 1, l => if l.length ≤ 1 then l.headD em else nd (rtF f (l.take (hp l.length))) (rtF f (l.drop (hp l.length)))
def R (l : List H) : H := rtF nd em l.length l
theorem rtF_eq : ∀ (f g : Nat) (l : List H), l.length ≤ f → l.length ≤ g → rtF nd em f l = rtF nd em g l
  | 0, 0, _, _, _ => rfl
  | 0, g + 1, l, h, _ => by rw [rtF, rtF, if_pos (by omega)]
  | f + 1, 0, l, _, h => by rw [rtF, rtF, if_pos (by omega)]
  | f + 1, g + 1, l, h1, h2 => by
    rw [rtF, rtF]
    by_cases hl : l.length ≤ 1
    · rw [if_pos hl, if_pos hl]
    · rw [if_neg hl, if_neg hl]
      obtain ⟨T, a, b⟩ := two_exists l.length (by omega)
      have e := hp_of a b
      have := pow_pos2 T
      have c : (l.take (hp l.length)).length ≤ l.length - 1 := by rw [List.length_take, e]; omega
      have d : (l.drop (hp l.length)).length ≤ l.length - 1 := by rw [List.length_drop, e]; omega
      rw [rtF_eq f g _ (by omega) (by omega), rtF_eq f g _ (by omega) (by omega)]
theorem R_one (x : H) : R nd em [x] = x := by show rtF nd em 1 [x] = x; rw [rtF, if_pos (by simp)]; rfl
theorem R_split {l : List H} {T : Nat} (h1 : 2 ^ T < l.length) (h2 : l.length ≤ 2 ^ (T + 1)) : R nd em l = nd (R nd em (l.take (2 ^ T))) (R nd em (l.drop (2 ^ T))) := by
  have := pow_pos2 T
  obtain ⟨f, hf⟩ : ∃ f, l.length = f + 1 := ⟨l.length - 1, by omega⟩
  show rtF nd em l.length l = _
  rw [hf, rtF, if_neg (by omega), hp_of h1 h2]
  show _ = nd (rtF nd em _ _) (rtF nd em _ _)
  rw [rtF_eq nd em f (l.take (2 ^ T)).length _ (by rw [List.length_take]; omega) (Nat.le_refl _), rtF_eq nd em f (l.drop (2 ^ T)).length _ (by rw [List.length_drop]; omega) (Nat.le_refl _)]

/-! ### halves beside a way -/
def xr (a : Nat) : Nat := if a % 2 = 0 then a + 1 else a - 1
def bes (lev p size : Nat) : Nat → List (Nat × Nat)
  | 0 => []
  | j + 1 => bes lev p size j ++ (if xr (p / 2 ^ j) * 2 ^ (lev + j) < size then [(lev + j, xr (p / 2 ^ j))] else [])
/-- the halves beside the way from the half p of a level up to the root of n. -/
def wy (lev p n : Nat) : List (Nat × Nat) := bes lev p n n
/-! ### segments -/
def sg (l : List H) (x : Nat × Nat) : List H := (l.drop (x.2 * 2 ^ x.1)).take (2 ^ x.1)
/-! ### what a path makes -/
end
end Mk
end Go.Proofs.YtlefdnjokppibaaGreatDoor.Mer
namespace Go.Proofs.YtlefdnjokppibaaGreatDoor.Mer
namespace Mk
section
variable {H : Type} (nd : H → H → H) (em : H)
end
end Mk
end Go.Proofs.YtlefdnjokppibaaGreatDoor.Mer
