/-
  Two blocks: the same or not. · The law BlockOne, walked.
-/
import Derived.Test.YtmbglggodifboabRG49x
namespace Go.Proofs.Ytmbglggodifboab.Sh
open Go Go.RowKit Math Mt
set_option linter.unusedVariables false
set_option linter.unusedSimpArgs false
theorem bk_ext {b d : Bk} (h1 : b.ix = d.ix) (h2 : b.tm = d.tm) (h3 : b.tx = d.tx) (h4 : b.pv = d.pv) (h5 : b.es = d.es) : b = d := by
  cases b; cases d
  simp only at h1 h2 h3 h4 h5
  subst h1 h2 h3 h4 h5
  rfl
theorem take_next {α : Type} {l m : List α} {k : Nat} {x : α} (h : l.take k = m.take k) (h1 : l[k]? = some x) (h2 : m[k]? = some x) : l.take (k + 1) = m.take (k + 1) := by
  obtain ⟨p1, p2⟩ := List.getElem?_eq_some_iff.1 h1
  obtain ⟨q1, q2⟩ := List.getElem?_eq_some_iff.1 h2
  rw [List.take_succ_eq_append_getElem p1, List.take_succ_eq_append_getElem q1, h, p2, q2]
set_option maxHeartbeats 2000000 in
set_option maxRecDepth 8000 in
theorem blocks_eq (b d : Bk) (hb : BkW b) (hd : BkW d) (a : Option Addr) (c : Nat) (a2 : Option Addr) (c2 : Nat) (w : World) (hE : EsM w a b.es) (hE2 : EsM w a2 d.es) (t : Bool) (ht : Hid (t = true ↔ b = d)) :
    Calls Try.prog 9 #[.agg (bC b a c).toArray, .agg (bC d a2 c2).toArray] w fun e' w' => e' = .returned (.bool t) ∧ Hid (Below w.heap.size w w') := by
  have HL : Hid (b.pv.length = 32) := hb.pv.1
  have HL2 : Hid (d.pv.length = 32) := hd.pv.1
  have HB : Hid (BkW b) := hb
  have HD : Hid (BkW d) := hd
  have HE : Hid (EsM w a b.es) := hE
  have HE2 : Hid (EsM w a2 d.es) := hE2
  obtain ⟨th, hth⟩ : ∃ th, Hid (decide (b.pv = d.pv) = th) := ⟨_, rfl⟩
  have HH : Hid (∀ w, (Op.equalIn 10000 23 (.agg (nums .u8 b.pv).toArray) (.agg (nums .u8 d.pv).toArray)).run Try.prog w = .ok th w) := fun w => by rw [← hth.out]; exact eq_hash hb.pv hd.pv w
  have hlen := hb.len
  have hlen2 := hd.len
  clear hb hd hE hE2
  go_enter Try.func9, Try.ntmps9
  go_wp2_with (refine al_box rfl 26 (.tmp 0) rfl (bC b a c) rfl ?_)
  intro g2 w1 l1 B2 G0
  have Z := (Below.refl w.heap.size w).grown G0 (Nat.le_refl _) (by simp)
  clear G0
  go_wp2_with (refine al_box rfl 26 (.tmp 1) rfl (bC d a2 c2) rfl ?_)
  intro g3 w2 l3 B3 G0
  have Z := Z.grown G0 Z.size (by simp)
  have B2 := B2.kept G0 (by simp)
  clear G0
  have HB2 : Hid (Blk w2 g2 26 (bC b a c)) := B2
  have HB3 : Hid (Blk w2 g3 26 (bC d a2 c2)) := B3
  have HZ : Hid (Below w.heap.size w w2) := Z
  obtain ⟨x1, x2, x3, x4, x5⟩ := bkF_of HL.out B2
  obtain ⟨y1, y2, y3, y4, y5⟩ := bkF_of HL2.out B3
  have A4 : Hid (w2.rangeAt g2 3 (nums .u8 b.pv)) := x4
  have C4 : Hid (w2.rangeAt g3 3 (nums .u8 d.pv)) := y4
  have hHH := HH.out w2
  clear x4 y4 B2 B3 Z
  by_cases hix : b.ix = d.ix
  case neg =>
    obtain rfl : t = false := off_of ht.out (fun q => hix (by rw [q]))
    have hb : (b.ix != d.ix) = true := bne_iff_ne.2 hix
    have hb2 : (b.ix == d.ix) = false := beq_eq_false_iff_ne.2 hix
    go_wp2
    go_ret
    exact ⟨rfl, HZ.out⟩
  have Hix : Hid (b.ix = d.ix) := hix
  rw [← hix] at y1
  clear hix
  by_cases htm : b.tm = d.tm
  case neg =>
    obtain rfl : t = false := off_of ht.out (fun q => htm (by rw [q]))
    have hb : (b.tm != d.tm) = true := bne_iff_ne.2 htm
    have hb2 : (b.tm == d.tm) = false := beq_eq_false_iff_ne.2 htm
    go_wp2
    go_ret
    exact ⟨rfl, HZ.out⟩
  have Htm : Hid (b.tm = d.tm) := htm
  rw [← htm] at y2
  clear htm
  by_cases htx : b.tx = d.tx
  case neg =>
    obtain rfl : t = false := off_of ht.out (fun q => htx (by rw [q]))
    have hb : (b.tx != d.tx) = true := bne_iff_ne.2 htx
    have hb2 : (b.tx == d.tx) = false := beq_eq_false_iff_ne.2 htx
    go_wp2
    go_ret
    exact ⟨rfl, HZ.out⟩
  have Htx : Hid (b.tx = d.tx) := htx
  rw [← htx] at y3
  clear htx
  by_cases hpv : b.pv = d.pv
  case neg =>
    obtain rfl : th = false := by rw [← hth.out]; exact decide_eq_false hpv
    obtain rfl : t = false := off_of ht.out (fun q => hpv (by rw [q]))
    clear hpv
    go_wp2_with (first
      | (refine ld_w (by rfl) 23 (.tmp 26) rfl g2 3 rfl (nums .u8 b.pv) _ A4.out Try.underlying23 rfl (sH HL.out) ?_)
      | (refine ld_w (by rfl) 23 (.tmp 28) rfl g3 3 rfl (nums .u8 d.pv) _ C4.out Try.underlying23 rfl (sH HL2.out) ?_))
    go_ret
    exact ⟨rfl, HZ.out⟩
  obtain rfl : th = true := by rw [← hth.out]; exact decide_eq_true hpv
  have Hpv : Hid (b.pv = d.pv) := hpv
  clear hpv
  by_cases hes : b.es.length = d.es.length
  case neg =>
    obtain rfl : t = false := off_of ht.out (fun q => hes (by rw [q]))
    have hb : ((b.es.length : Int) != (d.es.length : Int)) = true := bne_iff_ne.2 (by omega)
    have hb2 : ((b.es.length : Int) == (d.es.length : Int)) = false := beq_eq_false_iff_ne.2 (by omega)
    go_wp2_with (first
      | (refine ld_w (by rfl) 23 (.tmp 26) rfl g2 3 rfl (nums .u8 b.pv) _ A4.out Try.underlying23 rfl (sH HL.out) ?_)
      | (refine ld_w (by rfl) 23 (.tmp 28) rfl g3 3 rfl (nums .u8 d.pv) _ C4.out Try.underlying23 rfl (sH HL2.out) ?_))
    go_ret
    exact ⟨rfl, HZ.out⟩
  have y6 := y5
  rw [← hes] at y6
  clear y5
  have Hes : Hid (b.es.length = d.es.length) := hes
  clear hes
  go_wp2_with (first
    | (refine ld_w (by rfl) 23 (.tmp 26) rfl g2 3 rfl (nums .u8 b.pv) _ A4.out Try.underlying23 rfl (sH HL.out) ?_)
    | (refine ld_w (by rfl) 23 (.tmp 28) rfl g3 3 rfl (nums .u8 d.pv) _ C4.out Try.underlying23 rfl (sH HL2.out) ?_))
  clear x1 x2 x3 x5 y1 y2 y3 y6 A4 C4 hHH
  go_loopw [5] (fun i wr => ∃ k : Nat, k ≤ b.es.length ∧ i = .int .i64 (k : Int) ∧ Hid (b.es.take k = d.es.take k) ∧ Hid (Below w2.heap.size w2 wr)) (fun i _ => b.es.length - (intOf i).toNat)
  case atStart => exact ⟨0, by omega, rfl, rfl, Below.refl _ _⟩
  case round =>
    obtain ⟨k, hk, rfl, HT, HK⟩ := hrel
    have c35 := (bkF_of HL.out (HB2.out.below HK.out HB2.out.lt)).es
    by_cases hlt : k < b.es.length
    case neg =>
      have HF : Hid (Below w.heap.size w wr) := HZ.out.trans (HK.out.mono HZ.out.size)
      obtain rfl : t = true := ht.out.2 (by
        have h1 := HT.out
        rw [List.take_of_length_le (by omega), List.take_of_length_le (by have := Hes.out; omega)] at h1
        exact bk_ext Hix.out Htm.out Htx.out Hpv.out h1)
      clear HK
      go_wp2
      go_ret
      exact ⟨rfl, HF.out⟩
    obtain ⟨e, he⟩ : ∃ e, b.es[k]? = some e := ⟨_, List.getElem?_eq_getElem hlt⟩
    obtain ⟨f, hf⟩ : ∃ f, d.es[k]? = some f := ⟨_, List.getElem?_eq_getElem (by have := Hes.out; omega)⟩
    obtain ⟨bb, oo, na, nc, ka, kc, rfl, hM⟩ := HE.out.get he
    obtain ⟨bb2, oo2, na2, nc2, ka2, kc2, rfl, hM2⟩ := HE2.out.get hf
    have HEW : Hid (EnW e) := HB.out.es e (List.mem_of_getElem? he)
    have HFW : Hid (EnW f) := HD.out.es f (List.mem_of_getElem? hf)
    have HM : Hid (EnM w2 bb (oo + k * 46) e na nc ka kc) := hM.below HZ.out
    have HM2 : Hid (EnM w2 bb2 (oo2 + k * 46) f na2 nc2 ka2 kc2) := hM2.below HZ.out
    obtain ⟨tk, HTK⟩ : ∃ tk : Bool, Hid (tk = true ↔ e = f) := by
      by_cases h : e = f
      · exact ⟨true, ⟨fun _ => h, fun _ => rfl⟩⟩
      · exact ⟨false, ⟨fun q => (by cases q), fun q => absurd q h⟩⟩
    have HNX : Hid (tk = true → b.es.take (k + 1) = d.es.take (k + 1)) := fun h => take_next HT.out he (by rw [HTK.out.1 h]; exact hf)
    have HNO : Hid (tk = false → b ≠ d) := fun h q => by
      rw [q, hf] at he
      have := HTK.out.2 (Option.some.inj he).symm
      rw [h] at this
      cases this
    clear hM hM2 he hf HT
    obtain ⟨C, hC⟩ : ∃ C : World → Prop, C = fun W => Below w2.heap.size w2 W := ⟨_, rfl⟩
    have C0 : Hid (C { wr with drawn := wr.drawn + 1 }) := by rw [hC]; exact Below.drew HK.out
    have F1 : Hid (∀ W, C W → W.cell? ⟨g2, 35, none⟩ = some (.slice (some ⟨bb, oo, none⟩) b.es.length c)) := fun W h => by rw [hC] at h; exact (bkF_of HL.out (HB2.out.below h HB2.out.lt)).es
    have F2 : Hid (∀ W, C W → W.cell? ⟨g3, 35, none⟩ = some (.slice (some ⟨bb2, oo2, none⟩) b.es.length c2)) := fun W h => by rw [hC] at h; rw [Hes.out]; exact (bkF_of HL2.out (HB3.out.below h HB3.out.lt)).es
    have F3 : Hid (∀ W, C W → W.rangeAt bb (oo + k * 46) (eC e na nc ka kc)) := fun W h => by rw [hC] at h; exact (HM.out.below h).at'
    have F4 : Hid (∀ W, C W → W.rangeAt bb2 (oo2 + k * 46) (eC f na2 nc2 ka2 kc2)) := fun W h => by rw [hC] at h; exact (HM2.out.below h).at'
    have F5 : Hid (∀ W, C W → Calls Try.prog 16 #[.agg (eC e na nc ka kc).toArray, .agg (eC f na2 nc2 ka2 kc2).toArray] W fun e' w' => e' = .returned (.bool tk) ∧ C w') := fun W h => by
      rw [hC] at h ⊢
      refine (entries_eq e f HEW.out HFW.out na nc ka kc na2 nc2 ka2 kc2 W (HM.out.below h).vl (HM2.out.below h).vl tk HTK).mono ?_
      rintro e' w' ⟨rfl, H⟩
      exact ⟨rfl, h.trans (H.out.mono h.size)⟩
    have CO : Hid (∀ W, C W → Below w2.heap.size w2 W) := fun W h => by rw [hC] at h; exact h
    clear hC HK HTK
    go_wp2_with fail
    have hCp : ∀ p : Prop, (∀ W, C W → p) ↔ p := fun p => ⟨fun h => h _ C0.out, fun h _ _ => h⟩
    clear c35
    refine wp_region_quiet (C := C) (by kernel_rfl) (by kernel_rfl) C0.out ?_
    change wpQuiet _ _ _ _ (_ :: _ :: _ :: _ :: _ :: _ :: _ :: _ :: _ :: _ :: _ :: _ :: []) _
    repeat (first
      | go_big_quiet_skip
      | (go_big_quiet_want
         first
         | (refine q_cell 24 (.inr (.inr (.inl rfl))) (.tmp 48) rfl g2 35 rfl _ F1.out ?_
            simp only [Act.put, List.setIfInBounds_toArray, List.set_cons_zero, List.set_cons_succ]
            go_big_quiet_on)
         | (refine q_cell 24 (.inr (.inr (.inl rfl))) (.tmp 53) rfl g3 35 rfl _ F2.out ?_
            simp only [Act.put, List.setIfInBounds_toArray, List.set_cons_zero, List.set_cons_succ]
            go_big_quiet_on)
         | (refine q_ixe (.tmp 49) (.tmp 50) rfl bb oo b.es.length c k rfl rfl hlt ?_
            simp only [Act.put, List.setIfInBounds_toArray, List.set_cons_zero, List.set_cons_succ]
            go_big_quiet_on)
         | (refine q_ixe (.tmp 54) (.tmp 55) rfl bb2 oo2 b.es.length c2 k rfl rfl hlt ?_
            simp only [Act.put, List.setIfInBounds_toArray, List.set_cons_zero, List.set_cons_succ]
            go_big_quiet_on)
         | (refine q_load 45 (.tmp 51) rfl bb (oo + k * 46) rfl (eC e na nc ka kc) _ F3.out Try.underlying45 rfl (sE HEW.out.h.1 _ _ _ _) ?_
            simp only [Act.put, List.setIfInBounds_toArray, List.set_cons_zero, List.set_cons_succ]
            go_big_quiet_on)
         | (refine q_load 45 (.tmp 56) rfl bb2 (oo2 + k * 46) rfl (eC f na2 nc2 ka2 kc2) _ F4.out Try.underlying45 rfl (sE HFW.out.h.1 _ _ _ _) ?_
            simp only [Act.put, List.setIfInBounds_toArray, List.set_cons_zero, List.set_cons_succ]
            go_big_quiet_on)
         | (refine q_callv 16 _ _ rfl #[.agg (eC e na nc ka kc).toArray, .agg (eC f na2 nc2 ka2 kc2).toArray] (by rw [List.map_toArray]; rfl) (enters Try.func16 (by kernel_rfl) rfl) (.bool tk) F5.out ?_
            simp only [Act.put, List.setIfInBounds_toArray, List.set_cons_zero, List.set_cons_succ]
            go_big_quiet_on)
         | (go_big_quiet_op
            go_big_quiet_on)))
    refine wpQuiet_nil ?_
    intro w9 h9
    have HN : Hid (Below w2.heap.size w2 w9) := CO.out _ h9
    clear h9 hCp C0 F1 F2 F3 F4 F5 CO
    cases tk with
    | true =>
      have HT : Hid (b.es.take (k + 1) = d.es.take (k + 1)) := HNX.out rfl
      clear HNX HNO
      go_wp2
      go_roundw
      case rel => exact ⟨k + 1, by omega, by go_num, HT.out, HN.out⟩
      case measure => simp [intOf]; omega
    | false =>
      obtain rfl : t = false := off_of ht.out (HNO.out rfl)
      have HF : Hid (Below w.heap.size w w9) := HZ.out.trans (HN.out.mono HZ.out.size)
      clear HNX HNO HN
      go_wp2
      go_ret
      exact ⟨rfl, HF.out⟩
end Go.Proofs.Ytmbglggodifboab.Sh
namespace Go.Proofs.Ytmbglggodifboab.Sh
open Go Go.RowKit Math Mt
set_option linter.unusedVariables false
set_option linter.unusedSimpArgs false
theorem light_lk1 {b : Bk} (hb : BkW b) (h : Light b) : ∀ e ∈ b.es, Lk e.v := fun e he => lk_ws (hb.es e he).v (by have := (h.all e he).1; omega)
theorem bool_of (p : Prop) : ∃ t : Bool, Hid (t = true ↔ p) := by
  by_cases h : p
  · exact ⟨true, ⟨fun _ => h, fun _ => rfl⟩⟩
  · exact ⟨false, ⟨fun q => (by cases q), fun q => absurd q h⟩⟩
set_option maxHeartbeats 1000000 in
set_option maxRecDepth 8000 in
theorem blone_walk (a b : Bk) (ha : BkW a) (hb : BkW b) (x : Option Addr) (cx : Nat) (y : Option Addr) (cy : Nat) (W : World) (hE : EsM W x a.es) (hE2 : EsM W y b.es) :
    Calls Try.prog 3 #[.agg (bC a x cx).toArray, .agg (bC b y cy).toArray] W fun e w' => e = .returned (.bool true) ∧ Below W.heap.size W w' := by
  have HL : Hid (a.pv.length = 32) := ha.pv.1
  have HL2 : Hid (b.pv.length = 32) := hb.pv.1
  have HA : Hid (BkW a) := ha
  have HB : Hid (BkW b) := hb
  have HE : Hid (EsM W x a.es) := hE
  have HE2 : Hid (EsM W y b.es) := hE2
  clear ha hb hE hE2
  go_enter Try.func3, Try.ntmps3
  go_wp2_with (refine al_box rfl 26 (.tmp 0) rfl (bC a x cx) rfl ?_)
  intro g2 w1 l1 B2 G0
  have Z := (Below.refl W.heap.size W).grown G0 (Nat.le_refl _) (by simp)
  clear G0
  go_wp2_with (refine al_box rfl 26 (.tmp 1) rfl (bC b y cy) rfl ?_)
  intro g3 w2 l3 B3 G0
  have Z := Z.grown G0 Z.size (by simp)
  have B2 := B2.kept G0 (by simp)
  clear G0
  have KH := heavy_any a HA.out x cx w2 (HE.out.below Z)
  go_wp2_with (first | (refine ld_w (by rfl) 26 (.tmp 2) rfl g2 0 rfl (bC a x cx) _ B2.all Try.underlying26 rfl (sB HL.out _ _) ?_) | (refine ld_w (by rfl) 26 (.tmp 3) rfl g3 0 rfl (bC b y cy) _ B3.all Try.underlying26 rfl (sB HL2.out _ _) ?_))
  refine KH.mono ?_
  clear KH
  rintro e w3 ⟨t, rfl, H⟩
  have HZ3 : Hid (Below W.heap.size W w3) := Z.trans (H.out.1.mono Z.size)
  have HB2 : Hid (Blk w3 g2 26 (bC a x cx)) := B2.below H.out.1 B2.lt
  have HB3 : Hid (Blk w3 g3 26 (bC b y cy)) := B3.below H.out.1 B3.lt
  have HLi : Hid (t = false → Light a) := H.out.2
  clear H Z B2 B3
  cases t with
  | true =>
    go_wp2
    go_ret
    exact ⟨rfl, HZ3.out⟩
  | false =>
  have HLa : Hid (Light a) := HLi.out rfl
  clear HLi
  have KH := heavy_any b HB.out y cy w3 (HE2.out.below HZ3.out)
  go_wp2_with (first | (refine ld_w (by rfl) 26 (.tmp 2) rfl g2 0 rfl (bC a x cx) _ HB2.out.all Try.underlying26 rfl (sB HL.out _ _) ?_) | (refine ld_w (by rfl) 26 (.tmp 3) rfl g3 0 rfl (bC b y cy) _ HB3.out.all Try.underlying26 rfl (sB HL2.out _ _) ?_))
  refine KH.mono ?_
  clear KH
  rintro e w4 ⟨t, rfl, H⟩
  have HZ4 : Hid (Below W.heap.size W w4) := HZ3.out.trans (H.out.1.mono HZ3.out.size)
  have HB2 : Hid (Blk w4 g2 26 (bC a x cx)) := HB2.out.below H.out.1 HB2.out.lt
  have HB3 : Hid (Blk w4 g3 26 (bC b y cy)) := HB3.out.below H.out.1 HB3.out.lt
  have HLi2 : Hid (t = false → Light b) := H.out.2
  clear H HZ3
  cases t with
  | true =>
    go_wp2
    go_ret
    exact ⟨rfl, HZ4.out⟩
  | false =>
  have HLb : Hid (Light b) := HLi2.out rfl
  clear HLi2
  have KE := enc_any a HA.out (light_lk1 HA.out HLa.out) x cx true w4 (HE.out.below HZ4.out)
  go_wp2_with (first | (refine ld_w (by rfl) 26 (.tmp 2) rfl g2 0 rfl (bC a x cx) _ HB2.out.all Try.underlying26 rfl (sB HL.out _ _) ?_) | (refine ld_w (by rfl) 26 (.tmp 3) rfl g3 0 rfl (bC b y cy) _ HB3.out.all Try.underlying26 rfl (sB HL2.out _ _) ?_))
  refine KE.mono ?_
  clear KE
  rintro e w5 ⟨v5, rfl, H⟩
  have HZ5 : Hid (Below W.heap.size W w5) := HZ4.out.trans (H.out.2.mono HZ4.out.size)
  have HB2 : Hid (Blk w5 g2 26 (bC a x cx)) := HB2.out.below H.out.2 HB2.out.lt
  have HB3 : Hid (Blk w5 g3 26 (bC b y cy)) := HB3.out.below H.out.2 HB3.out.lt
  obtain ⟨a6, k6, rfl, hb6, _, _, _⟩ := H.out.1.byt
  have HBy : Hid (Byt w5 a6 (encL a true)) := hb6
  clear H HZ4 hb6
  have KE := enc_any b HB.out (light_lk1 HB.out HLb.out) y cy true w5 (HE2.out.below HZ5.out)
  go_wp2_with (first | (refine ld_w (by rfl) 26 (.tmp 2) rfl g2 0 rfl (bC a x cx) _ HB2.out.all Try.underlying26 rfl (sB HL.out _ _) ?_) | (refine ld_w (by rfl) 26 (.tmp 3) rfl g3 0 rfl (bC b y cy) _ HB3.out.all Try.underlying26 rfl (sB HL2.out _ _) ?_))
  refine KE.mono ?_
  clear KE
  rintro e w6 ⟨v6, rfl, H⟩
  have HZ6 : Hid (Below W.heap.size W w6) := HZ5.out.trans (H.out.2.mono HZ5.out.size)
  have HB2 : Hid (Blk w6 g2 26 (bC a x cx)) := HB2.out.below H.out.2 HB2.out.lt
  have HB3 : Hid (Blk w6 g3 26 (bC b y cy)) := HB3.out.below H.out.2 HB3.out.lt
  have HBy : Hid (Byt w6 a6 (encL a true)) := HBy.out.below H.out.2
  obtain ⟨a7, k7, rfl, hb7, _, _, _⟩ := H.out.1.byt
  have HBy2 : Hid (Byt w6 a7 (encL b true)) := hb7
  clear H HZ5 hb7
  have HI : Hid (chkB a = 0 → chkB b = 0 → (encL a true = encL b true ↔ a = b) ∧ Oct (encL a true) ∧ Oct (encL b true) ∧ (encL a true).length ≤ 262144 ∧ (encL b true).length ≤ 262144) := fun h1 h2 => by
    unfold encL
    rw [if_pos h1, if_pos h2]
    exact ⟨blk_one HA.out HB.out h1 h2, blk_oct HA.out (chk_zero h1).2.1 true, blk_oct HB.out (chk_zero h2).2.1 true, (chk_zero h1).2.2, (chk_zero h2).2.2⟩
  obtain ⟨E1, HE1⟩ : ∃ E1, Hid (chkB a = E1) := ⟨_, rfl⟩
  obtain ⟨E2, HE3⟩ : ∃ E2, Hid (chkB b = E2) := ⟨_, rfl⟩
  obtain ⟨l, Hl⟩ : ∃ l, Hid (encL a true = l) := ⟨_, rfl⟩
  obtain ⟨m, Hm⟩ : ∃ m, Hid (encL b true = m) := ⟨_, rfl⟩
  rw [HE1.out, HE3.out, Hl.out, Hm.out] at HI
  rw [Hl.out] at HBy ⊢
  rw [Hm.out] at HBy2 ⊢
  rw [HE1.out, HE3.out]
  clear HE1 HE3 Hl Hm
  by_cases h1 : E1 = 0
  case neg =>
    have hb1 : (E1 != 0) = true := by simpa using h1
    have hb2 : (E1 == 0) = false := by simpa using h1
    clear HI HBy HBy2
    have KK := bknown_any w6
    go_wp2_with fail
    refine KK.mono ?_
    clear KK
    rintro e w8 ⟨rfl, H8⟩
    have HB8 : Hid (Below W.heap.size W w8) := HZ6.out.trans (H8.out.mono HZ6.out.size)
    go_wp2
    go_ret
    exact ⟨rfl, HB8.out⟩
  subst h1
  by_cases h2 : E2 = 0
  case neg =>
    have hb1 : (E2 != 0) = true := by simpa using h2
    have hb2 : (E2 == 0) = false := by simpa using h2
    clear HI HBy HBy2
    have KK := bknown_any w6
    go_wp2_with fail
    refine KK.mono ?_
    clear KK
    rintro e w8 ⟨rfl, H8⟩
    have HB8 : Hid (Below W.heap.size W w8) := HZ6.out.trans (H8.out.mono HZ6.out.size)
    go_wp2
    go_ret
    exact ⟨rfl, HB8.out⟩
  subst h2
  obtain ⟨hiff, ho1, ho2, hn1, hn2⟩ := HI.out rfl rfl
  obtain ⟨t, HT⟩ := bool_of (a = b)
  have HT2 : Hid (t = true ↔ l = m) := HT.out.trans hiff.symm
  have HO1 : Hid (Oct l) := ho1
  have HO2 : Hid (Oct m) := ho2
  clear HI hiff ho1 ho2
  obtain ⟨C, hC⟩ : ∃ C : World → Prop, C = fun V => Below w6.heap.size w6 V := ⟨_, rfl⟩
  have C0 : Hid (C { w6 with drawn := w6.drawn + 1 }) := by rw [hC]; exact Below.drew (Below.refl _ _)
  have CO : Hid (∀ V, C V → Below w6.heap.size w6 V) := fun V h => by rw [hC] at h; exact h
  have CB : Hid (∀ V V', C V → Below V.heap.size V V' → C V') := fun V V' h h2 => by rw [hC] at h ⊢; exact h.trans (h2.mono h.size)
  have F1 : Hid (∀ V, C V → V.rangeAt g2 0 (bC a x cx)) := fun V h => (HB2.out.below (CO.out V h) HB2.out.lt).all
  have F2 : Hid (∀ V, C V → V.rangeAt g3 0 (bC b y cy)) := fun V h => (HB3.out.below (CO.out V h) HB3.out.lt).all
  have F3 : Hid (∀ V, C V → Calls Try.prog 8 #[.slice a6 l.length k6, .slice a7 m.length k7] V fun e' w' => e' = .returned (.bool t) ∧ C w') := fun V h => by
    refine (same_two a6 a7 k6 k7 l m (by omega) (by omega) V (HBy.out.below (CO.out V h)) (HBy2.out.below (CO.out V h)) HO1.out HO2.out).mono ?_
    rintro e' w' ⟨t', rfl, H⟩
    obtain rfl : t' = t := Bool.eq_iff_iff.2 (H.out.1.trans HT2.out.symm)
    obtain ⟨q, hq⟩ := H.out.2
    exact ⟨rfl, CB.out V _ h (by rw [hq]; exact below_drewN (Below.refl _ _) q)⟩
  have F4 : Hid (∀ V, C V → Calls Try.prog 9 #[.agg (bC a x cx).toArray, .agg (bC b y cy).toArray] V fun e' w' => e' = .returned (.bool t) ∧ C w') := fun V h => by
    have Zv := HZ6.out.trans ((CO.out V h).mono HZ6.out.size)
    refine (blocks_eq a b HA.out HB.out x cx y cy V (HE.out.below Zv) (HE2.out.below Zv) t HT).mono ?_
    rintro e' w' ⟨rfl, H⟩
    exact ⟨rfl, CB.out V _ h H.out⟩
  have F5 : Hid (∀ V, C V → Calls Try.prog 7 #[] V fun e' w' => e' = .returned (.bool true) ∧ C w') := fun V h => by
    refine (bknown_any V).mono ?_
    rintro e' w' ⟨rfl, H⟩
    exact ⟨rfl, CB.out V _ h H.out⟩
  clear hC HT HT2 HO1 HO2 CB HBy HBy2
  go_wp2_with fail
  have hCp : ∀ p : Prop, (∀ W, C W → p) ↔ p := fun p => ⟨fun h => h _ C0.out, fun h _ _ => h⟩
  cases t with
  | true =>
    refine wp_region_quiet (C := C) (by kernel_rfl) (by kernel_rfl) C0.out ?_
    change wpQuiet _ _ _ _ (_ :: _ :: _ :: _ :: _ :: _ :: _ :: _ :: _ :: _ :: _ :: []) _
    repeat (first
      | go_big_quiet_skip
      | (go_big_quiet_want
         first
         | (refine q_load 26 (.tmp 2) rfl g2 0 rfl (bC a x cx) _ F1.out Try.underlying26 rfl (sB HL.out _ _) ?_
            simp only [Act.put, List.setIfInBounds_toArray, List.set_cons_zero, List.set_cons_succ]
            go_big_quiet_on)
         | (refine q_load 26 (.tmp 3) rfl g3 0 rfl (bC b y cy) _ F2.out Try.underlying26 rfl (sB HL2.out _ _) ?_
            simp only [Act.put, List.setIfInBounds_toArray, List.set_cons_zero, List.set_cons_succ]
            go_big_quiet_on)
         | (refine q_callv 8 _ _ rfl #[.slice a6 l.length k6, .slice a7 m.length k7] (by rw [List.map_toArray]; rfl) (enters Try.func8 (by kernel_rfl) rfl) (.bool true) F3.out ?_
            simp only [Act.put, List.setIfInBounds_toArray, List.set_cons_zero, List.set_cons_succ]
            go_big_quiet_on)
         | (refine q_callv 9 _ _ rfl #[.agg (bC a x cx).toArray, .agg (bC b y cy).toArray] (by rw [List.map_toArray]; rfl) (enters Try.func9 (by kernel_rfl) rfl) (.bool true) F4.out ?_
            simp only [Act.put, List.setIfInBounds_toArray, List.set_cons_zero, List.set_cons_succ]
            go_big_quiet_on)
         | (refine q_callv 7 _ _ rfl #[] (by rw [List.map_toArray]; rfl) (enters Try.func7 (by kernel_rfl) rfl) (.bool true) F5.out ?_
            simp only [Act.put, List.setIfInBounds_toArray, List.set_cons_zero, List.set_cons_succ]
            go_big_quiet_on)
         | (go_big_quiet_op
            go_big_quiet_on)))
    refine wpQuiet_nil ?_
    intro w9 h9
    have HF : Hid (Below W.heap.size W w9) := HZ6.out.trans ((CO.out _ h9).mono HZ6.out.size)
    clear h9 hCp C0 F1 F2 F3 F4 F5 CO
    go_wp2
    go_ret
    exact ⟨rfl, HF.out⟩
  | false =>
    refine wp_region_quiet (C := C) (by kernel_rfl) (by kernel_rfl) C0.out ?_
    change wpQuiet _ _ _ _ (_ :: _ :: _ :: _ :: _ :: _ :: _ :: _ :: _ :: _ :: _ :: []) _
    repeat (first
      | go_big_quiet_skip
      | (go_big_quiet_want
         first
         | (refine q_load 26 (.tmp 2) rfl g2 0 rfl (bC a x cx) _ F1.out Try.underlying26 rfl (sB HL.out _ _) ?_
            simp only [Act.put, List.setIfInBounds_toArray, List.set_cons_zero, List.set_cons_succ]
            go_big_quiet_on)
         | (refine q_load 26 (.tmp 3) rfl g3 0 rfl (bC b y cy) _ F2.out Try.underlying26 rfl (sB HL2.out _ _) ?_
            simp only [Act.put, List.setIfInBounds_toArray, List.set_cons_zero, List.set_cons_succ]
            go_big_quiet_on)
         | (refine q_callv 8 _ _ rfl #[.slice a6 l.length k6, .slice a7 m.length k7] (by rw [List.map_toArray]; rfl) (enters Try.func8 (by kernel_rfl) rfl) (.bool false) F3.out ?_
            simp only [Act.put, List.setIfInBounds_toArray, List.set_cons_zero, List.set_cons_succ]
            go_big_quiet_on)
         | (refine q_callv 9 _ _ rfl #[.agg (bC a x cx).toArray, .agg (bC b y cy).toArray] (by rw [List.map_toArray]; rfl) (enters Try.func9 (by kernel_rfl) rfl) (.bool false) F4.out ?_
            simp only [Act.put, List.setIfInBounds_toArray, List.set_cons_zero, List.set_cons_succ]
            go_big_quiet_on)
         | (refine q_callv 7 _ _ rfl #[] (by rw [List.map_toArray]; rfl) (enters Try.func7 (by kernel_rfl) rfl) (.bool true) F5.out ?_
            simp only [Act.put, List.setIfInBounds_toArray, List.set_cons_zero, List.set_cons_succ]
            go_big_quiet_on)
         | (go_big_quiet_op
            go_big_quiet_on)))
    refine wpQuiet_nil ?_
    intro w9 h9
    have HF : Hid (Below W.heap.size W w9) := HZ6.out.trans ((CO.out _ h9).mono HZ6.out.size)
    clear h9 hCp C0 F1 F2 F3 F4 F5 CO
    go_wp2
    go_ret
    exact ⟨rfl, HF.out⟩
end Go.Proofs.Ytmbglggodifboab.Sh
