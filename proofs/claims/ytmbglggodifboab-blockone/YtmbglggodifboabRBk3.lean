/-
  The contract of block's blockBytes.
-/
import Derived.Test.YtmbglggodifboabRBk2
namespace Go.Proofs.Ytmbglggodifboab.Sh
open Go Go.RowKit Math Mt
set_option linter.unusedVariables false
set_option linter.unusedSimpArgs false
/-- An entry as bytes, as block's packed has it. -/
structure Pk where
  oa : Option Addr
  oc : Nat
  ol : List Nat
  da : Option Addr
  dc : Nat
  dl : List Nat
  k : Int
def pC (p : Pk) : List Value := [.slice p.oa p.ol.length p.oc, .slice p.da p.dl.length p.dc, .int .i64 p.k]
def pkB (data : Bool) (p : Pk) : List Nat := p.ol ++ (if p.k = 2 then tlB p.dl data else [])
structure PkO (w : World) (p : Pk) : Prop where
  own : Byt w p.oa p.ol
  onil : p.oa = none → p.oc = 0
  dat : Byt w p.da p.dl
  dnil : p.da = none → p.dc = 0
  dcap : p.dl.length ≤ p.dc
  ocap : p.ol.length ≤ p.oc
  olen : p.ol.length ≤ 5000
  dlen : p.dl.length ≤ 65536
  ooct : Oct p.ol
/-- Entries as bytes, in memory. -/
def PkM (w : World) (a : Option Addr) (ps : List Pk) : Prop := ps = [] ∨ ∃ b o, a = some ⟨b, o, none⟩ ∧ ∀ i p, ps[i]? = some p → w.rangeAt b (o + i * 3) (pC p) ∧ PkO w p
theorem PkO.below {w w' : World} {p : Pk} (h : PkO w p) (g : Below w.heap.size w w') : PkO w' p := ⟨h.own.below g, h.onil, h.dat.below g, h.dnil, h.dcap, h.ocap, h.olen, h.dlen, h.ooct⟩
theorem PkM.below {w w' : World} {a : Option Addr} {ps : List Pk} (h : PkM w a ps) (g : Below w.heap.size w w') : PkM w' a ps := by
  rcases h with h | ⟨b, o, rfl, h⟩
  · exact .inl h
  · exact .inr ⟨b, o, rfl, fun i p hp => ⟨range_below (h i p hp).1 g, (h i p hp).2.below g⟩⟩
theorem pC_one (p : Pk) : ∀ u ∈ pC p, u.oneCell' = true := by
  intro u hu
  unfold pC at hu
  simp only [List.mem_cons, List.not_mem_nil, or_false] at hu
  rcases hu with rfl | rfl | rfl <;> rfl
theorem szK (p : Pk) : (Try.prog.info? 61).map (·.size) = some (pC p).length := by
  have : (Try.prog.info? 61).map (·.size) = some 3 := by kernel_rfl
  rw [this]; rfl
def pZ : List Value := [.slice none 0 0, .slice none 0 0, .int .i64 0]
theorem zK : (Try.prog.info? 61).map (fun i => i.zero.map (·.cells)) = some (some pZ.toArray) := by kernel_rfl
theorem own_mono {w : World} {B B' : Nat} {v : Value} {l : List Nat} (h : Own w B v l) (hb : B' ≤ B) : Own w B' v l := by
  rcases h with ⟨h1, h2 | ⟨g, cap, cur, e1, e2, e3⟩⟩
  · exact ⟨h1, .inl h2⟩
  · exact ⟨h1, .inr ⟨g, cap, cur, e1, Nat.le_trans hb e2, e3⟩⟩
theorem pk_take (data : Bool) (ps : List Pk) (k : Nat) (p : Pk) (h : ps[k]? = some p) : (ps.take (k + 1)).flatMap (pkB data) = (ps.take k).flatMap (pkB data) ++ pkB data p := by
  obtain ⟨h1, h2⟩ := List.getElem?_eq_some_iff.1 h
  rw [List.take_succ_eq_append_getElem h1, List.flatMap_append, h2]
  simp
theorem tlB_len {dl : List Nat} (h : dl.length ≤ 65536) (d : Bool) : (tlB dl d).length ≤ 65600 := by
  have := uv_ten dl.length (by omega)
  unfold tlB
  split
  · simp
  · simp only [List.length_append, List.length_singleton]; omega
theorem pkB_len {w : World} {p : Pk} (h : PkO w p) (d : Bool) : (pkB d p).length ≤ 70600 := by
  have a := h.olen
  have b := tlB_len h.dlen d
  unfold pkB
  rw [List.length_append]
  split
  · omega
  · simp; omega
theorem pks_len {w : World} (d : Bool) : ∀ {ps : List Pk}, (∀ p ∈ ps, PkO w p) → (ps.flatMap (pkB d)).length ≤ 70600 * ps.length
  | [], _ => by simp
  | p :: r, h => by
    have a := pkB_len (h p (by simp)) d
    have b := pks_len d (ps := r) fun q hq => h q (by simp [hq])
    simp only [List.flatMap_cons, List.length_append, List.length_cons]
    omega
/-- While the entries are written. -/
structure BInv (w wr : World) (v : Value) (H : List Nat) (data : Bool) (ps : List Pk) (k : Nat) (l : List Nat) : Prop where
  own : Own wr w.heap.size v l
  bl : Below w.heap.size w wr
  eq : l = H ++ (ps.take k).flatMap (pkB data)
set_option maxHeartbeats 2000000 in
set_option maxRecDepth 8000 in
theorem bby_any (b : Bk) (hb : BkW b) (a : Option Addr) (c : Nat) (ps : List Pk) (hn : ps.length ≤ 200) (ae : Option Addr) (ce : Nat) (data : Bool) (w : World) (hP : PkM w ae ps) :
    Calls Try.prog 13 #[.agg (bC b a c).toArray, .slice ae ps.length ce, .bool data] w fun e w' => ∃ v', e = .returned v' ∧ Own w' w.heap.size v' (hedB b ++ uv ps.length ++ ps.flatMap (pkB data)) ∧ Below w.heap.size w w' := by
  have HL : Hid (b.pv.length = 32) := hb.pv.1
  have HB : Hid (BkW b) := hb
  have HP : Hid (PkM w ae ps) := hP
  obtain ⟨H, hH⟩ : ∃ H, Hid (hedB b ++ [(ps.length : Int)].flatMap uvI = H) := ⟨_, rfl⟩
  have hH1 : Hid (H.length ≤ 72) := by
    have h1 := hed_len hb
    have h2 := uv_ten ps.length (by omega)
    show _ ≤ _
    rw [← hH.out]
    have e : [(ps.length : Int)].flatMap uvI = uv ps.length := by simp [uvI]
    rw [e, List.length_append]
    omega
  have HE : Hid (hedB b ++ uv ps.length ++ ps.flatMap (pkB data) = H ++ ps.flatMap (pkB data)) := by show _ = _; rw [← hH.out]; simp [uvI]
  rw [HE.out]
  have HLn : Hid (∀ k, ((ps.take k).flatMap (pkB data)).length ≤ 15000000) := fun k => by
    have h1 := pks_len (w := w) data (ps := ps.take k) fun p hp => by
      rcases hP with h | ⟨bb, oo, _, h⟩
      · rw [h] at hp; simp at hp
      · obtain ⟨i, hi⟩ := List.getElem?_of_mem (List.mem_of_mem_take hp)
        exact (h i p hi).2
    have h2 : (ps.take k).length ≤ 200 := by rw [List.length_take]; omega
    omega
  clear hb hP HE
  go_enter Try.func13, Try.ntmps13
  go_wp2_with (refine al_box rfl 26 (.tmp 0) rfl (bC b a c) rfl ?_)
  intro gb w1 l1 BB G0
  have Z := (Below.refl w.heap.size w).grown G0 (Nat.le_refl _) (by simp)
  have z1 := Z.size
  clear G0
  have KR := hed_any b HB.out a c w1
  go_wp2_with (refine ld_w (by rfl) 26 (.tmp 3) rfl gb 0 rfl (bC b a c) _ BB.all Try.underlying26 rfl (sB HL.out _ _) ?_)
  refine KR.mono ?_
  rintro e w2 ⟨v2, rfl, o2, Z0⟩
  have O2 := own_mono o2 z1
  have Z := Z.trans (Z0.mono Z.size)
  have z2 := Z.size
  clear KR Z0 o2 BB
  have KA : Calls Try.prog 21 #[v2, .slice (some ⟨w2.heap.size, 0, none⟩) 1 1] (w2.alloc (.cells #[.int .i64 (ps.length : Int)] 3)) _ := apn_new v2 (hedB b) [(ps.length : Int)] (fun n h => by rw [List.mem_singleton.1 h]; exact ⟨by omega, by omega⟩) (by simp) w.heap.size w2 O2 z2 (by have := hed_len HB.out; omega)
  rw [hH.out] at KA
  have HO2 : Hid (Own w2 w.heap.size v2 (hedB b)) := O2
  clear O2
  go_wp2_with fail
  refine KA.mono ?_
  rintro e w3 ⟨v3, rfl, A3⟩
  have HI0 : Hid (BInv w w3 v3 H data ps 0 H) := ⟨A3.own, A3.below HO2.out Z z2 (Nat.le_refl _), by simp⟩
  clear KA A3 HO2 Z z2 z1
  go_wp2
  go_loopw [7, 18] (fun vb i wr => ∃ (k : Nat) (l : List Nat), k ≤ ps.length ∧ i = .int .i64 (k : Int) ∧ Hid (BInv w wr vb H data ps k l)) (fun _ i _ => ps.length - (intOf i).toNat)
  case atStart => exact ⟨0, H, by omega, rfl, HI0.out⟩
  case round =>
    clear HI0
    obtain ⟨k, l, hk, rfl, HK⟩ := hrel
    by_cases hlt : k < ps.length
    case neg =>
      have HF : Hid (Own wr w.heap.size u7 (H ++ ps.flatMap (pkB data)) ∧ Below w.heap.size w wr) := by
        have h := HK.out.own
        rw [HK.out.eq, List.take_of_length_le (by omega)] at h
        exact ⟨h, HK.out.bl⟩
      go_wp2
      go_ret
      exact ⟨_, rfl, HF.out⟩
    obtain ⟨p, hp⟩ : ∃ p, ps[k]? = some p := ⟨_, List.getElem?_eq_getElem hlt⟩
    obtain ⟨bb, oo, rfl, hr⟩ : ∃ b o, ae = some ⟨b, o, none⟩ ∧ (w.rangeAt b (o + k * 3) (pC p) ∧ PkO w p) := by
      rcases HP.out with h | ⟨b, o, e, h⟩
      · rw [h] at hlt; simp at hlt
      · exact ⟨b, o, e, h k p hp⟩
    have HPO : Hid (PkO w p) := hr.2
    have rl := range_below hr.1 HK.out.bl
    have zr := HK.out.bl.size
    have hl : l.length ≤ 15000072 := by rw [HK.out.eq, List.length_append]; have := HLn.out k; have := hH1.out; omega
    have HT : Hid ((ps.take (k + 1)).flatMap (pkB data) = (ps.take k).flatMap (pkB data) ++ pkB data p) := pk_take data ps k p hp
    have h5 := hr.2.olen
    clear hr hp
    go_wp2_with (first | (refine ld_w (by rfl) 61 (.tmp 20) rfl bb (oo + k * 3) (by first | rfl | simp [Act.eval]) (pC p) _ rl Try.underlying61 rfl (szK p) ?_) | (refine al_zero rfl 61 rfl pZ zK ?_))
    intro g9 w6 hg9 B9 G6
    have Z6 := (Below.refl wr.heap.size wr).grown G6 (Nat.le_refl _) (by simp)
    clear G6 rl
    go_wp2_with (refine st_all rfl 61 (.tmp 9) (.tmp 21) rfl g9 61 pZ (pC p) rfl rfl B9 rfl (szK p) (pC_one p) ?_)
    intro w7 B7 G7
    have Z7 := Sh.grown_below Z6 G7 Z6.size hg9
    clear G7 B9 Z6
    have HZ7 : Hid (Below wr.heap.size wr w7) := Z7
    have HB7 : Hid (Blk w7 g9 61 (pC p)) := B7
    have Hb7 : Hid (Below w.heap.size w w7) := HK.out.bl.trans (Z7.mono zr)
    have HO7 : Hid (Own w7 w.heap.size u7 l) := HK.out.own.below Z7
    have z7 := Hb7.out.size
    have co : w7.cell? ⟨g9, 0, none⟩ = some (.slice p.oa p.ol.length p.oc) := B7.cell 0
    have HY : Hid (Byt w7 p.oa p.ol) := HPO.out.own.below Hb7.out
    have hnl := HPO.out.onil
    have hne : Hid (u7.ownBlock ≠ some g9) := fun e => by have := (World.ownsRow.lt HK.out.own _ e).2; omega
    have h9 : g9 < w7.heap.size := B7.lt
    clear Z7 B7
    go_wp2_with (at_builtin; go_must (refine ap_bytes rfl (.tmp 22) (.tmp 24) rfl w.heap.size u7 l rfl HO7.out p.oa _ p.oc p.ol rfl rfl HY.out hnl (by omega) z7 ?_))
    intro v8 w8 A8
    have HA8 : Hid (Ap w.heap.size w7 w8 u7 v8 (l ++ p.ol)) := A8
    have HB8 : Hid (Blk w8 g9 61 (pC p)) := A8.blk HB7.out hne.out
    have Hb8 : Hid (Below w.heap.size w w8) := A8.below HO7.out Hb7.out z7 (Nat.le_refl _)
    have z8 := Hb8.out.size
    have ck : w8.cell? ⟨g9, 2, none⟩ = some (.int .i64 p.k) := HB8.out.cell 2
    clear A8 co HY
    by_cases hk2 : p.k = 2
    · have hkb : (p.k == 2) = true := by rw [hk2]; rfl
      have KD := apd_any (.slice p.oa p.ol.length p.oc) p.k p.da p.dc v8 (l ++ p.ol) p.dl data w.heap.size w w8 HA8.out.own z8 HPO.out.dat Hb8.out (Nat.le_refl _) HPO.out.dnil HPO.out.dcap HPO.out.dlen (by rw [List.length_append]; omega)
      replace KD : Calls Try.prog 23 #[.agg (pC p).toArray, v8, .bool data] w8 _ := KD
      have HQ : Hid (pkB data p = p.ol ++ tlB p.dl data) := by show _ = _; unfold pkB; rw [if_pos hk2]
      clear hk2
      go_wp2_with (refine ld_w (by rfl) 61 (.tmp 9) rfl g9 0 rfl (pC p) _ HB8.out.all Try.underlying61 rfl (szK p) ?_)
      refine KD.mono ?_
      rintro e w9 ⟨v9, rfl, A9⟩
      have HI : Hid (BInv w w9 v9 H data ps (k + 1) (l ++ pkB data p)) := by
        refine ⟨?_, A9.below HA8.out.own Hb8.out z8 (Nat.le_refl _), by rw [HT.out, HK.out.eq, List.append_assoc]⟩
        rw [HQ.out, ← List.append_assoc]; exact A9.own
      clear A9 KD HA8 HB8 Hb8 HO7 HB7 HK ck
      go_wp2
      go_roundw
      case rel => exact ⟨k + 1, _, by omega, by go_num, HI.out⟩
      case measure => simp [intOf]; omega
    · have hkb : (p.k == 2) = false := beq_eq_false_iff_ne.2 hk2
      have HI : Hid (BInv w w8 v8 H data ps (k + 1) (l ++ pkB data p)) := by
        refine ⟨?_, Hb8.out, by rw [HT.out, HK.out.eq, List.append_assoc]⟩
        unfold pkB
        rw [if_neg hk2, List.append_nil]; exact HA8.out.own
      clear hk2 HA8 HB8 Hb8 HO7 HB7 HK
      go_wp2
      go_roundw
      case rel => exact ⟨k + 1, _, by omega, by go_num, HI.out⟩
      case measure => simp [intOf]; omega
end Go.Proofs.Ytmbglggodifboab.Sh
