/-
  block.copyOf. · The contract of the document's own Leaf. · The document's own writer of codec: text.
-/
import Derived.Test.YtlefdnjokppibaaGreatDoorVBv2
import Derived.Test.YtlefdnjokppibaaGreatDoorVG33x
import Derived.Test.YtlefdnjokppibaaGreatDoorVSRsum
import Derived.Test.YtlefdnjokppibaaGreatDoorVG20x
import Derived.Test.YtlefdnjokppibaaGreatDoorVG9x
namespace Go.Proofs.YtlefdnjokppibaaGreatDoor.Sh
open Go Go.RowKit Math Mt
set_option linter.unusedVariables false
set_option linter.unusedSimpArgs false
/-- While the entries' Data are copied: is have theirs, js not yet. -/
structure PJ (w : World) (M : Nat) (wr : World) (gb g2 : Nat) (a1 : Option Addr) (c1 : Nat) (b : Bk) (k : Nat) (is js : List It) : Prop where
  row : wr.ownsRow M 45 46 (.slice a1 b.es.length c1) b.es.length ((is ++ js).flatMap itC)
  vl : ∀ i ∈ is, ∃ L, VlL wr i.e.v i.na i.nc i.ka i.kc L ∧ ∀ x ∈ L, M ≤ x ∧ x < wr.heap.size ∧ (Value.slice a1 b.es.length c1).ownBlock ≠ some x
  ol : ∀ j ∈ js, Vl w j.e.v j.na j.nc j.ka j.kc
  eq : (is ++ js).map (·.e) = b.es
  len : is.length = k
  bk : Blk wr gb 26 (bC b a1 c1)
  rs : Blk wr g2 26 (bC noB none 0)
  bl : Below w.heap.size w wr
theorem PJ.ew {w : World} {M : Nat} {wr : World} {gb g2 : Nat} {a1 : Option Addr} {c1 : Nat} {b : Bk} {k : Nat} {is js : List It} (h : PJ w M wr gb g2 a1 c1 b k is js) (hb : BkW b) : ∀ i ∈ is ++ js, EnW i.e := fun i hi => hb.es _ (by rw [← h.eq]; exact List.mem_map_of_mem hi)
theorem PJ.step {w : World} {M : Nat} {wr w1 w3 : World} {gb g2 : Nat} {g c1 : Nat} {b : Bk} {k : Nat} {is js : List It} {j : It} {sp : List Value} {na : Option Addr} {nc : Nat} {ka : Option Addr} {kc : Nat} {Lq : List Nat} (hb : BkW b)
    (h : PJ w M wr gb g2 (some ⟨g, 0, none⟩) c1 b k is (j :: js)) (hM : w.heap.size ≤ M) (hMg : M ≤ g) (hgb : gb < M) (hg2 : g2 < M) (hMw : M ≤ wr.heap.size) (hz : Below wr.heap.size wr w1) (hv : VlL w1 j.e.v na nc ka kc Lq) (hr : ∀ x ∈ Lq, wr.heap.size ≤ x ∧ x < w1.heap.size)
    (gr : w1.grownBy w3 (some g)) (hB : Blk w3 g 45 (is.flatMap itC ++ (itC ⟨j.e, na, nc, ka, kc⟩ ++ (js.flatMap itC ++ sp)))) (hl : (is.flatMap itC ++ (itC ⟨j.e, na, nc, ka, kc⟩ ++ (js.flatMap itC ++ sp))).length = c1 * 46) (hc : b.es.length ≤ c1) (hm : c1 ≤ maxLen) (hgl : g < wr.heap.size) :
    PJ w M w3 gb g2 (some ⟨g, 0, none⟩) c1 b (k + 1) (is ++ [⟨j.e, na, nc, ka, kc⟩]) js := by
  have s1 := hz.size
  have s3 := gr.size
  have e1 : (is ++ [(⟨j.e, na, nc, ka, kc⟩ : It)]) ++ js = is ++ (⟨j.e, na, nc, ka, kc⟩ : It) :: js := by simp
  have hEq : (is ++ (⟨j.e, na, nc, ka, kc⟩ : It) :: js).map (·.e) = b.es := by rw [← h.eq]; simp
  have ew : ∀ i ∈ is ++ (⟨j.e, na, nc, ka, kc⟩ : It) :: js, EnW i.e := fun i hi => hb.es _ (by rw [← hEq]; exact List.mem_map_of_mem hi)
  have hln : (is ++ (⟨j.e, na, nc, ka, kc⟩ : It) :: js).length = b.es.length := by rw [← hEq, List.length_map]
  refine ⟨?_, fun i hi => ?_, fun x hx => h.ol x (List.mem_cons_of_mem _ hx), by rw [e1]; exact hEq, by simp [h.len], ?_, ?_, ?_⟩
  · rw [e1]
    have e2 : (is ++ (⟨j.e, na, nc, ka, kc⟩ : It) :: js).flatMap itC ++ sp = is.flatMap itC ++ (itC ⟨j.e, na, nc, ka, kc⟩ ++ (js.flatMap itC ++ sp)) := by simp
    exact en_row (sp := sp) (by rw [e2]; exact hB) hMg hc (by rw [e2]; exact hl) hm (by rw [its_len _ ew, hln])
  · rcases List.mem_append.1 hi with hi | hi
    · obtain ⟨L, q1, q2⟩ := h.vl i hi
      refine ⟨L, q1.keep fun x hx => ?_, fun x hx => ⟨(q2 x hx).1, by have := (q2 x hx).2.1; omega, (q2 x hx).2.2⟩⟩
      rw [gr.block x (by have := (q2 x hx).2.1; omega) (fun e => (q2 x hx).2.2 (by rw [Option.some.inj e]; rfl)), hz.block x (q2 x hx).2.1]
    · rw [List.mem_singleton.1 hi]
      refine ⟨Lq, hv.keep fun x hx => gr.block x (hr x hx).2 (fun e => ?_), fun x hx => ⟨by have := (hr x hx).1; omega, by have := (hr x hx).2; omega, fun e => ?_⟩⟩
      · have := Option.some.inj e; have := (hr x hx).1; omega
      · have e' : g = x := Option.some.inj e
        have := (hr x hx).1; omega
  · exact (h.bk.below hz h.bk.lt).kept gr (fun e => by have := Option.some.inj e; omega)
  · exact (h.rs.below hz h.rs.lt).kept gr (fun e => by have := Option.some.inj e; omega)
  · have z := h.bl.trans (hz.mono h.bl.size)
    exact Sh.grown_below z gr z.size (by omega)
set_option maxHeartbeats 1000000 in
set_option maxRecDepth 8000 in
theorem bcopy_any (b : Bk) (hb : BkW b) (hn : b.es.length ≤ 100000) (hws : ∀ e ∈ b.es, Go.Proofs.YtlefdnjokppibaaGreatDoor.ws e.v ≤ 100000) (a : Option Addr) (c : Nat) (w : World) (hE : EsM w a b.es) :
    Calls Tryz.prog 48 #[.agg (bC b a c).toArray] w fun e w' => ∃ a' c', e = .returned (.agg (bC b a' c').toArray) ∧ Hid ((∃ is, RowE w.heap.size w' (.slice a' b.es.length c') is ∧ is.map (·.e) = b.es) ∧ Below w.heap.size w w') := by
  have HL : Hid (b.pv.length = 32) := hb.pv.1
  have HB : Hid (BkW b) := hb
  have HW : Hid (∀ e ∈ b.es, Go.Proofs.YtlefdnjokppibaaGreatDoor.ws e.v ≤ 100000) := hws
  obtain ⟨js, hjs1, hjs2, hjs3, hjs4⟩ : ∃ js : List It, js.map (·.e) = b.es ∧ (∀ j ∈ js, Vl w j.e.v j.na j.nc j.ka j.kc) ∧ (∀ ad, a = some ad → ∀ j u, (js.flatMap itC)[j]? = some u → ad.spot = none ∧ w.cell? (ad.add j) = some u) ∧ (a = none → b.es.length = 0) := by
    rcases hE with e | ⟨bb, o, rfl, h⟩
    · exact ⟨[], by rw [e]; rfl, by simp, (fun _ _ j u hj => by simp at hj), fun _ => by rw [e]; rfl⟩
    · obtain ⟨js, q1, q2, q3⟩ := es_items b.es o h hb.es
      exact ⟨js, q1, q2, (fun ad e j u hj => by obtain rfl := Option.some.inj e; exact ⟨rfl, by rw [Addr.add_lit]; exact q3 j u hj⟩), fun e => by cases e⟩
  have hlj : js.length = b.es.length := by rw [← hjs1, List.length_map]
  have HJ : Hid (js.map (·.e) = b.es ∧ ∀ j ∈ js, Vl w j.e.v j.na j.nc j.ka j.kc) := ⟨hjs1, hjs2⟩
  have HJ3 : Hid (∀ ad, a = some ad → ∀ j u, (js.flatMap itC)[j]? = some u → ad.spot = none ∧ w.cell? (ad.add j) = some u) := hjs3
  have HJ4 : Hid (a = none → b.es.length = 0) := hjs4
  have HJL : Hid ((js.flatMap itC).length = b.es.length * 46) := by
    show _ = _
    rw [its_len js (fun i hi => hb.es _ (by rw [← hjs1]; exact List.mem_map_of_mem hi)), hlj]
  clear hb hE hws hjs1 hjs2 hjs3 hjs4 hlj
  go_enter Tryz.func48, Tryz.ntmps48
  go_wp2_with (refine al_box rfl 26 (.tmp 0) rfl (bC b a c) rfl ?_)
  intro gb w1 l1 B1 G0
  have Z := (Below.refl w.heap.size w).grown G0 (Nat.le_refl _) (by simp)
  clear G0
  go_wp2_with (refine al_zero rfl 26 rfl (bC noB none 0) zBl ?_)
  intro g2 w2 l2 B2 G0
  have hg2 : Hid (w.heap.size ≤ g2) := Nat.le_trans Z.size l2
  have n12 : Hid (gb ≠ g2) := by have := B1.lt; show gb ≠ g2; omega
  have hgb : Hid (w.heap.size ≤ gb) := l1
  have HZ : Hid (Below w.heap.size w w2) := Z.grown G0 Z.size (by simp)
  have HB1 : Hid (Blk w2 gb 26 (bC b a c)) := B1.kept G0 (by simp)
  have HB2 : Hid (Blk w2 g2 26 (bC noB none 0)) := B2
  have hw02 : Hid (w.heap.size ≤ w2.heap.size) := HZ.out.size
  have c35 := (bkF_of HL.out HB1.out).es
  have HC2 : Hid (∀ ad, a = some ad → ∀ j u, (js.flatMap itC)[j]? = some u → w2.cell? (ad.add j) = some u) := fun ad e j u hj => by
    obtain ⟨hsp, h⟩ := HJ3.out ad e j u hj
    obtain ⟨bb, oo, sp⟩ := ad
    simp only at hsp
    subst hsp
    rw [Addr.add_lit] at h ⊢
    rw [HZ.out.cell (p := ⟨bb, oo + j, none⟩) (cell_lt h)]
    exact h
  clear G0 B1 B2 Z l1 l2
  go_wp2_with (at_builtin; go_must (refine app_es rfl (.tmp 6) rfl w2.heap.size a b.es.length c (js.flatMap itC) rfl HJL.out HC2.out HJ4.out (its_one js) hn (Nat.le_refl _) ?_))
  intro v1 w3 R3 G3 O3
  obtain ⟨a1, c1, rfl, hc1, hrow⟩ := row_en R3
  have HR3 : Hid (w3.ownsRow w2.heap.size 45 46 (.slice a1 b.es.length c1) b.es.length (js.flatMap itC)) := R3
  have hb3 : Hid (Below w.heap.size w w3) := HZ.out.grown G3 HZ.out.size (by simp)
  have HB13 : Hid (Blk w3 gb 26 (bC b a c)) := HB1.out.kept G3 (by simp)
  have HB23 : Hid (Blk w3 g2 26 (bC noB none 0)) := HB2.out.kept G3 (by simp)
  have hs23 : Hid (w2.heap.size ≤ w3.heap.size) := G3.size
  have hgl : Hid (gb < w2.heap.size ∧ g2 < w2.heap.size) := ⟨HB1.out.lt, HB2.out.lt⟩
  clear R3 G3 O3 hrow c35 HC2 HB1 HB2
  go_wp2_with (refine st_one rfl 24 (.tmp 8) (.tmp 7) rfl gb 35 26 _ (.slice a1 b.es.length c1) rfl rfl rfl rfl (by rw [bC_len HL.out]; decide) HB13.out s24' ?_)
  intro w4 B4' G0
  have B4 : Blk w4 gb 26 (bC b a1 c1) := by
    have q := hC_set HL.out (.slice a b.es.length c) (.slice a1 b.es.length c1)
    rw [show bC b a c = hC b (.slice a b.es.length c) from rfl, q] at B4'
    exact B4'
  have c35 := (bkF_of HL.out B4).es
  have HI0 : Hid (PJ w w2.heap.size w4 gb g2 a1 c1 b 0 [] js) := by
    refine ⟨?_, by simp, HJ.out.2, by simpa using HJ.out.1, rfl, B4, HB23.out.kept G0 (fun e => n12.out (Option.some.inj e).symm), Sh.grown_below hb3.out G0 hb3.out.size hgb.out⟩
    refine World.ownsRow.kept (by simpa using HR3.out) G0 ?_
    cases hob : (Value.slice a1 b.es.length c1).ownBlock with
    | none => exact .inl rfl
    | some x => exact .inr fun e => by have := Option.some.inj e; have := (World.ownsRow.lt HR3.out x hob).1; have := hgl.out.1; omega
  have hs24 : Hid (w2.heap.size ≤ w4.heap.size) := Nat.le_trans hs23.out G0.size
  clear G0 B4 B4' HB13 HB23 HR3 HJ HJ3 HJ4 HJL hb3 hs23 HZ
  go_wp2
  clear c35
  go_loopw [3, 4, 12] (fun _ _ i wr => ∃ (k : Nat) (is js : List It), k ≤ b.es.length ∧ i = .int .i64 (k : Int) ∧ Hid (PJ w w2.heap.size wr gb g2 a1 c1 b k is js ∧ w2.heap.size ≤ wr.heap.size)) (fun _ _ i _ => b.es.length - (intOf i).toNat)
  case atStart => exact ⟨0, [], js, by omega, rfl, HI0.out, hs24.out⟩
  case round =>
    clear HI0 hs24
    obtain ⟨k, is, js, hk, rfl, HK⟩ := hrel
    by_cases hlt : k < b.es.length
    case neg =>
      have hj0 : js = [] := by
        have h := congrArg List.length HK.out.1.eq
        rw [List.length_map, List.length_append, HK.out.1.len] at h
        exact List.eq_nil_of_length_eq_zero (by omega)
      subst hj0
      have BR := HK.out.1.bk
      have B2r := HK.out.1.rs
      have HRow : Hid (RowE w2.heap.size wr (.slice a1 b.es.length c1) is ∧ is.map (·.e) = b.es) := by
        have hl : is.length = b.es.length := by rw [HK.out.1.len]; omega
        refine ⟨⟨by rw [hl]; simpa using HK.out.1.row, HK.out.1.vl, fun i hi => HK.out.1.ew HB.out i (by simpa using hi)⟩, by simpa using HK.out.1.eq⟩
      have HZr : Hid (Below w.heap.size w wr) := HK.out.1.bl
      clear HK
      go_wp2_with (first
        | (refine ld_w (by rfl) 26 (.tmp 1) rfl gb 0 rfl (bC b a1 c1) _ BR.all Tryz.underlying26 rfl (sB HL.out _ _) ?_)
        | (refine st_all rfl 26 (.tmp 2) (.tmp 26) rfl g2 26 (bC noB none 0) (bC b a1 c1) rfl rfl B2r (by rw [bC_len HL.out, bC_len zr_len]) (sB HL.out _ _) (bC_one _ _ _) ?_))
      intro w5 B5' G0
      have HF : Hid ((∃ is, RowE w.heap.size w5 (.slice a1 b.es.length c1) is ∧ is.map (·.e) = b.es) ∧ Below w.heap.size w w5) := by
        refine ⟨⟨is, (HRow.out.1.kept G0 (fun x e => by have := Option.some.inj e; have := hgl.out.2; omega)).mono hw02.out, HRow.out.2⟩, Sh.grown_below HZr.out G0 HZr.out.size hg2.out⟩
      clear G0 BR B2r HRow HZr
      go_wp2
      (try simp only [Exit.inBlock, Exit.then])
      refine bodyPost_ret (Sh.res_row rfl _ g2 26 _ _ rfl B5' Tryz.underlying26 rfl (sB HL.out _ _)) rfl ⟨a1, c1, rfl, HF.out⟩
    have hjl : js.length = b.es.length - k := by
      have h := congrArg List.length HK.out.1.eq
      rw [List.length_map, List.length_append, HK.out.1.len] at h
      omega
    obtain ⟨j, js, rfl⟩ : ∃ j js', js = j :: js' := by
      cases js with
      | nil => simp at hjl; omega
      | cons j js' => exact ⟨j, js', rfl⟩
    clear hjl
    obtain ⟨g, sp, hg, hgB, hMg, hgL, hcm, hcn⟩ : ∃ g sp, a1 = some ⟨g, 0, none⟩ ∧ Blk wr g 45 ((is ++ j :: js).flatMap itC ++ sp) ∧ w2.heap.size ≤ g ∧ ((is ++ j :: js).flatMap itC ++ sp).length = c1 * 46 ∧ c1 ≤ maxLen ∧ b.es.length ≤ c1 := by
      obtain ⟨a', c', e, h1, h2⟩ := row_en HK.out.1.row
      injection e with e1 _ e3
      subst e1 e3
      rcases h2 with h | ⟨g, sp, q1, q2, q3, q4, q5⟩
      · omega
      · exact ⟨g, sp, q1, q2, q3, q4, q5, h1⟩
    subst hg
    obtain ⟨e, na, nc, ka, kc⟩ := j
    have hEW : EnW e := HK.out.1.ew HB.out ⟨e, na, nc, ka, kc⟩ (by simp)
    have HEW : Hid (EnW e) := hEW
    have hmem : e ∈ b.es := by rw [← HK.out.1.eq]; exact List.mem_map_of_mem (f := (·.e)) (a := (⟨e, na, nc, ka, kc⟩ : It)) (by simp)
    have HWE : Hid (Go.Proofs.YtlefdnjokppibaaGreatDoor.ws e.v ≤ 100000) := HW.out e hmem
    have HLh : Hid (e.h.length = 32) := hEW.h.1
    have HVw : Hid (Vl w e.v na nc ka kc) := HK.out.1.ol ⟨e, na, nc, ka, kc⟩ (by simp)
    have hisl : (is.flatMap itC).length = k * 46 := by rw [its_len is (fun i hi => HK.out.1.ew HB.out i (by simp [hi])), HK.out.1.len]
    have e0 : (is ++ (⟨e, na, nc, ka, kc⟩ : It) :: js).flatMap itC ++ sp = is.flatMap itC ++ (eC e na nc ka kc ++ (js.flatMap itC ++ sp)) := by simp [itC]
    rw [e0] at hgB hgL
    have HGB : Hid (Blk wr g 45 (is.flatMap itC ++ (eC e na nc ka kc ++ (js.flatMap itC ++ sp)))) := hgB
    have HGL : Hid ((is.flatMap itC ++ (eC e na nc ka kc ++ (js.flatMap itC ++ sp))).length = c1 * 46 ∧ c1 ≤ maxLen ∧ w2.heap.size ≤ g ∧ g < wr.heap.size) := ⟨hgL, hcm, hMg, hgB.lt⟩
    have HLe : Hid ((eC e na nc ka kc).length = 46) := eC_len HLh.out _ _ _ _
    have HR : Hid (wr.rangeAt g (k * 46) (eC e na nc ka kc)) := fun j u hj => by
      rw [hgB.cell, List.getElem?_append_right (by omega), hisl, Nat.add_sub_cancel_left, List.getElem?_append_left (List.getElem?_eq_some_iff.1 hj).1]
      exact hj
    have HISL : Hid ((is.flatMap itC).length = k * 46) := hisl
    clear hEW hmem hisl e0 hgB hgL hcm hMg
    go_wp2_with (first | (refine ld_w (by rfl) 45 (.tmp 15) rfl g (k * 46) (by first | rfl | simp [Act.eval]) (eC e na nc ka kc) _ HR.out Tryz.underlying45 rfl (sE HLh.out _ _ _ _) ?_) | (refine al_zero rfl 45 rfl (eC e0 none 0 none 0) zEn ?_))
    intro g5 w3 l5 B5 GA
    clear HR
    go_wp2_with (refine st_all rfl 45 (.tmp 4) (.tmp 16) rfl g5 45 (eC e0 none 0 none 0) (eC e na nc ka kc) rfl rfl B5 (by rw [eC_len HLh.out, eC_len zr_len]) (sE HLh.out _ _ _ _) (eC_one _ _ _ _ _) ?_)
    intro w4 B5' GB
    have Z4 : Below wr.heap.size wr w4 := below_new GA l5 GB
    have HR5 : w4.rangeAt g5 5 (six e.v.1 na nc ka e.v.2.list.length kc) := by have := (enF_of HLh.out B5'.all).v; rw [Nat.zero_add] at this; exact this
    obtain ⟨C, hC⟩ : ∃ C : World → Prop, C = fun W => Below w4.heap.size w4 W := ⟨_, rfl⟩
    have CD : Hid (∀ W, C W → C { W with drawn := W.drawn + 1 }) := fun W h => by rw [hC] at h ⊢; exact h.drew
    have CB : Hid (∀ W W', C W → Below W.heap.size W W' → C W') := fun W W' h hb => by rw [hC] at h ⊢; exact h.trans (hb.mono h.size)
    have CE : Hid (∀ W', C W' → Below wr.heap.size wr W') := fun W' h => by rw [hC] at h; exact Z4.trans (h.mono Z4.size)
    have HCw : Hid (C w4) := by rw [hC]; exact Below.refl _ _
    have N8 : Hid (∀ W', C W' → W'.rangeAt g5 5 (six e.v.1 na nc ka e.v.2.list.length kc)) := fun W' h => by rw [hC] at h; exact range_below HR5 h
    have S8 : Hid (∀ W', C W' → W'.cell? ⟨gb, 35, none⟩ = some (.slice (some ⟨g, 0, none⟩) b.es.length c1)) := fun W' h => (bkF_of HL.out (HK.out.1.bk.below (CE.out W' h) HK.out.1.bk.lt)).es
    have G8 : Hid (∀ W', C W' → Blk W' g 45 (is.flatMap itC ++ (eC e na nc ka kc ++ (js.flatMap itC ++ sp)))) := fun W' h => HGB.out.below (CE.out W' h) HGB.out.lt
    have K8 : Hid (∀ W', C W' → Calls Tryz.prog 74 #[.agg (six e.v.1 na nc ka e.v.2.list.length kc).toArray] W' fun e' w' => ∃ v, e' = .returned v ∧ ∃ na5 nc5 ka5 kc5, v = .agg (six e.v.1 na5 nc5 ka5 e.v.2.list.length kc5).toArray ∧ Hid (C w' ∧ ∃ Lq, VlL w' e.v na5 nc5 ka5 kc5 Lq ∧ ∀ x ∈ Lq, wr.heap.size ≤ x ∧ x < w'.heap.size)) := fun W' h => by
      have hw1 := CE.out W' h
      have hw0 := HK.out.1.bl.trans (hw1.mono HK.out.1.bl.size)
      refine (Cpv.copy_any (wt e.v) e.v (Nat.le_refl _) HEW.out.v HWE.out na nc ka kc W' (HVw.out.below hw0)).mono ?_
      rintro e' w' ⟨na5, nc5, ka5, kc5, rfl, H5⟩
      obtain ⟨Lq, y1, y2, y3, y4⟩ := H5.out
      have := hw1.size
      exact ⟨_, rfl, na5, nc5, ka5, kc5, rfl, CB.out _ _ h y4, Lq, y1, fun x hx => ⟨by have := (y2 x hx).1; omega, (y2 x hx).2⟩⟩
    clear hC Z4 HR5 B5' B5 GA GB l5
    go_wp2
    refine region_calm C 8 (by kernel_rfl) ?_
    have hCp : ∀ p : Prop, (∀ W, C W → p) ↔ p := fun p => ⟨fun h => h _ HCw.out, fun h _ _ => h⟩
    have HCx := CD.out _ HCw.out
    generalize ({ w4 with drawn := w4.drawn + 1 } : World) = W0 at *
    have HC0 : Hid (C W0) := HCx
    clear HCx
    refine seg 4 [0, 1, 2, 3, 4] rfl (by kernel_rfl) whole_blind HC0.out (by kernel_rfl) ?_
    change wpQuiet _ _ _ _ (_ :: _ :: _ :: _ :: _ :: []) _
    repeat (first
      | go_big_quiet_skip
      | (go_big_quiet_want
         first
         | (refine q_cell 24 (.inr (.inr (.inl rfl))) (.tmp 17) rfl gb 35 rfl _ S8.out ?_
            simp only [Act.put, List.setIfInBounds_toArray, List.set_cons_zero, List.set_cons_succ]
            go_big_quiet_on)
         | (refine q_load 41 (.tmp 20) rfl g5 5 rfl (six e.v.1 na nc ka e.v.2.list.length kc) _ N8.out Tryz.underlying41 rfl (szV _ _ _ _ _ _) ?_
            simp only [Act.put, List.setIfInBounds_toArray, List.set_cons_zero, List.set_cons_succ]
            go_big_quiet_on)
         | (go_big_quiet_op
            go_big_quiet_on)))
    refine wpQuiet_nil ?_
    refine lone_do (i := 5) 3 rfl (by kernel_rfl) rfl (by rfl) ?_
    intro K hK
    refine Cpv.oper_calls 74 #[.tmp 21] #[41] rfl #[.agg (six e.v.1 na nc ka e.v.2.list.length kc).toArray] (by rw [List.map_toArray]; rfl) Cpv.entersC _ (K8.out _ HC0.out) ?_
    rintro v w1 ⟨na5, nc5, ka5, kc5, rfl, H5⟩
    refine hK _ _ H5.out.1 ?_
    clear hK K
    simp only [Act.put, List.setIfInBounds_toArray, List.set_cons_zero, List.set_cons_succ]
    refine lone_calm (i := 6) 2 rfl (by kernel_rfl) rfl rfl H5.out.1 ?_
    go_big_quiet_want
    go_big_quiet_op
    go_big_quiet_on
    refine wpQuiet_nil ?_
    refine lone_calm (i := 7) 1 rfl (by kernel_rfl) rfl rfl H5.out.1 ?_
    go_big_quiet_want
    go_big_quiet_op
    go_big_quiet_on
    refine wpQuiet_nil ?_
    refine lone_last (i := 8) 0 rfl rfl (by kernel_rfl) rfl (by rfl) ?_
    intro K hK
    refine oper_row' 41 (.tmp 24) (.tmp 22) rfl g (k * 46 + 5) 45 (is.flatMap itC ++ [.int .i64 e.k, .string e.t, .int .i64 e.tb, .int .i64 e.dc, .int .i64 e.vr]) (six e.v.1 na nc ka e.v.2.list.length kc) ((nums .u8 e.h ++ [.bool e.g, .int .i64 e.ab, .int .i64 e.ae]) ++ (js.flatMap itC ++ sp)) (six e.v.1 na5 nc5 ka5 e.v.2.list.length kc5) rfl rfl (by rw [List.length_append, HISL.out]; rfl) (by have h := G8.out _ H5.out.1; simpa [eC] using h) rfl (szV _ _ _ _ _ _) (six_one _ _ _ _ _ _) ?_
    intro w3 b3 g3
    refine hK _ _ ?_
    clear hK K
    have HC2 : Hid (∃ is' js', PJ w w2.heap.size w3 gb g2 (some ⟨g, 0, none⟩) c1 b (k + 1) is' js' ∧ w2.heap.size ≤ w3.heap.size) := by
      obtain ⟨y0, Lq, y1, y2⟩ := H5.out
      obtain ⟨z1, z2, z3, z4⟩ := HGL.out
      have hz := CE.out _ y0
      refine ⟨_, _, HK.out.1.step (sp := sp) HB.out hw02.out z3 hgl.out.1 hgl.out.2 HK.out.2 hz y1 y2 g3 (by simpa [itC, eC] using b3) ?_ hcn z2 z4, ?_⟩
      · have h1 := z1
        simp only [List.length_append, itC] at h1 ⊢
        rw [HLe.out] at h1
        rw [eC_len HLh.out]
        exact h1
      · have := hz.size; have := g3.size; have := HK.out.2; omega
    clear b3 g3 H5 HK HGL HGB HISL CD CB CE HCw HC0 N8 S8 G8 K8
    refine anyC_done (by kernel_rfl) ⟨rfl, ?_⟩
    simp only [Act.put]
    go_wp2
    go_roundw
    case rel =>
      obtain ⟨is', js', h⟩ := HC2.out
      exact ⟨k + 1, is', js', by omega, by go_num, h⟩
    case measure => simp [intOf]; omega
end Go.Proofs.YtlefdnjokppibaaGreatDoor.Sh
namespace Go.Proofs.YtlefdnjokppibaaGreatDoor.Sh
open Go.RowKit Mt
/-- The document's Sum, over a slice that the call made. -/
theorem rsum_own {w : World} {base : Nat} {v : Value} {l : List Nat} (h : Own w base v l) (hl : 0 < l.length) (hn : l.length ≤ 100000) (ho : Oct l) :
    Calls Tryz.prog 35 #[v] w fun e w' => e = .returned (.agg (nums .u8 (D l)).toArray) ∧ Below w.heap.size w w' := by
  obtain ⟨g, cap, rfl, _, _, _, _, hc⟩ := h.form hl
  exact rsum_any (some ⟨g, 0, none⟩) cap l hn w (.inr ⟨g, 0, rfl, hc⟩) (fun e => by cases e) ho
set_option maxHeartbeats 1000000 in
set_option maxRecDepth 8000 in
theorem rleaf_any (a0 : Option Addr) (cap : Nat) (l : List Nat) (hn : l.length ≤ 90000) (w : World) (hc : Hid (Byt w a0 l)) (hnil : a0 = none → cap = 0) (ho : Hid (Oct l)) :
    Calls Tryz.prog 39 #[.slice a0 l.length cap] w fun e w' => e = .returned (.agg (nums .u8 (D (0 :: l))).toArray) ∧ Below w.heap.size w w' := by
  go_enter Tryz.func39, Tryz.ntmps39
  go_wp2_with (refine al_zero rfl 23 rfl _ z25 ?_)
  intro g1 w1 l1 B1 G1
  have Z := (Below.refl w.heap.size w).grown G1 (Nat.le_refl _) (by simp)
  have hc1 := (hc.out.below Z).below ((Below.refl w1.heap.size w1).alloc (Nat.le_refl _) (.cells #[.int .u8 ((0 : Nat) : Int)] 5))
  have oe := own_one w1 0 w1.heap.size (Nat.le_refl _)
  clear G1
  go_wp2_with (at_builtin; go_must (refine app_bytes rfl (.tmp 3) (.tmp 4) rfl w1.heap.size _ [0] rfl oe a0 _ cap l rfl rfl hc1 hnil (by simp; omega) (by simp) ?_))
  intro v1 w2 o1 g2
  have b2 := below_app ((Below.refl w1.heap.size w1).alloc (Nat.le_refl _) (.cells #[.int .u8 ((0 : Nat) : Int)] 5)) (by simp) oe g2
  have B1 := B1.below b2 B1.lt
  have Z := Z.trans (b2.mono Z.size)
  have HC : Hid (Calls Tryz.prog 35 #[v1] w2 fun e w' => e = .returned (.agg (nums .u8 (D (0 :: l))).toArray) ∧ Below w2.heap.size w2 w') :=
    rsum_own (l := 0 :: l) o1 (by simp) (by simp; omega) (fun x hx => by
      rcases List.mem_cons.1 hx with rfl | hx
      · decide
      · exact ho.out x hx)
  clear g2 oe hc1 b2 o1
  go_wp2_with fail
  refine HC.out.mono ?_; rintro e w3 ⟨rfl, Z3⟩
  have B1 := B1.below Z3 B1.lt
  have Z := Z.trans (Z3.mono Z.size)
  have ID : Hid ((Tryz.prog.info? 23).map (·.size) = some (nums .u8 (D (0 :: l))).length) := by show _ = _; rw [nums_length, D_len]; exact s25
  have ND : Hid ((nums .u8 (D (0 :: l))).length = (nums .u8 (List.replicate 32 0)).length) := by show _ = _; rw [nums_length, nums_length, D_len, List.length_replicate]
  clear Z3 HC
  go_wp2_with (refine st_all rfl 23 (.tmp 2) (.tmp 6) rfl g1 23 (nums .u8 (List.replicate 32 0)) (nums .u8 (D (0 :: l))) rfl rfl B1 ND.out ID.out (nums_one _ _) ?_)
  intro we BE GE
  go_wp2
  (try simp only [Exit.inBlock, Exit.then])
  refine bodyPost_ret (res_row rfl _ g1 23 _ _ rfl BE Tryz.underlying23 rfl ID.out) rfl ⟨rfl, grown_below Z GE Z.size l1⟩
end Go.Proofs.YtlefdnjokppibaaGreatDoor.Sh
namespace Go.Proofs.YtlefdnjokppibaaGreatDoor
open Go.RowKit Go.ChangeShapes Go.WideShapes Math
set_option linter.unusedVariables false
set_option linter.unusedSimpArgs false
set_option maxRecDepth 8000 in
theorem rpTx (v : Value) (l : List Nat) (s : ByteArray) (B : Nat) (W : World) (ho : Own W B v l) (hB : B ≤ W.heap.size) (hl : l.length + s.size ≤ 800000000) :
    Calls Tryz.prog 104 #[v, .string s] W fun e w' => ∃ v', e = .returned v' ∧ Ap B W w' v v' (l ++ txB s) := by
  have K2 := uvr_any s.size (by omega) W
  have h10 := uv_ten s.size (by omega)
  have HO : Hid (Own W B v l) := ho
  clear ho
  go_enter Tryz.func104, Tryz.ntmps104
  go_wp2_with fail
  refine K2.mono ?_
  rintro e w1 ⟨r1, rfl, o1, b1⟩
  obtain ⟨a1, c1, rfl, hb1, hn1, _, _⟩ := o1.byt
  have HO1 : Hid (Own w1 B v l) := HO.out.below b1
  have HB1 : Hid (Byt w1 a1 (uv s.size)) := hb1
  have HG1 : Hid (Below W.heap.size W w1) := b1
  have hs := b1.size
  have HN1 : Hid (a1 = none → c1 = 0) := hn1
  clear o1 b1 hb1 K2 hn1
  go_wp2_with (at_builtin; go_must (refine ap_bytes rfl (.tmp 5) (.tmp 9) rfl B v l rfl HO1.out a1 (uv s.size).length c1 (uv s.size) rfl rfl HB1.out HN1.out (by omega) (by omega) ?_))
  intro v2 w2 A2
  have HA2 : Hid (Ap B W w2 v v2 (l ++ uv s.size)) := Ap.after HG1.out A2
  have hs2 := A2.gr.size
  clear A2
  go_wp2_with (at_builtin; go_must (refine ap_str rfl (.tmp 11) (.tmp 12) rfl B v2 (l ++ uv s.size) rfl HA2.out.own s rfl (by rw [List.length_append]; omega) (by omega) ?_))
  intro v3 w3 A3
  have HA3 : Hid (Ap B W w3 v v3 (l ++ txB s)) := HA2.out.trans A3
  clear A3 HA2
  go_wp2
  go_ret
  exact ⟨v3, rfl, HA3.out⟩
end Go.Proofs.YtlefdnjokppibaaGreatDoor
