/-
  The document's Form. · The document's May. · The document's bytes of a block.
-/
import Derived.Test.YtlefdnjokppibaaGreatDoorVG39x
import Derived.Test.YtlefdnjokppibaaGreatDoorVBr5
import Derived.Test.YtlefdnjokppibaaGreatDoorVG37x
import Derived.Test.YtlefdnjokppibaaGreatDoorVG38x
namespace Go.Proofs.YtlefdnjokppibaaGreatDoor.Sh
open Go Go.RowKit Math Mt
set_option linter.unusedVariables false
set_option linter.unusedSimpArgs false
set_option maxHeartbeats 1000000 in
set_option maxRecDepth 8000 in
theorem rform_x (e : En) (he : EnW e) (na : Option Addr) (nc : Nat) (ka : Option Addr) (kc : Nat) (w : World) (hv : Vl w e.v na nc ka kc) (h1 : e.k ≠ 1) (h2 : e.k ≠ 2) (h3 : e.k ≠ 3) (h4 : e.k ≠ 4) (h5 : e.k ≠ 5) (h7 : e.k ≠ 7) (h6 : e.k ≠ 6) :
    Calls Tryz.prog 58 #[.agg (eC e na nc ka kc).toArray] w fun e' w' => e' = .returned (.bool false) ∧ Hid (Below w.heap.size w w') := by
  have HL : Hid (e.h.length = 32) := he.h.1
  have HE : Hid (EnW e) := he
  have HV : Hid (Vl w e.v na nc ka kc) := hv
  clear he hv
  go_enter Tryz.func58, Tryz.ntmps58
  go_wp2_with (refine al_box rfl 45 (.tmp 0) rfl (eC e na nc ka kc) rfl ?_)
  intro g1 w1 l1 B1 G0
  have HZ : Hid (Below w.heap.size w w1) := (Below.refl w.heap.size w).grown G0 (Nat.le_refl _) (by simp)
  clear G0
  have HB1 : Hid (Blk w1 g1 45 (eC e na nc ka kc)) := B1
  obtain ⟨a1, a2, a3, a4, a5, a6, a7, a8, a9, a10⟩ := enF_of HL.out B1.all
  simp only [Nat.zero_add] at a1 a2 a3 a4 a5 a6 a7 a8 a9 a10
  have A6 : Hid (w1.rangeAt g1 5 (six e.v.1 na nc ka e.v.2.list.length kc)) := a6
  have A7 : Hid (w1.rangeAt g1 11 (nums .u8 e.h)) := a7
  clear a6 a7 B1
  obtain ⟨tn, Htn⟩ := bool_of2 (inP (e.t.size : Int) 1 40)
  obtain ⟨tt, Htt⟩ := bool_of2 (inP e.tb 1 64)
  obtain ⟨td, Htd⟩ := bool_of2 (inP e.dc 1 65536)
  have K := in_any (e.t.size : Int) 1 40 w1 tn Htn
  go_wp2_with fail
  refine K.mono ?_
  clear K
  rintro e' w' ⟨rfl, rfl⟩
  have K := in_any e.tb 1 64 w' tt Htt
  go_wp2_with fail
  refine K.mono ?_
  clear K
  rintro e' w' ⟨rfl, rfl⟩
  have K := in_any e.dc 1 65536 w' td Htd
  go_wp2_with fail
  refine K.mono ?_
  clear K
  rintro e' w' ⟨rfl, rfl⟩
  have b1 : (e.k == 1) = false := beq_eq_false_iff_ne.2 h1
  have b2 : (e.k == 2) = false := beq_eq_false_iff_ne.2 h2
  have b3 : (e.k == 3) = false := beq_eq_false_iff_ne.2 h3
  have b4 : (e.k == 4) = false := beq_eq_false_iff_ne.2 h4
  have b5 : (e.k == 5) = false := beq_eq_false_iff_ne.2 h5
  have b7 : (e.k == 7) = false := beq_eq_false_iff_ne.2 h7
  have b6 : (e.k == 6) = false := beq_eq_false_iff_ne.2 h6
  clear h1 h2 h3 h4 h5 h7 h6
  go_wp2
  go_ret
  exact ⟨rfl, HZ.out⟩
theorem rform_any (e : En) (he : EnW e) (na : Option Addr) (nc : Nat) (ka : Option Addr) (kc : Nat) (w : World) (hv : Vl w e.v na nc ka kc) :
    Calls Tryz.prog 58 #[.agg (eC e na nc ka kc).toArray] w fun e' w' => e' = .returned (.bool (formB e)) ∧ Hid (Below w.heap.size w w') := by
  by_cases h1 : e.k = 1
  · exact rform_1 e he na nc ka kc w hv h1 _ (form_1 h1)
  by_cases h2 : e.k = 2
  · exact rform_2 e he na nc ka kc w hv h2 _ (form_2 h2)
  by_cases h3 : e.k = 3
  · exact rform_3 e he na nc ka kc w hv h3 _ (form_3 h3)
  by_cases h4 : e.k = 4
  · exact rform_4 e he na nc ka kc w hv h4 _ (form_4 h4)
  by_cases h5 : e.k = 5
  · exact rform_5 e he na nc ka kc w hv h5 _ (form_5 h5)
  by_cases h7 : e.k = 7
  · exact rform_7 e he na nc ka kc w hv h7 _ (form_7 h7)
  by_cases h6 : e.k = 6
  · exact rform_6 e he na nc ka kc w hv h6 _ (form_6 h6)
  rw [form_none (spn_none h1 h2 h3 h4 h5 h7 h6)]
  exact rform_x e he na nc ka kc w hv h1 h2 h3 h4 h5 h7 h6
end Go.Proofs.YtlefdnjokppibaaGreatDoor.Sh
namespace Go.Proofs.YtlefdnjokppibaaGreatDoor.Sh
open Go Go.RowKit Math Mt
set_option linter.unusedVariables false
set_option linter.unusedSimpArgs false
theorem zHs : (Tryz.prog.info? 23).map (fun i => i.zero.map (·.cells)) = some (some (nums .u8 zr).toArray) := by kernel_rfl
theorem hshL_h32 (p : Vt) : H32 (hshL p) := by
  refine ⟨hsh_len p, ?_⟩
  unfold hshL
  split
  · exact D_oct _
  · exact h32_zr.2
set_option maxHeartbeats 1000000 in
set_option maxRecDepth 8000 in
theorem rmay_any (e : En) (he : EnW e) (hws : Go.Proofs.YtlefdnjokppibaaGreatDoor.ws e.v ≤ 100000) (na : Option Addr) (nc : Nat) (ka : Option Addr) (kc : Nat) (w : World) (hv : Vl w e.v na nc ka kc) :
    Calls Tryz.prog 31 #[.agg (eC e na nc ka kc).toArray] w fun e' w' => e' = .returned (.int .i64 (mayE e)) ∧ Hid (Below w.heap.size w w') := by
  have HL : Hid (e.h.length = 32) := he.h.1
  have HE : Hid (EnW e) := he
  have HV : Hid (Vl w e.v na nc ka kc) := hv
  have HWS : Hid (Go.Proofs.YtlefdnjokppibaaGreatDoor.ws e.v ≤ 100000) := hws
  clear he hv hws
  go_enter Tryz.func31, Tryz.ntmps31
  go_wp2_with (refine al_box rfl 45 (.tmp 0) rfl (eC e na nc ka kc) rfl ?_)
  intro g1 w1 l1 B1 G0
  have Z := (Below.refl w.heap.size w).grown G0 (Nat.le_refl _) (by simp)
  clear G0
  have K := rform_any e HE.out na nc ka kc w1 (HV.out.below Z)
  go_wp2_with (refine ld_w (by rfl) 45 (.tmp 1) rfl g1 0 rfl (eC e na nc ka kc) _ B1.all Tryz.underlying45 rfl (sE HL.out _ _ _ _) ?_)
  refine K.mono ?_
  clear K
  rintro e' w2 ⟨rfl, H⟩
  have HZ : Hid (Below w.heap.size w w2) := Z.trans (H.out.mono Z.size)
  have HB : Hid (Blk w2 g1 45 (eC e na nc ka kc)) := B1.below H.out B1.lt
  clear H Z B1
  cases hf : formB e with
  | false =>
    have HM : Hid (mayE e = 3) := may_no (by unfold Form; rw [hf]; simp)
    go_wp2
    go_ret
    exact ⟨by rw [HM.out] <;> rfl, HZ.out⟩
  | true =>
  have HFm : Hid (Form e) := hf
  clear hf
  have a1 := (enF_of HL.out HB.out.all).k
  have a8 := (enF_of HL.out HB.out.all).g
  rw [Nat.zero_add] at a8
  by_cases hk : e.k = 2
  case neg =>
    have HM : Hid (mayE e = 0) := may_plain HFm.out (.inl hk)
    have hb : (e.k != 2) = true := bne_iff_ne.2 hk
    have hb2 : (e.k == 2) = false := beq_eq_false_iff_ne.2 hk
    go_wp2
    go_ret
    exact ⟨by rw [HM.out] <;> rfl, HZ.out⟩
  have HK : Hid (e.k = 2) := hk
  rw [hk] at a1
  clear hk
  cases hg : e.g with
  | true =>
    rw [hg] at a8
    have HM : Hid (mayE e = 0) := may_plain HFm.out (.inr hg)
    clear hg
    go_wp2
    go_ret
    exact ⟨by rw [HM.out] <;> rfl, HZ.out⟩
  | false =>
  rw [hg] at a8
  have HG : Hid (e.g = false) := hg
  clear hg
  have HR : Hid (w2.rangeAt g1 5 (six e.v.1 na nc ka e.v.2.list.length kc)) := by have := (enF_of HL.out HB.out.all).v; rw [Nat.zero_add] at this; exact this
  have K := rhash_any e.v HE.out.v HWS.out na nc ka kc w2 (HV.out.below HZ.out)
  have HME : Hid (encE e.v ≠ 0 → mayE e = encE e.v) := may_enc HFm.out HK.out HG.out
  have HMH : Hid (encE e.v = 0 → ¬ hshL e.v = e.h → mayE e = 18) := fun h1 h2 => may_hash HFm.out HK.out HG.out h1 (by rw [hsh_yes h1] at h2; exact h2)
  have HMY : Hid (encE e.v = 0 → hshL e.v = e.h → mayE e = 0) := fun h1 h2 => may_yes HFm.out HK.out HG.out h1 (by rw [hsh_yes h1] at h2; exact h2)
  have HH3 : Hid (H32 (hshL e.v)) := hshL_h32 e.v
  obtain ⟨E, HEE⟩ : ∃ E, Hid (encE e.v = E) := ⟨_, rfl⟩
  obtain ⟨hl, HHL⟩ : ∃ hl, Hid (hshL e.v = hl) := ⟨_, rfl⟩
  rw [HEE.out] at HME HMH HMY K
  rw [HHL.out] at HMH HMY HH3 K
  clear HEE HHL HK HG HFm
  have HL9 : Hid (hl.length = 32) := HH3.out.1
  obtain ⟨th, hth⟩ : ∃ th, Hid (decide (hl = e.h) = th) := ⟨_, rfl⟩
  have HHq : Hid (∀ w, (Op.equalIn 10000 23 (.agg (nums .u8 hl).toArray) (.agg (nums .u8 e.h).toArray)).run Tryz.prog w = .ok th w) := fun w => by rw [← hth.out]; exact eq_hash HH3.out HE.out.h w
  go_wp2_with (refine ld_w (by rfl) 41 (.tmp 16) rfl g1 5 rfl (six e.v.1 na nc ka e.v.2.list.length kc) _ HR.out Tryz.underlying41 rfl (szV _ _ _ _ _ _) ?_)
  refine K.mono ?_
  clear K a1 a8 HR
  rintro e' w3 ⟨rfl, H⟩
  have Z3 := HZ.out.trans (H.mono HZ.out.size)
  have B3 := HB.out.below H HB.out.lt
  clear H HB HZ
  go_wp2_with (refine al_zero rfl 23 rfl (nums .u8 zr) zHs ?_)
  intro g3 w4 l3 BH G0
  have hg3 : w.heap.size ≤ g3 := Nat.le_trans Z3.size l3
  have n13 : g1 ≠ g3 := by have := B3.lt; omega
  have Z4 := Z3.grown G0 Z3.size (by simp)
  have B4 := B3.kept G0 (by simp)
  clear G0 Z3 B3
  go_wp2_with (refine st_all rfl 23 (.tmp 3) (.tmp 19) rfl g3 23 (nums .u8 zr) (nums .u8 hl) rfl rfl BH (by rw [nums_length, nums_length, HL9.out]; rfl) (sH HL9.out) (nums_one _ _) ?_)
  intro w5 BH' G0
  have HZ : Hid (Below w.heap.size w w5) := Sh.grown_below Z4 G0 Z4.size hg3
  have HB : Hid (Blk w5 g1 45 (eC e na nc ka kc)) := B4.kept G0 (fun e => n13 (Option.some.inj e))
  have HBH : Hid (w5.rangeAt g3 0 (nums .u8 hl)) := BH'.all
  clear G0 BH BH' Z4 B4
  by_cases h0 : E = 0
  case neg =>
    have HM : Hid (mayE e = E) := HME.out h0
    have hb : (E != 0) = true := bne_iff_ne.2 h0
    have hb2 : (E == 0) = false := beq_eq_false_iff_ne.2 h0
    go_wp2
    go_ret
    exact ⟨by rw [HM.out] <;> rfl, HZ.out⟩
  subst h0
  have HR : Hid (w5.rangeAt g1 11 (nums .u8 e.h)) := by have := (enF_of HL.out HB.out.all).h; rw [Nat.zero_add] at this; exact this
  have hHH := HHq.out w5
  by_cases hx : hl = e.h
  · obtain rfl : th = true := by rw [← hth.out]; exact decide_eq_true hx
    have HM : Hid (mayE e = 0) := HMY.out rfl hx
    clear hx HMY HMH HME hth
    go_wp2_with (first
      | (refine ld_w (by rfl) 23 (.tmp 3) rfl g3 0 rfl (nums .u8 hl) _ HBH.out Tryz.underlying23 rfl (sH HL9.out) ?_)
      | (refine ld_w (by rfl) 23 (.tmp 25) rfl g1 11 rfl (nums .u8 e.h) _ HR.out Tryz.underlying23 rfl (sH HL.out) ?_))
    go_ret
    exact ⟨by rw [HM.out] <;> rfl, HZ.out⟩
  · obtain rfl : th = false := by rw [← hth.out]; exact decide_eq_false hx
    have HM : Hid (mayE e = 18) := HMH.out rfl hx
    clear hx HMY HMH HME hth
    go_wp2_with (first
      | (refine ld_w (by rfl) 23 (.tmp 3) rfl g3 0 rfl (nums .u8 hl) _ HBH.out Tryz.underlying23 rfl (sH HL9.out) ?_)
      | (refine ld_w (by rfl) 23 (.tmp 25) rfl g1 11 rfl (nums .u8 e.h) _ HR.out Tryz.underlying23 rfl (sH HL.out) ?_))
    go_ret
    exact ⟨by rw [HM.out] <;> rfl, HZ.out⟩
end Go.Proofs.YtlefdnjokppibaaGreatDoor.Sh
namespace Go.Proofs.YtlefdnjokppibaaGreatDoor.Sh
open Go Go.RowKit Math Mt
set_option linter.unusedVariables false
set_option linter.unusedSimpArgs false
/-- While the entries are written. -/
structure RI (w1 wr : World) (v : Value) (H : List Nat) (data : Bool) (es : List En) (k : Nat) (l : List Nat) : Prop where
  own : Own wr w1.heap.size v l
  bl : Below w1.heap.size w1 wr
  eq : l = H ++ (es.take k).flatMap (itmB data)
theorem itm_1 {e : En} (d : Bool) (h : e.k ≠ 2) : itmB d e = entB e := by unfold itmB tail; rw [if_neg h, List.append_nil]
theorem itm_2 {e : En} (d : Bool) (h : e.k = 2) (hg : e.g = true ∨ d = false) : itmB d e = entB e ++ [0] := by
  unfold itmB tail
  rw [if_pos h, if_pos]
  rcases hg with hg | hg
  · right; unfold datL; rw [if_neg (by rw [hg]; simp)]
  · exact .inl hg
theorem itm_3 {e : En} (h : mayE e = 0) (hk : e.k = 2) (hg : e.g = false) : itmB true e = ((entB e ++ [1]) ++ uv (encB e.v).length) ++ encB e.v := by
  obtain ⟨_, _, d3, _⟩ := dat_ok h
  obtain ⟨e1, e2⟩ := d3 hk hg
  have e3 : datL e = encB e.v := by unfold datL; rw [if_pos ⟨hk, hg⟩]
  unfold itmB tail
  rw [if_pos hk, if_neg (by simp [e2]), e3]
  simp
theorem take_itm (d : Bool) {es : List En} {k : Nat} {e : En} (h : es[k]? = some e) : (es.take (k + 1)).flatMap (itmB d) = (es.take k).flatMap (itmB d) ++ itmB d e := by
  obtain ⟨h1, h2⟩ := List.getElem?_eq_some_iff.1 h
  rw [List.take_succ_eq_append_getElem h1, List.flatMap_append, h2]
  simp
theorem own_apart {w w' : World} {B : Nat} {a : Option Addr} {n c : Nat} {l : List Nat} {v : Value} (h : Own w B (.slice a n c) l) (g : w.grownBy w' v.ownBlock) (hv : ∀ x, v.ownBlock = some x → x < B) : Own w' B (.slice a n c) l := by
  refine World.ownsRow.kept h g ?_
  cases hq : (Value.slice a n c).ownBlock with
  | none => exact .inl rfl
  | some x =>
    refine .inr fun e => ?_
    have h1 := (World.ownsRow.lt h x hq).1
    have h2 := hv x e.symm
    omega
theorem own_apart2 {w w' : World} {B : Nat} {a : Option Addr} {n c : Nat} {l : List Nat} {v : Value} (h : Own w B (.slice a n c) l) (g : w.grownBy w' v.ownBlock) (hv : ∀ x, v.ownBlock = some x → ¬ (a = some ⟨x, 0, none⟩)) : Own w' B (.slice a n c) l := by
  refine World.ownsRow.kept h g ?_
  cases hq : (Value.slice a n c).ownBlock with
  | none => exact .inl rfl
  | some x =>
    refine .inr fun e => ?_
    rcases h with ⟨_, ⟨h1, _⟩ | ⟨g, cap, cur, e1, _⟩⟩
    · injection h1 with h1; rw [h1] at hq; cases hq
    · injection e1 with q1 q2 q3
      rw [q1] at hq
      simp only [Value.ownBlock, Option.some.injEq] at hq
      exact hv x e.symm (by rw [q1, hq])
theorem ap_apart {w : World} {B : Nat} {a : Option Addr} {n c : Nat} {l : List Nat} {v v' : Value} (h : Own w B (.slice a n c) l) (ho : ∀ b, v'.ownBlock = some b → v.ownBlock = some b ∨ w.heap.size ≤ b) (hv : ∀ x, v.ownBlock = some x → x < B) : ∀ x, v'.ownBlock = some x → ¬ (a = some ⟨x, 0, none⟩) := fun x hx q => by
  have h1 := World.ownsRow.lt h x (by rw [q]; rfl)
  rcases ho x hx with h2 | h2
  · have := hv x h2; omega
  · omega
set_option maxHeartbeats 3000000 in
set_option maxRecDepth 8000 in
theorem rbts_any (b : Bk) (hb : BkW b) (hf : fstE b.es = 0) (hn : b.es.length ≤ 200) (hws : ∀ e ∈ b.es, Go.Proofs.YtlefdnjokppibaaGreatDoor.ws e.v ≤ 100000) (a : Option Addr) (c : Nat) (data : Bool) (w : World) (hE : EsM w a b.es) :
    Calls Tryz.prog 32 #[.agg (bC b a c).toArray, .bool data] w fun e w' => ∃ v', e = .returned v' ∧ Hid (Own w' w.heap.size v' (blkB b data) ∧ Below w.heap.size w w') := by
  have HL : Hid (b.pv.length = 32) := hb.pv.1
  have HB : Hid (BkW b) := hb
  have HE : Hid (EsM w a b.es) := hE
  have HM : Hid (∀ e ∈ b.es, mayE e = 0) := fst_all hf
  have HW : Hid (∀ e ∈ b.es, Go.Proofs.YtlefdnjokppibaaGreatDoor.ws e.v ≤ 100000) := hws
  obtain ⟨H0, hH0⟩ : ∃ H, Hid (hedB b = H) := ⟨_, rfl⟩
  have hH01 : Hid (H0.length ≤ 62) := by rw [← hH0.out]; exact hed_len hb
  obtain ⟨H, hH⟩ : ∃ H, Hid (H0 ++ uv b.es.length = H) := ⟨_, rfl⟩
  have hl10 := uv_ten b.es.length (by omega)
  have hH1 : Hid (H.length ≤ 72) := by show _ ≤ _; rw [← hH.out, List.length_append]; have := hH01.out; omega
  have HX : Hid (blkB b data = H ++ b.es.flatMap (itmB data)) := by show _ = _; rw [← hH.out, ← hH0.out]; rfl
  have HLn : Hid (∀ k, ((b.es.take k).flatMap (itmB data)).length ≤ 14000000) := fun k => by
    have h1 := itms_len data (l := b.es.take k) (fun e he => hb.es e (List.mem_of_mem_take he)) (fun e he => fst_all hf e (List.mem_of_mem_take he))
    have h2 : (b.es.take k).length ≤ 200 := by rw [List.length_take]; omega
    omega
  have KH : Hid (∀ w, Calls Tryz.prog 36 #[.agg (bC b a c).toArray] w fun e w' => ∃ v', e = .returned v' ∧ Hid (Own w' w.heap.size v' H0 ∧ Below w.heap.size w w')) := fun w => by rw [← hH0.out]; exact rhed_any b hb a c w
  clear hb hE hf hws
  go_enter Tryz.func32, Tryz.ntmps32
  go_wp2_with (refine al_box rfl 26 (.tmp 0) rfl (bC b a c) rfl ?_)
  intro gb w1 l1 BB G0
  have HZ0 : Hid (Below w.heap.size w w1) := (Below.refl w.heap.size w).grown G0 (Nat.le_refl _) (by simp)
  clear G0
  have HBB : Hid (Blk w1 gb 26 (bC b a c)) := BB
  have hw01 : Hid (w.heap.size ≤ w1.heap.size) := HZ0.out.size
  clear BB
  obtain ⟨C, hC⟩ : ∃ C : World → Prop, C = fun W => Below w1.heap.size w1 W := ⟨_, rfl⟩
  have C0 : Hid (C { w1 with drawn := w1.drawn + 1 }) := by rw [hC]; exact Below.drew (Below.refl _ _)
  have CO : Hid (∀ W, C W → Below w1.heap.size w1 W) := fun W h => by rw [hC] at h; exact h
  have CI : Hid (∀ W, Below w1.heap.size w1 W → C W) := fun W h => by rw [hC]; exact h
  have FB : Hid (∀ W, C W → W.rangeAt gb 0 (bC b a c)) := fun W h => (HBB.out.below (CO.out W h) HBB.out.lt).all
  have FE : Hid (∀ W, C W → W.cell? ⟨gb, 35, none⟩ = some (.slice a b.es.length c)) := fun W h => (bkF_of HL.out (HBB.out.below (CO.out W h) HBB.out.lt)).es
  clear hC
  go_wp2_with fail
  refine region_calm C 8 (by kernel_rfl) ?_
  have hCp : ∀ p : Prop, (∀ W, C W → p) ↔ p := fun p => ⟨fun h => h _ C0.out, fun h _ _ => h⟩
  generalize ({ w1 with drawn := w1.drawn + 1 } : World) = y0 at *
  refine seg 6 [0, 2, 3] rfl (by kernel_rfl) whole_blind (C0.out) (by kernel_rfl) ?_
  change wpQuiet _ _ _ _ (_ :: _ :: _ :: []) _
  repeat (first
    | go_big_quiet_skip
    | (go_big_quiet_want
       first
       | (refine q_load 26 (.tmp 2) rfl gb 0 rfl (bC b a c) _ FB.out Tryz.underlying26 rfl (sB HL.out _ _) ?_
          simp only [Act.put, List.setIfInBounds_toArray, List.set_cons_zero, List.set_cons_succ]
          go_big_quiet_on)
       | (refine q_cell 24 (.inr (.inr (.inl rfl))) (.tmp 12) rfl gb 35 rfl _ FE.out ?_
          simp only [Act.put, List.setIfInBounds_toArray, List.set_cons_zero, List.set_cons_succ]
          go_big_quiet_on)
       | (go_big_quiet_op
          go_big_quiet_on)))
  refine wpQuiet_nil ?_
  refine len_first (i := 4) 5 rfl (by kernel_rfl) whole_blind (C0.out) (by kernel_rfl) rfl (by rfl) (.tmp 13) 24 rfl 45 Tryz.underlying24 a b.es.length c rfl ?_
  simp only [Act.put, List.setIfInBounds_toArray, List.set_cons_zero, List.set_cons_succ]
  refine seg 4 [5] rfl (by kernel_rfl) whole_blind (C0.out) (by kernel_rfl) ?_
  change wpQuiet _ _ _ _ (_ :: []) _
  repeat (first
    | go_big_quiet_skip
    | (go_big_quiet_want
       first
       | (go_big_quiet_op
          go_big_quiet_on)))
  refine wpQuiet_nil ?_
  refine lone_do (i := 1) 3 rfl (by kernel_rfl) rfl (by rfl) ?_
  intro K hK
  refine oper_call 36 _ _ rfl #[.agg (bC b a c).toArray] (by rw [List.map_toArray]; rfl) (enters Tryz.func36 (by kernel_rfl) rfl) (fun v w' => Hid (Own w' y0.heap.size v H0 ∧ Below y0.heap.size y0 w')) ((KH.out y0).mono (by rintro e w' ⟨v, rfl, h⟩; exact ⟨_, rfl, h⟩)) ?_
  rintro v2 y1 H1
  have hz0 : w1.heap.size ≤ y0.heap.size := (CO.out _ C0.out).size
  have Z1 : Hid (Below w1.heap.size w1 y1) := (CO.out _ C0.out).trans (H1.out.2.mono hz0)
  have O1 : Hid (Own y1 w1.heap.size v2 H0) := own_mono H1.out.1 hz0
  have C1 : Hid (C y1) := CI.out _ Z1.out
  refine hK _ _ (C1.out) ?_
  clear hK K H1
  simp only [Act.put, List.setIfInBounds_toArray, List.set_cons_zero, List.set_cons_succ]
  refine lone_do (i := 6) 2 rfl (by kernel_rfl) rfl (by rfl) ?_
  intro K hK
  refine oper_call 45 _ _ rfl #[.int .u64 ((b.es.length : Nat) : Int)] (by rw [List.map_toArray]; rfl) (enters Tryz.func45 (by kernel_rfl) rfl) (fun v w' => Hid (Own w' y1.heap.size v (uv b.es.length) ∧ Below y1.heap.size y1 w')) ((uvr_any b.es.length (by omega) y1).mono (by rintro e w' ⟨v, rfl, h⟩; exact ⟨_, rfl, h⟩)) ?_
  rintro v3 y2 H2
  have Z2 : Hid (Below w1.heap.size w1 y2) := Z1.out.trans (H2.out.2.mono Z1.out.size)
  have O2 : Hid (Own y2 w1.heap.size v2 H0) := O1.out.below H2.out.2
  obtain ⟨ax, cx, rfl, hby, hnil, _⟩ := H2.out.1.byt
  have HY : Hid (Byt y2 ax (uv b.es.length)) := hby
  have C2 : Hid (C y2) := CI.out _ Z2.out
  refine hK _ _ (C2.out) ?_
  clear hK K H2 hby O1 Z1
  simp only [Act.put, List.setIfInBounds_toArray, List.set_cons_zero, List.set_cons_succ]
  refine lone_do (i := 7) 1 rfl (by kernel_rfl) rfl (by rfl) ?_
  intro K hK
  refine oper_apb (.tmp 11) (.tmp 16) rfl w1.heap.size v2 H0 rfl O2.out ax (uv b.es.length).length cx (uv b.es.length) rfl rfl HY.out hnil (by have := hH01.out; omega) Z2.out.size ?_
  intro v4 y3 A3
  have Z3 : Hid (Below w1.heap.size w1 y3) := A3.below O2.out Z2.out Z2.out.size (Nat.le_refl _)
  have C3 : Hid (C y3) := CI.out _ Z3.out
  have HI0 : Hid (RI w1 y3 v4 H data b.es 0 H) := ⟨by rw [← hH.out]; exact A3.own, Z3.out, by simp⟩
  refine hK _ _ (C3.out) ?_
  clear hK K A3 O2 HY Z2 Z3
  simp only [Act.put, List.setIfInBounds_toArray, List.set_cons_zero, List.set_cons_succ]
  refine lone_calm (i := 8) 0 rfl (by kernel_rfl) rfl rfl (C3.out) ?_
  repeat (first
    | go_big_quiet_skip
    | (go_big_quiet_want
       first
       | (go_big_quiet_op
          go_big_quiet_on)))
  refine wpQuiet_nil ?_
  refine anyC_done (by kernel_rfl) ⟨rfl, ?_⟩
  clear C0 C1 C2 C3 CO CI FB FE hCp
  go_wp2
  go_loopw [5, 6] (fun vb i wr => ∃ (k : Nat) (l : List Nat), k ≤ b.es.length ∧ i = .int .i64 (k : Int) ∧ Hid (RI w1 wr vb H data b.es k l)) (fun _ i _ => b.es.length - (intOf i).toNat)
  case atStart => exact ⟨0, H, by omega, rfl, HI0.out⟩
  case round =>
    clear HI0 KH
    obtain ⟨k, l, hk, rfl, HK⟩ := hrel
    have c35 := (bkF_of HL.out (HBB.out.below HK.out.bl HBB.out.lt)).es
    by_cases hlt : k < b.es.length
    case neg =>
      have HF : Hid (Own wr w.heap.size u5 (blkB b data) ∧ Below w.heap.size w wr) := by
        have h := HK.out.own
        have h2 := HK.out.eq
        rw [List.take_of_length_le (by omega)] at h2
        rw [HX.out, ← h2]
        exact ⟨own_mono h hw01.out, HZ0.out.trans (HK.out.bl.mono hw01.out)⟩
      clear HK
      go_wp2
      go_ret
      exact ⟨u5, rfl, HF.out⟩
    have HLE : Hid (l.length ≤ 14000072) := by have h := HK.out.eq; have h1 := hH1.out; have h2 := HLn.out k; show _ ≤ _; rw [h, List.length_append]; omega
    have HLEQ : Hid (l = H ++ (b.es.take k).flatMap (itmB data)) := HK.out.eq
    obtain ⟨e, he⟩ : ∃ e, b.es[k]? = some e := ⟨_, List.getElem?_eq_getElem hlt⟩
    obtain ⟨bb, oo, na, nc, ka, kc, rfl, hM⟩ := HE.out.get he
    have hmem := List.mem_of_getElem? he
    have HEW : Hid (EnW e) := HB.out.es e hmem
    have HME : Hid (mayE e = 0) := HM.out e hmem
    have HWE : Hid (Go.Proofs.YtlefdnjokppibaaGreatDoor.ws e.v ≤ 100000) := HW.out e hmem
    have HLh : Hid (e.h.length = 32) := HEW.out.h.1
    have HNX : Hid (∀ L, itmB data e = L → H ++ (b.es.take (k + 1)).flatMap (itmB data) = l ++ L) := fun L hL => by rw [take_itm data he, hL, ← List.append_assoc, HLEQ.out]
    have Zwr : Below w.heap.size w wr := HZ0.out.trans (HK.out.bl.mono hw01.out)
    have HR : Hid (wr.rangeAt bb (oo + k * 46) (eC e na nc ka kc)) := (hM.below Zwr).at'
    have HVL : Hid (Vl w1 e.v na nc ka kc) := hM.vl.below HZ0.out
    have hnum := (may_form HME.out).num
    have HNum : Hid (Num e) := hnum
    have hel : Hid ((entB e).length ≤ 4196) := by have := ent_len HEW.out hnum; show _ ≤ _; omega
    clear hM hmem hnum Zwr he
    go_wp2_with (first | (refine ld_w (by rfl) 45 (.tmp 28) rfl bb (oo + k * 46) (by first | rfl | simp [Act.eval]) (eC e na nc ka kc) _ HR.out Tryz.underlying45 rfl (sE HLh.out _ _ _ _) ?_) | (refine al_zero rfl 45 rfl (eC e0 none 0 none 0) zEn ?_))
    intro g7 w2 l7 B7 G0
    have hg7 : w1.heap.size ≤ g7 := Nat.le_trans HK.out.bl.size l7
    have Z2 := HK.out.bl.grown G0 HK.out.bl.size (by simp)
    have O2 : Own w2 w1.heap.size u5 l := World.ownsRow.kept (row := none) HK.out.own G0 (by simpa using Classical.em _)
    have hv2 : u5.ownBlock ≠ some g7 := fun e => by have := (World.ownsRow.lt HK.out.own _ e).2; omega
    clear G0 HK c35 HR
    go_wp2_with (refine st_all rfl 45 (.tmp 7) (.tmp 29) rfl g7 45 (eC e0 none 0 none 0) (eC e na nc ka kc) rfl rfl B7 (by rw [eC_len HLh.out, eC_len zr_len]) (sE HLh.out _ _ _ _) (eC_one _ _ _ _ _) ?_)
    intro w3 B7' G0
    have HZ : Hid (Below w1.heap.size w1 w3) := Sh.grown_below Z2 G0 Z2.size hg7
    have HO : Hid (Own w3 w1.heap.size u5 l) := own_keepn O2 G0 hv2
    have HB7 : Hid (Blk w3 g7 45 (eC e na nc ka kc)) := B7'
    have hg7l : Hid (g7 < w3.heap.size) := B7'.lt
    have hne7 : Hid (u5.ownBlock ≠ some g7) := hv2
    clear G0 B7 B7' Z2 O2 hv2
    have K := rent_any e HEW.out HNum.out na nc ka kc w3
    go_wp2_with (refine ld_w (by rfl) 45 (.tmp 7) rfl g7 0 rfl (eC e na nc ka kc) _ HB7.out.all Tryz.underlying45 rfl (sE HLh.out _ _ _ _) ?_)
    refine K.mono ?_
    clear K
    rintro e' Xa ⟨ra, rfl, Qa⟩
    have hra := Qa.out.1
    have zra := Qa.out.2
    clear Qa
    obtain ⟨ara, cra, rfl, hba, hnla, hlra, hcra⟩ := hra.byt
    have HBa : Hid (Byt Xa ara (entB e)) := hba
    have HNa : Hid (ara = none → cra = 0) := hnla
    have HOa : Hid (Own Xa w1.heap.size u5 l) := HO.out.below zra
    have HZa : Hid (Below w1.heap.size w1 Xa) := HZ.out.trans (zra.mono HZ.out.size)
    have hsa : w1.heap.size ≤ Xa.heap.size := HZa.out.size
    have HBXa : Hid (Blk Xa g7 45 (eC e na nc ka kc)) := HB7.out.below zra HB7.out.lt
    clear HO HZ hra zra hba hnla hlra hcra
    go_wp2_with (at_builtin; go_must (refine ap_bytes rfl (.tmp 30) (.tmp 32) rfl w1.heap.size u5 l rfl HOa.out ara (entB e).length cra (entB e) rfl rfl HBa.out HNa.out (by have := HLE.out; have := hel.out; omega) hsa ?_))
    intro va Ya Aa
    have HZ : Hid (Below w1.heap.size w1 Ya) := Aa.below HOa.out HZa.out hsa (Nat.le_refl _)
    obtain ⟨La, hLa⟩ : ∃ L, Hid (l ++ entB e = L) := ⟨l ++ entB e, rfl⟩
    have HO : Hid (Own Ya w1.heap.size va La) := by rw [← hLa.out]; exact Aa.own
    have hLal : Hid (La.length ≤ 14004300) := by show _ ≤ _; rw [← hLa.out, List.length_append]; have := HLE.out; have := hel.out; omega
    have HB7 : Hid (Blk Ya g7 45 (eC e na nc ka kc)) := Aa.blk HBXa.out hne7.out
    have hv7 : Hid (va.ownBlock ≠ some g7) := fun q => by
      rcases Aa.ob g7 q with h | h
      · exact hne7.out h
      · have := HBXa.out.lt; omega
    clear Aa HOa HZa HBa HNa hsa HBXa hne7
    have a1 := (enF_of HLh.out HB7.out.all).k
    have a8 := (enF_of HLh.out HB7.out.all).g
    rw [Nat.zero_add] at a8
    by_cases hk2 : e.k = 2
    case neg =>
      have HI : Hid (RI w1 Ya va H data b.es (k + 1) La) := ⟨HO.out, HZ.out, by rw [HNX.out _ (itm_1 data hk2), hLa.out]⟩
      have hb1 : (e.k != 2) = true := bne_iff_ne.2 hk2
      have hb2 : (e.k == 2) = false := beq_eq_false_iff_ne.2 hk2
      clear HO HZ HB7 HNX
      go_wp2
      go_roundw
      case rel => exact ⟨k + 1, La, by omega, by go_num, HI.out⟩
      case measure => simp [intOf]; omega
    have HK2 : Hid (e.k = 2) := hk2
    rw [hk2] at a1
    clear hk2
    by_cases hgd : e.g = true ∨ data = false
    case pos =>
      have HNX2 : Hid (H ++ (b.es.take (k + 1)).flatMap (itmB data) = l ++ (entB e ++ [0])) := HNX.out _ (itm_2 data HK2.out hgd)
      cases hgv : e.g with
      | true =>
        rw [hgv] at a8
        clear hgd hgv
        obtain ⟨Xz, HXz⟩ : ∃ X, Hid (Ya.alloc (.cells #[.int .u8 0] 5) = X) := ⟨_, rfl⟩
        have HOz : Hid (Own Xz w1.heap.size va La) := by rw [← HXz.out]; exact HO.out.alloc _
        have HBz : Hid (Byt Xz (some ⟨Ya.heap.size, 0, none⟩) [0]) := by rw [← HXz.out]; exact byt_lit Ya [0]
        have HZz : Hid (Below w1.heap.size w1 Xz) := by rw [← HXz.out]; exact HZ.out.alloc HZ.out.size _
        have hsz : w1.heap.size ≤ Xz.heap.size := HZz.out.size
        clear HO HZ
        go_wp2_with (at_builtin; go_must (generalize hWW : World.alloc Ya _ = W9; obtain rfl : Xz = W9 := (by rw [← hWW, ← HXz.out]); clear hWW HXz; refine ap_bytes rfl (.tmp 43) (.tmp 44) rfl w1.heap.size va La rfl HOz.out (some ⟨Ya.heap.size, 0, none⟩) 1 1 [0] rfl rfl HBz.out (by intro h; cases h) (by have := hLal.out; simp only [List.length_singleton]; omega) hsz ?_))
        intro vz Yz Az
        have HZ : Hid (Below w1.heap.size w1 Yz) := Az.below HOz.out HZz.out hsz (Nat.le_refl _)
        obtain ⟨Lz, hLz⟩ : ∃ L, Hid (La ++ [0] = L) := ⟨La ++ [0], rfl⟩
        have HO : Hid (Own Yz w1.heap.size vz Lz) := by rw [← hLz.out]; exact Az.own
        have HI : Hid (RI w1 Yz vz H data b.es (k + 1) Lz) := ⟨HO.out, HZ.out, by rw [HNX2.out, ← hLz.out, ← hLa.out, List.append_assoc]⟩
        clear Az HOz HZz HBz hsz HO HZ HB7 HNX HNX2
        go_wp2
        go_roundw
        case rel => exact ⟨k + 1, Lz, by omega, by go_num, HI.out⟩
        case measure => simp [intOf]; omega
      | false =>
        rw [hgv] at a8
        obtain rfl : data = false := by
          rcases hgd with h | h
          · rw [hgv] at h; cases h
          · exact h
        clear hgd hgv
        obtain ⟨Xz, HXz⟩ : ∃ X, Hid (Ya.alloc (.cells #[.int .u8 0] 5) = X) := ⟨_, rfl⟩
        have HOz : Hid (Own Xz w1.heap.size va La) := by rw [← HXz.out]; exact HO.out.alloc _
        have HBz : Hid (Byt Xz (some ⟨Ya.heap.size, 0, none⟩) [0]) := by rw [← HXz.out]; exact byt_lit Ya [0]
        have HZz : Hid (Below w1.heap.size w1 Xz) := by rw [← HXz.out]; exact HZ.out.alloc HZ.out.size _
        have hsz : w1.heap.size ≤ Xz.heap.size := HZz.out.size
        clear HO HZ
        go_wp2_with (at_builtin; go_must (generalize hWW : World.alloc Ya _ = W9; obtain rfl : Xz = W9 := (by rw [← hWW, ← HXz.out]); clear hWW HXz; refine ap_bytes rfl (.tmp 43) (.tmp 44) rfl w1.heap.size va La rfl HOz.out (some ⟨Ya.heap.size, 0, none⟩) 1 1 [0] rfl rfl HBz.out (by intro h; cases h) (by have := hLal.out; simp only [List.length_singleton]; omega) hsz ?_))
        intro vz Yz Az
        have HZ : Hid (Below w1.heap.size w1 Yz) := Az.below HOz.out HZz.out hsz (Nat.le_refl _)
        obtain ⟨Lz, hLz⟩ : ∃ L, Hid (La ++ [0] = L) := ⟨La ++ [0], rfl⟩
        have HO : Hid (Own Yz w1.heap.size vz Lz) := by rw [← hLz.out]; exact Az.own
        have HI : Hid (RI w1 Yz vz H false b.es (k + 1) Lz) := ⟨HO.out, HZ.out, by rw [HNX2.out, ← hLz.out, ← hLa.out, List.append_assoc]⟩
        clear Az HOz HZz HBz hsz HO HZ HB7 HNX HNX2
        go_wp2
        go_roundw
        case rel => exact ⟨k + 1, Lz, by omega, by go_num, HI.out⟩
        case measure => simp [intOf]; omega
    have hgf : e.g = false := by cases h : e.g; rfl; exact absurd (.inl h) hgd
    obtain rfl : data = true := by cases data; exact absurd (.inr rfl) hgd; rfl
    rw [hgf] at a8
    have HNX3 : Hid (H ++ (b.es.take (k + 1)).flatMap (itmB true) = l ++ (((entB e ++ [1]) ++ uv (encB e.v).length) ++ encB e.v)) := HNX.out _ (itm_3 HME.out HK2.out hgf)
    have HDL : Hid ((encB e.v).length ≤ 65536) := (encOf (may_data HME.out HK2.out hgf).1).2
    clear hgd hgf HNX
    have HR5 : Hid (Ya.rangeAt g7 5 (six e.v.1 na nc ka e.v.2.list.length kc)) := by have := (enF_of HLh.out HB7.out.all).v; rw [Nat.zero_add] at this; exact this
    have K := rencode_any e.v HEW.out.v HWE.out na nc ka kc Ya (HVL.out.below HZ.out)
    obtain ⟨dl, hdl⟩ : ∃ dl, Hid (encB e.v = dl) := ⟨_, rfl⟩
    rw [hdl.out] at HNX3 HDL K
    clear hdl
    have hdle : dl.length ≤ 65536 := HDL.out
    go_wp2_with (refine ld_w (by rfl) 41 (.tmp 47) rfl g7 5 rfl (six e.v.1 na nc ka e.v.2.list.length kc) _ HR5.out Tryz.underlying41 rfl (szV _ _ _ _ _ _) ?_)
    refine K.mono ?_
    clear K a1 a8 HR5
    rintro e' wd ⟨rd, rfl, Qd⟩
    have zrd := Qd.out.2
    obtain ⟨ad, cd, rfl, hbd, hnd, hld, hcd⟩ := Qd.out.1.byt
    have HOn : Hid (Own wd w1.heap.size va La) := HO.out.below zrd
    have HZn : Hid (Below w1.heap.size w1 wd) := HZ.out.trans (zrd.mono HZ.out.size)
    have HDB : Hid (Byt wd ad dl) := hbd
    have HDN : Hid (ad = none → cd = 0) := hnd
    have HDO : Hid (Own wd Ya.heap.size (.slice ad dl.length cd) dl) := Qd.out.1
    have hYw : Hid (∀ x, va.ownBlock = some x → x < Ya.heap.size) := fun x q => (World.ownsRow.lt HO.out x q).2
    clear Qd zrd HO HZ hbd hnd hld hcd HB7 hv7
    have HO := HOn
    have HZ := HZn
    clear HOn HZn
    obtain ⟨Xo, HXo⟩ : ∃ X, Hid (wd.alloc (.cells #[.int .u8 1] 5) = X) := ⟨_, rfl⟩
    have HOo : Hid (Own Xo w1.heap.size va La) := by rw [← HXo.out]; exact HO.out.alloc _
    have HBo : Hid (Byt Xo (some ⟨wd.heap.size, 0, none⟩) [1]) := by rw [← HXo.out]; exact byt_lit wd [1]
    have HZo : Hid (Below w1.heap.size w1 Xo) := by rw [← HXo.out]; exact HZ.out.alloc HZ.out.size _
    have hso : w1.heap.size ≤ Xo.heap.size := HZo.out.size
    have HD1 : Hid (Own Xo Ya.heap.size (.slice ad dl.length cd) dl) := by rw [← HXo.out]; exact HDO.out.alloc _
    clear HO HZ
    go_wp2_with (at_builtin; go_must (generalize hWW : World.alloc wd _ = W9; obtain rfl : Xo = W9 := (by rw [← hWW, ← HXo.out]); clear hWW HXo; refine ap_bytes rfl (.tmp 52) (.tmp 53) rfl w1.heap.size va La rfl HOo.out (some ⟨wd.heap.size, 0, none⟩) 1 1 [1] rfl rfl HBo.out (by intro h; cases h) (by have := hLal.out; simp only [List.length_singleton]; omega) hso ?_))
    intro vo Yo Ao
    have HZ : Hid (Below w1.heap.size w1 Yo) := Ao.below HOo.out HZo.out hso (Nat.le_refl _)
    obtain ⟨Lo, hLo⟩ : ∃ L, Hid (La ++ [1] = L) := ⟨La ++ [1], rfl⟩
    have HO : Hid (Own Yo w1.heap.size vo Lo) := by rw [← hLo.out]; exact Ao.own
    have hLol : Hid (Lo.length ≤ 14004400) := by show _ ≤ _; rw [← hLo.out, List.length_append]; have := hLal.out; simp only [List.length_singleton]; omega
    have HD2 : Hid (Own Yo Ya.heap.size (.slice ad dl.length cd) dl) := own_apart HD1.out Ao.gr hYw.out
    have hYo : Hid (∀ x, vo.ownBlock = some x → ¬ (ad = some ⟨x, 0, none⟩)) := ap_apart HD1.out Ao.ob hYw.out
    clear Ao HOo HZo HBo hso HD1
    have h10d := uv_ten dl.length (by omega)
    have K := uvr_any dl.length (by omega) Yo
    go_wp2_with fail
    refine K.mono ?_
    clear K
    rintro e' Xu ⟨ru, rfl, hru, zru⟩
    obtain ⟨aru, cru, rfl, hbu, hnlu, hlru, hcru⟩ := hru.byt
    have HBu : Hid (Byt Xu aru (uv dl.length)) := hbu
    have HNu : Hid (aru = none → cru = 0) := hnlu
    have HOu : Hid (Own Xu w1.heap.size vo Lo) := HO.out.below zru
    have HZu : Hid (Below w1.heap.size w1 Xu) := HZ.out.trans (zru.mono HZ.out.size)
    have hsu : w1.heap.size ≤ Xu.heap.size := HZu.out.size
    have HD3 : Hid (Own Xu Ya.heap.size (.slice ad dl.length cd) dl) := HD2.out.below zru
    clear HO HZ hru zru hbu hnlu hlru hcru
    go_wp2_with (at_builtin; go_must (refine ap_bytes rfl (.tmp 55) (.tmp 59) rfl w1.heap.size vo Lo rfl HOu.out aru (uv dl.length).length cru (uv dl.length) rfl rfl HBu.out HNu.out (by have := hLol.out; have := h10d; omega) hsu ?_))
    intro vu Yu Au
    have HZ : Hid (Below w1.heap.size w1 Yu) := Au.below HOu.out HZu.out hsu (Nat.le_refl _)
    obtain ⟨Lu, hLu⟩ : ∃ L, Hid (Lo ++ uv dl.length = L) := ⟨Lo ++ uv dl.length, rfl⟩
    have HO : Hid (Own Yu w1.heap.size vu Lu) := by rw [← hLu.out]; exact Au.own
    have hLul : Hid (Lu.length ≤ 14004500) := by show _ ≤ _; rw [← hLu.out, List.length_append]; have := hLol.out; omega
    have HD4 : Hid (Own Yu Ya.heap.size (.slice ad dl.length cd) dl) := own_apart2 HD3.out Au.gr hYo.out
    clear Au HOu HZu HBu HNu hsu HD3
    obtain ⟨aq, cq, eq, hbq, hnq, hlq, hcq⟩ := HD4.out.byt
    obtain ⟨rfl, rfl⟩ : ad = aq ∧ cd = cq := by injection eq with q1 q2 q3; exact ⟨q1, q3⟩
    have HBq : Hid (Byt Yu ad dl) := hbq
    have hsq : w1.heap.size ≤ Yu.heap.size := HZ.out.size
    clear hbq hnq hlq hcq eq HD4 HD2 HDB
    go_wp2_with (at_builtin; go_must (refine ap_bytes rfl (.tmp 61) (.tmp 62) rfl w1.heap.size vu Lu rfl HO.out ad dl.length cd dl rfl rfl HBq.out HDN.out (by have := hLul.out; omega) hsq ?_))
    intro vq Yq Aq
    have HI : Hid (RI w1 Yq vq H true b.es (k + 1) (Lu ++ dl)) := ⟨Aq.own, Aq.below HO.out HZ.out hsq (Nat.le_refl _), by rw [HNX3.out, ← hLu.out, ← hLo.out, ← hLa.out]; simp only [List.append_assoc]⟩
    clear Aq HO HZ HBq HNX3
    go_wp2
    go_roundw
    case rel => exact ⟨k + 1, Lu ++ dl, by omega, by go_num, HI.out⟩
    case measure => simp [intOf]; omega
end Go.Proofs.YtlefdnjokppibaaGreatDoor.Sh
