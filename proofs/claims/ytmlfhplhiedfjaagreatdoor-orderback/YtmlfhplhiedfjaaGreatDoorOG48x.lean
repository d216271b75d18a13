/-
  The law package's known; OrderAbove. · The document's own Of and Key; the law package's heavy; the walk of OrderKeys. · The document's own Values. · The law's values: two lists of values that are one. · The document's own Above.
-/
import Derived.Test.YtmlfhplhiedfjaaGreatDoorOG14x
import Derived.Test.YtmlfhplhiedfjaaGreatDoorOLd
import Derived.Test.YtmlfhplhiedfjaaGreatDoorOG4x
import Derived.Test.YtmlfhplhiedfjaaGreatDoorOVs
import Derived.Test.YtmlfhplhiedfjaaGreatDoorOG45x
import Derived.Laws.Concat
import Derived.RegionTactic
import Derived.ChangeAlike
namespace Go.Proofs.YtmlfhplhiedfjaaGreatDoor
open Go.RowKit Math
set_option linter.unusedVariables false
set_option linter.unusedSimpArgs false
def knF : Fo := .cons ⟨3, -25, 0, em, []⟩ .nil .nil
theorem knL : chkL knF = 0 := by decide +kernel
theorem knB : keyF knF false [] = [48, 61, 252, 249, 255] := by decide +kernel
theorem knT : keyT knF = ⟨#[48, 61, 252, 249, 255]⟩ := by
  rw [keyT_yes knL, knB]
  rfl
theorem lv_kn (W : World) : Lv (W.alloc (.cells #[.int .i64 3, .int .i64 (-25), .int .i64 0, .string ⟨#[]⟩, .slice none 0 0, .slice none 0 0] 38)) (some ⟨W.heap.size, 0, none⟩) 1 knF := by
  have hb := blk_new W 38 [.int .i64 3, .int .i64 (-25), .int .i64 0, .string ⟨#[]⟩, .slice none 0 0, .slice none 0 0]
  have c00 : Cap none 0 0 := ⟨Nat.le_refl _, fun _ => rfl, by omega⟩
  refine ⟨.inl rfl, c00, .inr ⟨W.heap.size, 0, rfl, ⟨none, 0, none, 0, ?_, .inl rfl, c00, .inl rfl, c00⟩, trivial⟩, ⟨Nat.le_refl _, (fun e => by cases e), by omega⟩⟩
  exact ⟨hb.cell 0, hb.cell 1, hb.cell 2, hb.cell 3, hb.cell 4, hb.cell 5⟩
theorem wf_kn : Wf knF := ⟨⟨⟨by decide, by decide, by decide, by decide, by decide, by decide, by decide, by decide, fun x hx => by cases hx⟩, by decide, trivial⟩, trivial⟩
theorem abv_kn {n : Nat} (h : Abv (bts ⟨#[97, 255]⟩) n) : n = 1 := by
  have e : bts ⟨#[97, 255]⟩ = [97, 255] := by decide
  rw [e] at h
  have h1 := h.le
  have h2 := h.ff
  have h3 := h.nf
  simp at h1
  rcases Nat.eq_zero_or_pos n with rfl | hp
  · have := h2 0 (by omega) (by decide)
    simp at this
  · rcases Nat.lt_or_ge n 2 with h | h
    · omega
    · have : n = 2 := by omega
      subst this
      exact absurd rfl (h3 (by omega))
set_option maxRecDepth 8000 in
set_option maxHeartbeats 1000000 in
theorem known_any (W : World) (hm : Mx W) : Calls Tryz.prog 15 #[] W fun e w' => e = .returned (.bool true) ∧ Below W.heap.size W w' := by
  obtain ⟨W1, HW1⟩ : ∃ W1, Hid (W.alloc (.cells #[.int .i64 3, .int .i64 (-25), .int .i64 0, .string ⟨#[]⟩, .slice none 0 0, .slice none 0 0] 38) = W1) := ⟨_, rfl⟩
  have HB1 : Hid (Below W.heap.size W W1) := by rw [← HW1.out]; exact (Below.refl _ _).alloc (Nat.le_refl _) _
  have K := key_any knF wf_kn (by decide) (some ⟨W.heap.size, 0, none⟩) 1 W1 (by rw [← HW1.out]; exact lv_kn W) (hm.below HB1.out hm.pos) (fun _ => by rw [knB]; decide)
  rw [knT, knL] at K
  replace K : Calls Tryz.prog 9 #[.slice (some ⟨W.heap.size, 0, none⟩) 1 1] W1 fun e w' => e = .returned (.tuple #[.string ⟨#[48, 61, 252, 249, 255]⟩, .int .i64 0]) ∧ Below W1.heap.size W1 w' := K
  go_enter Tryz.func15, Tryz.ntmps15
  go_wp2_with fail
  generalize hWW : World.alloc W _ = W9
  obtain rfl : W1 = W9 := by rw [← hWW, ← HW1.out]
  clear hWW HW1
  refine K.mono ?_
  rintro e w2 ⟨rfl, b2⟩
  have HB2 : Hid (Below W.heap.size W w2) := HB1.out.trans (b2.mono HB1.out.size)
  clear K b2 HB1
  have K2 := above_any ⟨#[97, 255]⟩ (by decide) w2
  go_wp2_with fail
  refine K2.mono ?_
  rintro e w3 ⟨n, hA, hr, b3⟩
  obtain rfl := abv_kn hA.out
  have HB3 : Hid (Below W.heap.size W w3) := HB2.out.trans (b3.mono HB2.out.size)
  rcases hr with ⟨h, _⟩ | ⟨_, rfl⟩
  · cases h
  have e1 : ofB (abvL (bts ⟨#[97, 255]⟩) 1) = ⟨#[98]⟩ := by decide +kernel
  rw [e1]
  clear K2 hA b3 HB2 e1
  go_wp2
  go_ret
  exact ⟨rfl, HB3.out⟩
end Go.Proofs.YtmlfhplhiedfjaaGreatDoor
namespace Go.Proofs.YtmlfhplhiedfjaaGreatDoor
open Go.RowKit Math
set_option linter.unusedVariables false
set_option linter.unusedSimpArgs false
set_option maxRecDepth 8000 in
set_option maxHeartbeats 2000000 in
theorem of_any (f : Fo) (hw : Wf f) (hc : chk0 f = 0) (hlen : f.list.length ≤ 140737488355328) (ka : Option Addr) (kc : Nat) (W : World) (hv : Lv W ka kc f) (hl : (keyF f false []).length ≤ 600000000) :
    Calls Tryz.prog 52 #[.slice ka f.list.length kc] W fun e w' => e = .returned (.string (ofB (keyF f false []))) ∧ Below W.heap.size W w' := by
  have HV : Hid (Vl W (hdL, f) none 0 ka kc) := hv
  have HWf : Hid (Wf f) := hw
  have HCh : Hid (chk0 f = 0) := hc
  have HOc : Hid (Oct (keyF f false [])) := keyF_oct f _ _ hw hc
  have HLn : Hid ((keyF f false []).length ≤ 600000000) := hl
  obtain ⟨T, HTe⟩ : ∃ T, Hid (T = ofB (keyF f false [])) := ⟨_, rfl⟩
  rw [← HTe.out]
  clear hv hw hc hl
  go_enter Tryz.func52, Tryz.ntmps52
  go_wp2
  go_loopw [3, 4] (fun vb i w2 => ∃ (j : Nat) (lk : List Nat), j ≤ f.list.length ∧ i = .int .i64 (j : Int) ∧ Hid (Own w2 W.heap.size vb lk ∧ keyF f false [] = lk ++ keyF (f.drop j) false []) ∧ Hid (Below W.heap.size W w2)) (fun _ i _ => f.list.length - (intOf i).toNat)
  case atStart => exact ⟨0, [], by omega, rfl, ⟨World.ownsRow_nil _ _ _ _, by rfl⟩, Below.refl _ _⟩
  case round =>
    obtain ⟨j, lk, hj0, rfl, HK, HB⟩ := hrel
    by_cases hlt : j < f.list.length
    case neg =>
      have hlk : lk = keyF f false [] := by
        have := HK.out.2
        rw [Fo.drop_end _ _ (by omega)] at this
        simpa [keyF] using this.symm
      obtain ⟨ax, c, rfl, hby, hnil, _, _⟩ := HK.out.1.byt
      have hcv := conv_byt (c := c) hby (by rw [hlk]; exact HOc.out) hnil
      rw [hlk, ← HTe.out] at hcv
      have hln : lk.length = (keyF f false []).length := by rw [hlk]
      rw [hln]
      clear hlk hby HK hln
      generalize (keyF f false []).length = N at hcv
      go_wp2
      go_ret
      exact ⟨rfl, HB.out⟩
    obtain ⟨q, b, o, na', nc', ka', kc', hq, rfl, hnd, hvl⟩ := HV.out.kid (Below.refl _ _) (k := j) hlt
    have HQq : Hid (f.list[j]? = some q) := hq
    have HWq : Hid (WfV q) := wf_mem HWf.out (List.mem_of_getElem? hq)
    have HVq : Hid (Vl W q na' nc' ka' kc') := hvl
    obtain ⟨d0, d1, d2, d3, d4, d5⟩ := hnd.below HB.out
    clear hnd hvl hq
    have HQ := rk_any _ q (Nat.le_refl _) HWq.out (chk0_mem HCh.out (List.mem_of_getElem? HQq.out))
    have KQ := HQ na' nc' ka' kc' u3 lk W.heap.size W wr HVq.out HB.out (Nat.le_refl _) HB.out.size HK.out.1 (by
      have h1 := congrArg List.length HK.out.2
      have h2 := HLn.out
      have h3 := congrArg List.length (keyF_drop (b := false) (ns := []) HQq.out)
      simp only [List.drop_nil, List.length_append] at h3 h1
      omega)
    clear HQ
    go_wp2_with fail
    refine KQ.mono ?_
    rintro e w9 ⟨v9, rfl, A9⟩
    have HK2 : Hid (Own w9 W.heap.size v9 (lk ++ keyV q) ∧ keyF f false [] = (lk ++ keyV q) ++ keyF (f.drop (j + 1)) false []) := by
      refine ⟨A9.own, ?_⟩
      have h3 := keyF_drop (b := false) (ns := []) HQq.out
      simp only [List.drop_nil, Bool.false_eq_true, if_false, List.nil_append] at h3
      rw [HK.out.2, h3, List.append_assoc]
    have HB9 : Hid (Below W.heap.size W w9) := A9.below HK.out.1 HB.out HB.out.size (Nat.le_refl _)
    clear KQ A9 HK d0 d1 d2 d3 d4 d5
    go_wp2
    go_roundw
    case rel => exact ⟨j + 1, _, by omega, by go_num, HK2.out, HB9.out⟩
    case measure => simp [intOf]; omega
set_option maxRecDepth 8000 in
set_option maxHeartbeats 2000000 in
theorem rkey_any (f : Fo) (hw : Wf f) (hlen : f.list.length ≤ 140737488355328) (ka : Option Addr) (kc : Nat) (W : World) (hv : Lv W ka kc f) (hl : chkL f = 0 → (keyF f false []).length ≤ 600000000) :
    Calls Tryz.prog 29 #[.slice ka f.list.length kc] W fun e w' => e = .returned (.tuple #[.string (keyT f), .int .i64 (chkL f)]) ∧ Below W.heap.size W w' := by
  have HV : Hid (Vl W (hdL, f) none 0 ka kc) := hv
  have HWf : Hid (Wf f) := hw
  have HTn : Hid (chkL f ≠ 0 → keyT f = em) := keyT_no
  have KO : Hid (chkL f = 0 → ∀ w, Below W.heap.size W w → Calls Tryz.prog 52 #[.slice ka f.list.length kc] w fun e w' => e = .returned (.string (keyT f)) ∧ Below w.heap.size w w') := fun h w hb => by
    rw [keyT_yes h]
    exact of_any f hw (chkL_flat f h) hlen ka kc w (Lv.below hv hb) (hl h)
  obtain ⟨E, hE⟩ : ∃ E, chkL f = E := ⟨_, rfl⟩
  have HE : Hid (chkL f = E) := hE
  rw [hE]
  generalize keyT f = T at *
  clear hv hw hl hE
  go_enter Tryz.func29, Tryz.ntmps29
  go_wp2
  go_loopw [4] (fun i wr => ∃ k : Nat, k ≤ f.list.length ∧ i = .int .i64 (k : Int) ∧ Hid (E = chkL (f.drop k)) ∧ Hid (Below W.heap.size W wr)) (fun i _ => f.list.length - (intOf i).toNat)
  case atStart => exact ⟨0, by omega, rfl, (by show _ = _; rw [← HE.out]; rfl), Below.refl _ _⟩
  case round =>
    obtain ⟨k, hk0, rfl, HC, HB⟩ := hrel
    by_cases hlt : k < f.list.length
    case neg =>
      have hE0 : E = 0 := by
        rw [HC.out, Fo.drop_end _ _ (by omega)]
        rfl
      subst hE0
      have KK := KO.out HE.out wr HB.out
      clear HC HTn
      go_wp2_with fail
      refine KK.mono ?_
      rintro e w2 ⟨rfl, b2⟩
      have HB2 : Hid (Below W.heap.size W w2) := HB.out.trans (b2.mono HB.out.size)
      clear KK b2
      go_wp2
      go_ret2
      exact ⟨rfl, HB2.out⟩
    obtain ⟨q, b, o, na', nc', ka', kc', hq, rfl, hnd, hvl⟩ := HV.out.kid (Below.refl _ _) (k := k) hlt
    have HQq : Hid (f.list[k]? = some q) := hq
    have HWq : Hid (WfV q) := wf_mem HWf.out (List.mem_of_getElem? hq)
    have HVq : Hid (Vl W q na' nc' ka' kc') := hvl
    obtain ⟨d0, d1, d2, d3, d4, d5⟩ := hnd.below HB.out
    clear hnd hvl hq
    have KC := rCheck_any q HWq.out na' nc' ka' kc' wr (HVq.out.below HB.out)
    have HS : Hid (E = if chkV q 1 ≠ 0 then chkV q 1 else chkL (f.drop (k + 1))) := by show _ = _; rw [HC.out]; exact chkL_drop HQq.out
    generalize chkV q 1 = e at *
    go_wp2_with fail
    refine KC.mono ?_
    rintro _ w9 ⟨rfl, b9⟩
    have HB9 : Hid (Below W.heap.size W w9) := HB.out.trans (b9.mono HB.out.size)
    clear KC b9 d0 d1 d2 d3 d4 d5
    by_cases he : e = 0
    · subst he
      have HS2 : Hid (E = chkL (f.drop (k + 1))) := by show E = _; have := HS.out; simpa using this
      go_wp2
      go_roundw
      case rel => exact ⟨k + 1, by omega, by go_num, HS2.out, HB9.out⟩
      case measure => simp [intOf]; omega
    · have hEe : E = e := by have := HS.out; rw [if_pos he] at this; exact this
      subst hEe
      have hT := HTn.out (by rw [HE.out]; exact he)
      subst hT
      have heb : (E != 0) = true := by simpa using he
      clear HS
      go_wp2
      go_ret2
      exact ⟨rfl, HB9.out⟩
set_option maxRecDepth 8000 in
set_option maxHeartbeats 2000000 in
theorem heavy_any (f : Fo) (hw : Wf f) (hlen : f.list.length ≤ 140737488355328) (ka : Option Addr) (kc : Nat) (W : World) (hv : Lv W ka kc f) :
    Calls Tryz.prog 8 #[.slice ka f.list.length kc] W fun e w' => ∃ t, e = .returned (.bool t) ∧ Hid ((t = false → f.ws ≤ 2000) ∧ Below W.heap.size W w') := by
  obtain ⟨W1, HW1⟩ : ∃ W1, Hid (W.alloc (.cells #[.int .i64 0] 3) = W1) := ⟨_, rfl⟩
  have HZ : Hid (Blk W1 W.heap.size 3 [.int .i64 ((0 : Nat) : Int)]) := by rw [← HW1.out]; exact blk_new W 3 [.int .i64 0]
  have HB1 : Hid (Below W.heap.size W W1) := by rw [← HW1.out]; exact (Below.refl _ _).alloc (Nat.le_refl _) _
  have HV : Hid (Vl W (hdL, f) none 0 ka kc) := hv
  have HWf : Hid (Wf f) := hw
  clear hv hw
  go_enter Tryz.func8, Tryz.ntmps8
  go_wp2
  generalize hWW : World.alloc W _ = W9
  obtain rfl : W1 = W9 := by rw [← hWW, ← HW1.out]
  clear hWW HW1
  go_loopw [4] (fun i wr => ∃ k m : Nat, k ≤ f.list.length ∧ m ≤ 2000 ∧ i = .int .i64 (k : Int) ∧ Hid (Blk wr W.heap.size 3 [.int .i64 (m : Int)]) ∧ Hid (f.ws ≤ m + (f.drop k).ws) ∧ Hid (Below W.heap.size W wr)) (fun i _ => f.list.length - (intOf i).toNat)
  case atStart => exact ⟨0, 0, by omega, by omega, rfl, HZ.out, (by show _ ≤ _; simp [Fo.drop]), HB1.out⟩
  case round =>
    clear HZ HB1
    obtain ⟨k, m, hk0, hm, rfl, HG, HM, HB⟩ := hrel
    by_cases hlt : k < f.list.length
    case neg =>
      have HF : Hid ((false = false → f.ws ≤ 2000) ∧ Below W.heap.size W wr) := by
        refine ⟨fun _ => ?_, HB.out⟩
        have := HM.out
        rw [Fo.drop_end _ _ (by omega)] at this
        simp only [Fo.ws] at this
        omega
      clear HM HG
      go_wp2
      go_ret
      exact (by first | exact ⟨false, rfl, HF.out⟩ | exact .inl ⟨rfl, HF.out.1 (by first | rfl | trivial), HF.out.2⟩)
    obtain ⟨q, b, o, na', nc', ka', kc', hq, rfl, hnd, hvl⟩ := HV.out.kid (Below.refl _ _) (k := k) hlt
    have HWq : Hid (WfV q) := wf_mem HWf.out (List.mem_of_getElem? hq)
    have HWs : Hid ((f.drop k).ws = ws q + (f.drop (k + 1)).ws) := ws_step hq
    obtain ⟨d0, d1, d2, d3, d4, d5⟩ := hnd.below HB.out
    have KG := great_any _ q (Nat.le_refl _) HWq.out na' nc' ka' kc' W.heap.size m W wr hvl HB.out (Nat.le_refl _) HG.out hm
    clear hnd hvl hq
    generalize ws q = WQ at *
    go_wp2_with fail
    refine KG.mono ?_
    rintro _ w9 ⟨m9, rfl, H9⟩
    have HB9 : Hid (Below W.heap.size W w9) := HB.out.grown H9.out.gr HB.out.size (fun x e => by injection e with e; omega)
    clear KG d0 d1 d2 d3 d4 d5 HG HB
    by_cases hbig : 2000 < m9
    · have hbb : decide (2000 < m9) = true := decide_eq_true hbig
      have HF : Hid ((true = false → f.ws ≤ 2000) ∧ Below W.heap.size W w9) := ⟨(fun h => by cases h), HB9.out⟩
      rw [hbb]
      clear H9 HM HB9
      go_wp2
      go_ret
      exact ⟨true, rfl, HF.out⟩
    · have hbb : decide (2000 < m9) = false := decide_eq_false hbig
      have HG9 : Hid (Blk w9 W.heap.size 3 [.int .i64 (m9 : Int)]) := H9.out.blk
      have HM9 : Hid (f.ws ≤ m9 + (f.drop (k + 1)).ws) := by
        show _ ≤ _
        have h1 := H9.out.ge (by omega)
        have h2 := HM.out
        have h3 := HWs.out
        omega
      rw [hbb]
      clear H9 HM
      go_wp2
      go_roundw
      case rel => exact ⟨k + 1, m9, by omega, by omega, by go_num, HG9.out, HM9.out, HB9.out⟩
      case measure => simp [intOf]; omega
theorem key_short (f : Fo) (h : f.ws ≤ 2000) (hc : chkL f = 0) : (keyF f false []).length ≤ 600000000 := by
  have := bound_keyF f false [] (chkL_flat f hc) (by simp)
  omega
end Go.Proofs.YtmlfhplhiedfjaaGreatDoor
namespace Go.Proofs.YtmlfhplhiedfjaaGreatDoor
open Go.RowKit Math
set_option linter.unusedVariables false
set_option linter.unusedSimpArgs false
theorem rvalue_any : ∀ (n : Nat) (dp : Int), dp = 17 - (n : Int) → n ≤ 17 → PvC dp
  | 0, dp, h, _ => fun r s bad W hN hb => rvalue_deep dp (by omega) (by omega) r s bad W hN hb
  | n + 1, dp, h, hn => fun r s bad W hN hb => rvalue_step dp (by omega) (by omega) (rvalue_any n (dp + 1) (by omega) (by omega)) r s bad W hN hb
/-- What was read so far. -/
structure Tq (L : List Nat) (s sk : ByteArray) (bk : Bool) (f : Fo) : Prop where
  go : bk = false → Tc L (bts sk) f ∧ f.list.length + sk.size ≤ s.size ∧ (keyF f false []).length + 30 * sk.size ≤ 30 * s.size
  no : bk = true → ∀ g, Wf g → chkL g = 0 → keyF g false [] ≠ L
  wf : Wf f
  ln : f.list.length ≤ 90000
set_option maxRecDepth 8000 in
set_option maxHeartbeats 4000000 in
theorem rvalues_any (s : ByteArray) (hN : s.size ≤ 90000) (W : World) :
    Calls Tryz.prog 12 #[.string s] W fun e w' => (∃ f ka kc, e = .returned (.tuple #[.slice ka f.list.length kc, .int .i64 0]) ∧ Hid (Vs W w' (bts s) f ka kc)) ∨ (e = .returned (.tuple #[.slice none 0 0, .int .i64 3]) ∧ Hid (Vn W w' (bts s))) := by
  obtain ⟨w1, HW1⟩ : ∃ w1, Hid (W.alloc (.cells #[.string s, .bool false] 62) = w1) := ⟨_, rfl⟩
  have HT0 : Hid (TL 62 w1.heap.size W.heap.size W w1 (QC s false) .nil (.slice none 0 0) [] []) := by
    have hb : Blk w1 W.heap.size 62 (QC s false) := by rw [← HW1.out]; exact blk_new W _ _
    have hbl : Below W.heap.size W w1 := by rw [← HW1.out]; exact (Below.refl _ _).alloc (Nat.le_refl _) _
    exact ⟨hb, hbl, World.ownsRow_nil _ _ _ _, ⟨rfl, rfl⟩, fun x hx => (by cases hx), Nat.le_refl _, Nat.le_refl _, hb.lt⟩
  have HQ0 : Hid (Tq (bts s) s s false .nil) := ⟨fun _ => ⟨Tc.start _, by simp [Fo.list], by simp [keyF]⟩, fun e => (by cases e), trivial, by simp [Fo.list]⟩
  go_enter Tryz.func12, Tryz.ntmps12
  go_wp2
  generalize hWW : World.alloc W _ = W9
  obtain rfl : w1 = W9 := by rw [← hWW, ← HW1.out]
  clear hWW HW1
  go_loopw [5] (fun vl wr => ∃ (vk : Value) (sk : ByteArray) (bk : Bool) (f : Fo) (cs : List Value) (Lf : List Nat), vl = vk ∧ sk.size ≤ s.size ∧ Hid (TL 62 w1.heap.size W.heap.size W wr (QC sk bk) f vk cs Lf ∧ Tq (bts s) s sk bk f)) (fun vl wr => lft W.heap.size wr)
  case atStart => exact ⟨_, s, false, .nil, [], [], rfl, Nat.le_refl _, HT0.out, HQ0.out⟩
  case round =>
    clear HT0 HQ0
    obtain ⟨vk, sk, bk, f, cs, Lf, rfl, hsk, HJ⟩ := hrel
    obtain ⟨ka, kc, rfl, hlv⟩ := HJ.out.1.val
    have HT : Hid (TL 62 w1.heap.size W.heap.size W wr (QC sk bk) f (.slice ka f.list.length kc) cs Lf) := HJ.out.1
    have HQ : Hid (Tq (bts s) s sk bk f) := HJ.out.2
    have HLv : Hid (Lv wr ka kc f) := hlv
    have c0 : wr.cell? ⟨W.heap.size, 0, none⟩ = some (.string sk) := HT.out.blk.cell 0
    have c1 : wr.cell? ⟨W.heap.size, 1, none⟩ = some (.bool bk) := HT.out.blk.cell 1
    have HLf : Hid (lft W.heap.size wr = if bk then 0 else sk.size + 1) := lft_of HT.out.blk
    clear HJ hlv
    cases bk with
    | true =>
      have HF : Hid (Vn W wr (bts s)) := ⟨HT.out.bl, HQ.out.no rfl⟩
      clear HT HQ HLv HLf
      go_wp2
      go_ret2
      exact .inr ⟨rfl, HF.out⟩
    | false =>
      have HG : Hid (Tc (bts s) (bts sk) f ∧ f.list.length + sk.size ≤ s.size ∧ (keyF f false []).length + 30 * sk.size ≤ 30 * s.size) := HQ.out.go rfl
      have HWf : Hid (Wf f ∧ f.list.length ≤ 90000) := ⟨HQ.out.wf, HQ.out.ln⟩
      clear HQ
      by_cases hz : sk.size = 0
      · have hs := em_size hz
        have hq : sk.toList.isEmpty = true := by rw [hs, ByteArray.toList_eq]; rfl
        have HD : Hid (bts sk = []) := by rw [hs]; rfl
        have K := rkey_any f HWf.out.1 (by have := HWf.out.2; omega) ka kc wr HLv.out (fun _ => by have := HG.out.2.2; omega)
        have HCo : Hid (∀ g, Wf g → chkL g = 0 → keyF g false [] = bts s → g = f) := fun g hw hc hl => by
          obtain ⟨g2, e1, e2, e3, e4⟩ := HG.out.1.co g hw hc hl.symm
          cases g2 with
          | nil => rw [e1, app_nil]
          | cons hd k r =>
            exfalso
            rw [HD.out, show keyF (.cons hd k r) false [] = _ from keyF_cons (hd, k) r false []] at e2
            obtain ⟨t, ht⟩ := key_class (hd, k)
            rw [ht] at e2
            simp at e2
        have HTl : Hid (Below W.heap.size W wr) := HT.out.bl
        have HKt : Hid (chkL f = 0 → bts (keyT f) = keyF f false []) := fun h => by rw [keyT_yes h, bts_ofB _ (keyF_oct f _ _ HWf.out.1 (chkL_flat f h))]
        clear hz hs HT HG HLf
        obtain ⟨E, hE⟩ : ∃ E, chkL f = E := ⟨_, rfl⟩
        have HE : Hid (chkL f = E) := hE
        rw [hE] at K
        clear hE
        generalize keyT f = T at *
        go_wp2_with fail
        refine K.mono ?_
        rintro e w2 ⟨rfl, hb2⟩
        have HB2 : Hid (Below W.heap.size W w2) := HTl.out.trans (hb2.mono HTl.out.size)
        have HL2 : Hid (Lv w2 ka kc f) := Lv.below HLv.out hb2
        clear K hb2 HTl HLv
        by_cases hE0 : E = 0
        case neg =>
          have hne : (E != 0) = true := by simpa using hE0
          have HF : Hid (Vn W w2 (bts s)) := ⟨HB2.out, fun g hw hc hl => by
            have := HCo.out g hw hc hl
            rw [this, HE.out] at hc
            exact hE0 hc⟩
          clear HCo HKt HE
          go_wp2
          go_ret2
          exact .inr ⟨rfl, HF.out⟩
        subst hE0
        by_cases hTS : T = s
        case neg =>
          have hts : (T.toList == s.toList) = false := by
            rw [beq_eq_false_iff_ne]
            exact fun e => hTS (by rw [← ofB_bts T, ← ofB_bts s]; unfold bts; rw [ByteArray.toList_eq, ByteArray.toList_eq] at e; rw [e])
          have HF : Hid (Vn W w2 (bts s)) := ⟨HB2.out, fun g hw hc hl => by
            have := HCo.out g hw hc hl
            subst this
            exact hTS (bts_inj (by rw [HKt.out HE.out, hl]))⟩
          clear HCo HKt HE
          go_wp2
          go_ret2
          exact .inr ⟨rfl, HF.out⟩
        subst hTS
        have hts : (T.toList == T.toList) = true := by simp
        have HF : Hid (Vs W w2 (bts T) f ka kc) := ⟨HL2.out, HWf.out.1, HE.out, (HKt.out HE.out).symm, HB2.out, HCo.out⟩
        clear HCo HKt HE HL2 HB2
        go_wp2
        go_ret2
        exact .inl ⟨f, ka, kc, rfl, HF.out⟩
      have hq : sk.toList.isEmpty = false := by
        rw [ByteArray.toList_eq]
        cases he : sk.data.toList with
        | nil =>
          exfalso
          apply hz
          have : sk.data.toList.length = 0 := by rw [he]; rfl
          simpa using this
        | cons a t => rfl
      have HNe : Hid (bts sk ≠ []) := fun e => hz (by rw [← bts_len, e]; rfl)
      have KV := rvalue_any 16 1 (by omega) (by omega) W.heap.size sk false wr (by omega) HT.out.blk
      clear HLv
      go_wp2_with fail
      refine KV.mono ?_
      rintro e w5 ⟨p, na, nc, ka2, kc2, s2, b2, rfl, H2⟩
      have HT5 : Hid (TL 62 w1.heap.size W.heap.size W w5 (QC s2 b2) f (.slice ka f.list.length kc) cs Lf) := HT.out.read H2.out.ko.blk H2.out.ko.gr
      have HV5 : Hid (∃ Lp, VlL w5 p na nc ka2 kc2 Lp ∧ ∀ x ∈ Lp, w1.heap.size ≤ x ∧ x < w5.heap.size ∧ Value.ownBlock (.slice ka f.list.length kc) ≠ some x) := by
        obtain ⟨Lp, a1, a2⟩ := H2.out.vl
        have h3 := HT.out.sz
        refine ⟨Lp, a1, fun x hx => ?_⟩
        have := a2 x hx
        refine ⟨by omega, by omega, fun c => ?_⟩
        have := (World.ownsRow.lt HT.out.kd x c).2
        omega
      have hs2 : s2.size ≤ sk.size := H2.out.sz
      have HQ2 : Hid (Tq (bts s) s s2 b2 (f.snoc p)) := by
        have hl := snoc_list p f
        refine ⟨fun e => ⟨HG.out.1.step HNe.out H2.out.vr, ?_, kbN_kid HG.out.2.2 (H2.out.kb e)⟩, fun e g hw hc hl2 => ?_, wf_snoc H2.out.wf HWf.out.1, ?_⟩
        · have := H2.out.vr.pr e
          rw [bts_len, bts_len] at this
          have := HG.out.2.1
          rw [hl, List.length_append, List.length_singleton]
          omega
        · have := (HG.out.1.next HNe.out H2.out.vr g hw hc hl2.symm).1
          rw [e] at this
          cases this
        · have := HG.out.2.1
          rw [hl, List.length_append, List.length_singleton]
          omega
      have HM2 : Hid (lft W.heap.size w5 < sk.size + 1 ∧ lft W.heap.size w5 = if b2 then 0 else s2.size + 1) := by
        have h1 := lft_of H2.out.ko.blk
        refine ⟨?_, h1⟩
        rw [h1]
        cases hb : b2 with
        | true => simp
        | false =>
          have := H2.out.vr.pr hb
          rw [bts_len, bts_len] at this
          simp
          omega
      have hfl : f.list.length + 1 ≤ 100000 := by have := HWf.out.2; omega
      clear KV H2 HT c0 c1
      obtain ⟨w6, HW6⟩ : ∃ w6, Hid (w5.alloc (.cells #[.int .i64 p.1.k, .int .i64 p.1.n, .int .i64 p.1.s, .string p.1.t, .slice na p.1.ns.length nc, .slice ka2 p.2.list.length kc2] 38) = w6) := ⟨_, rfl⟩
      have HB6 : Hid (Below w5.heap.size w5 w6) := by rw [← HW6.out]; exact (Below.refl _ _).alloc (Nat.le_refl _) _
      have HC6 : Hid (∀ j u, (six p.1 na nc ka2 p.2.list.length kc2)[j]? = some u → w6.cell? ⟨w5.heap.size, j, none⟩ = some u) := fun j u hj => by
        rw [← HW6.out, World.cell?_alloc_new]
        show (six p.1 na nc ka2 p.2.list.length kc2).toArray[j]? = some u
        rw [List.getElem?_toArray]
        exact hj
      have HT6 : Hid (TL 62 w1.heap.size W.heap.size W w6 (QC s2 b2) f (.slice ka f.list.length kc) cs Lf) := HT5.out.below HB6.out
      clear HG
      go_wp2_with (at_builtin; go_must (refine app_kz rfl (.tmp 23) (.tmp 26) rfl w1.heap.size (.slice ka f.list.length kc) f.list.length cs rfl (by rw [HW6.out]; exact HT6.out.kd) w5.heap.size 1 1 (six p.1 na nc ka2 p.2.list.length kc2) rfl rfl (by rw [HW6.out]; exact HC6.out) (six_one _ _ _ _ _ _) hfl (by rw [HW6.out]; exact HT6.out.sz) ?_))
      rw [HW6.out]
      intro vk' w7 o7 g7 a7
      have HT7 : Hid (∃ Lf', TL 62 w1.heap.size W.heap.size W w7 (QC s2 b2) (f.snoc p) vk' (cs ++ six p.1 na nc ka2 p.2.list.length kc2) Lf') := by
        obtain ⟨Lp, a1, a2⟩ := HV5.out
        have hz6 : w6.heap.size = w5.heap.size + 1 := by rw [← HW6.out]; simp
        exact ⟨_, HT5.out.kid a1 a2 HB6.out g7 o7 (by rw [hz6]; exact a7)⟩
      have HR7 : Hid (lft W.heap.size w7 < sk.size + 1) := by
        obtain ⟨_, h⟩ := HT7.out
        show _ < _
        rw [lft_of h.blk, ← HM2.out.2]
        exact HM2.out.1
      clear o7 g7 a7 HB6 HC6 HT6 HT5 HV5 HW6 HM2
      go_wp2
      go_roundw
      case rel =>
        obtain ⟨Lf', h⟩ := HT7.out
        exact ⟨vk', s2, b2, f.snoc p, _, Lf', rfl, by omega, h, HQ2.out⟩
      case measure =>
        have := HR7.out
        rw [HLf.out]
        simpa using this
end Go.Proofs.YtmlfhplhiedfjaaGreatDoor
namespace Go.Proofs.YtmlfhplhiedfjaaGreatDoor
open Go.RowKit Math
set_option linter.unusedVariables false
set_option linter.unusedSimpArgs false
set_option maxRecDepth 8000 in
set_option maxHeartbeats 4000000 in
theorem lvals_same (f : Fo) (hw : Wf f) (hlen : f.list.length ≤ 140737488355328) (ka : Option Addr) (kc : Nat) (kb : Option Addr) (kd : Nat) (W : World) (hv : Lv W ka kc f) (hvg : Lv W kb kd f) :
    Calls Tryz.prog 11 #[.slice ka f.list.length kc, .slice kb f.list.length kd] W fun e w' => e = .returned (.bool true) ∧ Below W.heap.size W w' := by
  obtain ⟨C, hC⟩ : ∃ C : World → Prop, C = fun w => Below W.heap.size W w := ⟨_, rfl⟩
  have CE : Hid (∀ w, C w → Below W.heap.size W w) := fun w h => by rw [hC] at h; exact h
  have CB : Hid (∀ w w', C w → Below w.heap.size w w' → C w') := fun w w' h hb => by rw [hC] at h ⊢; exact h.trans (hb.mono h.size)
  have CD : Hid (∀ w, C w → C { w with drawn := w.drawn + 1 }) := fun w h => by rw [hC] at h ⊢; exact h.drew
  have C0 : Hid (C W) := by show C W; rw [hC]; exact Below.refl _ _
  have hCp : ∀ p : Prop, (∀ W, C W → p) ↔ p := fun p => ⟨fun h => h _ C0.out, fun h _ _ => h⟩
  have KP : Hid (∀ k p', f.list[k]? = some p' → ∃ b o, ka = some ⟨b, o, none⟩ ∧ ∃ na' nc' ka' kc', (∀ W, C W → Nd W b (o + k * 6) p'.1 na' nc' ka' p'.2.list.length kc') ∧ ∀ W, C W → Vl W p' na' nc' ka' kc') := fun k p' hp' => by
    obtain ⟨b, o, e, na', nc', ka', kc', hnd, hvl⟩ := hv.slc.get hp'
    exact ⟨b, o, e, na', nc', ka', kc', fun W h => hnd.below (CE.out W h), fun W h => hvl.below (CE.out W h)⟩
  have KQ : Hid (∀ k p', f.list[k]? = some p' → ∃ b o, kb = some ⟨b, o, none⟩ ∧ ∃ na' nc' ka' kc', (∀ W, C W → Nd W b (o + k * 6) p'.1 na' nc' ka' p'.2.list.length kc') ∧ ∀ W, C W → Vl W p' na' nc' ka' kc') := fun k p' hp' => by
    obtain ⟨b, o, e, na', nc', ka', kc', hnd, hvl⟩ := hvg.slc.get hp'
    exact ⟨b, o, e, na', nc', ka', kc', fun W h => hnd.below (CE.out W h), fun W h => hvl.below (CE.out W h)⟩
  have HWf : Hid (Wf f) := hw
  clear hC hv hvg hw
  go_enter Tryz.func11, Tryz.ntmps11
  go_wp2
  go_loopw [5] (fun i wr => ∃ (k : Nat), k ≤ f.list.length ∧ i = .int .i64 (k : Int) ∧ Hid (C wr)) (fun i _ => f.list.length - (intOf i).toNat)
  case atStart => exact ⟨0, by omega, rfl, C0.out⟩
  case round =>
    obtain ⟨k, hk0, rfl, HCw⟩ := hrel
    by_cases h1 : k < f.list.length
    case neg =>
      go_wp2
      go_ret
      exact ⟨rfl, CE.out _ HCw.out⟩
    obtain ⟨p', hp'⟩ : ∃ p', f.list[k]? = some p' := ⟨_, List.getElem?_eq_getElem h1⟩
    obtain ⟨b, o, rfl, na', nc', ka', kc', hnd, hvl⟩ := KP.out k p' hp'
    obtain ⟨b2, o2, rfl, na3, nc3, ka3, kc3, hnd2, hvl2⟩ := KQ.out k p' hp'
    have k1 : Hid (∀ W, C W → Calls Tryz.prog 20 #[.agg #[.int .i64 p'.1.k, .int .i64 p'.1.n, .int .i64 p'.1.s, .string p'.1.t, .slice na' p'.1.ns.length nc', .slice ka' p'.2.list.length kc'], .agg #[.int .i64 p'.1.k, .int .i64 p'.1.n, .int .i64 p'.1.s, .string p'.1.t, .slice na3 p'.1.ns.length nc3, .slice ka3 p'.2.list.length kc3]] W fun e w' => e = .returned (.bool true) ∧ C w') := fun W hW => by
      refine (equal_any _ p' (Nat.le_refl _) (wf_mem HWf.out (List.mem_of_getElem? hp')) p' (wf_mem HWf.out (List.mem_of_getElem? hp')) na' nc' ka' kc' na3 nc3 ka3 kc3 W (hvl W hW) (hvl2 W hW)).mono ?_
      rintro e w' ⟨t, rfl, H⟩
      exact ⟨by rw [H.out.1.2 rfl], CB.out _ _ hW H.out.2⟩
    have n1 : Hid (∀ W, C W → Nd W b (o + k * 6) p'.1 na' nc' ka' p'.2.list.length kc') := hnd
    have n2 : Hid (∀ W, C W → Nd W b2 (o2 + k * 6) p'.1 na3 nc3 ka3 p'.2.list.length kc3) := hnd2
    clear hnd hnd2 hvl hvl2 hp' KP KQ
    go_wp2
    refine q_region (C := C) (by kernel_rfl) (by kernel_rfl) (CD.out _ HCw.out) ?_
    repeat (first
      | go_big_quiet_skip
      | (go_big_quiet_want
         first
         | (refine q_val (.tmp 19) rfl b (o + k * 6) rfl _ _ _ _ _ _ n1.out ?_
            simp only [Act.put, List.setIfInBounds_toArray, List.set_cons_zero, List.set_cons_succ]
            go_big_quiet_on)
         | (refine q_val (.tmp 23) rfl b2 (o2 + k * 6) rfl _ _ _ _ _ _ n2.out ?_
            simp only [Act.put, List.setIfInBounds_toArray, List.set_cons_zero, List.set_cons_succ]
            go_big_quiet_on)
         | (go_big_quiet_op
            first
            | go_big_quiet_on
            | (apply Exists.intro
               refine ⟨?_, ?_⟩
               · first
                 | exact k1.out
               go_big_quiet_on))))
    refine wpQuiet_nil ?_
    clear HCw
    intro W hW
    have HCw : Hid (C W) := hW
    clear hW k1 n1 n2
    go_wp2
    go_roundw
    case rel => exact ⟨k + 1, by omega, by go_num, HCw.out⟩
    case measure => simp [intOf]; omega
end Go.Proofs.YtmlfhplhiedfjaaGreatDoor
namespace Go.Proofs.YtmlfhplhiedfjaaGreatDoor
open Go.RowKit Math
set_option linter.unusedVariables false
set_option linter.unusedSimpArgs false
def stz : Value → Nat
  | .string b => b.size
  | _ => 0
theorem conv_one9 (x : Nat) (hx : x < 256) (w : World) : (convert 52 9 (.slice (some ⟨w.heap.size, 0, none⟩) 1 1)).run Tryz.prog (w.alloc (Obj.cells #[.int .u8 (x : Int)] 5)) = .ok (.string (ofB [x])) (w.alloc (Obj.cells #[.int .u8 (x : Int)] 5)) := by
  have := conv_byt (c := 1) (w := w.alloc (.cells #[.int .u8 (x : Int)] 5)) (a := some ⟨w.heap.size, 0, none⟩) (l := [x]) (.inr ⟨_, _, rfl, fun i hi => by
    have h0 : i = 0 := by simpa using hi
    subst h0
    rw [Nat.zero_add, World.cell?_alloc_new]
    rfl⟩) (fun y hy => by simp at hy; omega) (by simp)
  exact this
set_option maxRecDepth 8000 in
set_option maxHeartbeats 1000000 in
theorem rabove_any (s : ByteArray) (hs : s.size ≤ 1000000000) (W : World) :
    Calls Tryz.prog 14 #[.string s] W fun e w' => ∃ n, Hid (Abv (bts s) n) ∧ ((n = 0 ∧ e = .returned (.tuple #[.string em, .bool false])) ∨ (0 < n ∧ e = .returned (.tuple #[.string (ofB (abvL (bts s) n)), .bool true]))) ∧ Below W.heap.size W w' := by
  go_enter Tryz.func14, Tryz.ntmps14
  go_wp2
  go_loop [0] (fun v => ∃ n : Nat, n ≤ s.size ∧ v = .string (s.extract 0 n) ∧ Hid (∀ j, n ≤ j → j < s.size → (bts s).getD j 0 = 255)) (fun v => stz v)
  case atStart => exact ⟨s.size, Nat.le_refl _, by rw [ByteArray.extract_zero_size], fun j h1 h2 => absurd h2 (by omega)⟩
  case round =>
    obtain ⟨n, hn, rfl, HF⟩ := hrel
    have hsz : (s.extract 0 n).size = n := by simp [ByteArray.size_extract]; omega
    rcases Nat.eq_zero_or_pos n with h0 | h0
    · have hz : (s.extract 0 n).size = 0 := by omega
      have ht : (s.extract 0 n).toList.isEmpty = true := by
        rw [ByteArray.toList_eq]
        have : (s.extract 0 n).data.toList.length = 0 := by rw [Array.length_toList]; exact hz
        rw [List.isEmpty_iff]
        exact List.eq_nil_of_length_eq_zero this
      have HA : Hid (Abv (bts s) 0) := ⟨by omega, fun j h1 h2 => HF.out j (by omega) (by rw [bts_len] at h2; exact h2), fun h => absurd h (by omega)⟩
      generalize s.extract 0 n = kk at *
      clear HF hsz h0
      go_wp2
      go_ret2
      exact ⟨0, HA.out, .inl ⟨rfl, rfl⟩, Below.refl _ _⟩
    · obtain ⟨n, rfl⟩ : ∃ k, n = k + 1 := ⟨n - 1, by omega⟩
      have hn' : n < s.size := by omega
      have hb := bts_get s n hn'
      have hx := (s[n]'hn').toNat_lt
      have hkn : ((s.extract 0 (n + 1))[n]'(by omega)) = s[n]'hn' := by simp [ByteArray.getElem_extract]
      have hex : (s.extract 0 (n + 1)).extract 0 n = s.extract 0 n := by simp [ByteArray.extract_extract]
      have ht : (s.extract 0 (n + 1)).toList.isEmpty = false := by
        rw [ByteArray.toList_eq]
        have : (s.extract 0 (n + 1)).data.toList.length = n + 1 := by rw [Array.length_toList]; exact hsz
        cases hc : (s.extract 0 (n + 1)).data.toList with
        | nil => rw [hc] at this; simp at this
        | cons a t => rfl
      have HE : Hid (s.extract 0 n = s.extract 0 n) := rfl
      obtain ⟨kk, hkk⟩ : ∃ kk, kk = s.extract 0 (n + 1) := ⟨_, rfl⟩
      rw [← hkk] at hsz hex ht
      have hkn' : (kk[n]'(by omega)).toNat = (s[n]'hn').toNat := by subst hkk; rw [hkn]
      rw [← hkk]
      clear hkn hkk
      obtain ⟨x, hxe⟩ : ∃ x, x = (s[n]'hn').toNat := ⟨_, rfl⟩
      rw [← hxe] at hkn' hx hb
      clear hxe
      by_cases he : x = 255
      · have hei : (((kk[n]'(by omega)).toNat : Int) == 255) = true := by rw [hkn', he]; rfl
        go_wp2
        go_round
        case rel =>
          refine ⟨n, by omega, by first | rfl | rw [hex], fun j h1 h2 => ?_⟩
          rcases Nat.lt_or_ge j (n + 1) with h | h
          · rw [show j = n by omega, hb, he]
          · exact HF.out j h h2
        case measure => simp [stz]; omega
      · have hei : (((kk[n]'(by omega)).toNat : Int) == 255) = false := beq_eq_false_iff_ne.2 (by rw [hkn']; omega)
        have HA : Hid (Abv (bts s) (n + 1)) := by
          refine ⟨by rw [bts_len]; omega, fun j h1 h2 => HF.out j h1 (by rw [bts_len] at h2; exact h2), fun _ => ?_⟩
          rw [Nat.add_sub_cancel, hb]
          exact he
        have HR : Hid (s.extract 0 n ++ ofB [x + 1] = ofB (abvL (bts s) (n + 1))) := by
          apply bts_inj
          rw [bts_app, bts_take s n (by omega), bts_ofB _ (by simp; omega), bts_ofB]
          · unfold abvL
            rw [Nat.add_sub_cancel, hb]
          · intro y hy
            unfold abvL at hy
            rcases List.mem_append.1 hy with h | h
            · exact bts_oct s y (List.mem_of_mem_take h)
            · rw [Nat.add_sub_cancel, hb] at h
              simp at h
              omega
        have hcv : ∀ w : World, (convert 52 9 (.slice (some ⟨w.heap.size, 0, none⟩) 1 1)).run Tryz.prog (w.alloc (Obj.cells #[.int .u8 (((x : Int) + 1) % 256)] 5)).drew = .ok (.string (ofB [x + 1])) (w.alloc (Obj.cells #[.int .u8 (((x : Int) + 1) % 256)] 5)).drew := fun w => by
          have := conv_one9 (x + 1) (by omega) w.drew
          rw [show ((x + 1 : Nat) : Int) = ((x : Int) + 1) % 256 by omega] at this
          exact this
        have hes : (s.extract 0 n).size ≤ 1000000000 := by simp [ByteArray.size_extract]; omega
        have heo : (ofB [x + 1]).size = 1 := ofB_size _
        generalize ofB [x + 1] = D at *
        generalize s.extract 0 n = E at *
        clear HF he
        go_wp2
        go_region
        go_wp2
        go_ret2
        exact ⟨n + 1, HA.out, .inr ⟨by omega, by rw [← HR.out]; rfl⟩, by first | exact ((Below.refl _ _).alloc (Nat.le_refl _) _).drew | exact (Below.drew (Below.refl _ _)).alloc (Nat.le_refl _) _⟩
end Go.Proofs.YtmlfhplhiedfjaaGreatDoor
