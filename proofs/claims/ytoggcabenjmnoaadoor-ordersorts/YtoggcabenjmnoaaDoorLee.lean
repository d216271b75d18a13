/-
  The document's own Of and Key; the law package's heavy; the walk of OrderKeys.
-/
import Derived.Test.YtoggcabenjmnoaaDoorLd
import Derived.Test.YtoggcabenjmnoaaDoorKm
import Derived.Test.YtoggcabenjmnoaaDoorRck
namespace Go.Proofs.YtoggcabenjmnoaaDoor
open Go.RowKit Math
set_option linter.unusedVariables false
set_option linter.unusedSimpArgs false
set_option maxRecDepth 8000 in
set_option maxHeartbeats 2000000 in
theorem of_any (f : Fo) (hw : Wf f) (hc : chk0 f = 0) (hlen : f.list.length ≤ 140737488355328) (ka : Option Addr) (kc : Nat) (W : World) (hv : Lv W ka kc f) (hl : (keyF f false []).length ≤ 600000000) :
    Calls Tryd.prog 16 #[.slice ka f.list.length kc] W fun e w' => e = .returned (.string (ofB (keyF f false []))) ∧ Below W.heap.size W w' := by
  have HV : Hid (Vl W (hdL, f) none 0 ka kc) := hv
  have HWf : Hid (Wf f) := hw
  have HCh : Hid (chk0 f = 0) := hc
  have HOc : Hid (Oct (keyF f false [])) := keyF_oct f _ _ hw hc
  have HLn : Hid ((keyF f false []).length ≤ 600000000) := hl
  obtain ⟨T, HTe⟩ : ∃ T, Hid (T = ofB (keyF f false [])) := ⟨_, rfl⟩
  rw [← HTe.out]
  clear hv hw hc hl
  go_enter Tryd.func16, Tryd.ntmps16
  go_wp2
  go_loopw [3, 4] (fun vb i w2 => ∃ (j : Nat) (lk : List Nat), j ≤ f.list.length ∧ i = .int .i64 (j : Int) ∧ Hid (Own w2 W.heap.size vb lk ∧ keyF f false [] = lk ++ keyF (f.drop j) false []) ∧ Hid (Below W.heap.size W w2)) (fun _ i _ => f.list.length - (intOf i).toNat)
  case atStart => exact ⟨0, [], by omega, rfl, ⟨World.ownsRow_nil _ _ _ _, by rfl⟩, Below.refl _ _⟩
  case round =>
    obtain ⟨j, lk, hj0, rfl, HK, HB⟩ := hrel
    by_cases hlt : j < f.list.length
    case neg =>
      have hlk : lk = keyF f false [] := by
        have := HK.out.2
        rw [Fo.drop_end _ _ (by omega)] at this
        simpa [keyF] using this.symm
      obtain ⟨ax, c, rfl, hby, hnil, _, _⟩ := HK.out.1.byt
      have hcv := conv_byt (c := c) hby (by rw [hlk]; exact HOc.out) hnil
      rw [hlk, ← HTe.out] at hcv
      have hln : lk.length = (keyF f false []).length := by rw [hlk]
      rw [hln]
      clear hlk hby HK hln
      generalize (keyF f false []).length = N at hcv
      go_wp2
      go_ret
      exact ⟨rfl, HB.out⟩
    obtain ⟨q, b, o, na', nc', ka', kc', hq, rfl, hnd, hvl⟩ := HV.out.kid (Below.refl _ _) (k := j) hlt
    have HQq : Hid (f.list[j]? = some q) := hq
    have HWq : Hid (WfV q) := wf_mem HWf.out (List.mem_of_getElem? hq)
    have HVq : Hid (Vl W q na' nc' ka' kc') := hvl
    obtain ⟨d0, d1, d2, d3, d4, d5⟩ := hnd.below HB.out
    clear hnd hvl hq
    have HQ := rk_any _ q (Nat.le_refl _) HWq.out (chk0_mem HCh.out (List.mem_of_getElem? HQq.out))
    have KQ := HQ na' nc' ka' kc' u3 lk W.heap.size W wr HVq.out HB.out (Nat.le_refl _) HB.out.size HK.out.1 (by
      have h1 := congrArg List.length HK.out.2
      have h2 := HLn.out
      have h3 := congrArg List.length (keyF_drop (b := false) (ns := []) HQq.out)
      simp only [List.drop_nil, List.length_append] at h3 h1
      omega)
    clear HQ
    go_wp2_with fail
    refine KQ.mono ?_
    rintro e w9 ⟨v9, rfl, A9⟩
    have HK2 : Hid (Own w9 W.heap.size v9 (lk ++ keyV q) ∧ keyF f false [] = (lk ++ keyV q) ++ keyF (f.drop (j + 1)) false []) := by
      refine ⟨A9.own, ?_⟩
      have h3 := keyF_drop (b := false) (ns := []) HQq.out
      simp only [List.drop_nil, Bool.false_eq_true, if_false, List.nil_append] at h3
      rw [HK.out.2, h3, List.append_assoc]
    have HB9 : Hid (Below W.heap.size W w9) := A9.below HK.out.1 HB.out HB.out.size (Nat.le_refl _)
    clear KQ A9 HK d0 d1 d2 d3 d4 d5
    go_wp2
    go_roundw
    case rel => exact ⟨j + 1, _, by omega, by go_num, HK2.out, HB9.out⟩
    case measure => simp [intOf]; omega
set_option maxRecDepth 8000 in
set_option maxHeartbeats 2000000 in
theorem rkey_any (f : Fo) (hw : Wf f) (hlen : f.list.length ≤ 140737488355328) (ka : Option Addr) (kc : Nat) (W : World) (hv : Lv W ka kc f) (hl : chkL f = 0 → (keyF f false []).length ≤ 600000000) :
    Calls Tryd.prog 8 #[.slice ka f.list.length kc] W fun e w' => e = .returned (.tuple #[.string (keyT f), .int .i64 (chkL f)]) ∧ Below W.heap.size W w' := by
  have HV : Hid (Vl W (hdL, f) none 0 ka kc) := hv
  have HWf : Hid (Wf f) := hw
  have HTn : Hid (chkL f ≠ 0 → keyT f = em) := keyT_no
  have KO : Hid (chkL f = 0 → ∀ w, Below W.heap.size W w → Calls Tryd.prog 16 #[.slice ka f.list.length kc] w fun e w' => e = .returned (.string (keyT f)) ∧ Below w.heap.size w w') := fun h w hb => by
    rw [keyT_yes h]
    exact of_any f hw (chkL_flat f h) hlen ka kc w (Lv.below hv hb) (hl h)
  obtain ⟨E, hE⟩ : ∃ E, chkL f = E := ⟨_, rfl⟩
  have HE : Hid (chkL f = E) := hE
  rw [hE]
  generalize keyT f = T at *
  clear hv hw hl hE
  go_enter Tryd.func8, Tryd.ntmps8
  go_wp2
  go_loopw [4] (fun i wr => ∃ k : Nat, k ≤ f.list.length ∧ i = .int .i64 (k : Int) ∧ Hid (E = chkL (f.drop k)) ∧ Hid (Below W.heap.size W wr)) (fun i _ => f.list.length - (intOf i).toNat)
  case atStart => exact ⟨0, by omega, rfl, (by show _ = _; rw [← HE.out]; rfl), Below.refl _ _⟩
  case round =>
    obtain ⟨k, hk0, rfl, HC, HB⟩ := hrel
    by_cases hlt : k < f.list.length
    case neg =>
      have hE0 : E = 0 := by
        rw [HC.out, Fo.drop_end _ _ (by omega)]
        rfl
      subst hE0
      have KK := KO.out HE.out wr HB.out
      clear HC HTn
      go_wp2_with fail
      refine KK.mono ?_
      rintro e w2 ⟨rfl, b2⟩
      have HB2 : Hid (Below W.heap.size W w2) := HB.out.trans (b2.mono HB.out.size)
      clear KK b2
      go_wp2
      go_ret2
      exact ⟨rfl, HB2.out⟩
    obtain ⟨q, b, o, na', nc', ka', kc', hq, rfl, hnd, hvl⟩ := HV.out.kid (Below.refl _ _) (k := k) hlt
    have HQq : Hid (f.list[k]? = some q) := hq
    have HWq : Hid (WfV q) := wf_mem HWf.out (List.mem_of_getElem? hq)
    have HVq : Hid (Vl W q na' nc' ka' kc') := hvl
    obtain ⟨d0, d1, d2, d3, d4, d5⟩ := hnd.below HB.out
    clear hnd hvl hq
    have KC := rCheck_any q HWq.out na' nc' ka' kc' wr (HVq.out.below HB.out)
    have HS : Hid (E = if chkV q 1 ≠ 0 then chkV q 1 else chkL (f.drop (k + 1))) := by show _ = _; rw [HC.out]; exact chkL_drop HQq.out
    generalize chkV q 1 = e at *
    go_wp2_with fail
    refine KC.mono ?_
    rintro _ w9 ⟨rfl, b9⟩
    have HB9 : Hid (Below W.heap.size W w9) := HB.out.trans (b9.mono HB.out.size)
    clear KC b9 d0 d1 d2 d3 d4 d5
    by_cases he : e = 0
    · subst he
      have HS2 : Hid (E = chkL (f.drop (k + 1))) := by show E = _; have := HS.out; simpa using this
      go_wp2
      go_roundw
      case rel => exact ⟨k + 1, by omega, by go_num, HS2.out, HB9.out⟩
      case measure => simp [intOf]; omega
    · have hEe : E = e := by have := HS.out; rw [if_pos he] at this; exact this
      subst hEe
      have hT := HTn.out (by rw [HE.out]; exact he)
      subst hT
      have heb : (E != 0) = true := by simpa using he
      clear HS
      go_wp2
      go_ret2
      exact ⟨rfl, HB9.out⟩
set_option maxRecDepth 8000 in
set_option maxHeartbeats 2000000 in
theorem heavy_any (f : Fo) (hw : Wf f) (hlen : f.list.length ≤ 140737488355328) (ka : Option Addr) (kc : Nat) (W : World) (hv : Lv W ka kc f) :
    Calls Tryd.prog 6 #[.slice ka f.list.length kc] W fun e w' => ∃ t, e = .returned (.bool t) ∧ Hid ((t = false → f.ws ≤ 2000) ∧ Below W.heap.size W w') := by
  obtain ⟨W1, HW1⟩ : ∃ W1, Hid (W.alloc (.cells #[.int .i64 0] 3) = W1) := ⟨_, rfl⟩
  have HZ : Hid (Blk W1 W.heap.size 3 [.int .i64 ((0 : Nat) : Int)]) := by rw [← HW1.out]; exact blk_new W 3 [.int .i64 0]
  have HB1 : Hid (Below W.heap.size W W1) := by rw [← HW1.out]; exact (Below.refl _ _).alloc (Nat.le_refl _) _
  have HV : Hid (Vl W (hdL, f) none 0 ka kc) := hv
  have HWf : Hid (Wf f) := hw
  clear hv hw
  go_enter Tryd.func6, Tryd.ntmps6
  go_wp2
  generalize hWW : World.alloc W _ = W9
  obtain rfl : W1 = W9 := by rw [← hWW, ← HW1.out]
  clear hWW HW1
  go_loopw [4] (fun i wr => ∃ k m : Nat, k ≤ f.list.length ∧ m ≤ 2000 ∧ i = .int .i64 (k : Int) ∧ Hid (Blk wr W.heap.size 3 [.int .i64 (m : Int)]) ∧ Hid (f.ws ≤ m + (f.drop k).ws) ∧ Hid (Below W.heap.size W wr)) (fun i _ => f.list.length - (intOf i).toNat)
  case atStart => exact ⟨0, 0, by omega, by omega, rfl, HZ.out, (by show _ ≤ _; simp [Fo.drop]), HB1.out⟩
  case round =>
    clear HZ HB1
    obtain ⟨k, m, hk0, hm, rfl, HG, HM, HB⟩ := hrel
    by_cases hlt : k < f.list.length
    case neg =>
      have HF : Hid ((false = false → f.ws ≤ 2000) ∧ Below W.heap.size W wr) := by
        refine ⟨fun _ => ?_, HB.out⟩
        have := HM.out
        rw [Fo.drop_end _ _ (by omega)] at this
        simp only [Fo.ws] at this
        omega
      clear HM HG
      go_wp2
      go_ret
      exact (by first | exact ⟨false, rfl, HF.out⟩ | exact .inl ⟨rfl, HF.out.1 (by first | rfl | trivial), HF.out.2⟩)
    obtain ⟨q, b, o, na', nc', ka', kc', hq, rfl, hnd, hvl⟩ := HV.out.kid (Below.refl _ _) (k := k) hlt
    have HWq : Hid (WfV q) := wf_mem HWf.out (List.mem_of_getElem? hq)
    have HWs : Hid ((f.drop k).ws = ws q + (f.drop (k + 1)).ws) := ws_step hq
    obtain ⟨d0, d1, d2, d3, d4, d5⟩ := hnd.below HB.out
    have KG := great_any _ q (Nat.le_refl _) HWq.out na' nc' ka' kc' W.heap.size m W wr hvl HB.out (Nat.le_refl _) HG.out hm
    clear hnd hvl hq
    generalize ws q = WQ at *
    go_wp2_with fail
    refine KG.mono ?_
    rintro _ w9 ⟨m9, rfl, H9⟩
    have HB9 : Hid (Below W.heap.size W w9) := HB.out.grown H9.out.gr HB.out.size (fun x e => by injection e with e; omega)
    clear KG d0 d1 d2 d3 d4 d5 HG HB
    by_cases hbig : 2000 < m9
    · have hbb : decide (2000 < m9) = true := decide_eq_true hbig
      have HF : Hid ((true = false → f.ws ≤ 2000) ∧ Below W.heap.size W w9) := ⟨(fun h => by cases h), HB9.out⟩
      rw [hbb]
      clear H9 HM HB9
      go_wp2
      go_ret
      exact ⟨true, rfl, HF.out⟩
    · have hbb : decide (2000 < m9) = false := decide_eq_false hbig
      have HG9 : Hid (Blk w9 W.heap.size 3 [.int .i64 (m9 : Int)]) := H9.out.blk
      have HM9 : Hid (f.ws ≤ m9 + (f.drop (k + 1)).ws) := by
        show _ ≤ _
        have h1 := H9.out.ge (by omega)
        have h2 := HM.out
        have h3 := HWs.out
        omega
      rw [hbb]
      clear H9 HM
      go_wp2
      go_roundw
      case rel => exact ⟨k + 1, m9, by omega, by omega, by go_num, HG9.out, HM9.out, HB9.out⟩
      case measure => simp [intOf]; omega
theorem key_short (f : Fo) (h : f.ws ≤ 2000) (hc : chkL f = 0) : (keyF f false []).length ≤ 600000000 := by
  have := bound_keyF f false [] (chkL_flat f hc) (by simp)
  omega
set_option maxRecDepth 8000 in
set_option maxHeartbeats 2000000 in
theorem keys_walk (f : Fo) (hw : Wf f) (hlen : f.list.length ≤ 140737488355328) (ka : Option Addr) (kc : Nat) (W : World) (hv : Lv W ka kc f) (hm : Mx W) :
    Calls Tryd.prog 3 #[.slice ka f.list.length kc] W fun e w' => e = .returned (.bool true) ∧ Below W.heap.size W w' := by
  have KH := heavy_any f hw hlen ka kc W hv
  have HV : Hid (Lv W ka kc f) := hv
  have HWf : Hid (Wf f) := hw
  have HM : Hid (Mx W) := hm
  clear hv hw hm
  go_enter Tryd.func3, Tryd.ntmps3
  go_wp2_with fail
  refine KH.mono ?_
  rintro e w1 ⟨t, rfl, H1⟩
  have HB1 : Hid (Below W.heap.size W w1) := H1.out.2
  cases t
  case true =>
    clear KH H1
    go_wp2
    go_ret
    exact ⟨rfl, HB1.out⟩
  have hws := H1.out.1 rfl
  have HS : Hid (chkL f = 0 → (keyF f false []).length ≤ 600000000) := key_short f hws
  have K1 := key_any f HWf.out hlen ka kc w1 (Lv.below HV.out HB1.out) (HM.out.below HB1.out HM.out.pos) HS.out
  have K2 : Hid (∀ w, Below W.heap.size W w → Calls Tryd.prog 8 #[.slice ka f.list.length kc] w fun e w' => e = .returned (.tuple #[.string (keyT f), .int .i64 (chkL f)]) ∧ Below w.heap.size w w') := fun w hb => rkey_any f HWf.out hlen ka kc w (Lv.below HV.out hb) HS.out
  clear KH H1 hws HS
  generalize chkL f = E at *
  generalize keyT f = T at *
  go_wp2_with fail
  refine K1.mono ?_
  rintro e w2 ⟨rfl, b2⟩
  have HB2 : Hid (Below W.heap.size W w2) := HB1.out.trans (b2.mono HB1.out.size)
  have K3 := K2.out w2 HB2.out
  clear K1 b2 HB1
  go_wp2_with fail
  refine K3.mono ?_
  rintro e w3 ⟨rfl, b3⟩
  have HB3 : Hid (Below W.heap.size W w3) := HB2.out.trans (b3.mono HB2.out.size)
  have KN := known_any w3 (HM.out.below HB3.out HM.out.pos)
  clear K2 K3 b3 HB2
  go_wp2_with fail
  refine KN.mono ?_
  rintro e w4 ⟨rfl, b4⟩
  have HB4 : Hid (Below W.heap.size W w4) := HB3.out.trans (b4.mono HB3.out.size)
  clear KN b4 HB3
  go_wp2
  go_ret
  exact ⟨rfl, HB4.out⟩
end Go.Proofs.YtoggcabenjmnoaaDoor
