/-
  order.Key: the walk.
-/
import Derived.Test.YtoggcabenjmnoaaDoorKi
namespace Go.Proofs.YtoggcabenjmnoaaDoor
open Go.RowKit Math
set_option linter.unusedVariables false
set_option linter.unusedSimpArgs false
/-- A list of values that lies in memory. -/
def Lv (w : World) (ka : Option Addr) (kc : Nat) (f : Fo) : Prop := Vl w (hdL, f) none 0 ka kc
theorem Lv.below {w w' : World} {ka : Option Addr} {kc : Nat} {f : Fo} (h : Lv w ka kc f) (hb : Below w.heap.size w w') : Lv w' ka kc f := Vl.below h hb
theorem keyT_no {f : Fo} (h : chkL f ≠ 0) : keyT f = em := by unfold keyT; rw [if_neg h]
theorem keyT_yes {f : Fo} (h : chkL f = 0) : keyT f = ofB (keyF f false []) := by unfold keyT; rw [if_pos h]
set_option maxRecDepth 8000 in
set_option maxHeartbeats 2000000 in
theorem key_any (f : Fo) (hw : Wf f) (hlen : f.list.length ≤ 140737488355328) (ka : Option Addr) (kc : Nat) (W : World) (hv : Lv W ka kc f) (hm : Mx W) (hl : chkL f = 0 → (keyF f false []).length ≤ 600000000) :
    Calls Tryd.prog 7 #[.slice ka f.list.length kc] W fun e w' => e = .returned (.tuple #[.string (keyT f), .int .i64 (chkL f)]) ∧ Below W.heap.size W w' := by
  have HV : Hid (Vl W (hdL, f) none 0 ka kc) := hv
  have HWf : Hid (Wf f) := hw
  have HM : Hid (Mx W) := hm
  have HL : Hid (chkL f = 0 → (keyF f false []).length ≤ 600000000) := hl
  have HTn : Hid (chkL f ≠ 0 → keyT f = em) := keyT_no
  have HTy : Hid (chkL f = 0 → keyT f = ofB (keyF f false []) ∧ Oct (keyF f false []) ∧ chk0 f = 0) := fun h => ⟨keyT_yes h, keyF_oct f _ _ hw (chkL_flat f h), chkL_flat f h⟩
  obtain ⟨E, hE⟩ : ∃ E, chkL f = E := ⟨_, rfl⟩
  have HE : Hid (chkL f = E) := hE
  rw [hE]
  generalize keyT f = T at *
  clear hv hw hm hl hE
  go_enter Tryd.func7, Tryd.ntmps7
  go_wp2
  go_loopw [12] (fun i wr => ∃ k : Nat, k ≤ f.list.length ∧ i = .int .i64 (k : Int) ∧ Hid (E = chkL (f.drop k)) ∧ Hid (Below W.heap.size W wr)) (fun i _ => f.list.length - (intOf i).toNat)
  case atStart => exact ⟨0, by omega, rfl, (by show _ = _; rw [← HE.out]; rfl), Below.refl _ _⟩
  case round =>
    obtain ⟨k, hk0, rfl, HC, HB⟩ := hrel
    by_cases hlt : k < f.list.length
    case neg =>
      have hE0 : E = 0 := by
        rw [HC.out, Fo.drop_end _ _ (by omega)]
        rfl
      subst hE0
      obtain ⟨hT, hOc, hch⟩ := HTy.out HE.out
      have HOc : Hid (Oct (keyF f false [])) := hOc
      have HCh : Hid (chk0 f = 0) := hch
      have HLn : Hid ((keyF f false []).length ≤ 600000000) := HL.out HE.out
      have HTe : Hid (T = ofB (keyF f false [])) := hT
      clear HC HTn HTy HL hOc hch hT
      go_wp2
      go_loopw [7, 24] (fun vb i w2 => ∃ (j : Nat) (lk : List Nat), j ≤ f.list.length ∧ i = .int .i64 (j : Int) ∧ Hid (Own w2 W.heap.size vb lk ∧ keyF f false [] = lk ++ keyF (f.drop j) false []) ∧ Hid (Below W.heap.size W w2)) (fun _ i _ => f.list.length - (intOf i).toNat)
      case atStart => exact ⟨0, [], by omega, rfl, ⟨World.ownsRow_nil _ _ _ _, by rfl⟩, HB.out⟩
      case round =>
        clear HB
        obtain ⟨j, lk, hj0, rfl, HK, HB⟩ := hrel
        by_cases hlt : j < f.list.length
        case neg =>
          have hlk : lk = keyF f false [] := by
            have := HK.out.2
            rw [Fo.drop_end _ _ (by omega)] at this
            simpa [keyF] using this.symm
          obtain ⟨ax, c, rfl, hby, hnil, _, _⟩ := HK.out.1.byt
          have hcv := conv_byt (c := c) hby (by rw [hlk]; exact HOc.out) hnil
          rw [hlk, ← HTe.out] at hcv
          have hln : lk.length = (keyF f false []).length := by rw [hlk]
          rw [hln]
          clear hlk hby HK hln
          generalize (keyF f false []).length = N at hcv
          go_wp2
          go_ret2
          exact ⟨rfl, HB.out⟩
        obtain ⟨q, b, o, na', nc', ka', kc', hq, rfl, hnd, hvl⟩ := HV.out.kid (Below.refl _ _) (k := j) hlt
        have HQq : Hid (f.list[j]? = some q) := hq
        have HWq : Hid (WfV q) := wf_mem HWf.out (List.mem_of_getElem? hq)
        have HVq : Hid (Vl W q na' nc' ka' kc') := hvl
        obtain ⟨d0, d1, d2, d3, d4, d5⟩ := hnd.below HB.out
        clear hnd hvl hq
        go_wp2_with (refine al_zero rfl 34 rfl zer zV ?_)
        intro g6 w6 hg6 Bz6 gr6
        go_wp2_with (refine st_all rfl 34 (.tmp 9) (.tmp 27) rfl g6 34 zer (six q.1 na' nc' ka' q.2.list.length kc') rfl rfl Bz6 rfl sV (six_one _ _ _ _ _ _) ?_)
        intro w7 B7 gr7
        have G7 : Hid (Below wr.heap.size wr w7) := below_new gr6 hg6 gr7
        have HB7 : Hid (Below W.heap.size W w7) := HB.out.trans (G7.out.mono HB.out.size)
        have e0 : w7.cell? ⟨g6, 0, none⟩ = some (.int .i64 q.1.k) := B7.cell 0
        have e1 : w7.cell? ⟨g6, 1, none⟩ = some (.int .i64 q.1.n) := B7.cell 1
        have e2 : w7.cell? ⟨g6, 2, none⟩ = some (.int .i64 q.1.s) := B7.cell 2
        have e3 : w7.cell? ⟨g6, 3, none⟩ = some (.string q.1.t) := B7.cell 3
        have e4 : w7.cell? ⟨g6, 4, none⟩ = some (.slice na' q.1.ns.length nc') := B7.cell 4
        have e5 : w7.cell? ⟨g6, 5, none⟩ = some (.slice ka' q.2.list.length kc') := B7.cell 5
        clear Bz6 gr6 gr7 B7 d0 d1 d2 d3 d4 d5
        have HQ := ak_any _ q (Nat.le_refl _) HWq.out (chk0_mem HCh.out (List.mem_of_getElem? HQq.out))
        have KQ := HQ na' nc' ka' kc' u7 lk W.heap.size W w7 HVq.out HB7.out (Nat.le_refl _) HB7.out.size HM.out (HK.out.1.below G7.out) (by
          have h1 := congrArg List.length HK.out.2
          have h2 := HLn.out
          have h3 := congrArg List.length (keyF_drop (b := false) (ns := []) HQq.out)
          simp only [List.drop_nil, List.length_append] at h3 h1
          omega)
        clear HQ
        go_wp2_with fail
        refine KQ.mono ?_
        rintro e w9 ⟨v9, rfl, A9⟩
        have HK2 : Hid (Own w9 W.heap.size v9 (lk ++ keyV q) ∧ keyF f false [] = (lk ++ keyV q) ++ keyF (f.drop (j + 1)) false []) := by
          refine ⟨A9.own, ?_⟩
          have h3 := keyF_drop (b := false) (ns := []) HQq.out
          simp only [List.drop_nil, Bool.false_eq_true, if_false, List.nil_append] at h3
          rw [HK.out.2, h3, List.append_assoc]
        have HB9 : Hid (Below W.heap.size W w9) := A9.below (HK.out.1.below G7.out) HB7.out HB7.out.size (Nat.le_refl _)
        clear KQ A9 HK e0 e1 e2 e3 e4 e5
        go_wp2
        go_roundw
        case rel => exact ⟨j + 1, _, by omega, by go_num, HK2.out, HB9.out⟩
        case measure => simp [intOf]; omega
    obtain ⟨q, b, o, na', nc', ka', kc', hq, rfl, hnd, hvl⟩ := HV.out.kid (Below.refl _ _) (k := k) hlt
    have HQq : Hid (f.list[k]? = some q) := hq
    have HWq : Hid (WfV q) := wf_mem HWf.out (List.mem_of_getElem? hq)
    have HVq : Hid (Vl W q na' nc' ka' kc') := hvl
    obtain ⟨d0, d1, d2, d3, d4, d5⟩ := hnd.below HB.out
    clear hnd hvl hq
    go_wp2_with (refine al_zero rfl 34 rfl zer zV ?_)
    intro g6 w6 hg6 Bz6 gr6
    go_wp2_with (refine st_all rfl 34 (.tmp 5) (.tmp 15) rfl g6 34 zer (six q.1 na' nc' ka' q.2.list.length kc') rfl rfl Bz6 rfl sV (six_one _ _ _ _ _ _) ?_)
    intro w7 B7 gr7
    have G7 : Hid (Below wr.heap.size wr w7) := below_new gr6 hg6 gr7
    have HB7 : Hid (Below W.heap.size W w7) := HB.out.trans (G7.out.mono HB.out.size)
    have e0 : w7.cell? ⟨g6, 0, none⟩ = some (.int .i64 q.1.k) := B7.cell 0
    have e1 : w7.cell? ⟨g6, 1, none⟩ = some (.int .i64 q.1.n) := B7.cell 1
    have e2 : w7.cell? ⟨g6, 2, none⟩ = some (.int .i64 q.1.s) := B7.cell 2
    have e3 : w7.cell? ⟨g6, 3, none⟩ = some (.string q.1.t) := B7.cell 3
    have e4 : w7.cell? ⟨g6, 4, none⟩ = some (.slice na' q.1.ns.length nc') := B7.cell 4
    have e5 : w7.cell? ⟨g6, 5, none⟩ = some (.slice ka' q.2.list.length kc') := B7.cell 5
    clear Bz6 gr6 gr7 B7 d0 d1 d2 d3 d4 d5
    have KC := vCheck_any q HWq.out na' nc' ka' kc' w7 (HVq.out.below HB7.out)
    have HS : Hid (E = if chkV q 1 ≠ 0 then chkV q 1 else chkL (f.drop (k + 1))) := by show _ = _; rw [HC.out]; exact chkL_drop HQq.out
    generalize chkV q 1 = e at *
    go_wp2_with fail
    refine KC.mono ?_
    rintro _ w9 ⟨rfl, b9⟩
    have HB9 : Hid (Below W.heap.size W w9) := HB7.out.trans (b9.mono HB7.out.size)
    clear KC b9 e0 e1 e2 e3 e4 e5
    by_cases he : e = 0
    · subst he
      have HS2 : Hid (E = chkL (f.drop (k + 1))) := by show E = _; have := HS.out; simpa using this
      go_wp2
      go_roundw
      case rel => exact ⟨k + 1, by omega, by go_num, HS2.out, HB9.out⟩
      case measure => simp [intOf]; omega
    · have hEe : E = e := by have := HS.out; rw [if_pos he] at this; exact this
      subst hEe
      have hT := HTn.out (by rw [HE.out]; exact he)
      subst hT
      have heb : (E != 0) = true := by simpa using he
      clear HS
      go_wp2
      go_ret2
      exact ⟨rfl, HB9.out⟩
end Go.Proofs.YtoggcabenjmnoaaDoor
