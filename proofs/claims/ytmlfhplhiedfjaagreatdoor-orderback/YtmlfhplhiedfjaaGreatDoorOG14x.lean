/-
  order.Key: the walk. · order.Above. · order's reader: take, skip, next.
-/
import Derived.Test.YtmlfhplhiedfjaaGreatDoorOG13x
import Derived.Laws.IdiomStrings
namespace Go.Proofs.YtmlfhplhiedfjaaGreatDoor
open Go.RowKit Math
set_option linter.unusedVariables false
set_option linter.unusedSimpArgs false
/-- A list of values that lies in memory. -/
def Lv (w : World) (ka : Option Addr) (kc : Nat) (f : Fo) : Prop := Vl w (hdL, f) none 0 ka kc
theorem Lv.below {w w' : World} {ka : Option Addr} {kc : Nat} {f : Fo} (h : Lv w ka kc f) (hb : Below w.heap.size w w') : Lv w' ka kc f := Vl.below h hb
theorem keyT_no {f : Fo} (h : chkL f ≠ 0) : keyT f = em := by unfold keyT; rw [if_neg h]
theorem keyT_yes {f : Fo} (h : chkL f = 0) : keyT f = ofB (keyF f false []) := by unfold keyT; rw [if_pos h]
set_option maxRecDepth 8000 in
set_option maxHeartbeats 2000000 in
theorem key_any (f : Fo) (hw : Wf f) (hlen : f.list.length ≤ 140737488355328) (ka : Option Addr) (kc : Nat) (W : World) (hv : Lv W ka kc f) (hm : Mx W) (hl : chkL f = 0 → (keyF f false []).length ≤ 600000000) :
    Calls Tryz.prog 9 #[.slice ka f.list.length kc] W fun e w' => e = .returned (.tuple #[.string (keyT f), .int .i64 (chkL f)]) ∧ Below W.heap.size W w' := by
  have HV : Hid (Vl W (hdL, f) none 0 ka kc) := hv
  have HWf : Hid (Wf f) := hw
  have HM : Hid (Mx W) := hm
  have HL : Hid (chkL f = 0 → (keyF f false []).length ≤ 600000000) := hl
  have HTn : Hid (chkL f ≠ 0 → keyT f = em) := keyT_no
  have HTy : Hid (chkL f = 0 → keyT f = ofB (keyF f false []) ∧ Oct (keyF f false []) ∧ chk0 f = 0) := fun h => ⟨keyT_yes h, keyF_oct f _ _ hw (chkL_flat f h), chkL_flat f h⟩
  obtain ⟨E, hE⟩ : ∃ E, chkL f = E := ⟨_, rfl⟩
  have HE : Hid (chkL f = E) := hE
  rw [hE]
  generalize keyT f = T at *
  clear hv hw hm hl hE
  go_enter Tryz.func9, Tryz.ntmps9
  go_wp2
  go_loopw [12] (fun i wr => ∃ k : Nat, k ≤ f.list.length ∧ i = .int .i64 (k : Int) ∧ Hid (E = chkL (f.drop k)) ∧ Hid (Below W.heap.size W wr)) (fun i _ => f.list.length - (intOf i).toNat)
  case atStart => exact ⟨0, by omega, rfl, (by show _ = _; rw [← HE.out]; rfl), Below.refl _ _⟩
  case round =>
    obtain ⟨k, hk0, rfl, HC, HB⟩ := hrel
    by_cases hlt : k < f.list.length
    case neg =>
      have hE0 : E = 0 := by
        rw [HC.out, Fo.drop_end _ _ (by omega)]
        rfl
      subst hE0
      obtain ⟨hT, hOc, hch⟩ := HTy.out HE.out
      have HOc : Hid (Oct (keyF f false [])) := hOc
      have HCh : Hid (chk0 f = 0) := hch
      have HLn : Hid ((keyF f false []).length ≤ 600000000) := HL.out HE.out
      have HTe : Hid (T = ofB (keyF f false [])) := hT
      clear HC HTn HTy HL hOc hch hT
      go_wp2
      go_loopw [7, 24] (fun vb i w2 => ∃ (j : Nat) (lk : List Nat), j ≤ f.list.length ∧ i = .int .i64 (j : Int) ∧ Hid (Own w2 W.heap.size vb lk ∧ keyF f false [] = lk ++ keyF (f.drop j) false []) ∧ Hid (Below W.heap.size W w2)) (fun _ i _ => f.list.length - (intOf i).toNat)
      case atStart => exact ⟨0, [], by omega, rfl, ⟨World.ownsRow_nil _ _ _ _, by rfl⟩, HB.out⟩
      case round =>
        clear HB
        obtain ⟨j, lk, hj0, rfl, HK, HB⟩ := hrel
        by_cases hlt : j < f.list.length
        case neg =>
          have hlk : lk = keyF f false [] := by
            have := HK.out.2
            rw [Fo.drop_end _ _ (by omega)] at this
            simpa [keyF] using this.symm
          obtain ⟨ax, c, rfl, hby, hnil, _, _⟩ := HK.out.1.byt
          have hcv := conv_byt (c := c) hby (by rw [hlk]; exact HOc.out) hnil
          rw [hlk, ← HTe.out] at hcv
          have hln : lk.length = (keyF f false []).length := by rw [hlk]
          rw [hln]
          clear hlk hby HK hln
          generalize (keyF f false []).length = N at hcv
          go_wp2
          go_ret2
          exact ⟨rfl, HB.out⟩
        obtain ⟨q, b, o, na', nc', ka', kc', hq, rfl, hnd, hvl⟩ := HV.out.kid (Below.refl _ _) (k := j) hlt
        have HQq : Hid (f.list[j]? = some q) := hq
        have HWq : Hid (WfV q) := wf_mem HWf.out (List.mem_of_getElem? hq)
        have HVq : Hid (Vl W q na' nc' ka' kc') := hvl
        obtain ⟨d0, d1, d2, d3, d4, d5⟩ := hnd.below HB.out
        clear hnd hvl hq
        go_wp2_with (refine al_zero rfl 38 rfl zer zV ?_)
        intro g6 w6 hg6 Bz6 gr6
        go_wp2_with (refine st_all rfl 38 (.tmp 9) (.tmp 27) rfl g6 38 zer (six q.1 na' nc' ka' q.2.list.length kc') rfl rfl Bz6 rfl sV (six_one _ _ _ _ _ _) ?_)
        intro w7 B7 gr7
        have G7 : Hid (Below wr.heap.size wr w7) := below_new gr6 hg6 gr7
        have HB7 : Hid (Below W.heap.size W w7) := HB.out.trans (G7.out.mono HB.out.size)
        have e0 : w7.cell? ⟨g6, 0, none⟩ = some (.int .i64 q.1.k) := B7.cell 0
        have e1 : w7.cell? ⟨g6, 1, none⟩ = some (.int .i64 q.1.n) := B7.cell 1
        have e2 : w7.cell? ⟨g6, 2, none⟩ = some (.int .i64 q.1.s) := B7.cell 2
        have e3 : w7.cell? ⟨g6, 3, none⟩ = some (.string q.1.t) := B7.cell 3
        have e4 : w7.cell? ⟨g6, 4, none⟩ = some (.slice na' q.1.ns.length nc') := B7.cell 4
        have e5 : w7.cell? ⟨g6, 5, none⟩ = some (.slice ka' q.2.list.length kc') := B7.cell 5
        clear Bz6 gr6 gr7 B7 d0 d1 d2 d3 d4 d5
        have HQ := ak_any _ q (Nat.le_refl _) HWq.out (chk0_mem HCh.out (List.mem_of_getElem? HQq.out))
        have KQ := HQ na' nc' ka' kc' u7 lk W.heap.size W w7 HVq.out HB7.out (Nat.le_refl _) HB7.out.size HM.out (HK.out.1.below G7.out) (by
          have h1 := congrArg List.length HK.out.2
          have h2 := HLn.out
          have h3 := congrArg List.length (keyF_drop (b := false) (ns := []) HQq.out)
          simp only [List.drop_nil, List.length_append] at h3 h1
          omega)
        clear HQ
        go_wp2_with fail
        refine KQ.mono ?_
        rintro e w9 ⟨v9, rfl, A9⟩
        have HK2 : Hid (Own w9 W.heap.size v9 (lk ++ keyV q) ∧ keyF f false [] = (lk ++ keyV q) ++ keyF (f.drop (j + 1)) false []) := by
          refine ⟨A9.own, ?_⟩
          have h3 := keyF_drop (b := false) (ns := []) HQq.out
          simp only [List.drop_nil, Bool.false_eq_true, if_false, List.nil_append] at h3
          rw [HK.out.2, h3, List.append_assoc]
        have HB9 : Hid (Below W.heap.size W w9) := A9.below (HK.out.1.below G7.out) HB7.out HB7.out.size (Nat.le_refl _)
        clear KQ A9 HK e0 e1 e2 e3 e4 e5
        go_wp2
        go_roundw
        case rel => exact ⟨j + 1, _, by omega, by go_num, HK2.out, HB9.out⟩
        case measure => simp [intOf]; omega
    obtain ⟨q, b, o, na', nc', ka', kc', hq, rfl, hnd, hvl⟩ := HV.out.kid (Below.refl _ _) (k := k) hlt
    have HQq : Hid (f.list[k]? = some q) := hq
    have HWq : Hid (WfV q) := wf_mem HWf.out (List.mem_of_getElem? hq)
    have HVq : Hid (Vl W q na' nc' ka' kc') := hvl
    obtain ⟨d0, d1, d2, d3, d4, d5⟩ := hnd.below HB.out
    clear hnd hvl hq
    go_wp2_with (refine al_zero rfl 38 rfl zer zV ?_)
    intro g6 w6 hg6 Bz6 gr6
    go_wp2_with (refine st_all rfl 38 (.tmp 5) (.tmp 15) rfl g6 38 zer (six q.1 na' nc' ka' q.2.list.length kc') rfl rfl Bz6 rfl sV (six_one _ _ _ _ _ _) ?_)
    intro w7 B7 gr7
    have G7 : Hid (Below wr.heap.size wr w7) := below_new gr6 hg6 gr7
    have HB7 : Hid (Below W.heap.size W w7) := HB.out.trans (G7.out.mono HB.out.size)
    have e0 : w7.cell? ⟨g6, 0, none⟩ = some (.int .i64 q.1.k) := B7.cell 0
    have e1 : w7.cell? ⟨g6, 1, none⟩ = some (.int .i64 q.1.n) := B7.cell 1
    have e2 : w7.cell? ⟨g6, 2, none⟩ = some (.int .i64 q.1.s) := B7.cell 2
    have e3 : w7.cell? ⟨g6, 3, none⟩ = some (.string q.1.t) := B7.cell 3
    have e4 : w7.cell? ⟨g6, 4, none⟩ = some (.slice na' q.1.ns.length nc') := B7.cell 4
    have e5 : w7.cell? ⟨g6, 5, none⟩ = some (.slice ka' q.2.list.length kc') := B7.cell 5
    clear Bz6 gr6 gr7 B7 d0 d1 d2 d3 d4 d5
    have KC := vCheck_any q HWq.out na' nc' ka' kc' w7 (HVq.out.below HB7.out)
    have HS : Hid (E = if chkV q 1 ≠ 0 then chkV q 1 else chkL (f.drop (k + 1))) := by show _ = _; rw [HC.out]; exact chkL_drop HQq.out
    generalize chkV q 1 = e at *
    go_wp2_with fail
    refine KC.mono ?_
    rintro _ w9 ⟨rfl, b9⟩
    have HB9 : Hid (Below W.heap.size W w9) := HB7.out.trans (b9.mono HB7.out.size)
    clear KC b9 e0 e1 e2 e3 e4 e5
    by_cases he : e = 0
    · subst he
      have HS2 : Hid (E = chkL (f.drop (k + 1))) := by show E = _; have := HS.out; simpa using this
      go_wp2
      go_roundw
      case rel => exact ⟨k + 1, by omega, by go_num, HS2.out, HB9.out⟩
      case measure => simp [intOf]; omega
    · have hEe : E = e := by have := HS.out; rw [if_pos he] at this; exact this
      subst hEe
      have hT := HTn.out (by rw [HE.out]; exact he)
      subst hT
      have heb : (E != 0) = true := by simpa using he
      clear HS
      go_wp2
      go_ret2
      exact ⟨rfl, HB9.out⟩
end Go.Proofs.YtmlfhplhiedfjaaGreatDoor
namespace Go.Proofs.YtmlfhplhiedfjaaGreatDoor
open Go.RowKit Math
set_option linter.unusedVariables false
set_option linter.unusedSimpArgs false
/-- How Above's text comes of its own: it is as long as the text without the bytes ff at its end, and the last one of these is one more. -/
structure Abv (L : List Nat) (n : Nat) : Prop where
  le : n ≤ L.length
  ff : ∀ j, n ≤ j → j < L.length → L.getD j 0 = 255
  nf : 0 < n → L.getD (n - 1) 0 ≠ 255
def abvL (L : List Nat) (n : Nat) : List Nat := L.take (n - 1) ++ [L.getD (n - 1) 0 + 1]
theorem bts_get (s : ByteArray) (n : Nat) (h : n < s.size) : (bts s).getD n 0 = (s[n]'h).toNat := by
  rw [List.getD_eq_getElem?_getD, bts, List.getElem?_map]
  have h2 : n < s.data.toList.length := by rw [Array.length_toList]; exact h
  rw [List.getElem?_eq_getElem h2]
  rfl
theorem bts_take (s : ByteArray) (n : Nat) (h : n ≤ s.size) : bts (s.extract 0 n) = (bts s).take n := by
  unfold bts
  rw [← List.map_take]
  congr 1
  simp [ByteArray.data_extract]
theorem bts_app (s t : ByteArray) : bts (s ++ t) = bts s ++ bts t := by
  unfold bts
  rw [show (s ++ t).data.toList = s.data.toList ++ t.data.toList by simp [ByteArray.data_append], List.map_append]
theorem bts_inj {s t : ByteArray} (h : bts s = bts t) : s = t := by rw [← ofB_bts s, h, ofB_bts]
theorem conv_sb (s : ByteArray) (hs : s.size ≤ 1000000000) (W : World) : ∃ c w', (convert 9 52 (.string s)).run Tryz.prog W = .ok (.slice (some ⟨W.heap.size, 0, none⟩) s.size c) w' ∧ s.size ≤ c ∧ c ≤ 9223372036854775807 ∧ Below W.heap.size W w' ∧ Cells w' W.heap.size 0 (bts s) ∧ (∀ i, i < s.size → w'.frozen? ⟨W.heap.size, i, none⟩ = false) := by
  have hge := grownCap_ge W s.size 0 5
  have hmx := grownCap_le_maxLen W s.size 0 5 (by unfold maxLen; omega)
  unfold maxLen at hmx
  refine ⟨_, _, run_bytes_of_string W 9 52 5 s Tryz.underlying9 Tryz.underlying52 Tryz.underlying5, hge, by omega, ?_, ?_, ?_⟩
  · exact (Below.drew (Below.refl _ _)).alloc (Nat.le_refl _) _
  · generalize grownCap W s.size 0 5 = c at *
    intro i hi
    rw [bts_len] at hi
    have hh : ((W.drew.alloc (.cells (bytesRow s c) 5 ((bytesRow s c).size, (bytesRow s c).size + 1))).heap)[W.heap.size]? = some (.cells (bytesRow s c) 5 ((bytesRow s c).size, (bytesRow s c).size + 1)) := by
      show (W.heap.push _)[W.heap.size]? = _
      simp
    unfold World.cell?
    simp only [hh, Nat.zero_add]
    rw [bts_get s i hi]
    unfold bytesRow
    rw [Array.getElem?_append_left (by rw [Array.size_map]; exact hi), Array.getElem?_map]
    have h2 : i < s.data.size := hi
    rw [Array.getElem?_eq_getElem h2]
    rfl
  · generalize grownCap W s.size 0 5 = c at *
    intro i hi
    have hh : ((W.drew.alloc (.cells (bytesRow s c) 5 ((bytesRow s c).size, (bytesRow s c).size + 1))).heap)[W.heap.size]? = some (.cells (bytesRow s c) 5 ((bytesRow s c).size, (bytesRow s c).size + 1)) := by
      show (W.heap.push _)[W.heap.size]? = _
      simp
    unfold World.frozen?
    simp only [hh]
    have : s.size ≤ (bytesRow s c).size := by unfold bytesRow; rw [Array.size_append, Array.size_map]; exact Nat.le_add_right _ _
    simp
    omega
theorem cells_set {w : World} {b : Nat} {l : List Nat} (h : Cells w b 0 l) (n z : Nat) (hn : n < l.length) : Cells (w.setCell ⟨b, n, none⟩ (.int .u8 (z : Int))) b 0 (l.set n z) := by
  intro i hi
  rw [List.length_set] at hi
  have h1 := h i hi
  rw [Nat.zero_add] at h1 ⊢
  by_cases e : i = n
  · subst e
    rw [World.cell?_setCell_same _ _ _ h1]
    congr 2
    rw [List.getD_eq_getElem?_getD, List.getElem?_set, if_pos rfl, if_pos hi]
    rfl
  · rw [World.cell?_setCell_other _ _ _ _ (by intro h; injection h with h1 h2; exact e h2.symm), h1]
    congr 3
    rw [List.getD_eq_getElem?_getD, List.getD_eq_getElem?_getD, List.getElem?_set, if_neg (by omega)]
theorem abv_set (L : List Nat) (n : Nat) (h : n < L.length) : (L.take (n + 1)).set n (L.getD n 0 + 1) = abvL L (n + 1) := by
  unfold abvL
  rw [Nat.add_sub_cancel, List.take_add_one, List.getElem?_eq_getElem h]
  rw [List.set_append_right _ _ (by simp; omega)]
  simp [List.length_take, Nat.min_eq_left (Nat.le_of_lt h), List.getD_eq_getElem?_getD, List.getElem?_eq_getElem h]
set_option maxRecDepth 8000 in
set_option maxHeartbeats 1000000 in
theorem above_any (s : ByteArray) (hs : s.size ≤ 1000000000) (W : World) :
    Calls Tryz.prog 13 #[.string s] W fun e w' => ∃ n, Hid (Abv (bts s) n) ∧ ((n = 0 ∧ e = .returned (.tuple #[.string em, .bool false])) ∨ (0 < n ∧ e = .returned (.tuple #[.string (ofB (abvL (bts s) n)), .bool true]))) ∧ Below W.heap.size W w' := by
  go_enter Tryz.func13, Tryz.ntmps13
  go_wp2
  go_loop [4] (fun i => ∃ n : Nat, n ≤ s.size ∧ i = .int .i64 (n : Int) ∧ Hid (∀ j, n ≤ j → j < s.size → (bts s).getD j 0 = 255)) (fun i => (intOf i).toNat)
  case atStart => exact ⟨s.size, Nat.le_refl _, rfl, fun j h1 h2 => absurd h2 (by omega)⟩
  case round =>
    obtain ⟨n, hn, rfl, HF⟩ := hrel
    by_cases h0 : 0 < n
    · obtain ⟨n, rfl⟩ : ∃ k, n = k + 1 := ⟨n - 1, by omega⟩
      have hn' : n < s.size := by omega
      have hb := bts_get s n hn'
      have hx := (s[n]'hn').toNat_lt
      by_cases he : (s[n]'hn').toNat = 255
      · have hei : (((s[n]'hn').toNat : Int) == 255) = true := by rw [he]; rfl
        rw [he] at hb
        go_wp2
        go_round
        case rel =>
          refine ⟨n, by omega, by go_num, fun j h1 h2 => ?_⟩
          rcases Nat.lt_or_ge j (n + 1) with h | h
          · rw [show j = n by omega]; exact hb
          · exact HF.out j h h2
        case measure => simp [intOf]
      · have hei : (((s[n]'hn').toNat : Int) == 255) = false := beq_eq_false_iff_ne.2 (by omega)
        have hn0 : (((n : Int) + 1) == 0) = false := beq_eq_false_iff_ne.2 (by omega)
        have hsz : (s.extract 0 (n + 1)).size = n + 1 := by simp [ByteArray.size_extract]; omega
        obtain ⟨c, w1, hcv, hc1, hc2, hbl, hcl, hfz⟩ := conv_sb (s.extract 0 (n + 1)) (by omega) W
        rw [hsz] at hcv hc1 hfz
        rw [bts_take s (n + 1) (by omega)] at hcl
        have hfn := hfz n (by omega)
        have hln : ((bts s).take (n + 1)).length = n + 1 := by rw [List.length_take, bts_len]; omega
        have hcn : w1.cell? ⟨W.heap.size, n, none⟩ = some (.int .u8 (((s[n]'hn').toNat : Nat) : Int)) := by
          have := hcl n (by omega)
          rw [Nat.zero_add] at this
          rw [this]
          congr 3
          rw [← hb, List.getD_eq_getElem?_getD, List.getD_eq_getElem?_getD, List.getElem?_take, if_pos (by omega)]
        obtain ⟨x, hxe⟩ : ∃ x, x = (s[n]'hn').toNat := ⟨_, rfl⟩
        rw [← hxe] at hcn hx hei
        have hxx : x < 255 := by omega
        have HA : Hid (Abv (bts s) (n + 1)) := by
          refine ⟨by rw [bts_len]; omega, fun j h1 h2 => HF.out j h1 (by rw [bts_len] at h2; exact h2), fun _ => ?_⟩
          rw [Nat.add_sub_cancel, hb]
          exact he
        have hcs := cells_set hcl n (x + 1) (by omega)
        rw [show x + 1 = (bts s).getD n 0 + 1 by rw [hb, hxe], abv_set (bts s) n (by rw [bts_len]; omega), hb, ← hxe] at hcs
        have hoc : Oct (abvL (bts s) (n + 1)) := by
          intro y hy
          unfold abvL at hy
          rcases List.mem_append.1 hy with h | h
          · exact bts_oct s y (List.mem_of_mem_take h)
          · rw [Nat.add_sub_cancel, hb] at h
            simp at h
            omega
        have hal : (abvL (bts s) (n + 1)).length = n + 1 := by unfold abvL; simp [bts_len]; omega
        have hcv2 := conv_byt (c := c) (w := w1.setCell ⟨W.heap.size, n, none⟩ (.int .u8 ((x + 1 : Nat) : Int))) (a := some ⟨W.heap.size, 0, none⟩) (.inr ⟨_, _, rfl, hcs⟩) hoc (by simp)
        rw [hal] at hcv2
        have hcast : ((x + 1 : Nat) : Int) = (x : Int) + 1 := by omega
        rw [hcast] at hcv2
        have HB : Hid (Below W.heap.size W (w1.setCell ⟨W.heap.size, n, none⟩ (.int .u8 ((x : Int) + 1)))) := hbl.setCell (Nat.le_refl _) _
        have hsx : (((s[n]'hn').toNat : Nat) : Int) = (x : Int) := by rw [hxe]
        obtain ⟨R, HR⟩ : ∃ R, Hid (ofB (abvL (bts s) (n + 1)) = R) := ⟨_, rfl⟩
        rw [HR.out] at hcv2
        clear hcs hoc hal hcl hfz hb HF he hln hbl hcast
        go_wp2
        go_ret2
        exact ⟨n + 1, HA.out, .inr ⟨by omega, by rw [HR.out]; rfl⟩, HB.out⟩
    · obtain rfl : n = 0 := by omega
      go_wp2
      go_ret2
      exact ⟨0, ⟨by omega, fun j h1 h2 => HF.out j h1 (by rw [bts_len] at h2; exact h2), fun h => absurd h (by omega)⟩, .inl ⟨rfl, rfl⟩, Below.refl _ _⟩
end Go.Proofs.YtmlfhplhiedfjaaGreatDoor
namespace Go.Proofs.YtmlfhplhiedfjaaGreatDoor
open Go.RowKit Math
set_option linter.unusedVariables false
set_option linter.unusedSimpArgs false
theorem Blk.dq {w : World} {b : Nat} {t : TypeId} {vs : List Value} (h : Blk w b t vs) (q : Nat) : Blk (w.drewN q) b t vs := by
  unfold Blk at *; simpa using h
theorem grown_dq (w : World) (q : Nat) (row : Option Nat) : w.grownBy (w.drewN q) row := ⟨rfl, rfl, rfl, Nat.le_refl _, fun _ _ _ => rfl⟩
theorem s3 : (Tryz.prog.info? 3).map (·.size) = some 1 := by kernel_rfl
theorem s4 : (Tryz.prog.info? 4).map (·.size) = some 1 := by kernel_rfl
/-- The reader in memory, behind a call. -/
structure Ko (r : Nat) (k : ByteArray) (W w' : World) (i : Nat) (bad : Bool) : Prop where
  blk : Blk w' r 58 [.string k, .int .i64 (i : Int), .bool bad]
  le : i ≤ k.size
  gr : W.grownBy w' (some r)
theorem Ko.trans {r : Nat} {k : ByteArray} {W w1 w2 : World} {i j : Nat} {b c : Bool} (h : Ko r k W w1 i b) (g : Ko r k w1 w2 j c) : Ko r k W w2 j c := ⟨g.blk, g.le, h.gr.trans g.gr⟩
theorem Ko.below {r : Nat} {k : ByteArray} {W w1 w2 : World} {i : Nat} {b : Bool} (h : Ko r k W w1 i b) (g : Below w1.heap.size w1 w2) : Ko r k W w2 i b :=
  ⟨h.blk.below g h.blk.lt, h.le, ⟨g.os.trans h.gr.os, g.tape.trans h.gr.tape, g.output.trans h.gr.output, Nat.le_trans h.gr.size g.size, fun x hx hne => (g.block x (Nat.lt_of_lt_of_le hx h.gr.size)).trans (h.gr.block x hx hne)⟩⟩
/-! ### pieces of a text -/
theorem bts_mid (s : ByteArray) (i n : Nat) (h : i + n ≤ s.size) : bts (s.extract i (i + n)) = ((bts s).drop i).take n := by
  unfold bts
  rw [ByteArray.data_extract, Array.toList_extract, List.extract_eq_take_drop, List.map_take, List.map_drop, show i + n - i = n by omega]
theorem bts_rest (s : ByteArray) (i : Nat) (h : i ≤ s.size) : bts (s.extract i s.size) = (bts s).drop i := by
  have := bts_mid s i (s.size - i) (by omega)
  rw [show i + (s.size - i) = s.size by omega] at this
  rw [this, List.take_of_length_le]
  rw [List.length_drop, bts_len]
  omega
theorem bts_drop (s : ByteArray) (i : Nat) (h : i < s.size) : (bts s).drop i = (s[i]'h).toNat :: (bts s).drop (i + 1) := by
  rw [List.drop_eq_getElem_cons (by rw [bts_len]; exact h)]
  congr 1
  have := bts_get s i h
  rw [List.getD_eq_getElem?_getD, List.getElem?_eq_getElem (by rw [bts_len]; exact h)] at this
  simpa using this
set_option maxRecDepth 8000 in
theorem take_ok (r : Nat) (k : ByteArray) (i n j : Nat) (hj : i + n = j) (hi : j ≤ k.size) (hN : k.size ≤ 1000000000) (bad : Bool) (W : World) (hb : Blk W r 58 [.string k, .int .i64 (i : Int), .bool bad]) :
    Calls Tryz.prog 85 #[.pointer (some ⟨r, 0, none⟩), .int .i64 (n : Int)] W fun e w' => e = .returned (.string (k.extract i j)) ∧ Hid (Ko r k W w' j bad) := by
  have c0 : W.cell? ⟨r, 0, none⟩ = some (.string k) := hb.cell 0
  have c1 : W.cell? ⟨r, 1, none⟩ = some (.int .i64 (i : Int)) := hb.cell 1
  have HB : Hid (Blk W r 58 [.string k, .int .i64 (i : Int), .bool bad]) := hb
  have hgt : decide ((k.size : Int) - (i : Int) < (n : Int)) = false := by simp; omega
  have hin : (i : Int) + (n : Int) = (j : Int) := by omega
  have hjn : (j : Int) - (n : Int) = (i : Int) := by omega
  have hij : i ≤ j := by omega
  clear hb hj
  go_enter Tryz.func85, Tryz.ntmps85
  go_wp2
  go_quiet (fail)
  have HB2 : Hid (Blk (W.drewN nq) r 58 [.string k, .int .i64 (i : Int), .bool bad]) := HB.out.dq nq
  have HG2 : Hid (W.grownBy (W.drewN nq) (some r)) := grown_dq W nq _
  generalize W.drewN nq = W2 at *
  clear c0 c1 HB
  have c0 : W2.cell? ⟨r, 0, none⟩ = some (.string k) := HB2.out.cell 0
  have c1 : W2.cell? ⟨r, 1, none⟩ = some (.int .i64 (i : Int)) := HB2.out.cell 1
  go_wp2_with (refine st_one rfl 3 (.tmp 27) (.tmp 25) rfl r 1 58 _ (.int .i64 (j : Int)) rfl rfl rfl rfl (by simp) HB2.out s3 ?_)
  intro w3 b3 g3
  have HR : Hid (Ko r k W w3 j bad) := ⟨b3, hi, HG2.out.trans g3⟩
  clear c0 c1 HB2 HG2 b3 g3
  have d0 : w3.cell? ⟨r, 0, none⟩ = some (.string k) := HR.out.blk.cell 0
  have d1 : w3.cell? ⟨r, 1, none⟩ = some (.int .i64 (j : Int)) := HR.out.blk.cell 1
  go_wp2
  go_quiet (fail)
  have HR3 : Hid (Ko r k W (w3.drewN nq) j bad) := ⟨HR.out.blk.dq nq, HR.out.le, HR.out.gr.trans (grown_dq _ _ _)⟩
  generalize w3.drewN nq = w4 at *
  clear HR d0 d1
  go_wp2
  go_ret
  exact ⟨rfl, HR3.out⟩
set_option maxRecDepth 8000 in
theorem take_no (r : Nat) (k : ByteArray) (i n : Nat) (hi : i ≤ k.size) (hn : k.size < i + n) (hN : k.size ≤ 1000000000) (hn2 : n ≤ 1000000000) (bad : Bool) (W : World) (hb : Blk W r 58 [.string k, .int .i64 (i : Int), .bool bad]) :
    Calls Tryz.prog 85 #[.pointer (some ⟨r, 0, none⟩), .int .i64 (n : Int)] W fun e w' => e = .returned (.string ⟨#[]⟩) ∧ Hid (Ko r k W w' i true) := by
  have c0 : W.cell? ⟨r, 0, none⟩ = some (.string k) := hb.cell 0
  have c1 : W.cell? ⟨r, 1, none⟩ = some (.int .i64 (i : Int)) := hb.cell 1
  have HB : Hid (Blk W r 58 [.string k, .int .i64 (i : Int), .bool bad]) := hb
  have hgt : decide ((k.size : Int) - (i : Int) < (n : Int)) = true := by simp; omega
  clear hb
  go_enter Tryz.func85, Tryz.ntmps85
  go_wp2
  go_quiet (fail)
  have HB2 : Hid (Blk (W.drewN nq) r 58 [.string k, .int .i64 (i : Int), .bool bad]) := HB.out.dq nq
  have HG2 : Hid (W.grownBy (W.drewN nq) (some r)) := grown_dq W nq _
  generalize W.drewN nq = W2 at *
  clear c0 c1 HB
  go_wp2_with (refine st_one rfl 4 (.tmp 19) (.const (.bool true)) rfl r 2 58 _ (.bool true) rfl rfl rfl rfl (by simp) HB2.out s4 ?_)
  intro w3 b3 g3
  have HR : Hid (Ko r k W w3 i true) := ⟨b3, hi, HG2.out.trans g3⟩
  clear HB2 HG2 b3 g3
  go_wp2
  go_ret
  exact ⟨rfl, HR.out⟩
/-! ### skip -/
set_option maxRecDepth 8000 in
theorem skip_yes (r : Nat) (k : ByteArray) (i x : Nat) (hi : i < k.size) (hx : (k[i]'hi).toNat = x) (hN : k.size ≤ 1000000000) (bad : Bool) (W : World) (hb : Blk W r 58 [.string k, .int .i64 (i : Int), .bool bad]) :
    Calls Tryz.prog 86 #[.pointer (some ⟨r, 0, none⟩), .int .u8 (x : Int)] W fun e w' => e = .returned (.bool true) ∧ Hid (Ko r k W w' (i + 1) bad) := by
  have c0 : W.cell? ⟨r, 0, none⟩ = some (.string k) := hb.cell 0
  have c1 : W.cell? ⟨r, 1, none⟩ = some (.int .i64 (i : Int)) := hb.cell 1
  have HB : Hid (Blk W r 58 [.string k, .int .i64 (i : Int), .bool bad]) := hb
  have hlt : decide ((i : Int) < (k.size : Int)) = true := by simp; omega
  subst hx
  clear hb
  go_enter Tryz.func86, Tryz.ntmps86
  go_wp2
  go_quiet (fail)
  have HB2 : Hid (Blk (W.drewN nq) r 58 [.string k, .int .i64 (i : Int), .bool bad]) := HB.out.dq nq
  have HG2 : Hid (W.grownBy (W.drewN nq) (some r)) := grown_dq W nq _
  generalize W.drewN nq = W2 at *
  clear c0 c1 HB
  have c0 : W2.cell? ⟨r, 0, none⟩ = some (.string k) := HB2.out.cell 0
  have c1 : W2.cell? ⟨r, 1, none⟩ = some (.int .i64 (i : Int)) := HB2.out.cell 1
  go_wp2_with (refine st_one rfl 3 (.tmp 36) (.tmp 34) rfl r 1 58 _ (.int .i64 ((i : Int) + 1)) rfl rfl rfl rfl (by simp) HB2.out s3 ?_)
  intro w3 b3 g3
  have HR : Hid (Ko r k W w3 (i + 1) bad) := ⟨b3, hi, HG2.out.trans g3⟩
  clear c0 c1 HB2 HG2 b3 g3
  go_wp2
  go_ret
  exact ⟨rfl, HR.out⟩
set_option maxRecDepth 8000 in
theorem skip_no (r : Nat) (k : ByteArray) (i x : Nat) (hi : i ≤ k.size) (hx : ∀ h : i < k.size, (k[i]'h).toNat ≠ x) (hN : k.size ≤ 1000000000) (bad : Bool) (W : World) (hb : Blk W r 58 [.string k, .int .i64 (i : Int), .bool bad]) :
    Calls Tryz.prog 86 #[.pointer (some ⟨r, 0, none⟩), .int .u8 (x : Int)] W fun e w' => e = .returned (.bool false) ∧ Hid (Ko r k W w' i bad) := by
  have c0 : W.cell? ⟨r, 0, none⟩ = some (.string k) := hb.cell 0
  have c1 : W.cell? ⟨r, 1, none⟩ = some (.int .i64 (i : Int)) := hb.cell 1
  have HB : Hid (Blk W r 58 [.string k, .int .i64 (i : Int), .bool bad]) := hb
  clear hb
  by_cases hlt : i < k.size
  · have hne := hx hlt
    have hde : (((k[i]'hlt).toNat : Int) == (x : Int)) = false := beq_eq_false_iff_ne.2 (by omega)
    have hld : decide ((i : Int) < (k.size : Int)) = true := by simp; omega
    clear hx
    go_enter Tryz.func86, Tryz.ntmps86
    go_wp2
    go_quiet (fail)
    have HR : Hid (Ko r k W (W.drewN nq) i bad) := ⟨HB.out.dq nq, hi, grown_dq W nq _⟩
    generalize W.drewN nq = W2 at *
    clear c0 c1 HB
    go_wp2
    go_ret
    exact ⟨rfl, HR.out⟩
  · have hld : decide ((i : Int) < (k.size : Int)) = false := by simp; omega
    clear hx
    go_enter Tryz.func86, Tryz.ntmps86
    go_wp2
    go_quiet (fail)
    have HR : Hid (Ko r k W (W.drewN nq) i bad) := ⟨HB.out.dq nq, hi, grown_dq W nq _⟩
    generalize W.drewN nq = W2 at *
    clear c0 c1 HB
    go_wp2
    go_ret
    exact ⟨rfl, HR.out⟩
/-! ### next -/
set_option maxRecDepth 8000 in
theorem next_any (r : Nat) (k : ByteArray) (i : Nat) (hi : i ≤ k.size) (hN : k.size ≤ 1000000000) (bad : Bool) (W : World) (hb : Blk W r 58 [.string k, .int .i64 (i : Int), .bool bad]) :
    Calls Tryz.prog 42 #[.pointer (some ⟨r, 0, none⟩)] W fun e w' => ∃ x j bad', e = .returned (.int .u8 ((x : Nat) : Int)) ∧ x < 256 ∧ Hid (Ko r k W w' j bad' ∧ Rb ((bts k).drop i) bad ((bts k).drop j) bad' x) := by
  by_cases hlt : i < k.size
  · have K := take_ok r k i 1 (i + 1) rfl hlt hN bad W hb
    have hsz : (k.extract i (i + 1)).size = 1 := by simp [ByteArray.size_extract]; omega
    have hd := bts_drop k i hlt
    have hxl := (k[i]'hlt).toNat_lt
    obtain ⟨x, hxe⟩ : ∃ x, x = (k[i]'hlt).toNat := ⟨_, rfl⟩
    rw [← hxe] at hd hxl
    have hB : bts (k.extract i (i + 1)) = [x] := by rw [bts_mid k i 1 hlt, hd]; rfl
    have HD : Hid ((bts k).drop i = x :: (bts k).drop (i + 1)) := hd
    clear hd hxe hb
    generalize k.extract i (i + 1) = S at *
    have h0 : 0 < S.size := by omega
    have hx0 : (S[0]'h0).toNat = x := by rw [← bts_get S 0 h0, hB]; rfl
    clear hB
    go_enter Tryz.func42, Tryz.ntmps42
    go_wp2_with fail
    refine K.mono ?_
    rintro e w1 ⟨rfl, H1⟩
    have d2 : w1.cell? ⟨r, 2, none⟩ = some (.bool bad) := H1.out.blk.cell 2
    clear K
    cases bad with
    | true =>
      go_wp2
      go_ret
      exact ⟨0, i + 1, true, rfl, by omega, H1.out, ⟨[x], HD.out⟩, fun h => (by cases h), fun h => (by cases h)⟩
    | false =>
      go_wp2
      go_ret
      exact ⟨x, i + 1, false, rfl, hxl, H1.out, ⟨[x], HD.out⟩, fun _ => ⟨rfl, fun _ => HD.out⟩, fun _ y m _ hy => by
        rw [HD.out] at hy
        injection hy with h1 h2
        exact ⟨rfl, h1, h2⟩⟩
  · have K := take_no r k i 1 hi (by omega) hN (by omega) bad W hb
    have HD : Hid ((bts k).drop i = []) := List.drop_of_length_le (by rw [bts_len]; omega)
    clear hb
    go_enter Tryz.func42, Tryz.ntmps42
    go_wp2_with fail
    refine K.mono ?_
    rintro e w1 ⟨rfl, H1⟩
    have d2 : w1.cell? ⟨r, 2, none⟩ = some (.bool true) := H1.out.blk.cell 2
    clear K
    go_wp2
    go_ret
    exact ⟨0, i, true, rfl, by omega, H1.out, ⟨[], rfl⟩, fun h => (by cases h), fun _ y m _ hy => by
      rw [HD.out] at hy
      cases hy⟩
end Go.Proofs.YtmlfhplhiedfjaaGreatDoor
