/-
  OrderSorts' walk.
-/
import Derived.Test.YtoggcabenjmnoaaDoorTb
import Derived.Test.YtoggcabenjmnoaaDoorLee
import Derived.Test.YtoggcabenjmnoaaDoorPp
namespace Go.Proofs.YtoggcabenjmnoaaDoor
open Go.RowKit Math
set_option linter.unusedVariables false
set_option linter.unusedSimpArgs false
theorem chkL_chk : ∀ {f : Fo}, chkL f = 0 → chk f 1 = 0
  | .nil, _ => rfl
  | .cons h k r, hc => by
    unfold chkL at hc
    rw [show chk (.cons h k r) 1 = if chkV (h, k) 1 ≠ 0 then chkV (h, k) 1 else chk r 1 from rfl]
    split at hc
    · next x => exact absurd hc x
    · next x => rw [if_neg x]; exact chkL_chk hc
/-- The keys of two lists, and the lists' order. -/
theorem keyT_sort {f g : Fo} (hw : Wf f) (hw' : Wf g) (hf : chkL f = 0) (hg : chkL g = 0) :
    Op.bytesLess (keyT f).toList (keyT g).toList = decide (cmpF f false [] g [] < 0) ∧ ((keyT f).toList == (keyT g).toList) = decide (cmpF f false [] g [] = 0) := by
  obtain ⟨h1, h2⟩ := keys_sort f g 1 1 hw hw' (chkL_chk hf) (chkL_chk hg)
  have o1 := keyF_oct f false [] hw (chkL_flat f hf)
  have o2 := keyF_oct g false [] hw' (chkL_flat g hg)
  rw [keyT_yes hf, keyT_yes hg]
  refine ⟨by rw [less_blt, bts_ofB _ o1, bts_ofB _ o2]; exact h1, ?_⟩
  rw [Bool.eq_iff_iff, beq_iff_eq, decide_eq_true_eq, ← h2]
  constructor
  · intro e
    have : ofB (keyF f false []) = ofB (keyF g false []) := bytes_ext e
    rw [← bts_ofB _ o1, ← bts_ofB _ o2, this]
  · intro e; rw [e]
set_option maxRecDepth 8000 in
set_option maxHeartbeats 4000000 in
theorem sorts_walk (f : Fo) (hw : Wf f) (hlen : f.list.length ≤ 140737488355328) (ka : Option Addr) (kc : Nat) (g : Fo) (hwg : Wf g) (hlg : g.list.length ≤ 140737488355328) (kb : Option Addr) (kd : Nat) (W : World) (hv : Lv W ka kc f) (hvg : Lv W kb kd g) (hm : Mx W) :
    Calls Tryd.prog 4 #[.slice ka f.list.length kc, .slice kb g.list.length kd] W fun e w' => e = .returned (.bool true) ∧ Below W.heap.size W w' := by
  obtain ⟨C, hC⟩ : ∃ C : World → Prop, C = fun w => Below W.heap.size W w := ⟨_, rfl⟩
  have CE : Hid (∀ w, C w → Below W.heap.size W w) := fun w h => by rw [hC] at h; exact h
  have CI : Hid (∀ w, Below W.heap.size W w → C w) := fun w h => by rw [hC]; exact h
  have CB : Hid (∀ w w', C w → Below w.heap.size w w' → C w') := fun w w' h hb => by rw [hC] at h ⊢; exact h.trans (hb.mono h.size)
  have CD : Hid (∀ w, C w → C { w with drawn := w.drawn + 1 }) := fun w h => by rw [hC] at h ⊢; exact h.drew
  have C0 : Hid (C W) := by show C W; rw [hC]; exact Below.refl _ _
  have hCp : ∀ p : Prop, (∀ W, C W → p) ↔ p := fun p => ⟨fun h => h _ C0.out, fun h _ _ => h⟩
  have KH1 : Hid (∀ w, C w → Calls Tryd.prog 6 #[.slice ka f.list.length kc] w fun e w' => ∃ t, e = .returned (.bool t) ∧ Hid ((t = false → f.ws ≤ 2000) ∧ C w')) := fun w h => by
    refine (heavy_any f hw hlen ka kc w (Lv.below hv (CE.out w h))).mono ?_
    rintro e w' ⟨t, rfl, H⟩
    exact ⟨t, rfl, H.out.1, CB.out _ _ h H.out.2⟩
  have KH2 : Hid (∀ w, C w → Calls Tryd.prog 6 #[.slice kb g.list.length kd] w fun e w' => ∃ t, e = .returned (.bool t) ∧ Hid ((t = false → g.ws ≤ 2000) ∧ C w')) := fun w h => by
    refine (heavy_any g hwg hlg kb kd w (Lv.below hvg (CE.out w h))).mono ?_
    rintro e w' ⟨t, rfl, H⟩
    exact ⟨t, rfl, H.out.1, CB.out _ _ h H.out.2⟩
  have KK1 : Hid (f.ws ≤ 2000 → ∀ w, C w → Calls Tryd.prog 7 #[.slice ka f.list.length kc] w fun e w' => e = .returned (.tuple #[.string (keyT f), .int .i64 (chkL f)]) ∧ C w') := fun hs w h => by
    refine (key_any f hw hlen ka kc w (Lv.below hv (CE.out w h)) (hm.below (CE.out w h) hm.pos) (key_short f hs)).mono ?_
    rintro e w' ⟨rfl, hb⟩
    exact ⟨rfl, CB.out _ _ h hb⟩
  have KK2 : Hid (g.ws ≤ 2000 → ∀ w, C w → Calls Tryd.prog 7 #[.slice kb g.list.length kd] w fun e w' => e = .returned (.tuple #[.string (keyT g), .int .i64 (chkL g)]) ∧ C w') := fun hs w h => by
    refine (key_any g hwg hlg kb kd w (Lv.below hvg (CE.out w h)) (hm.below (CE.out w h) hm.pos) (key_short g hs)).mono ?_
    rintro e w' ⟨rfl, hb⟩
    exact ⟨rfl, CB.out _ _ h hb⟩
  have KN : Hid (∀ w, C w → Calls Tryd.prog 9 #[] w fun e w' => e = .returned (.bool true) ∧ C w') := fun w h => by
    refine (known_any w (hm.below (CE.out w h) hm.pos)).mono ?_
    rintro e w' ⟨rfl, hb⟩
    exact ⟨rfl, CB.out _ _ h hb⟩
  have KP : Hid (∀ k p', f.list[k]? = some p' → ∃ b o, ka = some ⟨b, o, none⟩ ∧ ∃ na' nc' ka' kc', (∀ W, C W → Nd W b (o + k * 6) p'.1 na' nc' ka' p'.2.list.length kc') ∧ ∀ W, C W → Vl W p' na' nc' ka' kc') := fun k p' hp' => by
    obtain ⟨b, o, e, na', nc', ka', kc', hnd, hvl⟩ := hv.slc.get hp'
    exact ⟨b, o, e, na', nc', ka', kc', fun W h => hnd.below (CE.out W h), fun W h => hvl.below (CE.out W h)⟩
  have KQ : Hid (∀ k p', g.list[k]? = some p' → ∃ b o, kb = some ⟨b, o, none⟩ ∧ ∃ na' nc' ka' kc', (∀ W, C W → Nd W b (o + k * 6) p'.1 na' nc' ka' p'.2.list.length kc') ∧ ∀ W, C W → Vl W p' na' nc' ka' kc') := fun k p' hp' => by
    obtain ⟨b, o, e, na', nc', ka', kc', hnd, hvl⟩ := hvg.slc.get hp'
    exact ⟨b, o, e, na', nc', ka', kc', fun W h => hnd.below (CE.out W h), fun W h => hvl.below (CE.out W h)⟩
  have HSo : Hid (chkL f = 0 → chkL g = 0 → Op.bytesLess (keyT f).toList (keyT g).toList = decide (cmpF f false [] g [] < 0) ∧ ((keyT f).toList == (keyT g).toList) = decide (cmpF f false [] g [] = 0)) := fun h1 h2 => keyT_sort hw hwg h1 h2
  have HOr : Hid (∀ p' q' : Vt, p' ∈ f.list → q' ∈ g.list → chkL f = 0 → chkL g = 0 → ∀ (na : Option Addr) (nc : Nat) (ka : Option Addr) (kc : Nat) (na2 : Option Addr) (nc2 : Nat) (ka2 : Option Addr) (kc2 : Nat) (W : World), C W → Vl W p' na nc ka kc → Vl W q' na2 nc2 ka2 kc2 →
      Calls Tryd.prog 10 #[.agg #[.int .i64 p'.1.k, .int .i64 p'.1.n, .int .i64 p'.1.s, .string p'.1.t, .slice na p'.1.ns.length nc, .slice ka p'.2.list.length kc], .agg #[.int .i64 q'.1.k, .int .i64 q'.1.n, .int .i64 q'.1.s, .string q'.1.t, .slice na2 q'.1.ns.length nc2, .slice ka2 q'.2.list.length kc2]] W
        fun e w' => e = .returned (.int .i64 (ordV p' q')) ∧ C w') := fun p' q' m1 m2 c1 c2 na nc ka kc na2 nc2 ka2 kc2 W hW v1 v2 => by
    refine (rorder_any _ p' (Nat.le_refl _) (good_of (chk_mem (chkL_chk c1) m1)) (wf_mem hw m1) q' (good_of (chk_mem (chkL_chk c2) m2)) (wf_mem hwg m2) na nc ka kc na2 nc2 ka2 kc2 W v1 v2).mono ?_
    rintro e w' ⟨rfl, hb⟩
    exact ⟨rfl, CB.out _ _ hW hb⟩
  clear hC CB CI hv hvg hw hwg hm
  go_enter Tryd.func4, Tryd.ntmps4
  have K1 := KH1.out W C0.out
  go_wp2_with fail
  refine K1.mono ?_
  rintro e w1 ⟨t, rfl, H1⟩
  have HB1 : Hid (C w1) := H1.out.2
  cases t
  case true =>
    clear K1 H1
    go_wp2
    go_ret
    exact ⟨rfl, CE.out _ HB1.out⟩
  have hws : Hid (f.ws ≤ 2000) := H1.out.1 rfl
  clear K1 H1 KH1
  have K1 := KH2.out w1 HB1.out
  go_wp2_with fail
  refine K1.mono ?_
  rintro e w2 ⟨t, rfl, H1⟩
  have HB2 : Hid (C w2) := H1.out.2
  clear HB1
  cases t
  case true =>
    clear K1 H1
    go_wp2
    go_ret
    exact ⟨rfl, CE.out _ HB2.out⟩
  have hwt : Hid (g.ws ≤ 2000) := H1.out.1 rfl
  clear K1 H1 KH2
  have K1 := KK1.out hws.out w2 HB2.out
  go_wp2_with fail
  refine K1.mono ?_
  rintro e w3 ⟨rfl, h3⟩
  have HB3 : Hid (C w3) := h3
  clear K1 h3 HB2
  have K1 := KK2.out hwt.out w3 HB3.out
  go_wp2_with fail
  refine K1.mono ?_
  rintro e w4 ⟨rfl, h4⟩
  have HB4 : Hid (C w4) := h4
  clear K1 h4 HB3
  have K1 := KN.out w4 HB4.out
  clear KK1 KK2 hws hwt C0
  by_cases hcf : chkL f = 0
  case neg =>
    clear HSo HOr KP KQ
    generalize chkL f = E at *
    have hE : (E != 0) = true := by simpa using hcf
    go_wp2_with fail
    refine K1.mono ?_
    rintro e w5 ⟨rfl, h5⟩
    have HB5 : Hid (C w5) := h5
    clear K1 h5
    go_wp2
    go_ret
    exact ⟨rfl, CE.out _ HB5.out⟩
  by_cases hcg : chkL g = 0
  case neg =>
    clear HSo HOr KP KQ
    rw [hcf]
    generalize chkL g = E at *
    have hE : (E != 0) = true := by simpa using hcg
    go_wp2_with fail
    refine K1.mono ?_
    rintro e w5 ⟨rfl, h5⟩
    have HB5 : Hid (C w5) := h5
    clear K1 h5
    go_wp2
    go_ret
    exact ⟨rfl, CE.out _ HB5.out⟩
  clear K1
  obtain ⟨R, HR⟩ : ∃ R, Hid (R = cmpF (f.drop 0) false [] (g.drop 0) []) := ⟨_, rfl⟩
  have HL : Hid (Op.bytesLess (keyT f).toList (keyT g).toList = decide (R < 0) ∧ ((keyT f).toList == (keyT g).toList) = decide (R = 0)) := by
    have := HSo.out hcf hcg
    have e := HR.out
    simp only [Fo.drop] at e
    rw [← e] at this
    exact this
  have HO2 : Hid (∀ p' q' : Vt, p' ∈ f.list → q' ∈ g.list → ∀ (na : Option Addr) (nc : Nat) (ka : Option Addr) (kc : Nat) (na2 : Option Addr) (nc2 : Nat) (ka2 : Option Addr) (kc2 : Nat) (W : World), C W → Vl W p' na nc ka kc → Vl W q' na2 nc2 ka2 kc2 →
      Calls Tryd.prog 10 #[.agg #[.int .i64 p'.1.k, .int .i64 p'.1.n, .int .i64 p'.1.s, .string p'.1.t, .slice na p'.1.ns.length nc, .slice ka p'.2.list.length kc], .agg #[.int .i64 q'.1.k, .int .i64 q'.1.n, .int .i64 q'.1.s, .string q'.1.t, .slice na2 q'.1.ns.length nc2, .slice ka2 q'.2.list.length kc2]] W
        fun e w' => e = .returned (.int .i64 (ordV p' q')) ∧ C w') := fun p' q' m1 m2 => HOr.out p' q' m1 m2 hcf hcg
  rw [hcf, hcg]
  clear HSo HOr hcf hcg
  generalize keyT f = J at *
  generalize keyT g = K at *
  go_wp2
  go_loopw [9, 10] (fun c i wr => ∃ (k : Nat) (cc : Int), k ≤ f.list.length ∧ k ≤ g.list.length ∧ i = .int .i64 (k : Int) ∧ c = .int .i64 cc ∧ Hid (C wr) ∧ Hid (if cc = 0 then R = cmpF (f.drop k) false [] (g.drop k) [] else R = cc)) (fun c i _ => f.list.length - (intOf i).toNat)
  case atStart => exact ⟨0, 0, by omega, by omega, rfl, rfl, HB4.out, by show ite _ _ _; rw [if_pos rfl]; exact HR.out⟩
  case round =>
    clear HB4
    obtain ⟨k, cc, hk0, hk1, rfl, rfl, HCw, HRk⟩ := hrel
    by_cases hcc : cc = 0
    case neg =>
      have hR : R = cc := by have := HRk.out; rwa [if_neg hcc] at this
      subst hR
      clear HRk HR KP KQ HO2
      have K1 := KN.out wr HCw.out
      obtain ⟨l1, l2⟩ := HL.out
      clear HL
      have z : (R == 0) = false := by simpa using hcc
      rw [decide_eq_false hcc] at l2
      by_cases h1 : k < f.list.length
      all_goals by_cases h2 : k < g.list.length
      all_goals
        by_cases hneg : R < 0
      all_goals
        first | rw [decide_eq_true hneg] at l1 | rw [decide_eq_false hneg] at l1
        go_wp2_with fail
        refine K1.mono ?_
        rintro e w5 ⟨rfl, h5⟩
        have HB5 : Hid (C w5) := h5
        clear K1 h5
        go_wp2
        go_ret
        exact ⟨rfl, CE.out _ HB5.out⟩
    subst hcc
    have HRk2 : Hid (R = cmpF (f.drop k) false [] (g.drop k) []) := by have := HRk.out; rwa [if_pos rfl] at this
    clear HRk HR
    by_cases h12 : k < f.list.length ∧ k < g.list.length
    case neg =>
      have hF : R = sg (f.list.length : Int) (g.list.length : Int) := by
        have h1 := cmpF_end (st := false) (ns := []) (ms := []) hk0 hk1 (by omega)
        simp only [List.drop_nil] at h1
        exact HRk2.out.trans h1
      clear KP KQ HO2 HRk2
      have K1 := KN.out wr HCw.out
      obtain ⟨l1, l2⟩ := HL.out
      clear HL
      generalize f.list.length = n at *
      generalize g.list.length = m at *
      rcases Nat.lt_trichotomy n m with hnm | hnm | hnm
      · rw [sg_lt (by omega)] at hF
        subst hF
        rw [decide_eq_true (by decide)] at l1
        rw [decide_eq_false (by decide)] at l2
        have h1 : ¬ k < n := by omega
        have z : ((n : Int) - (m : Int) == 0) = false := by simp; omega
        have y : decide ((n : Int) - (m : Int) < 0) = true := by simp; omega
        go_wp2_with fail
        refine K1.mono ?_
        rintro e w5 ⟨rfl, h5⟩
        have HB5 : Hid (C w5) := h5
        clear K1 h5
        go_wp2
        go_ret
        exact ⟨rfl, CE.out _ HB5.out⟩
      · subst hnm
        rw [sg_self] at hF
        subst hF
        rw [decide_eq_false (by decide)] at l1
        rw [decide_eq_true (by decide)] at l2
        have h1 : ¬ k < n := by omega
        go_wp2_with fail
        refine K1.mono ?_
        rintro e w5 ⟨rfl, h5⟩
        have HB5 : Hid (C w5) := h5
        clear K1 h5
        go_wp2
        go_ret
        exact ⟨rfl, CE.out _ HB5.out⟩
      · rw [sg_gt (by omega)] at hF
        subst hF
        rw [decide_eq_false (by decide)] at l1
        rw [decide_eq_false (by decide)] at l2
        have h1 : k < n := by omega
        have h2 : ¬ k < m := by omega
        have z : ((n : Int) - (m : Int) == 0) = false := by simp; omega
        have y : decide ((n : Int) - (m : Int) < 0) = false := by simp; omega
        go_wp2_with fail
        refine K1.mono ?_
        rintro e w5 ⟨rfl, h5⟩
        have HB5 : Hid (C w5) := h5
        clear K1 h5
        go_wp2
        go_ret
        exact ⟨rfl, CE.out _ HB5.out⟩
    obtain ⟨h1, h2⟩ := h12
    obtain ⟨p', hp'⟩ : ∃ p', f.list[k]? = some p' := ⟨_, List.getElem?_eq_getElem h1⟩
    obtain ⟨q', hq'⟩ : ∃ q', g.list[k]? = some q' := ⟨_, List.getElem?_eq_getElem h2⟩
    obtain ⟨b, o, rfl, na', nc', ka', kc', hnd, hvl⟩ := KP.out k p' hp'
    obtain ⟨b2, o2, rfl, na3, nc3, ka3, kc3, hnd2, hvl2⟩ := KQ.out k q' hq'
    have k1 : Hid (∀ W, C W → Calls Tryd.prog 10 #[.agg #[.int .i64 p'.1.k, .int .i64 p'.1.n, .int .i64 p'.1.s, .string p'.1.t, .slice na' p'.1.ns.length nc', .slice ka' p'.2.list.length kc'], .agg #[.int .i64 q'.1.k, .int .i64 q'.1.n, .int .i64 q'.1.s, .string q'.1.t, .slice na3 q'.1.ns.length nc3, .slice ka3 q'.2.list.length kc3]] W fun e w' => e = .returned (.int .i64 (ordV p' q')) ∧ C w') := fun W hW =>
      HO2.out p' q' (List.mem_of_getElem? hp') (List.mem_of_getElem? hq') na' nc' ka' kc' na3 nc3 ka3 kc3 W hW (hvl W hW) (hvl2 W hW)
    have n1 : Hid (∀ W, C W → Nd W b (o + k * 6) p'.1 na' nc' ka' p'.2.list.length kc') := hnd
    have n2 : Hid (∀ W, C W → Nd W b2 (o2 + k * 6) q'.1 na3 nc3 ka3 q'.2.list.length kc3) := hnd2
    have HS : Hid (R = if ordV p' q' ≠ 0 then ordV p' q' else cmpF (f.drop (k + 1)) false [] (g.drop (k + 1)) []) := by
      show _ = _
      have h1 := cmpF_step (st := false) (ns := []) (ms := []) hp' hq'
      simp only [List.drop_nil] at h1
      rw [HRk2.out, h1]
      simp
    clear hnd hnd2 hvl hvl2 HRk2 hp' hq' KP KQ HO2
    generalize ordV p' q' = E at *
    go_wp2
    refine q_region (C := C) (by kernel_rfl) (by kernel_rfl) (CD.out _ HCw.out) ?_
    repeat (first
      | go_big_quiet_skip
      | (go_big_quiet_want
         first
         | (refine q_val (.tmp 52) rfl b (o + k * 6) rfl _ _ _ _ _ _ n1.out ?_
            simp only [Act.put, List.setIfInBounds_toArray, List.set_cons_zero, List.set_cons_succ]
            go_big_quiet_on)
         | (refine q_val (.tmp 56) rfl b2 (o2 + k * 6) rfl _ _ _ _ _ _ n2.out ?_
            simp only [Act.put, List.setIfInBounds_toArray, List.set_cons_zero, List.set_cons_succ]
            go_big_quiet_on)
         | (go_big_quiet_op
            first
            | go_big_quiet_on
            | (apply Exists.intro
               refine ⟨?_, ?_⟩
               · first
                 | exact k1.out
               go_big_quiet_on))))
    refine wpQuiet_nil ?_
    clear HCw
    intro W hW
    have HCw : Hid (C W) := hW
    clear hW k1 n1 n2
    have HS2 : Hid (if E = 0 then R = cmpF (f.drop (k + 1)) false [] (g.drop (k + 1)) [] else R = E) := by
      have h := HS.out
      show ite _ _ _
      by_cases hE : E = 0
      · rw [if_pos hE]; rw [if_neg (by simp [hE])] at h; exact h
      · rw [if_neg hE]; rw [if_pos hE] at h; exact h
    clear HS
    go_wp2
    go_roundw
    case rel => exact ⟨k + 1, E, by omega, by omega, by go_num, rfl, HCw.out, HS2.out⟩
    case measure => simp [intOf]; omega
end Go.Proofs.YtoggcabenjmnoaaDoor
