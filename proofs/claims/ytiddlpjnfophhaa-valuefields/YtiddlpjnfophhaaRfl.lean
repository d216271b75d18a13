/-
  The document's own Field.
-/
import Derived.Test.YtiddlpjnfophhaaFld
namespace Go.Proofs.Ytiddlpjnfophhaa
open Go.RowKit
set_option linter.unusedVariables false
set_option maxRecDepth 8000 in
set_option maxHeartbeats 1000000 in
theorem rField (p : Vt) (name : ByteArray) (hp : chkV p 1 = 0) (hwf : WfV p) (hws : ws p ≤ 100000) (na : Option Addr) (nc : Nat) (ka : Option Addr) (kc : Nat) (W : World) (hv : Vl W p na nc ka kc) :
    Calls Try.prog 20 #[.agg #[.int .i64 p.1.k, .int .i64 p.1.n, .int .i64 p.1.s, .string p.1.t, .slice na p.1.ns.length nc, .slice ka p.2.list.length kc], .string name] W fun e w' => ∃ na' nc' ka' kc', e = .returned (.tuple #[.agg #[.int .i64 (fldV p name).1.k, .int .i64 (fldV p name).1.n, .int .i64 (fldV p name).1.s, .string (fldV p name).1.t, .slice na' (fldV p name).1.ns.length nc', .slice ka' (fldV p name).2.list.length kc'], .bool (hasF p name)]) ∧ Hid (Vl w' (fldV p name) na' nc' ka' kc' ∧ Below W.heap.size W w') := by
  obtain ⟨W2, HW2⟩ : ∃ W2, Hid ((W.alloc (.cells #[.int .i64 p.1.k, .int .i64 p.1.n, .int .i64 p.1.s, .string p.1.t, .slice na p.1.ns.length nc, .slice ka p.2.list.length kc] 25)).alloc (.cells #[.int .i64 0, .int .i64 0, .int .i64 0, .string ⟨#[]⟩, .slice none 0 0, .slice none 0 0] 25) = W2) := ⟨_, rfl⟩
  have hkl := hwf.2.1
  have hbW : Below W.heap.size W W2 := by rw [← HW2.out]; exact ((Below.refl _ _).alloc (Nat.le_refl _) _).alloc (by simp) _
  have HB1 : Hid (Blk W2 W.heap.size 25 (six p.1 na nc ka p.2.list.length kc)) := by rw [← HW2.out]; exact (blk_new W 25 (six p.1 na nc ka p.2.list.length kc)).alloc _
  have HB2 : Hid (Blk W2 (W.heap.size + 1) 25 zer) := by
    rw [← HW2.out]
    have h := blk_new (W.alloc (.cells #[.int .i64 p.1.k, .int .i64 p.1.n, .int .i64 p.1.s, .string p.1.t, .slice na p.1.ns.length nc, .slice ka p.2.list.length kc] 25)) 25 zer
    rw [show (W.alloc (.cells #[.int .i64 p.1.k, .int .i64 p.1.n, .int .i64 p.1.s, .string p.1.t, .slice na p.1.ns.length nc, .slice ka p.2.list.length kc] 25)).heap.size = W.heap.size + 1 by simp] at h
    exact h
  obtain ⟨C, hC⟩ : ∃ C : World → Prop, C = fun W' => Below W2.heap.size W2 W' := ⟨_, rfl⟩
  have CB : Hid (∀ W W', C W → Below W.heap.size W W' → C W') := fun W W' h hb => by rw [hC] at h ⊢; exact h.trans (hb.mono h.size)
  have HCw : Hid (C W2) := by rw [hC]; exact Below.refl _ _
  have CE : Hid (∀ W', C W' → Below W.heap.size W W') := fun W' h => by rw [hC] at h; exact hbW.trans (h.mono hbW.size)
  have C1 : Hid (∀ W', C W' → Blk W' W.heap.size 25 (six p.1 na nc ka p.2.list.length kc)) := fun W' h => by rw [hC] at h; exact HB1.out.below h HB1.out.lt
  have C2 : Hid (∀ W', C W' → Blk W' (W.heap.size + 1) 25 zer) := fun W' h => by rw [hC] at h; exact HB2.out.below h HB2.out.lt
  have HSz : Hid (∀ W', C W' → W.heap.size + 2 ≤ W'.heap.size) := fun W' h => by have := (C2.out W' h).lt; show _ ≤ _; omega
  have CV : Hid (∀ W', C W' → Vl W' p na nc ka kc) := fun W' h => hv.below (CE.out W' h)
  have hnl : p.1.ns.length ≤ 100000 := by simp only [ws, wsH] at hws; omega
  by_cases h9 : p.1.k = 9
  case neg =>
    have HNo : Hid (hasF p name = false) := by show _ = _; simp [hasF, h9]
    have t9 : (p.1.k != 9) = true := by simpa using h9
    clear h9 hC hbW hv hwf hws hp
    go_enter Try.func20, Try.ntmps20
    go_wp2_with (generalize hWW : World.alloc (World.alloc W _) _ = W9; obtain rfl : W2 = W9 := (by rw [← hWW, ← HW2.out]); clear hWW HW2; refine st_all rfl 25 (.tmp 4) (.tmp 10) rfl (W.heap.size + 1) 25 zer zer rfl rfl HB2.out rfl s25 zer_one ?_)
    intro w8 b8 g8
    have HB8 : Hid (Blk w8 (W.heap.size + 1) 25 zer) := b8
    have HE8 : Hid (Below W.heap.size W w8) := (CE.out _ HCw.out).grown g8 (CE.out _ HCw.out).size (by intro x hx; injection hx with hx; omega)
    clear b8 g8
    go_wp2
    refine bodyPost_ret (res_two rfl _ (W.heap.size + 1) 25 _ _ rfl HB8.out Try.underlying25 rfl s25) rfl ?_
    have hno := HNo.out
    have e1 : fldV p name = nulV := by unfold fldV; rw [hno]; rfl
    first | rw [e1, hno] | rw [e1]
    exact ⟨none, 0, none, 0, rfl, nul_vl _, HE8.out⟩
  have hr := named_of hp h9
  have HR : Hid (rises ⟨#[]⟩ p.1.ns = true) := hr
  have H9 : Hid (p.1.k = 9) := h9
  have t9 : (p.1.k != 9) = false := by simpa using h9
  have HL9 : Hid (p.1.ns.length = p.2.list.length) := (good_of hp).ns h9
  have HWf : Hid (WfV p) := hwf
  have HWs : Hid (ws p ≤ 100000) := hws
  have HV : Hid (Vl W p na nc ka kc) := hv
  clear hr h9 hC hbW hv hwf hws hp
  go_enter Try.func20, Try.ntmps20
  go_wp2
  generalize hWW : World.alloc (World.alloc W _) _ = W9
  obtain rfl : W2 = W9 := by rw [← hWW, ← HW2.out]
  clear hWW HW2
  go_loopw [6] (fun i wr => ∃ k : Nat, k ≤ p.2.list.length ∧ i = .int .i64 (k : Int) ∧ wr = W2 ∧ Hid (∀ j, j < k → p.1.ns[j]? ≠ some name)) (fun i _ => p.2.list.length - (intOf i).toNat)
  case atStart => exact ⟨0, by omega, rfl, rfl, fun j hj => by omega⟩
  case round =>
    obtain ⟨k, hk, rfl, rfl, HJ⟩ := hrel
    have d4 : wr.cell? ⟨W.heap.size, 4, none⟩ = some (.slice na p.2.list.length nc) := by rw [← HL9.out]; exact (C1.out _ HCw.out).cell 4
    have d5 : wr.cell? ⟨W.heap.size, 5, none⟩ = some (.slice ka p.2.list.length kc) := (C1.out _ HCw.out).cell 5
    by_cases hlt : k < p.2.list.length
    case neg =>
      have HNo : Hid (hasF p name = false) := by
        show _ = _
        simp only [hasF, decide_eq_false_iff_not]
        rintro ⟨_, h2⟩
        have h3 := (List.getElem?_eq_some_iff.1 h2).1
        rw [HL9.out] at h3
        exact HJ.out _ (by omega) h2
      have HBz : Hid (Blk wr (W.heap.size + 1) 25 zer) := C2.out _ HCw.out
      go_wp2_with (refine st_all rfl 25 (.tmp 4) (.tmp 38) rfl (W.heap.size + 1) 25 zer zer rfl rfl HBz.out rfl s25 zer_one ?_)
      intro w8 b8 g8
      have HB8 : Hid (Blk w8 (W.heap.size + 1) 25 zer) := b8
      have HE8 : Hid (Below W.heap.size W w8) := (CE.out _ HCw.out).grown g8 (CE.out _ HCw.out).size (by intro x hx; injection hx with hx; omega)
      clear b8 g8
      go_wp2
      refine bodyPost_ret (res_two rfl _ (W.heap.size + 1) 25 _ _ rfl HB8.out Try.underlying25 rfl s25) rfl ?_
      have hno := HNo.out
      have e1 : fldV p name = nulV := by unfold fldV; rw [hno]; rfl
      first | rw [e1, hno] | rw [e1]
      exact ⟨none, 0, none, 0, rfl, nul_vl _, HE8.out⟩
    obtain ⟨x, hx⟩ : ∃ x, p.1.ns[k]? = some x := ⟨_, List.getElem?_eq_getElem (by rw [HL9.out]; exact hlt)⟩
    obtain ⟨bn, on, rfl, hc⟩ : ∃ b o, na = some ⟨b, o, none⟩ ∧ wr.cell? ⟨b, o + k, none⟩ = some (.string x) := by
      rcases (CV.out _ HCw.out).nms with e | ⟨b, o, e, hc⟩
      · rw [e] at hx; simp at hx
      · exact ⟨b, o, e, hc k x hx⟩
    have HX : Hid (p.1.ns[k]? = some x) := hx
    clear hx
    by_cases he : x.toList == name.toList
    case neg =>
      have he2 : (x.toList == name.toList) = false := by simpa using he
      clear he
      go_wp2
      go_roundw
      case rel =>
        refine ⟨k + 1, by omega, by go_num, trivial, fun j hj => ?_⟩
        by_cases e : j = k
        · subst e
          rw [HX.out]
          intro h
          injection h with h
          rw [h] at he2
          simp at he2
        · exact HJ.out j (by omega)
      case measure => simp [intOf]; omega
    have hxn : x = name := bytes_ext (by simpa using he)
    have hke : k = cnt p.1.ns name := cnt_at HR.out (by rw [HX.out, hxn])
    have hh : hasF p name = true := by
      simp only [hasF, decide_eq_true_eq]
      exact ⟨H9.out, by rw [← hke, HX.out, hxn]⟩
    obtain ⟨q, hq⟩ : ∃ q, p.2.list[k]? = some q := ⟨_, List.getElem?_eq_getElem hlt⟩
    have HF : Hid (fldV p name = q ∧ hasF p name = true) := ⟨by unfold fldV; rw [hh, if_pos rfl, ← hke, hq]; rfl, hh⟩
    obtain ⟨b, o, hka, na', nc', ka', kc', hnd0, hvl0⟩ := HV.out.slc.get hq
    have hb0 := CE.out _ HCw.out
    obtain ⟨c0, c1, c2, c3, c4, c5⟩ := hnd0.below hb0
    have hK := (clone_any _ q (Nat.le_refl _) (HWf.out.kid (List.mem_of_getElem? hq)) (by have h1 := ws_mem (List.mem_of_getElem? hq); have h2 := HWs.out; simp only [ws] at h1 h2 ⊢; omega) na' nc' ka' kc' wr (hvl0.below hb0))
    subst hka
    clear hnd0 hvl0 hb0 hq hh hke hxn
    go_wp2_with fail
    refine hK.mono ?_
    clear hK d4 d5 c0 c1 c2 c3 c4 c5
    rintro e W5 ⟨na5, nc5, ka5, kc5, rfl, H5⟩
    have HV5 : Hid (∃ L, VlL W5 q na5 nc5 ka5 kc5 L ∧ ∀ x ∈ L, W.heap.size + 2 ≤ x ∧ x < W5.heap.size) := by
      obtain ⟨L, y1, y2, y3, y4⟩ := H5.out
      have y5 := HSz.out _ HCw.out
      exact ⟨L, y1, fun x hx => ⟨by have := (y2 x hx).1; omega, (y2 x hx).2⟩⟩
    have HC5 : Hid (C W5) := by
      obtain ⟨L, y1, y2, y3, y4⟩ := H5.out
      exact CB.out _ _ HCw.out y4
    clear HCw H5
    have HCw : Hid (C W5) := HC5.out
    have HBz : Hid (Blk W5 (W.heap.size + 1) 25 zer) := C2.out _ HCw.out
    go_wp2_with (refine st_all rfl 25 (.tmp 4) (.tmp 37) rfl (W.heap.size + 1) 25 zer (six q.1 na5 nc5 ka5 q.2.list.length kc5) rfl rfl HBz.out rfl s25 (six_one _ _ _ _ _ _) ?_)
    intro w8 b8 g8
    have HB8 : Hid (Blk w8 (W.heap.size + 1) 25 (six q.1 na5 nc5 ka5 q.2.list.length kc5)) := b8
    have HE8 : Hid (Below W.heap.size W w8 ∧ Vl w8 q na5 nc5 ka5 kc5) := by
      obtain ⟨L, y1, y2⟩ := HV5.out
      refine ⟨(CE.out _ HCw.out).grown g8 (CE.out _ HCw.out).size (by intro x hx; injection hx with hx; omega), (y1.keep fun x hx => ?_).vl⟩
      have := y2 x hx
      exact g8.block x this.2 (by intro c; injection c with c; omega)
    clear b8 g8
    go_wp2
    refine bodyPost_ret (res_two rfl _ (W.heap.size + 1) 25 _ _ rfl HB8.out Try.underlying25 rfl s25) rfl ?_
    rw [HF.out.1, HF.out.2]
    exact ⟨na5, nc5, ka5, kc5, rfl, HE8.out.2, HE8.out.1⟩
end Go.Proofs.Ytiddlpjnfophhaa
