/-
  The law package's heavy.
-/
import Derived.Test.YtiddlpjnfophhaaGrt
namespace Go.Proofs.Ytiddlpjnfophhaa
open Go.RowKit
set_option linter.unusedVariables false
set_option maxRecDepth 8000 in
set_option maxHeartbeats 4000000 in
theorem heavy_any (f : Fo) (hwf : Wf f) (b o n c : Nat) (hn : f.list.length = n) (hn2 : n ≤ 1000) (w : World) (h : At w f b o) :
    Calls Try.prog 7 #[.slice (some ⟨b, o, none⟩) n c] w fun e w' => ∃ t, e = .returned (.bool t) ∧ Hid ((t = false → f.ws ≤ 2500) ∧ Below w.heap.size w w') := by
  have HN : Hid (f.list.length = n) := hn
  have HW : Hid (Wf f) := hwf
  have HA : Hid (At w f b o) := h
  have HB0 : Hid (Blk (w.alloc (.cells #[.int .i64 0] 3)) w.heap.size 3 [.int .i64 ((0 : Nat) : Int)]) := blk_new w 3 [.int .i64 0]
  have HG0 : Hid (Below w.heap.size w (w.alloc (.cells #[.int .i64 0] 3))) := (Below.refl _ _).alloc (Nat.le_refl _) _
  clear hn hwf h
  go_enter Try.func7, Try.ntmps7
  go_wp2
  generalize w.alloc (.cells #[.int .i64 0] 3) = w1 at *
  go_loopw [4] (fun i wr => ∃ k m : Nat, k ≤ n ∧ i = .int .i64 (k : Int) ∧ m ≤ 2500 ∧ Hid (Blk wr w.heap.size 3 [.int .i64 (m : Int)]) ∧ Hid (Below w.heap.size w wr) ∧ Hid (f.ws ≤ m + (f.drop k).ws)) (fun i _ => n - (intOf i).toNat)
  case atStart => exact ⟨0, 0, by omega, rfl, by omega, HB0.out, HG0.out, show f.ws ≤ 0 + (f.drop 0).ws by simp [Fo.drop]⟩
  case round =>
    obtain ⟨k, m, hk0, rfl, hm, HBk, HBw, HM⟩ := hrel
    by_cases hlt : k < n
    case neg =>
      go_wp2
      go_ret
      refine ⟨false, rfl, ⟨fun _ => ?_, HBw.out⟩⟩
      have h1 := HM.out
      rw [Fo.drop_end _ _ (by rw [HN.out]; omega)] at h1
      simp only [Fo.ws] at h1
      omega
    obtain ⟨q, hq⟩ : ∃ q, f.list[k]? = some q := ⟨_, List.getElem?_eq_getElem (by rw [HN.out]; exact hlt)⟩
    obtain ⟨na', nc', ka', kc', hnd, hvl⟩ := HA.out.get hq
    have HQ := great_any _ q (Nat.le_refl _) (wf_mem HW.out (List.mem_of_getElem? hq)) na' nc' ka' kc' w.heap.size m w wr hvl HBw.out (Nat.le_refl _) HBk.out hm
    obtain ⟨d0, d1, d2, d3, d4, d5⟩ := hnd.below HBw.out
    have HWq : Hid ((f.drop k).ws = ws q + (f.drop (k + 1)).ws) := ws_step hq
    generalize ws q = WQ at *
    clear hnd hvl hq
    go_wp2_with fail
    refine HQ.mono ?_
    rintro e w3 ⟨m3, rfl, h3⟩
    clear HQ
    have HB3 : Hid (Below w.heap.size w w3) := HBw.out.grown h3.out.gr HBw.out.size (fun k e => by cases e; exact Nat.le_refl _)
    by_cases hbig : 2500 < m3
    · have hb2 : decide (2500 < m3) = true := by simp [hbig]
      go_wp2
      go_ret
      exact ⟨true, rfl, ⟨(fun e => by cases e), HB3.out⟩⟩
    · have hb2 : decide (2500 < m3) = false := by simp [hbig]
      go_wp2
      go_roundw
      case rel =>
        refine ⟨k + 1, m3, by omega, by go_num, by omega, h3.out.blk, HB3.out, ?_⟩
        have h5 := h3.out.ge (by omega)
        have h6 := HM.out
        have h7 := HWq.out
        show f.ws ≤ m3 + _
        omega
      case measure => simp [intOf]; omega
#print axioms heavy_any
end Go.Proofs.Ytiddlpjnfophhaa
