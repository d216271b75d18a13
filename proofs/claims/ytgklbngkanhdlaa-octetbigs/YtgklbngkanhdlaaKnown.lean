/-
  The contract of the law package's known: it returns true, and changes nothing that was there.
-/
import Derived.Test.YtgklbngkanhdlaaSum
import Derived.Test.YtgklbngkanhdlaaRuv
import Derived.Lib.SlBytesConst
namespace Go.Proofs.Ytgklbngkanhdlaa
open Go.RowKit Math
theorem ruv_known : ruv [172, 2, 255] 0 0 = (300, 2, 0) := by decide
theorem crc_known : 4294967295 - crcT 4294967295 [49, 50, 51, 52, 53, 54, 55, 56, 57] = 3421780262 := by decide
theorem known_ruv (w : World) (b : Nat) (h0 : w.cell? ⟨b, 0, none⟩ = some (.int .u8 172)) (h1 : w.cell? ⟨b, 1, none⟩ = some (.int .u8 2)) (h2 : w.cell? ⟨b, 2, none⟩ = some (.int .u8 255)) :
    Calls Try.prog 12 #[.slice (some ⟨b, 0, none⟩) 3 3] w fun e w' => e = .returned (.tuple #[.int .u64 300, .int .i64 2, .int .i64 0]) ∧ w' = w := by
  have h := ruv_any (some ⟨b, 0, none⟩) 3 [172, 2, 255] (by decide) w (.inr ⟨b, 0, rfl, fun i hi => by
    match i, hi with
    | 0, _ => exact h0
    | 1, _ => exact h1
    | 2, _ => exact h2⟩) (by unfold Oct; decide)
  rw [ruv_known] at h
  exact h
theorem known_sum (w : World) (b : Nat) (h : ∀ i, i < 9 → w.cell? ⟨b, i, none⟩ = some (.int .u8 ((49 + i : Nat) : Int))) :
    Calls Try.prog 29 #[.slice (some ⟨b, 0, none⟩) 9 9] w fun e w' => e = .returned (.int .u32 3421780262) ∧ w' = tabW w := by
  have h := sum_any (some ⟨b, 0, none⟩) 9 [49, 50, 51, 52, 53, 54, 55, 56, 57] (by decide) w (.inr ⟨b, 0, rfl, fun i hi => by
    rw [Nat.zero_add, h i hi]
    match i, hi with
    | 0, _ | 1, _ | 2, _ | 3, _ | 4, _ | 5, _ | 6, _ | 7, _ | 8, _ => rfl⟩) (by unfold Oct; decide)
  rw [crc_known] at h
  exact h

theorem conv_same (W : World) (m : Nat) (C : Array Value) (n c : Nat) (hm : m = W.heap.size) : (convert 23 23 (.slice (some ⟨m, 0, none⟩) n c)).run Try.prog (W.alloc (.cells C 5)) = .ok (.slice (some ⟨m, 0, none⟩) n c) (W.alloc (.cells C 5 (C.size, C.size + 1))) := by
  subst hm
  exact Lib.run_convert_bytes_const (P := Try.prog) W 23 5 C n c Try.underlying23 Try.underlying5
set_option maxHeartbeats 400000 in
theorem known_any (w : World) : Calls Try.prog 13 #[] w fun e w' => e = .returned (.bool true) ∧ Below w.heap.size w w' := by
  have hcv := conv_same
  go_enter Try.func13, Try.ntmps13
  go_wp2_with fail
  refine (known_ruv _ _ (by simp [go_sem]) (by simp [go_sem]) (by simp [go_sem])).mono ?_
  rintro e w' ⟨rfl, rfl⟩
  go_wp2_with fail
  refine (known_sum _ _ (fun i hi => ?_)).mono ?_
  · have hk := World.cell?_alloc_mark (w.alloc (.cells #[.int .u8 172, .int .u8 2, .int .u8 255] 5)) #[.int .u8 49, .int .u8 50, .int .u8 51, .int .u8 52, .int .u8 53, .int .u8 54, .int .u8 55, .int .u8 56, .int .u8 57] 5 (9, 10) i
    rw [show (w.alloc (.cells #[.int .u8 172, .int .u8 2, .int .u8 255] 5)).heap.size = w.heap.size + 1 by simp] at hk
    refine hk.trans ?_
    match i, hi with
    | 0, _ | 1, _ | 2, _ | 3, _ | 4, _ | 5, _ | 6, _ | 7, _ | 8, _ => rfl
  rintro e w' ⟨rfl, rfl⟩
  go_wp2
  go_ret
  refine ⟨rfl, ?_⟩
  unfold tabW
  exact (((Below.refl _ _).alloc (Nat.le_refl _) _).alloc (by simp) _).alloc (by simp; omega) _
#print axioms known_any
end Go.Proofs.Ytgklbngkanhdlaa
