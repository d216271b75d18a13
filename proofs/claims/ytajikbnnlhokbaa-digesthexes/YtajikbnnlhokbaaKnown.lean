/-
  The contract of the law package's known: two digests are as the document says.
-/
import Derived.Test.YtajikbnnlhokbaaLeaf
import Derived.Test.YtajikbnnlhokbaaHex
import Derived.Test.YtajikbnnlhokbaaEv
import Derived.Lib.SlBytesConst
namespace Go.Proofs.Ytajikbnnlhokbaa
open Go.RowKit Math
def abcT : ByteArray := { data := #[98, 97, 55, 56, 49, 54, 98, 102, 56, 102, 48, 49, 99, 102, 101, 97, 52, 49, 52, 49, 52, 48, 100, 101, 53, 100, 97, 101, 50, 50, 50, 51, 98, 48, 48, 51, 54, 49, 97, 51, 57, 54, 49, 55, 55, 97, 57, 99, 98, 52, 49, 48, 102, 102, 54, 49, 102, 50, 48, 48, 49, 53, 97, 100] }
def leafT : ByteArray := { data := #[54, 101, 51, 52, 48, 98, 57, 99, 102, 102, 98, 51, 55, 97, 57, 56, 57, 99, 97, 53, 52, 52, 101, 54, 98, 98, 55, 56, 48, 97, 50, 99, 55, 56, 57, 48, 49, 100, 51, 102, 98, 51, 51, 55, 51, 56, 55, 54, 56, 53, 49, 49, 97, 51, 48, 54, 49, 55, 97, 102, 97, 48, 49, 100] }
theorem abc_hex : strOfNums ((hexL (D [97, 98, 99]) 32).map fun n : Nat => (n : Int)) = abcT := by
  rw [D_abc]; kernel_rfl
theorem leaf_hex : strOfNums ((hexL (D [0]) 32).map fun n : Nat => (n : Int)) = leafT := by
  rw [D_zero]; kernel_rfl
theorem abc_eq : (abcT.toList == [98, 97, 55, 56, 49, 54, 98, 102, 56, 102, 48, 49, 99, 102, 101, 97, 52, 49, 52, 49, 52, 48, 100, 101, 53, 100, 97, 101, 50, 50, 50, 51, 98, 48, 48, 51, 54, 49, 97, 51, 57, 54, 49, 55, 55, 97, 57, 99, 98, 52, 49, 48, 102, 102, 54, 49, 102, 50, 48, 48, 49, 53, 97, 100]) = true := by kernel_rfl
theorem leaf_eq : (leafT.toList == [54, 101, 51, 52, 48, 98, 57, 99, 102, 102, 98, 51, 55, 97, 57, 56, 57, 99, 97, 53, 52, 52, 101, 54, 98, 98, 55, 56, 48, 97, 50, 99, 55, 56, 57, 48, 49, 100, 51, 102, 98, 51, 51, 55, 51, 56, 55, 54, 56, 53, 49, 49, 97, 51, 48, 54, 49, 55, 97, 102, 97, 48, 49, 100]) = true := by kernel_rfl
theorem conv_same (W : World) (m : Nat) (C : Array Value) (n c : Nat) (hm : m = W.heap.size) : (convert 22 22 (.slice (some ⟨m, 0, none⟩) n c)).run Try.prog (W.alloc (.cells C 5)) = .ok (.slice (some ⟨m, 0, none⟩) n c) (W.alloc (.cells C 5 (C.size, C.size + 1))) := by
  subst hm
  exact Lib.run_convert_bytes_const (P := Try.prog) W 22 5 C n c Try.underlying22 Try.underlying5
set_option maxHeartbeats 1000000 in
set_option maxRecDepth 8000 in
theorem known_any (w : World) : Calls Try.prog 10 #[] w fun e w' => e = .returned (.bool true) ∧ Below w.heap.size w w' := by
  obtain ⟨A, HA⟩ : ∃ A, Hid (A = D [97, 98, 99]) := ⟨_, rfl⟩
  obtain ⟨B, HB⟩ : ∃ B, Hid (B = D [0]) := ⟨_, rfl⟩
  have hSum : Hid (∀ (W : World) (b : Nat), Cells W b 0 [97, 98, 99] → Calls Try.prog 7 #[.slice (some ⟨b, 0, none⟩) 3 3] W fun e w' => e = .returned (.agg (nums .u8 A).toArray) ∧ Below W.heap.size W w') := by
    intro W b hc
    rw [HA.out]
    exact sum_any (some ⟨b, 0, none⟩) 3 [97, 98, 99] (by simp) W (.inr ⟨b, 0, rfl, hc⟩) (Nat.le_refl _) (by intro x hx; simp at hx; omega)
  have hLeaf : Hid (∀ W : World, Calls Try.prog 11 #[.slice none 0 0] W fun e w' => e = .returned (.agg (nums .u8 B).toArray) ∧ Below W.heap.size W w') := by
    intro W
    rw [HB.out]
    exact leaf_any none 0 [] (by simp) W (.inl rfl) (Nat.le_refl _) (by intro x hx; cases hx)
  have hHexA : Hid (∀ W : World, Calls Try.prog 18 #[.agg (nums .u8 A).toArray] W fun e w' => e = .returned (.string abcT) ∧ Below W.heap.size W w') := by
    intro W
    rw [← abc_hex, HA.out]
    exact hex_any _ (D_len _) (D_oct _) 32 rfl W
  have hHexB : Hid (∀ W : World, Calls Try.prog 18 #[.agg (nums .u8 B).toArray] W fun e w' => e = .returned (.string leafT) ∧ Below W.heap.size W w') := by
    intro W
    rw [← leaf_hex, HB.out]
    exact hex_any _ (D_len _) (D_oct _) 32 rfl W
  clear HA HB
  have hcv := conv_same
  go_enter Try.func10, Try.ntmps10
  go_wp2_with fail
  refine (hSum.out _ _ (fun i hi => ?_)).mono ?_
  · have hk := World.cell?_alloc_mark w #[.int .u8 97, .int .u8 98, .int .u8 99] 5 (3, 4) i
    rw [Nat.zero_add]
    refine hk.trans ?_
    match i, hi with
    | 0, _ | 1, _ | 2, _ => rfl
  rintro e w1 ⟨rfl, Z1⟩
  have Z1 := ((Below.refl w.heap.size w).alloc (Nat.le_refl _) _).trans (Z1.mono (by simp))
  go_wp2_with fail
  refine (hHexA.out _).mono ?_; rintro e w2 ⟨rfl, Z2⟩
  have Z2 := Z1.trans (Z2.mono Z1.size)
  have eA := abc_eq
  clear Z1 hSum hHexA
  go_wp2_with fail
  refine (hLeaf.out _).mono ?_; rintro e w3 ⟨rfl, Z3⟩
  have Z3 := Z2.trans (Z3.mono Z2.size)
  clear Z2 eA hLeaf
  go_wp2_with fail
  refine (hHexB.out _).mono ?_; rintro e w4 ⟨rfl, Z4⟩
  have Z4 := Z3.trans (Z4.mono Z3.size)
  have eB := leaf_eq
  clear Z3 hHexB
  go_wp2
  go_ret
  exact ⟨rfl, Z4⟩
#print axioms known_any
end Go.Proofs.Ytajikbnnlhokbaa
