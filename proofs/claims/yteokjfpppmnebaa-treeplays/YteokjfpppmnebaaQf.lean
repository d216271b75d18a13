/-
  The document's tree: Ends.
-/
import Derived.Test.YteokjfpppmnebaaQe
namespace Go.Proofs.Yteokjfpppmnebaa
open Go.RowKit
set_option linter.unusedVariables false
set_option linter.unusedSimpArgs false
theorem bool_of (P : Prop) : ∃ T : Bool, (T = true ↔ P) := by
  by_cases h : P
  · exact ⟨true, by simp [h]⟩
  · exact ⟨false, by simp [h]⟩
/-- Where a range ends. -/
def ub (es : List E) (to : ByteArray) : Nat := if to.toList = [] then es.length else lb (es.map (·.1)) to
theorem ends_any {a : Nat} {kb nb : Option Nat} {ck cn : Nat} {es : List E} (fr to : ByteArray) (w : World) (h : RT w a kb nb ck cn es) (hs : Srt (es.map (·.1))) (hn : es.length < 1000000000) :
    Calls Try.prog 33 #[.pointer (some ⟨a, 0, none⟩), .string fr, .string to] w fun e w' => e = .returned (.tuple #[.int .i64 (lb (es.map (·.1)) fr : Int), .int .i64 (max (lb (es.map (·.1)) fr) (ub es to) : Nat)]) ∧ Hid (Below w.heap.size w w') := by
  obtain ⟨T, hT⟩ := bool_of (fr ∈ es.map (·.1))
  obtain ⟨S, hS⟩ := bool_of (to ∈ es.map (·.1))
  have K := rspot_any fr w h hs hn T hT
  have HT : Hid (∀ w', Below w.heap.size w w' → RT w' a kb nb ck cn es) := fun w' z => h.below z
  have HK2 : Hid (∀ w', Below w.heap.size w w' → Calls Try.prog 49 #[.pointer (some ⟨a, 0, none⟩), .string to] w' fun e w2 => e = .returned (.tuple #[.int .i64 (lb (es.map (·.1)) to : Int), .bool S]) ∧ Hid (Below w'.heap.size w' w2)) := fun w' z => rspot_any to w' (h.below z) hs hn S hS
  have l1 : lb (es.map (·.1)) fr ≤ es.length := by have := lb_le (es.map (·.1)) fr; simpa using this
  have l2 : lb (es.map (·.1)) to ≤ es.length := by have := lb_le (es.map (·.1)) to; simpa using this
  obtain ⟨U, HU⟩ : ∃ U, Hid (ub es to = U) := ⟨_, rfl⟩
  rw [HU.out]
  have HU2 : Hid (U = if to.toList = [] then es.length else lb (es.map (·.1)) to) := HU.out.symm
  generalize lb (es.map (·.1)) fr = i at *
  generalize lb (es.map (·.1)) to = j at *
  clear h hs hT hS HU
  go_enter Try.func33, Try.ntmps33
  go_wp2_with fail
  refine K.mono ?_
  clear K
  rintro e w1 ⟨rfl, H⟩
  have hK : w1.cell? ⟨a, 0, none⟩ = some (.slice (kb.map fun b => ⟨b, 0, none⟩) es.length ck) := (HT.out w1 H.out).key
  have K := HK2.out w1 H.out
  clear HT HK2
  by_cases ht : to.toList = []
  · obtain rfl : U = es.length := by rw [HU2.out, if_pos ht]
    clear HU2 K
    by_cases hm : i < es.length
    · have HV : Hid (max i es.length = es.length) := Nat.max_eq_right (by omega)
      go_wp2
      go_ret2
      rw [HV.out]
      exact ⟨rfl, H.out⟩
    · have HV : Hid (max i es.length = i) := Nat.max_eq_left (by omega)
      go_wp2
      go_ret2
      rw [HV.out]
      exact ⟨rfl, H.out⟩
  · obtain rfl : U = j := by rw [HU2.out, if_neg ht]
    have hz : to.toList.isEmpty = false := by simpa using ht
    clear HU2 ht
    go_wp2_with fail
    refine K.mono ?_
    clear K
    rintro e w2 ⟨rfl, H2⟩
    by_cases hm : i < U
    · have HV : Hid (max i U = U) := Nat.max_eq_right (by omega)
      go_wp2
      go_ret2
      rw [HV.out]
      exact ⟨rfl, H.out.trans (H2.out.mono H.out.size)⟩
    · have HV : Hid (max i U = i) := Nat.max_eq_left (by omega)
      go_wp2
      go_ret2
      rw [HV.out]
      exact ⟨rfl, H.out.trans (H2.out.mono H.out.size)⟩
#print axioms ends_any
end Go.Proofs.Yteokjfpppmnebaa
