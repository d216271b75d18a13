/-
  The document's lex: words, signs.
-/
import Derived.Test.YtpfiejmhnkcjbaaGreatDoorALxc
namespace Go.Proofs.YtpfiejmhnkcjbaaGreatDoor
open Go.RowKit Lx
set_option linter.unusedVariables false
set_option linter.unusedSimpArgs false
theorem words_oct : ∀ l ∈ words, bts (ofB l) = l := by
  intro l hl
  refine bts_ofB l ?_
  have : ∀ l ∈ words, ∀ x ∈ l, x < 256 := by decide
  exact this l hl
theorem toL_eq {a b : ByteArray} : (a.toList == b.toList) = decide (a = b) := by
  by_cases h : a = b
  · subst h; simp
  · have : a.toList ≠ b.toList := fun e => h (by
      rw [ByteArray.toList_eq, ByteArray.toList_eq] at e
      exact ByteArray.ext (Array.ext' e))
    rw [decide_eq_false h]
    exact beq_eq_false_iff_ne.2 this
theorem isW_iff (s : ByteArray) : isW (bts s) = true ↔ ∃ i, i < words.length ∧ ofB (words.getD i []) = s := by
  unfold isW
  rw [List.contains_iff_mem]
  constructor
  · intro h
    obtain ⟨i, hi⟩ := List.getElem?_of_mem h
    have hl := (List.getElem?_eq_some_iff.1 hi).1
    refine ⟨i, hl, ?_⟩
    rw [List.getD_eq_getElem?_getD, hi, Option.getD_some, ofB_bts]
  · rintro ⟨i, hl, rfl⟩
    rw [List.getD_eq_getElem?_getD, List.getElem?_eq_getElem hl, Option.getD_some, words_oct _ (List.getElem_mem hl)]
    exact List.getElem_mem hl
/-- The cells of a row of texts. -/
def lits (L : List (List Nat)) : List Value := L.map fun l => .string (ofB l)
theorem EW : (#[Value.string ⟨#[115, 101, 108, 101, 99, 116]⟩, Value.string ⟨#[118, 97, 108, 117, 101]⟩, Value.string ⟨#[102, 114, 111, 109]⟩, Value.string ⟨#[97, 115]⟩, Value.string ⟨#[119, 104, 101, 114, 101]⟩, Value.string ⟨#[111, 114, 100, 101, 114]⟩, Value.string ⟨#[98, 121]⟩, Value.string ⟨#[100, 101, 115, 99]⟩, Value.string ⟨#[108, 105, 109, 105, 116]⟩, Value.string ⟨#[105, 110, 115, 101, 114, 116]⟩, Value.string ⟨#[105, 110, 116, 111]⟩, Value.string ⟨#[117, 112, 100, 97, 116, 101]⟩, Value.string ⟨#[115, 101, 116]⟩, Value.string ⟨#[100, 101, 108, 101, 116, 101]⟩, Value.string ⟨#[99, 114, 101, 97, 116, 101]⟩, Value.string ⟨#[100, 114, 111, 112]⟩, Value.string ⟨#[116, 97, 98, 108, 101]⟩, Value.string ⟨#[105, 110, 100, 101, 120]⟩, Value.string ⟨#[111, 110]⟩, Value.string ⟨#[97, 110, 100]⟩, Value.string ⟨#[111, 114]⟩, Value.string ⟨#[110, 111, 116]⟩, Value.string ⟨#[105, 115]⟩, Value.string ⟨#[110, 117, 108, 108]⟩, Value.string ⟨#[109, 105, 115, 115, 105, 110, 103]⟩, Value.string ⟨#[116, 114, 117, 101]⟩, Value.string ⟨#[102, 97, 108, 115, 101]⟩, Value.string ⟨#[104, 105, 115, 116, 111, 114, 121]⟩, Value.string ⟨#[109, 101, 116, 97]⟩] : Array Value) = (lits words).toArray := by kernel_rfl
theorem lits_at {L : List (List Nat)} {i : Nat} (h : i < L.length) : (lits L)[i]? = some (.string (ofB (L.getD i []))) := by
  unfold lits
  rw [List.getElem?_map, List.getD_eq_getElem?_getD, List.getElem?_eq_getElem h]
  rfl
set_option maxRecDepth 8000 in
set_option maxHeartbeats 1000000 in
theorem isword_any (s : ByteArray) (w : World) : Calls Tryz.prog 14 #[.string s] w fun e w' => e = .returned (.bool (isW (bts s))) ∧ Hid (Below w.heap.size w w') := by
  have HC : Hid (Below w.heap.size w (w.alloc (.cells (lits words).toArray 9))) := (Below.refl _ _).alloc (Nat.le_refl _) _
  have HB : Hid ((w.alloc (.cells (lits words).toArray 9)).heap[w.heap.size]? = some (.cells (lits words).toArray 9 (0, 0))) := heap_alloc_new w _
  obtain ⟨V, HV⟩ : ∃ V, Hid (isW (bts s) = V) := ⟨_, rfl⟩
  rw [HV.out]
  go_enter Tryz.func14, Tryz.ntmps14
  go_wp2_with fail
  rw [EW]
  obtain ⟨b, hb⟩ : ∃ b, w.heap.size = b := ⟨_, rfl⟩
  rw [hb] at HB ⊢
  obtain ⟨w1, hw1⟩ : ∃ w1, w.alloc (.cells (lits words).toArray 9) = w1 := ⟨_, rfl⟩
  rw [hw1] at HB HC ⊢
  have HC : Hid (Below w.heap.size w w1) := HC
  clear hw1
  have HD : Hid (∀ i, i < 29 → w1.cell? ⟨b, i, none⟩ = some (.string (ofB (words.getD i [])))) := fun i hi => by
    rw [cell_of_row w1 b i _ 9 (0, 0) HB.out]
    have := lits_at (L := words) (i := i) hi
    simpa using this
  have HW : Hid (words.length = 29) := rfl
  clear HB
  clear hb
  go_loopw [4] (fun iv wr => ∃ i : Nat, i ≤ 29 ∧ iv = .int .i64 (i : Int) ∧ wr = w1 ∧ Hid (∀ j, j < i → ofB (words.getD j []) ≠ s)) (fun iv _ => 29 - (intOf iv).toNat)
  case atStart => exact ⟨0, by omega, rfl, rfl, fun j h => by omega⟩
  case round =>
    obtain ⟨i, hi, rfl, rfl, HJ⟩ := hrel
    by_cases hlt : i < 29
    · have c1 := HD.out i hlt
      obtain ⟨x, hx⟩ : ∃ x, ofB (words.getD i []) = x := ⟨_, rfl⟩
      rw [hx] at c1
      have hlt' : (i : Int) < 29 := by omega
      have hx1 : ¬ ((i : Int) < 0) := by omega
      have hx2 : ¬ ((29 : Int) ≤ (i : Int)) := by omega
      by_cases he : x = s
      · have heq : (x.toList == s.toList) = true := by rw [toL_eq]; simpa using he
        have HT : Hid (V = true) := by
          show _ = _
          rw [← HV.out]
          exact (isW_iff s).2 ⟨i, by rw [HW.out]; exact hlt, hx.trans he⟩
        clear he hx HJ HD
        go_wp2
        go_ret
        rw [HT.out]
        exact ⟨by first | rfl | trivial, HC.out⟩
      · have heq : (x.toList == s.toList) = false := by rw [toL_eq]; simpa using he
        have HJ2 : Hid (∀ j, j < i + 1 → ofB (words.getD j []) ≠ s) := fun j hj => by
          by_cases h : j = i
          · subst h; rw [hx]; exact he
          · exact HJ.out j (by omega)
        clear he hx HJ HD
        go_wp2
        go_roundw
        case rel => exact ⟨i + 1, by omega, by go_num, by first | rfl | trivial, HJ2.out⟩
        case measure => simp [intOf]; omega
    · obtain rfl : i = 29 := by omega
      have HT : Hid (V = false) := by
        show _ = _
        rw [← HV.out]
        cases hq : isW (bts s) with
        | false => rfl
        | true =>
          obtain ⟨j, h1, h2⟩ := (isW_iff s).1 hq
          exact absurd h2 (HJ.out j (by rw [HW.out] at h1; exact h1))
      clear HJ HD
      go_wp2
      go_ret
      rw [HT.out]
      exact ⟨by first | rfl | trivial, HC.out⟩
/-! ### signs -/
end Go.Proofs.YtpfiejmhnkcjbaaGreatDoor
