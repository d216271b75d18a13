/-
  known; what a nil Tree answers.
-/
import Derived.Test.YteokjfpppmnebaaNh
namespace Go.Proofs.Yteokjfpppmnebaa
open Go.RowKit
set_option linter.unusedVariables false
set_option linter.unusedSimpArgs false
def ka : ByteArray := ⟨#[97]⟩
def kb : ByteArray := ⟨#[98]⟩
theorem tx_ba : tx kb ka = 1 := by kernel_rfl
theorem tx_bb : tx kb kb = 0 := by kernel_rfl
theorem tx_ab : tx ka kb = -1 := by kernel_rfl
theorem hit_1 : hit [⟨kb, 2, none⟩] ka = false := by simp [hit, sk, bsL, lessAt, tx_ba]
theorem ins_1 : insS [⟨kb, 2, none⟩] ⟨ka, 1, none⟩ = [⟨ka, 1, none⟩, ⟨kb, 2, none⟩] := by simp [insS, sk, bsL, lessAt, tx_ba]
theorem sk_2 : sk [⟨ka, 1, none⟩, ⟨kb, 2, none⟩] kb = 1 := by simp [sk, bsL, lessAt, tx_ab, tx_bb]
theorem hit_2 : hit [⟨ka, 1, none⟩, ⟨kb, 2, none⟩] kb = true := by simp [hit, sk_2, tx_bb]
set_option maxHeartbeats 1000000 in
theorem known_any (w : World) : Calls Try.prog 9 #[] w fun e w' => e = .returned (.bool true) ∧ Hid (Below w.heap.size w w') := by
  go_enter Try.func9, Try.ntmps9
  have K := new_any w
  go_wp2_with fail
  refine K.mono ?_
  clear K
  rintro e w1 ⟨g, rfl, H⟩
  have HZ1 : Hid (Below w.heap.size w w1) := (Below.refl w.heap.size w).grown H.out.2.2 (Nat.le_refl _) (by simp)
  have hg : w.heap.size ≤ g := H.out.2.1
  have K : Calls Try.prog 13 #[.pointer (some ⟨g, 0, none⟩), .string ⟨#[98]⟩, .int .i64 2] w1 _ := tput_none w.heap.size g 0 0 (by decide) kb (by decide) 2 w1 hg H.out.1 (by decide)
  clear H
  go_wp2_with fail
  refine K.mono ?_
  clear K
  rintro e w2 ⟨rfl, H⟩
  obtain ⟨b, h1, h2, h3, h4, h5⟩ := H.out
  have HZ2 : Hid (Below w.heap.size w w2) := HZ1.out.trans h3
  have K : Calls Try.prog 13 #[.pointer (some ⟨g, 0, none⟩), .string ⟨#[97]⟩, .int .i64 1] w2 _ := tput_miss w.heap.size g 1 1 (by decide) ka (by decide) 1 w2 hg b _ h1 h2 h4 h5 (by decide) hit_1
  rw [ins_1] at K
  clear H HZ1 h1 h2 h3
  go_wp2_with fail
  refine K.mono ?_
  clear K
  rintro e w3 ⟨rfl, H⟩
  obtain ⟨h1, h2, h3⟩ := H.out
  have HZ3 : Hid (Below w.heap.size w w3) := HZ2.out.trans h3
  have K : Calls Try.prog 13 #[.pointer (some ⟨g, 0, none⟩), .string ⟨#[98]⟩, .int .i64 3] w3 _ := tput_hit w.heap.size g 2 1 (by decide) kb (by decide) 3 w3 hg b _ h1 h2 h4 h5 hit_2 ⟨kb, 2, none⟩ (by rw [sk_2]; rfl)
  clear H HZ2 h1 h2 h3
  go_wp2_with fail
  refine K.mono ?_
  clear K
  rintro e w4 ⟨rfl, H⟩
  obtain ⟨h1, h3⟩ := H.out
  have HZ4 : Hid (Below w.heap.size w w4) := HZ3.out.trans h3
  have K := len_any g (some b) 2 1 w4 h1
  clear H HZ3 h1 h3 h4 h5
  go_wp2_with fail
  refine K.mono ?_
  clear K
  rintro e w5 ⟨rfl, hw⟩
  have hw' := hw.symm
  subst hw'
  clear hw
  go_wp2
  go_ret
  exact ⟨rfl, HZ4.out⟩
/-! ### nil -/
theorem nil_put (key : ByteArray) (n : Int) (w : World) : Calls Try.prog 13 #[.pointer none, .string key, .int .i64 n] w fun e w' => e = .returned (.tuple #[.int .i64 0, .bool false]) ∧ w' = w := by
  go_enter Try.func13, Try.ntmps13
  go_wp2
  go_ret2
  exact ⟨rfl, rfl⟩
theorem nil_find (key : ByteArray) (w : World) : Calls Try.prog 26 #[.pointer none, .string key] w fun e w' => e = .returned (.pointer none) ∧ w' = w := by
  go_enter Try.func26, Try.ntmps26
  go_wp2
  go_ret
  exact ⟨rfl, rfl⟩
theorem nil_get (key : ByteArray) (w : World) : Calls Try.prog 21 #[.pointer none, .string key] w fun e w' => e = .returned (.tuple #[.int .i64 0, .bool false]) ∧ w' = w := by
  go_enter Try.func21, Try.ntmps21
  go_wp2_with (go_at_call 26; refine (nil_find _ _).mono ?_; rintro e w' ⟨rfl, rfl⟩)
  go_ret2
  exact ⟨rfl, rfl⟩
theorem nil_delete (key : ByteArray) (w : World) : Calls Try.prog 14 #[.pointer none, .string key] w fun e w' => e = .returned (.tuple #[.int .i64 0, .bool false]) ∧ w' = w := by
  go_enter Try.func14, Try.ntmps14
  go_wp2_with (go_at_call 21; refine (nil_get _ _).mono ?_; rintro e w' ⟨rfl, rfl⟩)
  go_ret2
  exact ⟨rfl, rfl⟩
theorem nil_len (w : World) : Calls Try.prog 16 #[.pointer none] w fun e w' => e = .returned (.int .i64 0) ∧ w' = w := by
  go_enter Try.func16, Try.ntmps16
  go_wp2
  go_ret
  exact ⟨rfl, rfl⟩
theorem nil_shape (w : World) : Calls Try.prog 23 #[.pointer none] w fun e w' => e = .returned (.tuple #[.int .i64 0, .int .i64 0]) ∧ w' = w := by
  go_enter Try.func23, Try.ntmps23
  go_wp2
  go_ret2
  exact ⟨rfl, rfl⟩
theorem nil_copy (w : World) : Calls Try.prog 11 #[.pointer none] w fun e w' => e = .returned (.pointer none) ∧ w' = w := by
  go_enter Try.func11, Try.ntmps11
  go_wp2
  go_ret
  exact ⟨rfl, rfl⟩
#print axioms known_any
end Go.Proofs.Yteokjfpppmnebaa
