/-
  codec's appendUvarint, appendInt, appendText.
-/
import Derived.Test.YthmnjamnaibcgaaOap
namespace Go.Proofs.Ythmnjamnaibcgaa
open Go.RowKit Math
set_option linter.unusedVariables false
theorem zigN (n : Int) (h1 : -9223372036854775808 ≤ n) (h2 : n < 9223372036854775808) (w : World) :
    Calls Try.prog 37 #[.int .i64 n] w fun e w' => e = .returned (.int .u64 ((zigS n).toNat : Int)) ∧ w' = w := by
  have := zig_any n h1 (by omega) w
  rw [show zigS n = ((zigS n).toNat : Int) from (Int.toNat_of_nonneg (zig_bd n h1 (by omega)).1).symm] at this
  exact this
theorem zigrN (n : Int) (h1 : -9223372036854775808 ≤ n) (h2 : n < 9223372036854775808) (w : World) :
    Calls Try.prog 28 #[.int .i64 n] w fun e w' => e = .returned (.int .u64 ((zigS n).toNat : Int)) ∧ w' = w := by
  have := zigr_any n h1 (by omega) w
  rw [show zigS n = ((zigS n).toNat : Int) from (Int.toNat_of_nonneg (zig_bd n h1 (by omega)).1).symm] at this
  exact this
theorem apUv (v : Value) (l : List Nat) (u : Nat) (hu : u < 18446744073709551616) (B : Nat) (W : World) (ho : Own W B v l) (hB : B ≤ W.heap.size) (hl : l.length ≤ 900000000) :
    Calls Try.prog 23 #[v, .int .u64 (u : Int)] W fun e w' => ∃ v', e = .returned v' ∧ Ap B W w' v v' (l ++ uv u) := by
  have h10 := uv_ten u hu
  have K := fun W => uv_any u hu W
  have HO : Hid (Own W B v l) := ho
  clear ho
  go_enter Try.func23, Try.ntmps23
  go_wp2_with fail
  refine (K _).mono ?_
  rintro e w1 ⟨r, rfl, o1, b1⟩
  obtain ⟨ax, c, rfl, hby, hnil, _⟩ := o1.byt
  have hs := b1.size
  have HB : Hid (Below W.heap.size W w1) := b1
  have HY : Hid (Byt w1 ax (uv u)) := hby
  clear o1 b1 K hby
  go_wp2_with (at_builtin; go_must (refine ap_bytes rfl (.tmp 5) (.tmp 7) rfl B v l rfl (HO.out.below HB.out) ax _ c (uv u) rfl rfl HY.out hnil (by omega) (by omega) ?_))
  intro v' w2 A
  have HA : Hid (Ap B W w2 v v' (l ++ uv u)) := Ap.after HB.out A
  clear A HB HY HO
  go_wp2
  go_ret
  exact ⟨v', rfl, HA.out⟩
theorem apInt (v : Value) (l : List Nat) (n : Int) (h1 : -9223372036854775808 ≤ n) (h2 : n < 9223372036854775808) (B : Nat) (W : World) (ho : Own W B v l) (hB : B ≤ W.heap.size) (hl : l.length ≤ 900000000) :
    Calls Try.prog 22 #[v, .int .i64 n] W fun e w' => ∃ v', e = .returned v' ∧ Ap B W w' v v' (l ++ uv (zigS n).toNat) := by
  have z := (zig_nat n h1 h2).1
  have K := fun W => zigN n h1 h2 W
  have K2 := apUv v l (zigS n).toNat z B W ho hB hl
  generalize (zigS n).toNat = u at *
  clear ho
  go_enter Try.func22, Try.ntmps22
  go_wp2_with fail
  refine (K _).mono ?_
  rintro e w1 ⟨rfl, hw⟩
  have hw' := hw.symm
  subst hw'
  clear hw
  go_wp2_with fail
  refine K2.mono ?_
  rintro e w2 ⟨v', rfl, A⟩
  have HA : Hid (Ap B W w2 v v' (l ++ uv u)) := A
  clear A K K2
  go_wp2
  go_ret
  exact ⟨v', rfl, HA.out⟩
theorem apTx (v : Value) (l : List Nat) (s : ByteArray) (B : Nat) (W : World) (ho : Own W B v l) (hB : B ≤ W.heap.size) (hl : l.length + s.size ≤ 800000000) :
    Calls Try.prog 24 #[v, .string s] W fun e w' => ∃ v', e = .returned v' ∧ Ap B W w' v v' (l ++ txB s) := by
  have K2 := apUv v l s.size (by omega) B W ho hB (by omega)
  have h10 := uv_ten s.size (by omega)
  clear ho
  go_enter Try.func24, Try.ntmps24
  go_wp2_with fail
  refine K2.mono ?_
  rintro e w1 ⟨v1, rfl, A⟩
  have HA : Hid (Ap B W w1 v v1 (l ++ uv s.size)) := A
  have hs := A.gr.size
  clear A K2
  go_wp2_with (at_builtin; go_must (refine ap_str rfl (.tmp 9) (.tmp 10) rfl B v1 (l ++ uv s.size) rfl HA.out.own s rfl (by rw [List.length_append]; omega) (by omega) ?_))
  intro v2 w2 A2
  have HA2 : Hid (Ap B W w2 v v2 (l ++ txB s)) := by
    exact HA.out.trans A2
  clear A2 HA
  go_wp2
  go_ret
  exact ⟨v2, rfl, HA2.out⟩
end Go.Proofs.Ythmnjamnaibcgaa
