/-
  strings.Repeat of noughts; decimal.dotted.
-/
import Derived.Test.YtbafmdjlnmeofaaGreatDoorOq
namespace Go.Proofs.YtbafmdjlnmeofaaGreatDoor
open Go.RowKit
set_option linter.unusedVariables false
set_option maxRecDepth 8000 in
theorem fmt5 (w : World) : Calls Tryz.prog 42 #[.int .u64 5, .int .i64 10] w fun e w' => e = .returned (.string ⟨#[53]⟩) ∧ w' = w := by
  go_enter Tryz.func42, Tryz.ntmps42
  go_wp2
  go_ret
  exact ⟨by kernel_rfl, rfl⟩
theorem hp_of (s : ByteArray) (b : Bool) (hs : 1 ≤ s.size) (hb : ((s.extract 0 1).toList == [48]) = b) (w : World) : Calls Tryz.prog 91 #[.string s, .string ⟨#[48]⟩] w fun e w' => e = .returned (.bool b) ∧ w' = w := by
  go_enter Tryz.func91, Tryz.ntmps91
  go_wp2
  go_ret
  exact ⟨rfl, rfl⟩
theorem hp_no (s : ByteArray) (h : (decide (1 ≤ s.size) && !((s.extract 0 1).toList == [48])) = true) (w : World) : Calls Tryz.prog 91 #[.string s, .string ⟨#[48]⟩] w fun e w' => e = .returned (.bool false) ∧ w' = w := by
  simp only [Bool.and_eq_true, decide_eq_true_eq, Bool.not_eq_true'] at h
  exact hp_of s false h.1 h.2 w
theorem hp_yes (s : ByteArray) (h : (decide (1 ≤ s.size) && ((s.extract 0 1).toList == [48])) = true) (w : World) : Calls Tryz.prog 91 #[.string s, .string ⟨#[48]⟩] w fun e w' => e = .returned (.bool true) ∧ w' = w := by
  simp only [Bool.and_eq_true, decide_eq_true_eq] at h
  exact hp_of s true h.1 h.2 w
theorem mulB (x y : Nat) (hx : x < 18446744073709551616) (hy : y < 18446744073709551616) (h l : Nat) (hw : Wd h l (x * y)) (w : World) :
    Calls Tryz.prog 90 #[.int .u64 (x : Int), .int .u64 (y : Int)] w fun e w' => e = .returned (.tuple #[.int .u64 (h : Int), .int .u64 (l : Int)]) ∧ w' = w := by
  have k := fun W => mul60 x y hx hy W
  rw [show x * y / 18446744073709551616 = h by rw [← hw.eq]; have := hw.l1; omega, show x * y % 18446744073709551616 = l by rw [← hw.eq]; have := hw.l1; omega] at k
  have HK : Hid (∀ W, Calls Tryz.prog 57 #[.int .u64 (x : Int), .int .u64 (y : Int)] W fun e w' => e = .returned (.tuple #[.int .u64 (h : Int), .int .u64 (l : Int)]) ∧ w' = W) := k
  clear k hw hx hy
  go_enter Tryz.func90, Tryz.ntmps90
  go_wp2_with (go_at_call 57; refine (HK.out _).mono ?_; rintro e w' ⟨rfl, rfl⟩)
  go_ret2
  exact ⟨rfl, rfl⟩
def zeros (n : Nat) : ByteArray := ⟨(List.replicate n 48).toArray⟩
theorem ret_str {a b : ByteArray} (h : a = b) : Ending.returned (.string a) = .returned (.string b) := by rw [h]
theorem zeros_ext (c n : Nat) (h : c ≤ n) : (zeros n).extract 0 c = zeros c := by
  apply ByteArray.ext
  simp only [zeros, ByteArray.data_extract]
  apply Array.toList_inj.1
  simp [Nat.min_eq_left h]
set_option maxRecDepth 20000 in
theorem rep_any (c : Nat) (h0 : 0 < c) (h64 : c ≤ 64) (w : World) : Calls Tryz.prog 70 #[.string ⟨#[48]⟩, .int .i64 (c : Int)] w fun e w' => e = .returned (.string (zeros c)) ∧ Grow w w' := by
  by_cases h1 : c = 1
  · subst h1
    go_enter Tryz.func70, Tryz.ntmps70
    go_wp2
    go_ret
    exact ⟨rfl, Grow.refl _⟩
  have K : Hid (∀ W, Calls Tryz.prog 90 #[.int .u64 1, .int .u64 (c : Int)] W fun e w' => e = .returned (.tuple #[.int .u64 0, .int .u64 (c : Int)]) ∧ w' = W) := fun W => mulB 1 c (by omega) (by omega) 0 c ⟨by omega, by omega, by omega⟩ W
  have n0 : ¬ c = 0 := by omega
  go_enter Tryz.func70, Tryz.ntmps70
  go_wp2_with (first
    | (go_at_call 90; refine (K.out _).mono ?_; rintro e w' ⟨rfl, rfl⟩)
    | (go_at_call 91; first | (refine (hp_no _ ?hh _).mono ?_; (case hh => decide +kernel); rintro e w' ⟨rfl, rfl⟩) | (refine (hp_yes _ ?hh _).mono ?_; (case hh => decide +kernel); rintro e w' ⟨rfl, rfl⟩)))
  go_ret
  exact ⟨ret_str (zeros_ext c 64 h64), Grow.refl _⟩
/-- A text with a dot ahead of its last so many. -/
def dotAt (t : ByteArray) (p : Nat) : ByteArray := t.extract 0 p ++ ⟨#[46]⟩ ++ t.extract p t.size
theorem zeros_size (d : Nat) : (zeros d).size = d := by
  show (zeros d).data.size = d
  simp [zeros]
set_option maxRecDepth 8000 in
theorem dotted_short (s : ByteArray) (c d : Nat) (hs : 0 < s.size) (hs2 : s.size ≤ 20) (hc : 0 < c) (hc2 : c ≤ 18) (hd : c + 1 = s.size + d) (hd0 : 0 < d) (w : World) :
    Calls Tryz.prog 43 #[.string s, .int .i64 (c : Int)] w fun e w' => e = .returned (.string (dotAt (zeros d ++ s) 1)) ∧ Grow w w' := by
  have K : Hid (∀ W, Calls Tryz.prog 70 #[.string ⟨#[48]⟩, .int .i64 (d : Int)] W fun e w' => e = .returned (.string (zeros d)) ∧ Grow W w') := fun W => rep_any d hd0 (by omega) W
  have e1 : (c : Int) + 1 - (s.size : Int) = (d : Int) := by omega
  have hz := zeros_size d
  generalize zeros d = z at *
  have e2 : (z.size : Int) + (s.size : Int) - (c : Int) = 1 := by omega
  have e3 : z.size + s.size ≤ 40 := by omega
  have e4 : 1 ≤ z.size + s.size := by omega
  have HR : Hid (dotAt (z ++ s) 1 = (z ++ s).extract 0 1 ++ ⟨#[46]⟩ ++ (z ++ s).extract 1 (z.size + s.size)) := by
    show _ = _
    unfold dotAt
    rw [ByteArray.size_append]
  clear hz hd
  generalize dotAt (z ++ s) 1 = R at *
  go_enter Tryz.func43, Tryz.ntmps43
  go_wp2_with fail
  refine (K.out _).mono ?_
  rintro e w2 ⟨rfl, g2⟩
  have G : Hid (Grow w w2) := g2
  clear g2 K
  go_wp2
  go_quiet (fail)
  go_wp2
  go_ret
  exact ⟨ret_str HR.out.symm, G.out.trans (grow_dq _ _)⟩
set_option maxRecDepth 8000 in
theorem dotted_long (s : ByteArray) (c p : Nat) (hs2 : s.size ≤ 20) (hc : 0 < c) (hp : s.size = c + p) (hp0 : 0 < p) (w : World) :
    Calls Tryz.prog 43 #[.string s, .int .i64 (c : Int)] w fun e w' => e = .returned (.string (dotAt s p)) ∧ Grow w w' := by
  have e2 : (s.size : Int) - (c : Int) = (p : Int) := by omega
  have e3 : ¬ (c : Int) + 1 - (s.size : Int) > 0 := by omega
  have e4 : p ≤ s.size := by omega
  have HR : Hid (dotAt s p = s.extract 0 p ++ ⟨#[46]⟩ ++ s.extract p s.size) := rfl
  clear hp
  generalize dotAt s p = R at *
  go_enter Tryz.func43, Tryz.ntmps43
  go_wp2
  go_quiet (fail)
  go_wp2
  go_ret
  exact ⟨ret_str HR.out.symm, grow_dq _ _⟩
end Go.Proofs.YtbafmdjlnmeofaaGreatDoor
