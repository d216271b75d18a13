/-
  Digests out of digits, over lists: what a text of 64 digits says, and that the digits of a digest say the digest.
-/
import Derived.Test.YtajikbnnlhokbaaHex
import Derived.Lib.Bytealg
namespace Go.Proofs.Ytajikbnnlhokbaa
open Go.RowKit Math
/-- What a digit says. -/
def nd (c : Nat) : Option Nat := if 48 ≤ c ∧ c ≤ 57 then some (c - 48) else if 97 ≤ c ∧ c ≤ 102 then some (c - 87) else none
theorem nd_lt {c d : Nat} (h : nd c = some d) : d < 16 := by
  unfold nd at h
  split at h
  · cases h; omega
  · split at h
    · cases h; omega
    · cases h
def zr : List Nat := List.replicate 32 0
theorem zr_len : zr.length = 32 := by simp [zr]
/-- The digest behind one digit more. -/
def put1 (h : List Nat) (i d : Nat) : List Nat := h.set (i / 2) ((h.getD (i / 2) 0 * 16 + d) % 256)
/-- The digest behind so many digits. -/
def acc (s : List Nat) : Nat → Option (List Nat)
  | 0 => some zr
  | i + 1 => match acc s i with
    | none => none
    | some h => match nd (s.getD i 0) with
      | none => none
      | some d => some (put1 h i d)
theorem acc_some {s h : List Nat} {i d : Nat} (h1 : acc s i = some h) (h2 : nd (s.getD i 0) = some d) : acc s (i + 1) = some (put1 h i d) := by simp only [acc, h1, h2]
theorem acc_fail {s h : List Nat} {i : Nat} (h1 : acc s i = some h) (h2 : nd (s.getD i 0) = none) : acc s (i + 1) = none := by simp only [acc, h1, h2]
theorem acc_none {s : List Nat} {i : Nat} (h : acc s i = none) : ∀ j, i ≤ j → acc s j = none
  | 0, hj => by obtain rfl : i = 0 := by omega
                exact h
  | j + 1, hj => by
    by_cases e : i = j + 1
    · rw [← e]; exact h
    · have := acc_none h j (by omega)
      simp only [acc, this]
theorem acc_len {s : List Nat} : ∀ {i : Nat} {h : List Nat}, acc s i = some h → h.length = 32
  | 0, h, e => by cases e; exact zr_len
  | i + 1, h, e => by
    unfold acc at e
    split at e
    · cases e
    · rename_i h0 e0
      split at e
      · cases e
      · cases e
        rw [put1, List.length_set]
        exact acc_len e0
theorem acc_oct {s : List Nat} : ∀ {i : Nat} {h : List Nat}, acc s i = some h → Oct h
  | 0, h, e => by
    cases e
    intro x hx
    have := List.eq_of_mem_replicate hx
    omega
  | i + 1, h, e => by
    unfold acc at e
    split at e
    · cases e
    · rename_i h0 e0
      split at e
      · cases e
      · cases e
        intro x hx
        rcases List.mem_or_eq_of_mem_set hx with hx | rfl
        · exact acc_oct e0 x hx
        · exact Nat.mod_lt _ (by omega)
/-- The digest that a text says, and the error. -/
def unh (s : List Nat) : List Nat × Nat :=
  if s.length = 64 then match acc s 64 with
    | some h => (h, 0)
    | none => (zr, 3)
  else (zr, 3)
theorem unh_len (s : List Nat) : (unh s).1.length = 32 := by
  unfold unh
  split
  · split
    · rename_i h e; exact acc_len e
    · exact zr_len
  · exact zr_len
theorem unh_other {s : List Nat} (h : s.length ≠ 64) : unh s = (zr, 3) := by simp [unh, h]
theorem unh_fail {s : List Nat} {i : Nat} (hi : i ≤ 64) (h : acc s i = none) : unh s = (zr, 3) := by
  unfold unh
  rw [acc_none h 64 hi]
  split <;> rfl
theorem unh_good {s h : List Nat} {M : Nat} (hM : M = 64) (hs : s.length = 64) (e : acc s M = some h) : unh s = (h, 0) := by
  subst hM
  simp [unh, hs, e]
/-! ### There and back -/
theorem nd_dig : ∀ d : Nat, d < 16 → nd (dig d) = some d := by
  intro d hd
  match d, hd with
  | 0, _ | 1, _ | 2, _ | 3, _ | 4, _ | 5, _ | 6, _ | 7, _ | 8, _ | 9, _ | 10, _ | 11, _ | 12, _ | 13, _ | 14, _ | 15, _ => rfl
  | n + 16, h => omega
theorem hexL_get (h : List Nat) : ∀ n k, k < n → n ≤ 32 → (hexL h n).getD (2 * k) 0 = dig (h.getD k 0 / 16) ∧ (hexL h n).getD (2 * k + 1) 0 = dig (h.getD k 0 % 16)
  | 0, k, hk, _ => by omega
  | n + 1, k, hk, hn => by
    have hl := hexL_len h n
    by_cases e : k = n
    · subst e
      constructor
      · simp [hexL, List.getD_eq_getElem?_getD, List.getElem?_set, hl]
        rw [if_pos (by omega)]; rfl
      · simp [hexL, List.getD_eq_getElem?_getD, List.getElem?_set, hl]
        rw [if_pos (by omega)]; rfl
    · have ih := hexL_get h n k (by omega) (by omega)
      constructor
      · rw [← ih.1]
        simp [hexL, List.getD_eq_getElem?_getD, List.getElem?_set]
        rw [if_neg (by omega), if_neg (by omega)]
      · rw [← ih.2]
        simp [hexL, List.getD_eq_getElem?_getD, List.getElem?_set]
        rw [if_neg (by omega), if_neg (by omega)]
/-- The digest behind the digits of so many bytes. -/
theorem acc_hex (h s : List Nat) (hs : ∀ k, k < 32 → s.getD (2 * k) 0 = dig (h.getD k 0 / 16) ∧ s.getD (2 * k + 1) 0 = dig (h.getD k 0 % 16)) (hl : h.length = 32) (ho : Oct h) : ∀ k, k ≤ 32 → acc s (2 * k) = some (h.take k ++ List.replicate (32 - k) 0)
  | 0, _ => by simp [acc, zr]
  | k + 1, hk => by
    have ih := acc_hex h s hs hl ho k (by omega)
    obtain ⟨g1, g2⟩ := hs k (by omega)
    have hx : h.getD k 0 < 256 := oct_get ho k
    have e1 := acc_some ih (by rw [g1]; exact nd_dig _ (by omega))
    have e2 := acc_some e1 (by rw [g2]; exact nd_dig _ (by omega))
    rw [show 2 * (k + 1) = 2 * k + 1 + 1 by omega, e2]
    congr 1
    have hk32 : k < h.length := by omega
    have lt : (h.take k).length = k := by simp; omega
    have er : List.replicate (32 - k) 0 = 0 :: List.replicate (32 - (k + 1)) 0 := by
      rw [show 32 - k = (32 - (k + 1)) + 1 by omega]; rfl
    have ht : h.take (k + 1) = h.take k ++ [h.getD k 0] := by
      rw [List.take_add_one, List.getD_eq_getElem?_getD, List.getElem?_eq_getElem hk32]; rfl
    rw [er, ht, List.append_assoc]
    unfold put1
    rw [show 2 * k / 2 = k by omega, show (2 * k + 1) / 2 = k by omega]
    generalize h.getD k 0 = x at *
    generalize h.take k = p at *
    generalize List.replicate (32 - (k + 1)) 0 = q at *
    subst lt
    have s1 : ∀ y z, (p ++ y :: q).set p.length z = p ++ z :: q := fun y z => by simp
    have g : ∀ y, (p ++ y :: q).getD p.length 0 = y := fun y => by simp [List.getD_eq_getElem?_getD]
    rw [s1, g, s1, g]
    have : ((0 * 16 + x / 16) % 256 * 16 + x % 16) % 256 = x := by omega
    rw [this]
    rfl
theorem unh_hex (h : List Nat) (hl : h.length = 32) (ho : Oct h) (M : Nat) (hM : M = 32) : unh (hexL h M) = (h, 0) := by
  have hg : ∀ k, k < 32 → (hexL h M).getD (2 * k) 0 = dig (h.getD k 0 / 16) ∧ (hexL h M).getD (2 * k + 1) 0 = dig (h.getD k 0 % 16) := fun k hk => hexL_get h M k (by omega) (by omega)
  have hL := hexL_len h M
  generalize hexL h M = s at hg hL
  have := acc_hex h s hg hl ho 32 (by omega)
  refine unh_good (M := 2 * 32) rfl hL ?_
  rw [this]
  congr 1
  simp [← hl]
#print axioms unh_hex
end Go.Proofs.Ytajikbnnlhokbaa
