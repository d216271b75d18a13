/-
  Keys, over lists of bytes: plain mathematics.
-/
import Derived.Test.YtoggcabenjmnoaaDoorCq
namespace Go.Proofs.YtoggcabenjmnoaaDoor
open Math
set_option linter.unusedVariables false
/-- The lowest n bytes of a number, the highest first; from the k-th on noughts. -/
def hfk (v n k : Nat) : List Nat := (List.range n).map fun i => if i < k then v / 256 ^ (n - 1 - i) % 256 else 0
def hf (v n : Nat) : List Nat := hfk v n n
theorem hfk_length (v n k : Nat) : (hfk v n k).length = n := by simp [hfk]
theorem hf_length (v n : Nat) : (hf v n).length = n := hfk_length v n n
/-- A text's bytes in a key: behind each 00 stands ff. -/
def esc : List Nat → List Nat
  | [] => []
  | x :: l => if x = 0 then 0 :: 255 :: esc l else x :: esc l
theorem esc_app (l m : List Nat) : esc (l ++ m) = esc l ++ esc m := by
  induction l with
  | nil => rfl
  | cons x l ih =>
    rw [List.cons_append, esc, esc, ih]
    split <;> rfl
theorem esc_len (l : List Nat) : l.length ≤ (esc l).length ∧ (esc l).length ≤ 2 * l.length := by
  induction l with
  | nil => simp [esc]
  | cons x l ih =>
    rw [esc]
    split <;> simp <;> omega
theorem esc_oct {l : List Nat} (h : ∀ x ∈ l, x < 256) : ∀ x ∈ esc l, x < 256 := by
  induction l with
  | nil => intro x hx; cases hx
  | cons y l ih =>
    intro x hx
    have hy := h y (by simp)
    have hl := ih (fun z hz => h z (by simp [hz]))
    rw [esc] at hx
    split at hx
    · rcases List.mem_cons.1 hx with rfl | hx
      · omega
      · rcases List.mem_cons.1 hx with rfl | hx
        · omega
        · exact hl x hx
    · rcases List.mem_cons.1 hx with rfl | hx
      · exact hy
      · exact hl x hx
def txK (s : ByteArray) : List Nat := esc (bts s) ++ [0, 0]
/-- The digits of a number, the greatest first. -/
def dgs : Nat → Nat → List Nat
  | 0, _ => []
  | f + 1, n => if n = 0 then [] else dgs f (n / 10) ++ [n % 10]
theorem dgs_fuel : ∀ (f n : Nat), n < 10 ^ f → ∀ g, f ≤ g → dgs g n = dgs f n
  | 0, n, h, g, _ => by
    have : n = 0 := by simpa using h
    subst this
    cases g <;> rfl
  | f + 1, n, h, g, hg => by
    obtain ⟨g, rfl⟩ : ∃ k, g = k + 1 := ⟨g - 1, by omega⟩
    rw [dgs, dgs]
    split
    · rfl
    · rw [dgs_fuel f (n / 10) (by rw [Nat.pow_succ] at h; omega) g (by omega)]
theorem dgs_len : ∀ (f n : Nat), (dgs f n).length ≤ f
  | 0, _ => by simp [dgs]
  | f + 1, n => by
    rw [dgs]
    split
    · simp
    · have := dgs_len f (n / 10)
      simp; omega
theorem dgs_lt : ∀ (f n : Nat), ∀ x ∈ dgs f n, x < 10
  | 0, _, x, hx => by cases hx
  | f + 1, n, x, hx => by
    rw [dgs] at hx
    split at hx
    · cases hx
    · rcases List.mem_append.1 hx with hx | hx
      · exact dgs_lt f _ x hx
      · obtain rfl := List.mem_singleton.1 hx
        omega
theorem dgs_pos (f n : Nat) (h : n ≠ 0) : 0 < (dgs (f + 1) n).length := by
  rw [dgs, if_neg h]
  simp
/-- The digits without the noughts at their end. -/
def trz (l : List Nat) : List Nat := (l.reverse.dropWhile (fun x => x == 0)).reverse
theorem trz_snoc_z (l : List Nat) : trz (l ++ [0]) = trz l := by simp [trz]
theorem trz_snoc_n (l : List Nat) (x : Nat) (h : x ≠ 0) : trz (l ++ [x]) = l ++ [x] := by
  simp [trz, h]
theorem trz_take (l : List Nat) (k : Nat) (hk : k ≤ l.length) (h1 : ∀ j, k ≤ j → j < l.length → l.getD j 0 = 0) (h2 : 0 < k → l.getD (k - 1) 0 ≠ 0) : trz l = l.take k := by
  obtain ⟨n, hn⟩ : ∃ n, l.length = k + n := ⟨l.length - k, by omega⟩
  induction n generalizing l with
  | zero =>
    rw [List.take_of_length_le (by omega)]
    rcases Nat.eq_zero_or_pos k with rfl | hp
    · have : l = [] := List.eq_nil_of_length_eq_zero (by omega)
      subst this; rfl
    · have hne : l ≠ [] := fun e => by subst e; simp at hn; omega
      rw [← List.dropLast_concat_getLast hne]
      have hx : l.getLast hne = l.getD (k - 1) 0 := by
        rw [List.getLast_eq_getElem, List.getD_eq_getElem?_getD, List.getElem?_eq_getElem (by omega)]
        simp [hn]
      exact trz_snoc_n _ _ (by rw [hx]; exact h2 hp)
  | succ n ih =>
    have hne : l ≠ [] := fun e => by subst e; simp at hn
    have hx : l.getLast hne = 0 := by
      rw [List.getLast_eq_getElem]
      have := h1 (l.length - 1) (by omega) (by omega)
      rwa [List.getD_eq_getElem?_getD, List.getElem?_eq_getElem (by omega)] at this
    have hl : l = l.dropLast ++ [0] := by
      conv => lhs; rw [← List.dropLast_concat_getLast hne, hx]
    have hd : l.dropLast.length = k + n := by rw [List.length_dropLast]; omega
    have hg : ∀ j, j < l.dropLast.length → l.dropLast.getD j 0 = l.getD j 0 := fun j hj => by
      conv => rhs; rw [hl]
      rw [List.getD_eq_getElem?_getD, List.getD_eq_getElem?_getD, List.getElem?_append_left hj]
    rw [hl, trz_snoc_z, ih l.dropLast (by omega) (fun j hj hj2 => by rw [hg j hj2]; exact h1 j hj (by omega)) (fun hp => by rw [hg _ (by omega)]; exact h2 hp) hd, List.take_append_of_le_length (by omega)]
theorem trz_len (l : List Nat) : (trz l).length ≤ l.length := by
  have := (List.dropWhile_sublist (fun x : Nat => x == 0) (l := l.reverse)).length_le
  simpa [trz] using this
theorem trz_mem {l : List Nat} {x : Nat} (h : x ∈ trz l) : x ∈ l := by
  have := (List.dropWhile_sublist (fun x : Nat => x == 0) (l := l.reverse)).mem (List.mem_reverse.1 h)
  simpa using this
/-- A number above nought, behind its class. -/
def posB (m : Nat) (s : Int) : List Nat := (192 + ((dgs 20 m).length : Int) - s).toNat :: ((trz (dgs 20 m)).map (· + 1) ++ [0])
def turnB (l : List Nat) : List Nat := l.map fun x => 255 - x
def numB (n s : Int) : List Nat := if n = 0 then [128] else if n < 0 then turnB (posB n.natAbs s) else posB n.natAbs s
def headK (h : Hd) : List Nat :=
  if h.k = 1 then [16] else if h.k = 2 then [32, h.n.toNat] else if h.k = 3 then 48 :: numB h.n h.s else if h.k = 4 then 48 :: numB h.n h.s
  else if h.k = 5 then 64 :: hf h.n.toNat 8 else if h.k = 6 then 80 :: txK h.t else if h.k = 7 then 96 :: txK h.t else if h.k = 8 then [112] else [128]
/-- Values one behind the other, each behind its name where they have names. -/
def keyF : Fo → Bool → List ByteArray → List Nat
  | .nil, _, _ => []
  | .cons h k r, b, ns => ((if b then 1 :: txK (ns.headD ⟨#[]⟩) else []) ++ (headK h ++ (if 8 ≤ h.k then keyF k (decide (h.k = 9)) h.ns ++ [0] else []))) ++ keyF r b ns.tail
def keyV (p : Vt) : List Nat := headK p.1 ++ (if 8 ≤ p.1.k then keyF p.2 (decide (p.1.k = 9)) p.1.ns ++ [0] else [])
theorem keyF_cons (p : Vt) (r : Fo) (b : Bool) (ns : List ByteArray) : keyF (.cons p.1 p.2 r) b ns = ((if b then 1 :: txK (ns.headD ⟨#[]⟩) else []) ++ keyV p) ++ keyF r b ns.tail := rfl
theorem keyF_drop {f : Fo} {b : Bool} {ns : List ByteArray} {k : Nat} {q : Vt} (h : f.list[k]? = some q) : keyF (f.drop k) b (ns.drop k) = ((if b then 1 :: txK ((ns.drop k).headD ⟨#[]⟩) else []) ++ keyV q) ++ keyF (f.drop (k + 1)) b (ns.drop (k + 1)) := by
  rw [Fo.drop_at f k q h, keyF_cons]
  congr 2
  simp
end Go.Proofs.YtoggcabenjmnoaaDoor
