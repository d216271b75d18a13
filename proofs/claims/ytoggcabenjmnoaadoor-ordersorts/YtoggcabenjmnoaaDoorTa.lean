/-
  Keys sort as their values do: plain mathematics.
-/
import Derived.Test.YtoggcabenjmnoaaDoorPuz
import Derived.Test.YtoggcabenjmnoaaDoorKi
import Derived.Test.YtoggcabenjmnoaaDoorBl
namespace Go.Proofs.YtoggcabenjmnoaaDoor
open Go.RowKit Math
set_option linter.unusedVariables false
set_option linter.unusedSimpArgs false
/-- Below, whatever stands behind the two. -/
def Lt (a b : List Nat) : Prop := ∀ r r', blt (a ++ r) (b ++ r') = true
theorem Lt.pre (p : List Nat) {a b : List Nat} (h : Lt a b) : Lt (p ++ a) (p ++ b) := fun r r' => by
  rw [List.append_assoc, List.append_assoc, blt_pre]; exact h r r'
theorem Lt.ext {a b : List Nat} (h : Lt a b) (c d : List Nat) : Lt (a ++ c) (b ++ d) := fun r r' => by
  rw [List.append_assoc, List.append_assoc]; exact h _ _
theorem Lt.head {x y : Nat} (h : x < y) (a b : List Nat) : Lt (x :: a) (y :: b) := fun r r' => by simp [blt, h]
theorem Lt.cons (x : Nat) {a b : List Nat} (h : Lt a b) : Lt (x :: a) (x :: b) := Lt.pre [x] h
/-! ### texts -/
theorem lt_esc : ∀ (x y : List Nat), blt x y = true → Lt (esc x ++ [0, 0]) (esc y ++ [0, 0])
  | _, [], h => by simp [blt] at h
  | [], b :: y, _ => by
    rw [esc, esc]
    split
    · exact (Lt.head (show 0 < 255 by omega) _ _).cons 0
    · next hb => exact Lt.head (by omega) _ _
  | a :: x, b :: y, h => by
    simp only [blt, Bool.or_eq_true, Bool.and_eq_true, decide_eq_true_eq, beq_iff_eq] at h
    rcases h with h | ⟨rfl, h⟩
    · rw [esc, esc, if_neg (show ¬ b = 0 by omega)]
      split
      · exact Lt.head (by omega) _ _
      · exact Lt.head h _ _
    · have ih := lt_esc x y h
      rw [esc, esc]
      split
      · exact (ih.cons 255).cons 0
      · exact ih.cons a
theorem tx_lt {a b : ByteArray} (h : tx a b < 0) : Lt (txK a) (txK b) := by
  have h1 : Op.bytesLess a.toList b.toList = true := by
    unfold tx at h
    split at h
    · next e => exact e
    · split at h <;> omega
  rw [less_blt] at h1
  exact lt_esc _ _ h1
/-! ### bytes, the highest first -/
def val : List Nat → Nat
  | [] => 0
  | x :: l => x * 256 ^ l.length + val l
theorem val_lt : ∀ l : List Nat, (∀ x ∈ l, x < 256) → val l < 256 ^ l.length
  | [], _ => by simp [val]
  | x :: l, h => by
    have h1 := val_lt l (fun y hy => h y (by simp [hy]))
    have h2 := h x (by simp)
    rw [val, List.length_cons, Nat.pow_succ]
    have h3 : x * 256 ^ l.length + 256 ^ l.length = (x + 1) * 256 ^ l.length := (Nat.succ_mul _ _).symm
    have h4 : (x + 1) * 256 ^ l.length ≤ 256 * 256 ^ l.length := Nat.mul_le_mul_right _ (by omega)
    rw [Nat.mul_comm (256 ^ l.length) 256]
    omega
theorem lt_val : ∀ (a b : List Nat), a.length = b.length → (∀ x ∈ a, x < 256) → (∀ x ∈ b, x < 256) → val a < val b → Lt a b
  | [], [], _, _, _, h => by simp [val] at h
  | [], _ :: _, hl, _, _, _ => by simp at hl
  | _ :: _, [], hl, _, _, _ => by simp at hl
  | x :: a, y :: b, hl, ha, hb, h => by
    have hl' : a.length = b.length := by simpa using hl
    have h1 := val_lt b (fun z hz => hb z (by simp [hz]))
    rw [val, val, hl'] at h
    rcases Nat.lt_trichotomy x y with e | rfl | e
    · exact Lt.head e _ _
    · exact (lt_val a b hl' (fun z hz => ha z (by simp [hz])) (fun z hz => hb z (by simp [hz])) (by omega)).cons x
    · have h3 : (y + 1) * 256 ^ b.length ≤ x * 256 ^ b.length := Nat.mul_le_mul_right _ (by omega)
      have h4 : y * 256 ^ b.length + 256 ^ b.length = (y + 1) * 256 ^ b.length := (Nat.succ_mul _ _).symm
      omega
theorem val_hf (v : Nat) (h : v < 18446744073709551616) : val (hf v 8) = v := by
  rw [hf_eight]
  simp [val]
  omega
theorem lt_hf {a b : Nat} (h : a < b) (hb : b < 18446744073709551616) : Lt (hf a 8) (hf b 8) :=
  lt_val _ _ (by rw [hf_length, hf_length]) (hf_oct _ _) (hf_oct _ _) (by rw [val_hf a (by omega), val_hf b hb]; exact h)
/-! ### numbers -/
def dval : List Nat → Nat
  | [] => 0
  | x :: l => x * 10 ^ l.length + dval l
theorem dval_app (a b : List Nat) : dval (a ++ b) = dval a * 10 ^ b.length + dval b := by
  induction a with
  | nil => simp [dval]
  | cons x a ih =>
    rw [List.cons_append, dval, dval, ih, List.length_append, Nat.pow_add, Nat.add_mul, Nat.mul_assoc]
    omega
theorem dval_dgs : ∀ (f n : Nat), n < 10 ^ f → dval (dgs f n) = n
  | 0, n, h => by simp at h; subst h; rfl
  | f + 1, n, h => by
    rw [dgs]
    split
    · next e => subst e; rfl
    · rw [dval_app, dval_dgs f (n / 10) (by rw [Nat.pow_succ] at h; omega)]
      simp [dval]
      omega
theorem dval_lt : ∀ l : List Nat, (∀ x ∈ l, x < 10) → dval l < 10 ^ l.length
  | [], _ => by simp [dval]
  | x :: l, h => by
    have h1 := dval_lt l (fun y hy => h y (by simp [hy]))
    have h2 := h x (by simp)
    rw [dval, List.length_cons, Nat.pow_succ]
    have h3 : x * 10 ^ l.length + 10 ^ l.length = (x + 1) * 10 ^ l.length := (Nat.succ_mul _ _).symm
    have h4 : (x + 1) * 10 ^ l.length ≤ 10 * 10 ^ l.length := Nat.mul_le_mul_right _ (by omega)
    rw [Nat.mul_comm (10 ^ l.length) 10]
    omega
theorem dval_zeros : ∀ k, dval (List.replicate k 0) = 0
  | 0 => rfl
  | k + 1 => by rw [List.replicate_succ, dval, dval_zeros k]; simp
theorem blt_dval : ∀ (a b : List Nat), a.length = b.length → (∀ x ∈ a, x < 10) → (∀ x ∈ b, x < 10) → dval a < dval b → blt a b = true
  | [], [], _, _, _, h => by simp [dval] at h
  | [], _ :: _, hl, _, _, _ => by simp at hl
  | _ :: _, [], hl, _, _, _ => by simp at hl
  | x :: a, y :: b, hl, ha, hb, h => by
    have hl' : a.length = b.length := by simpa using hl
    have h1 := dval_lt b (fun z hz => hb z (by simp [hz]))
    rw [dval, dval, hl'] at h
    rcases Nat.lt_trichotomy x y with e | rfl | e
    · simp [blt, e]
    · have := blt_dval a b hl' (fun z hz => ha z (by simp [hz])) (fun z hz => hb z (by simp [hz])) (by omega)
      simp [blt, this]
    · have h3 : (y + 1) * 10 ^ b.length ≤ x * 10 ^ b.length := Nat.mul_le_mul_right _ (by omega)
      have h4 : y * 10 ^ b.length + 10 ^ b.length = (y + 1) * 10 ^ b.length := (Nat.succ_mul _ _).symm
      omega
theorem trz_cons (x : Nat) (l : List Nat) : trz (x :: l) = if x = 0 ∧ trz l = [] then [] else x :: trz l := by
  unfold trz
  rw [List.reverse_cons, List.dropWhile_append]
  by_cases h : (l.reverse.dropWhile (fun x => x == 0)) = []
  · rw [h]
    by_cases hx : x = 0
    · simp [hx]
    · simp [hx]
  · have : (l.reverse.dropWhile (fun x => x == 0)).isEmpty = false := by simpa using h
    rw [this]
    simp [h]
theorem trz_nil : ∀ {l : List Nat}, trz l = [] → ∀ x ∈ l, x = 0
  | [], _, x, hx => by cases hx
  | y :: l, h, x, hx => by
    rw [trz_cons] at h
    split at h
    · next e =>
      rcases List.mem_cons.1 hx with rfl | hx
      · exact e.1
      · exact trz_nil e.2 x hx
    · cases h
theorem trz_zeros (l : List Nat) : ∀ k, trz (l ++ List.replicate k 0) = trz l
  | 0 => by simp
  | k + 1 => by rw [List.replicate_succ', ← List.append_assoc, trz_snoc_z, trz_zeros l k]
theorem blt_zero : ∀ (a b : List Nat), a.length = b.length → (∀ x ∈ b, x = 0) → blt a b = false
  | [], [], _, _ => rfl
  | [], _ :: _, hl, _ => by simp at hl
  | _ :: _, [], hl, _ => by simp at hl
  | x :: a, y :: b, hl, h => by
    have hy := h y (by simp)
    have := blt_zero a b (by simpa using hl) (fun z hz => h z (by simp [hz]))
    subst hy
    simp [blt, this]
theorem lt_trz : ∀ (a b : List Nat), a.length = b.length → blt a b = true → Lt ((trz a).map (· + 1) ++ [0]) ((trz b).map (· + 1) ++ [0])
  | _, [], _, h => by simp [blt] at h
  | [], _ :: _, hl, _ => by simp at hl
  | x :: a, y :: b, hl, h => by
    have hl' : a.length = b.length := by simpa using hl
    simp only [blt, Bool.or_eq_true, Bool.and_eq_true, decide_eq_true_eq, beq_iff_eq] at h
    rw [trz_cons, trz_cons]
    rcases h with h | ⟨rfl, h⟩
    · rw [if_neg (show ¬ (y = 0 ∧ trz b = []) by omega)]
      split
      · exact Lt.head (show 0 < y + 1 by omega) _ _
      · exact Lt.head (show x + 1 < y + 1 by omega) _ _
    · have hb : trz b ≠ [] := fun e => by
        rw [blt_zero a b hl' (trz_nil e)] at h
        cases h
      rw [if_neg (show ¬ (x = 0 ∧ trz b = []) from fun e => hb e.2)]
      split
      · next e => exact Lt.head (show 0 < x + 1 by omega) _ _
      · exact (lt_trz a b hl' h).cons (x + 1)
theorem Lt.turn : ∀ {x y : List Nat}, Lt x y → Oct x → Oct y → Lt (turnB y) (turnB x)
  | [], y, h, _, _ => by
    have := h (y ++ []) []
    rw [List.nil_append] at this
    have e : ∀ l : List Nat, blt l l = false := fun l => by
      induction l with
      | nil => rfl
      | cons a l ih => simp [blt, ih]
    rw [e] at this
    cases this
  | _ :: _, [], h, _, _ => by
    have := h [] []
    simp [blt] at this
  | a :: x, b :: y, h, hx, hy => by
    have ha := hx a (by simp)
    have hb := hy b (by simp)
    rcases Nat.lt_trichotomy a b with e | rfl | e
    · exact Lt.head (show 255 - b < 255 - a by omega) _ _
    · have h2 : Lt x y := fun r r' => by
        have := h r r'
        simpa [blt] using this
      exact (h2.turn (fun z hz => hx z (by simp [hz])) (fun z hz => hy z (by simp [hz]))).cons (255 - a)
    · have := h [] []
      simp only [List.append_nil, blt, Bool.or_eq_true, Bool.and_eq_true, decide_eq_true_eq, beq_iff_eq] at this
      omega
theorem dgs_ge (f n : Nat) (h : n < 10 ^ f) (hn : 0 < n) : 10 ^ ((dgs f n).length - 1) ≤ n := by
  have h1 := dgs_head f n h hn
  have h2 := dval_dgs f n h
  generalize dgs f n = D at *
  cases D with
  | nil => simp at h1
  | cons d D =>
    simp only [List.getD_cons_zero] at h1
    rw [dval] at h2
    simp only [List.length_cons, Nat.add_sub_cancel]
    have : 1 * 10 ^ D.length ≤ d * 10 ^ D.length := Nat.mul_le_mul_right _ (by omega)
    omega
theorem dgs_below (f n : Nat) (h : n < 10 ^ f) : n < 10 ^ (dgs f n).length := by
  have := dval_lt (dgs f n) (dgs_lt f n)
  rw [dval_dgs f n h] at this
  exact this
/-- Two numbers above nought, in their order. -/
theorem lt_pos (a b s t : Nat) (ha : 0 < a) (hb : 0 < b) (ha2 : a < 10000000000000000000) (hb2 : b < 10000000000000000000) (hs : s ≤ 18) (ht : t ≤ 18) (h : a * 10 ^ t < b * 10 ^ s) : Lt (posB a (s : Int)) (posB b (t : Int)) := by
  have A1 := dgs_ge 20 a (by show a < 10 ^ 20; omega) ha
  have A2 := dgs_below 20 a (by show a < 10 ^ 20; omega)
  have B1 := dgs_ge 20 b (by show b < 10 ^ 20; omega) hb
  have B2 := dgs_below 20 b (by show b < 10 ^ 20; omega)
  have A3 := dval_dgs 20 a (by show a < 10 ^ 20; omega)
  have B3 := dval_dgs 20 b (by show b < 10 ^ 20; omega)
  have A4 := dgs_lt 20 a
  have B4 := dgs_lt 20 b
  have A5 := dgs_len 20 a
  have B5 := dgs_len 20 b
  have A6 : 0 < (dgs 20 a).length := dgs_pos 19 a (by omega)
  have B6 : 0 < (dgs 20 b).length := dgs_pos 19 b (by omega)
  unfold posB
  generalize dgs 20 a = D at *
  generalize dgs 20 b = E at *
  -- how great they are
  rcases Nat.lt_trichotomy (D.length + t) (E.length + s) with e | e | e
  · exact Lt.head (by omega) _ _
  · have hx : (192 + (D.length : Int) - (s : Int)).toNat = (192 + (E.length : Int) - (t : Int)).toNat := by omega
    rw [hx]
    refine Lt.cons _ ?_
    rcases Nat.le_total D.length E.length with hle | hle
    · obtain ⟨k, hk⟩ : ∃ k, E.length = D.length + k := ⟨E.length - D.length, by omega⟩
      have ht2 : t = s + k := by omega
      have h2 : a * 10 ^ k < b := by
        rw [ht2, Nat.pow_add, Nat.mul_comm (10 ^ s) (10 ^ k), ← Nat.mul_assoc] at h
        exact Nat.lt_of_mul_lt_mul_right h
      have h3 : blt (D ++ List.replicate k 0) E = true := by
        refine blt_dval _ _ (by simp; omega) (fun x hx => ?_) B4 ?_
        · rcases List.mem_append.1 hx with hx | hx
          · exact A4 x hx
          · have := List.eq_of_mem_replicate hx
            omega
        · rw [dval_app, A3, B3, List.length_replicate]
          rw [dval_zeros]
          exact h2
      have := lt_trz _ _ (by simp; omega) h3
      rwa [trz_zeros] at this
    · obtain ⟨k, hk⟩ : ∃ k, D.length = E.length + k := ⟨D.length - E.length, by omega⟩
      have hs2 : s = t + k := by omega
      have h2 : a < b * 10 ^ k := by
        rw [hs2, Nat.pow_add, Nat.mul_comm (10 ^ t) (10 ^ k), ← Nat.mul_assoc] at h
        exact Nat.lt_of_mul_lt_mul_right h
      have h3 : blt D (E ++ List.replicate k 0) = true := by
        refine blt_dval _ _ (by simp; omega) A4 (fun x hx => ?_) ?_
        · rcases List.mem_append.1 hx with hx | hx
          · exact B4 x hx
          · have := List.eq_of_mem_replicate hx
            omega
        · rw [dval_app, A3, B3, List.length_replicate, dval_zeros]
          exact h2
      have := lt_trz _ _ (by simp; omega) h3
      rwa [trz_zeros] at this
  · exfalso
    have h1 : 10 ^ (D.length - 1) * 10 ^ t ≤ a * 10 ^ t := Nat.mul_le_mul_right _ A1
    have h2 : b * 10 ^ s ≤ 10 ^ E.length * 10 ^ s := Nat.mul_le_mul_right _ (Nat.le_of_lt B2)
    rw [← Nat.pow_add] at h1 h2
    have h3 : 10 ^ (E.length + s) ≤ 10 ^ (D.length - 1 + t) := Nat.pow_le_pow_right (by omega) (by omega)
    omega
end Go.Proofs.YtoggcabenjmnoaaDoor
