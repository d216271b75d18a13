/-
  Plain mathematics of numbers as bytes, of no program: zig and zag, seven digits a byte.
-/
import Derived.Laws.BitsAllLaws
import Derived.Laws.DeepNot64
namespace Go.Proofs.YtoggcabenjmnoaaDoor.Math

/-! ### zig and zag -/
def zigS (v : Int) : Int := if 0 ≤ v then 2 * v else 2 * -(v + 1) + 1
def zagS (u : Int) : Int := if u % 2 = 0 then u / 2 else -(u / 2) - 1
theorem zag_zig (v : Int) : zagS (zigS v) = v := by
  unfold zagS zigS; split <;> split <;> omega
theorem zig_zag (u : Int) (h : 0 ≤ u) : zigS (zagS u) = u := by
  unfold zagS zigS; split <;> split <;> omega
theorem zig_bd (v : Int) (h1 : -9223372036854775808 ≤ v) (h2 : v ≤ 9223372036854775807) : 0 ≤ zigS v ∧ zigS v ≤ 18446744073709551615 := by
  unfold zigS; split <;> omega
theorem zag_bd (u : Int) (h1 : 0 ≤ u) (h2 : u ≤ 18446744073709551615) : -9223372036854775808 ≤ zagS u ∧ zagS u ≤ 9223372036854775807 := by
  unfold zagS; split <;> omega
theorem xor_ones (a : Nat) (ha : a < 18446744073709551616) : a ^^^ 18446744073709551615 = 18446744073709551615 - a := by
  have h : (BitVec.ofNat 64 a ^^^ BitVec.allOnes 64).toNat = (~~~ (BitVec.ofNat 64 a)).toNat := by rw [BitVec.xor_allOnes]
  rw [BitVec.toNat_xor, BitVec.toNat_not, BitVec.toNat_ofNat, BitVec.toNat_allOnes, Nat.mod_eq_of_lt (by omega)] at h
  simpa using h
theorem zig_bits (v : Int) (h1 : -9223372036854775808 ≤ v) (h2 : v ≤ 9223372036854775807) :
    bits .xor .u64 (IntKind.u64.wrap (IntKind.u64.wrap v * 2)) (IntKind.u64.wrap (v / 9223372036854775808)) = zigS v := by
  simp only [IntKind.wrap_u64]
  unfold zigS
  by_cases h : 0 ≤ v
  · rw [if_pos h, show v / 9223372036854775808 = 0 by omega]
    rw [u64_xor _ _ (by omega) (by omega) (by omega) (by omega)]
    simp
    omega
  · rw [if_neg h, show v / 9223372036854775808 = -1 by omega]
    rw [u64_xor _ _ (by omega) (by omega) (by omega) (by omega)]
    rw [show ((-1 : Int) % 18446744073709551616).toNat = 18446744073709551615 by decide, xor_ones _ (by omega)]
    omega
theorem zag_bits (u : Int) (h1 : 0 ≤ u) (h2 : u ≤ 18446744073709551615) :
    bits .xor .i64 (u / 2) (IntKind.i64.wrap (-IntKind.i64.wrap (bits .and .u64 u 1))) = zagS u := by
  obtain ⟨a, rfl⟩ := Int.eq_ofNat_of_zero_le h1
  have e1 : bits .and .u64 (a : Int) 1 = ((a % 2 : Nat) : Int) := by
    have := u64_and_nat a 1 (by omega) (by omega)
    rw [nat_mask1] at this
    exact this
  rw [e1]
  unfold zagS
  have h64 : ∀ b c : Int, bits .xor .i64 b c = IntKind.i64.wrap ((BitVec.ofInt 64 b ^^^ BitVec.ofInt 64 c).toNat : Int) := fun _ _ => rfl
  rcases Nat.mod_two_eq_zero_or_one a with h | h
  · rw [if_pos (by omega), h, show IntKind.i64.wrap (-IntKind.i64.wrap ((0 : Nat) : Int)) = 0 by decide]
    rw [h64, show ((a : Int) / 2) = ((a / 2 : Nat) : Int) by omega, BitVec.toNat_xor, ofInt_u64 (a / 2) (by omega)]
    simp [IntKind.wrap, IntKind.bits, IntKind.signed]
    omega
  · rw [if_neg (by omega), h, show IntKind.i64.wrap (-IntKind.i64.wrap ((1 : Nat) : Int)) = -1 by decide]
    have e := i64_not (a / 2) (by omega)
    rw [h64, BitVec.xor_comm, ← h64, show ((a : Int) / 2) = ((a / 2 : Nat) : Int) by omega, e]
    omega

/-! ### seven digits a byte -/
def acc (v x k : Nat) : Nat := v ||| (x % 128 * 2 ^ (7 * k) % 18446744073709551616)
theorem acc_lt (v x k : Nat) (h : v < 18446744073709551616) : acc v x k < 18446744073709551616 :=
  Nat.or_lt_two_pow (n := 64) (by omega) (by omega)
theorem acc_bits (v x k : Nat) (hv : v < 18446744073709551616) (hx : x < 256) :
    bits .or .u64 (v : Int) (IntKind.u64.wrap (IntKind.u64.wrap (bits .and .u8 (x : Int) 127) * 2 ^ (7 * k))) = ((acc v x k : Nat) : Int) := by
  have e1 : bits .and .u8 (x : Int) 127 = ((x % 128 : Nat) : Int) := by
    have := u8_and_nat x 127 hx (by omega); rw [nat_mask7] at this; exact this
  have e2 : IntKind.u64.wrap ((x % 128 : Nat) : Int) = ((x % 128 : Nat) : Int) := by rw [IntKind.wrap_u64]; omega
  have e3 : IntKind.u64.wrap (((x % 128 : Nat) : Int) * 2 ^ (7 * k)) = ((x % 128 * 2 ^ (7 * k) % 18446744073709551616 : Nat) : Int) := by
    have hp : ((2 : Int) ^ (7 * k)) = ((2 ^ (7 * k) : Nat) : Int) := by simp
    rw [hp, ← Int.natCast_mul, IntKind.wrap_u64]
    generalize x % 128 * 2 ^ (7 * k) = m
    omega
  rw [e1, e2, e3, u64_or_nat v _ hv (by omega)]; rfl
def ruv : List Nat → Nat → Nat → Nat × Nat × Nat
  | [], _, _ => (0, 0, 2)
  | x :: l, k, v => if k = 9 ∧ 1 < x then (0, 0, 3) else if 127 < x then ruv l (k + 1) (acc v x k) else if 0 < k ∧ x = 0 then (0, 0, 3) else (acc v x k, k + 1, 0)
theorem drop_get (l : List Nat) (k : Nat) (h : k < l.length) : l.drop k = l.getD k 0 :: l.drop (k + 1) := by
  rw [List.drop_eq_getElem_cons h, List.getD_eq_getElem?_getD, List.getElem?_eq_getElem h]; rfl
theorem ruv_nine (x k v : Nat) (l : List Nat) (h : k = 9) (hx : 1 < x) : ruv (x :: l) k v = (0, 0, 3) := by simp [ruv, h, hx]
theorem ruv_more (x k v : Nat) (l : List Nat) (h : ¬ (k = 9 ∧ 1 < x)) (hx : 127 < x) : ruv (x :: l) k v = ruv l (k + 1) (acc v x k) := by simp [ruv, h, hx]
theorem ruv_zero (x k v : Nat) (l : List Nat) (h : 0 < k) (hx : x = 0) : ruv (x :: l) k v = (0, 0, 3) := by simp [ruv, h, hx]
theorem ruv_end (x k v : Nat) (l : List Nat) (h : ¬ (k = 9 ∧ 1 < x)) (hx : ¬ 127 < x) (h0 : ¬ (0 < k ∧ x = 0)) : ruv (x :: l) k v = (acc v x k, k + 1, 0) := by simp [ruv, h, hx, h0]
/-- A number in seven digits a byte, at most f + 1 of them. -/
def uvF : Nat → Nat → List Nat
  | 0, v => [v]
  | f + 1, v => if v < 128 then [v] else (v % 128 + 128) :: uvF f (v / 128)
theorem uvF_eq : ∀ (f g v : Nat), v ≤ f → v ≤ g → uvF f v = uvF g v
  | 0, 0, _, _, _ => rfl
  | 0, g + 1, v, h, _ => by
    obtain rfl : v = 0 := by omega
    rfl
  | f + 1, 0, v, _, h => by
    obtain rfl : v = 0 := by omega
    rfl
  | f + 1, g + 1, v, h, h' => by
    simp only [uvF]
    by_cases hv : v < 128
    · rw [if_pos hv, if_pos hv]
    · rw [if_neg hv, if_neg hv, uvF_eq f g (v / 128) (by omega) (by omega)]
/-- A number in seven digits a byte. -/
def uv (v : Nat) : List Nat := uvF v v
theorem uv_lo (v : Nat) (h : v < 128) : uv v = [v] := by
  unfold uv
  cases v with
  | zero => rfl
  | succ v => simp only [uvF]; rw [if_pos h]
theorem uv_hi (v : Nat) (h : ¬ v < 128) : uv v = (v % 128 + 128) :: uv (v / 128) := by
  unfold uv
  cases v with
  | zero => omega
  | succ v => simp only [uvF]; rw [if_neg h, uvF_eq v ((v + 1) / 128) ((v + 1) / 128) (by omega) (by omega)]
theorem uv_len (n v : Nat) (h : v < 128 ^ (n + 1)) : (uv v).length ≤ n + 1 := by
  induction n generalizing v with
  | zero => rw [uv_lo v (by simpa using h)]; simp
  | succ n ih =>
    by_cases hv : v < 128
    · rw [uv_lo v hv]; simp
    · rw [uv_hi v hv]
      have := ih (v / 128) (by rw [Nat.div_lt_iff_lt_mul (by decide)]; rw [Nat.pow_succ] at h; exact h)
      simpa using this
theorem uv_pos (v : Nat) : 0 < (uv v).length := by
  by_cases hv : v < 128
  · rw [uv_lo v hv]; simp
  · rw [uv_hi v hv]; simp
theorem uv_ten (v : Nat) (h : v < 18446744073709551616) : (uv v).length ≤ 10 := uv_len 9 v (Nat.lt_of_lt_of_le h (by decide))
theorem uv_oct (v : Nat) : ∀ x ∈ uv v, x < 256 := by
  induction v using Nat.strongRecOn with
  | _ v ih =>
    by_cases hv : v < 128
    · rw [uv_lo v hv]; intro x hx; simp at hx; omega
    · rw [uv_hi v hv]; intro x hx
      rcases List.mem_cons.1 hx with h | h
      · omega
      · exact ih (v / 128) (by omega) x h
theorem or_128 : ∀ y, y < 256 → y ||| 128 = y % 128 + 128 := by decide +kernel
theorem or_u8 (u : Nat) : bits .or .u8 ((u : Int) % 256) 128 = ((u % 128 + 128 : Nat) : Int) := by
  have h := u8_or_nat (u % 256) 128 (by omega) (by omega)
  rw [or_128 _ (by omega)] at h
  rw [show ((u : Int) % 256) = ((u % 256 : Nat) : Int) by omega]
  refine Eq.trans h ?_
  congr 1; omega
theorem or_t (t : Nat) (ht : t < 128) : bits .or .u8 (t : Int) 128 = ((t + 128 : Nat) : Int) := by
  have h := u8_or_nat t 128 (by omega) (by omega)
  rw [or_128 _ (by omega), Nat.mod_eq_of_lt ht] at h
  exact h
theorem and_127 (u : Nat) (hu : u < 18446744073709551616) : bits .and .u64 (u : Int) 127 = ((u % 128 : Nat) : Int) := by
  have h := u64_and_nat u 127 hu (by omega)
  rw [nat_mask7] at h
  exact h
theorem acc_add (v x k : Nat) (hv : v < 2 ^ (7 * k)) (hx : x % 128 * 2 ^ (7 * k) < 18446744073709551616) : acc v x k = v + x % 128 * 2 ^ (7 * k) := by
  unfold acc
  rw [Nat.mod_eq_of_lt hx, Nat.or_comm, nat_join (7 * k) _ v (by simp) hv]
  omega
theorem ruv_uv (u : Nat) : ∀ (k v : Nat) (more : List Nat), v < 2 ^ (7 * k) → u * 2 ^ (7 * k) < 18446744073709551616 → (k = 0 ∨ 0 < u) → ruv (uv u ++ more) k v = (v + u * 2 ^ (7 * k), k + (uv u).length, 0) := by
  induction u using Nat.strongRecOn with
  | _ u ih =>
    intro k v more hv hu hku
    have hp : 2 ^ (7 * (k + 1)) = 128 * 2 ^ (7 * k) := by rw [Nat.mul_add, Nat.pow_add]; omega
    have hpos : 0 < 2 ^ (7 * k) := Nat.two_pow_pos _
    have hk9 : k ≤ 9 := by
      apply Nat.le_of_not_lt; intro h9
      have h1 : 0 < u := by omega
      have h2 : 2 ^ 70 ≤ 2 ^ (7 * k) := Nat.pow_le_pow_right (by decide) (by omega)
      have h3 : 1 * 2 ^ (7 * k) ≤ u * 2 ^ (7 * k) := Nat.mul_le_mul_right _ h1
      omega
    have h1u : k = 9 → u ≤ 1 := by
      intro h; subst h
      have : (2 : Nat) ^ (7 * 9) = 9223372036854775808 := by decide
      rw [this] at hu; omega
    by_cases hlo : u < 128
    · rw [uv_lo u hlo]
      have hm : u % 128 = u := Nat.mod_eq_of_lt hlo
      show ruv (u :: more) k v = _
      rw [ruv_end u k v more (by omega) (by omega) (by omega), acc_add v u k hv (by rw [hm]; exact hu), hm]
      rfl
    · rw [uv_hi u hlo]
      have hx : (u % 128 + 128) % 128 = u % 128 := by omega
      have hxb : u % 128 * 2 ^ (7 * k) < 18446744073709551616 := Nat.lt_of_le_of_lt (Nat.mul_le_mul_right _ (Nat.mod_le _ _)) hu
      show ruv ((u % 128 + 128) :: (uv (u / 128) ++ more)) k v = _
      rw [ruv_more _ k v _ (by omega) (by omega), acc_add v _ k hv (by rw [hx]; exact hxb), hx]
      have hsplit : u * 2 ^ (7 * k) = u % 128 * 2 ^ (7 * k) + (u / 128) * 2 ^ (7 * (k + 1)) := by
        rw [hp, ← Nat.mul_assoc, ← Nat.add_mul]
        congr 1; omega
      have hlt : v + u % 128 * 2 ^ (7 * k) < 2 ^ (7 * (k + 1)) := by
        rw [hp]
        have : u % 128 * 2 ^ (7 * k) ≤ 127 * 2 ^ (7 * k) := Nat.mul_le_mul_right _ (by omega)
        omega
      rw [ih (u / 128) (by omega) (k + 1) _ more hlt (by omega) (by right; omega)]
      simp only [List.length_cons, Prod.mk.injEq, and_true]
      omega
theorem ruv_back (v : Nat) (more : List Nat) (h : v < 18446744073709551616) : ruv (uv v ++ more) 0 0 = (v, (uv v).length, 0) := by
  have := ruv_uv v 0 0 more (by decide) (by simpa using h) (.inl rfl)
  simpa using this
end Go.Proofs.YtoggcabenjmnoaaDoor.Math
