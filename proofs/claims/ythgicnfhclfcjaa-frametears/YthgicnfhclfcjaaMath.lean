/-
  Plain mathematics of numbers as bytes, of no program: the check sum by four digits a step is the check sum by one digit a step, and a byte that is another one gives another sum; zig and zag.
-/
import Derived.Laws.BitsAllLaws
import Derived.Laws.DeepNot64
namespace Go.Proofs.Ythgicnfhclfcjaa.Math

/-! ### zig and zag -/
def zigS (v : Int) : Int := if 0 ≤ v then 2 * v else 2 * -(v + 1) + 1
def zagS (u : Int) : Int := if u % 2 = 0 then u / 2 else -(u / 2) - 1
theorem zag_zig (v : Int) : zagS (zigS v) = v := by
  unfold zagS zigS; split <;> split <;> omega
theorem zig_zag (u : Int) (h : 0 ≤ u) : zigS (zagS u) = u := by
  unfold zagS zigS; split <;> split <;> omega
theorem zig_bd (v : Int) (h1 : -9223372036854775808 ≤ v) (h2 : v ≤ 9223372036854775807) : 0 ≤ zigS v ∧ zigS v ≤ 18446744073709551615 := by
  unfold zigS; split <;> omega
theorem zag_bd (u : Int) (h1 : 0 ≤ u) (h2 : u ≤ 18446744073709551615) : -9223372036854775808 ≤ zagS u ∧ zagS u ≤ 9223372036854775807 := by
  unfold zagS; split <;> omega
theorem xor_ones (a : Nat) (ha : a < 18446744073709551616) : a ^^^ 18446744073709551615 = 18446744073709551615 - a := by
  have h : (BitVec.ofNat 64 a ^^^ BitVec.allOnes 64).toNat = (~~~ (BitVec.ofNat 64 a)).toNat := by rw [BitVec.xor_allOnes]
  rw [BitVec.toNat_xor, BitVec.toNat_not, BitVec.toNat_ofNat, BitVec.toNat_allOnes, Nat.mod_eq_of_lt (by omega)] at h
  simpa using h
theorem zig_bits (v : Int) (h1 : -9223372036854775808 ≤ v) (h2 : v ≤ 9223372036854775807) :
    bits .xor .u64 (IntKind.u64.wrap (IntKind.u64.wrap v * 2)) (IntKind.u64.wrap (v / 9223372036854775808)) = zigS v := by
  simp only [IntKind.wrap_u64]
  unfold zigS
  by_cases h : 0 ≤ v
  · rw [if_pos h, show v / 9223372036854775808 = 0 by omega]
    rw [u64_xor _ _ (by omega) (by omega) (by omega) (by omega)]
    simp
    omega
  · rw [if_neg h, show v / 9223372036854775808 = -1 by omega]
    rw [u64_xor _ _ (by omega) (by omega) (by omega) (by omega)]
    rw [show ((-1 : Int) % 18446744073709551616).toNat = 18446744073709551615 by decide, xor_ones _ (by omega)]
    omega
theorem zag_bits (u : Int) (h1 : 0 ≤ u) (h2 : u ≤ 18446744073709551615) :
    bits .xor .i64 (u / 2) (IntKind.i64.wrap (-IntKind.i64.wrap (bits .and .u64 u 1))) = zagS u := by
  obtain ⟨a, rfl⟩ := Int.eq_ofNat_of_zero_le h1
  have e1 : bits .and .u64 (a : Int) 1 = ((a % 2 : Nat) : Int) := by
    have := u64_and_nat a 1 (by omega) (by omega)
    rw [nat_mask1] at this
    exact this
  rw [e1]
  unfold zagS
  have h64 : ∀ b c : Int, bits .xor .i64 b c = IntKind.i64.wrap ((BitVec.ofInt 64 b ^^^ BitVec.ofInt 64 c).toNat : Int) := fun _ _ => rfl
  rcases Nat.mod_two_eq_zero_or_one a with h | h
  · rw [if_pos (by omega), h, show IntKind.i64.wrap (-IntKind.i64.wrap ((0 : Nat) : Int)) = 0 by decide]
    rw [h64, show ((a : Int) / 2) = ((a / 2 : Nat) : Int) by omega, BitVec.toNat_xor, ofInt_u64 (a / 2) (by omega)]
    simp [IntKind.wrap, IntKind.bits, IntKind.signed]
    omega
  · rw [if_neg (by omega), h, show IntKind.i64.wrap (-IntKind.i64.wrap ((1 : Nat) : Int)) = -1 by decide]
    have e := i64_not (a / 2) (by omega)
    rw [h64, BitVec.xor_comm, ← h64, show ((a : Int) / 2) = ((a / 2 : Nat) : Int) by omega, e]
    omega

/-! ### the check sum -/
def tab : List Nat := [0, 498536548, 997073096, 651767980, 1994146192, 1802195444, 1303535960, 1342533948, 3988292384, 4027552580, 3604390888, 3412177804, 2607071920, 2262029012, 2685067896, 3183342108]
def nib (c : Nat) : Nat := c / 16 ^^^ tab.getD (c % 16) 0
def stT (c x : Nat) : Nat := nib (nib (c ^^^ x))
def bit1 (c : Nat) : Nat := if c % 2 = 1 then c / 2 ^^^ 3988292384 else c / 2
def stB (c x : Nat) : Nat := bit1 (bit1 (bit1 (bit1 (bit1 (bit1 (bit1 (bit1 (c ^^^ x))))))))
def crcT (c : Nat) (l : List Nat) : Nat := l.foldl stT c
def crcB (c : Nat) (l : List Nat) : Nat := l.foldl stB c

theorem xor_rc {a b c : Nat} (h : a ^^^ c = b ^^^ c) : a = b := by
  have := congrArg (fun z => z ^^^ c) h
  simpa [Nat.xor_assoc] using this
theorem xor_lc {a b c : Nat} (h : c ^^^ a = c ^^^ b) : a = b := by
  rw [Nat.xor_comm c a, Nat.xor_comm c b] at h; exact xor_rc h
theorem xor_half (a b : Nat) : (a ^^^ b) / 2 = a / 2 ^^^ b / 2 := by
  apply Nat.eq_of_testBit_eq; intro i
  simp only [Nat.testBit_xor, Nat.testBit_div_two]
theorem xor_par (a b : Nat) : (a ^^^ b) % 2 = (a % 2) ^^^ (b % 2) := by
  have := Nat.xor_mod_two_pow (a := a) (b := b) (n := 1)
  simpa using this
theorem bit1_lin (a b : Nat) : bit1 (a ^^^ b) = bit1 a ^^^ bit1 b := by
  unfold bit1
  rw [xor_half, xor_par]
  rcases Nat.mod_two_eq_zero_or_one a with h | h <;> rcases Nat.mod_two_eq_zero_or_one b with h' | h' <;> simp [h, h']
  · rw [Nat.xor_assoc]
  · rw [Nat.xor_assoc, Nat.xor_assoc]; congr 1; exact Nat.xor_comm _ _
  · rw [Nat.xor_assoc, Nat.xor_comm (b / 2), ← Nat.xor_assoc 3988292384, Nat.xor_self, Nat.zero_xor]
theorem bit1_even (q : Nat) : bit1 (2 * q) = q := by
  unfold bit1; rw [if_neg (by omega)]; omega
theorem split16 (c : Nat) : c = (16 * (c / 16)) ^^^ (c % 16) := by
  have h : 2 ^ 4 * (c / 16) + c % 16 = 2 ^ 4 * (c / 16) ||| c % 16 := Nat.two_pow_add_eq_or_of_lt (by omega) _
  apply Nat.eq_of_testBit_eq; intro i
  have e : c = 2 ^ 4 * (c / 16) + c % 16 := by omega
  have e1 : (16 * (c / 16)) = (c / 16) * 2 ^ 4 := by omega
  have e2 : c % 16 = c % 2 ^ 4 := by rfl
  have e3 : c / 16 = c / 2 ^ 4 := by rfl
  rw [Nat.testBit_xor, e1, Nat.testBit_mul_two_pow, e2, e3, Nat.testBit_mod_two_pow, Nat.testBit_div_two_pow]
  by_cases hi : i < 4
  · have : ¬ 4 ≤ i := by omega
    simp [hi, this]
  · have : 4 ≤ i := by omega
    simp [hi, this]
theorem low_tab : ∀ r, r < 16 → bit1 (bit1 (bit1 (bit1 r))) = tab.getD r 0 := by decide
theorem nib_bit (c : Nat) : nib c = bit1 (bit1 (bit1 (bit1 c))) := by
  have e := split16 c
  have h : bit1 (bit1 (bit1 (bit1 c))) = bit1 (bit1 (bit1 (bit1 (16 * (c / 16))))) ^^^ bit1 (bit1 (bit1 (bit1 (c % 16)))) := by
    conv => lhs; rw [e]
    simp only [bit1_lin]
  rw [h, low_tab (c % 16) (Nat.mod_lt _ (by decide)), show 16 * (c / 16) = 2 * (2 * (2 * (2 * (c / 16)))) by omega]
  simp only [bit1_even]
  rfl
theorem step_eq (c x : Nat) : stT c x = stB c x := by
  unfold stT stB; rw [nib_bit, nib_bit]
theorem crc_eq (c : Nat) (l : List Nat) : crcT c l = crcB c l := by
  unfold crcT crcB
  induction l generalizing c with
  | nil => rfl
  | cons x l ih => simp only [List.foldl_cons]; rw [step_eq, ih]

theorem bit1_lt (c : Nat) (h : c < 4294967296) : bit1 c < 4294967296 := by
  unfold bit1; split
  · exact Nat.xor_lt_two_pow (n := 32) (by omega) (by omega)
  · omega
theorem bit1_inj (a b : Nat) (ha : a < 4294967296) (hb : b < 4294967296) (h : bit1 a = bit1 b) : a = b := by
  have top : ∀ q : Nat, q < 2147483648 → 2147483648 ≤ q ^^^ 3988292384 := by
    intro q hq
    apply Nat.le_of_not_lt; intro hlt
    have t1 : (q ^^^ 3988292384).testBit 31 = false := Nat.testBit_lt_two_pow (by omega)
    have t2 : q.testBit 31 = false := Nat.testBit_lt_two_pow (by omega)
    rw [Nat.testBit_xor, t2] at t1
    exact absurd t1 (by decide)
  unfold bit1 at h
  split at h <;> split at h
  · have := xor_rc h
    omega
  · have := top (a / 2) (by omega); omega
  · have := top (b / 2) (by omega); omega
  · omega
theorem stB_lt (c x : Nat) (h : c < 4294967296) (hx : x < 256) : stB c x < 4294967296 := by
  unfold stB
  have h0 : c ^^^ x < 4294967296 := Nat.xor_lt_two_pow (n := 32) (by omega) (by omega)
  exact bit1_lt _ (bit1_lt _ (bit1_lt _ (bit1_lt _ (bit1_lt _ (bit1_lt _ (bit1_lt _ (bit1_lt _ h0)))))))
theorem stB_inj (c d x y : Nat) (hc : c < 4294967296) (hd : d < 4294967296) (hx : x < 256) (hy : y < 256) (h : stB c x = stB d y) : c ^^^ x = d ^^^ y := by
  unfold stB at h
  have l0 : c ^^^ x < 4294967296 := Nat.xor_lt_two_pow (n := 32) (by omega) (by omega)
  have m0 : d ^^^ y < 4294967296 := Nat.xor_lt_two_pow (n := 32) (by omega) (by omega)
  have l1 := bit1_lt _ l0; have l2 := bit1_lt _ l1; have l3 := bit1_lt _ l2; have l4 := bit1_lt _ l3; have l5 := bit1_lt _ l4; have l6 := bit1_lt _ l5; have l7 := bit1_lt _ l6
  have m1 := bit1_lt _ m0; have m2 := bit1_lt _ m1; have m3 := bit1_lt _ m2; have m4 := bit1_lt _ m3; have m5 := bit1_lt _ m4; have m6 := bit1_lt _ m5; have m7 := bit1_lt _ m6
  exact bit1_inj _ _ l0 m0 (bit1_inj _ _ l1 m1 (bit1_inj _ _ l2 m2 (bit1_inj _ _ l3 m3 (bit1_inj _ _ l4 m4 (bit1_inj _ _ l5 m5 (bit1_inj _ _ l6 m6 (bit1_inj _ _ l7 m7 h)))))))
theorem crcB_lt (c : Nat) (l : List Nat) (h : c < 4294967296) (hl : ∀ x ∈ l, x < 256) : crcB c l < 4294967296 := by
  unfold crcB
  induction l generalizing c with
  | nil => exact h
  | cons x l ih => exact ih _ (stB_lt c x h (hl x (by simp))) (fun y hy => hl y (by simp [hy]))
theorem tab_lt : ∀ r, r < 16 → tab.getD r 0 < 4294967296 := by decide
theorem nib_lt (c : Nat) (h : c < 4294967296) : nib c < 4294967296 := by
  rw [nib_bit]; exact bit1_lt _ (bit1_lt _ (bit1_lt _ (bit1_lt _ h)))
theorem not32 (c : Nat) (h : c < 4294967296) : bits .xor .u32 IntKind.u32.max (c : Int) = ((4294967295 - c : Nat) : Int) := by
  show IntKind.u32.wrap ((BitVec.ofInt 32 4294967295 ^^^ BitVec.ofInt 32 (c : Int)).toNat : Int) = _
  rw [show BitVec.ofInt 32 4294967295 = BitVec.allOnes 32 by decide, BitVec.allOnes_xor, BitVec.toNat_not, BitVec.ofInt_natCast, BitVec.toNat_ofNat, Nat.mod_eq_of_lt (by omega), IntKind.wrap_u32']
  omega
def bitN : Nat → Nat → Nat
  | 0, d => d
  | n + 1, d => bit1 (bitN n d)
theorem bitN_lt (n d : Nat) (h : d < 4294967296) : bitN n d < 4294967296 := by
  induction n with
  | zero => exact h
  | succ n ih => exact bit1_lt _ ih
theorem bitN_8 (c x : Nat) : bitN 8 (c ^^^ x) = stB c x := rfl
theorem bit1_odd (q : Nat) (hq : q < 4294967296) (h : q % 2 = 1) : bits .and .u32 (q : Int) 1 = 1 ∧ bits .xor .u32 ((q : Int) / 2) 3988292384 = ((bit1 q : Nat) : Int) := by
  constructor
  · have := u32_and_nat q 1 hq (by omega)
    rw [nat_mask1, h] at this
    exact this
  · have := u32_xor_nat (q / 2) 3988292384 (by omega) (by omega)
    rw [show ((q : Int) / 2) = ((q / 2 : Nat) : Int) by omega]
    unfold bit1
    rw [if_pos h]; exact this
theorem bit1_ev (q : Nat) (hq : q < 4294967296) (h : q % 2 = 0) : bits .and .u32 (q : Int) 1 = 0 ∧ (q : Int) / 2 = ((bit1 q : Nat) : Int) := by
  constructor
  · have := u32_and_nat q 1 hq (by omega)
    rw [nat_mask1, h] at this
    exact this
  · unfold bit1; rw [if_neg (by omega)]; omega
theorem crcB_state (c d : Nat) (l : List Nat) (hc : c < 4294967296) (hd : d < 4294967296) (hl : ∀ x ∈ l, x < 256) (h : crcB c l = crcB d l) : c = d := by
  unfold crcB at h
  induction l generalizing c d with
  | nil => exact h
  | cons x l ih =>
    have hx := hl x (by simp)
    have := ih _ _ (stB_lt c x hc hx) (stB_lt d x hd hx) (fun y hy => hl y (by simp [hy])) h
    exact xor_rc (stB_inj c d x x hc hd hx hx this)
/-- A byte that is another one gives another state. -/
theorem crcB_sees (c : Nat) (l1 l2 : List Nat) (x y : Nat) (hc : c < 4294967296) (h1 : ∀ z ∈ l1, z < 256) (h2 : ∀ z ∈ l2, z < 256) (hx : x < 256) (hy : y < 256) (hxy : x ≠ y) :
    crcB c (l1 ++ x :: l2) ≠ crcB c (l1 ++ y :: l2) := by
  intro h
  have hs := crcB_lt c l1 hc h1
  have e : ∀ z, crcB c (l1 ++ z :: l2) = crcB (stB (crcB c l1) z) l2 := by intro z; simp [crcB]
  rw [e, e] at h
  have h3 := crcB_state _ _ l2 (stB_lt _ x hs hx) (stB_lt _ y hs hy) h2 h
  have h4 := stB_inj _ _ x y hs hs hx hy h3
  exact hxy (xor_lc h4)
/-! ### seven digits a byte -/
def acc (v x k : Nat) : Nat := v ||| (x % 128 * 2 ^ (7 * k) % 18446744073709551616)
theorem acc_lt (v x k : Nat) (h : v < 18446744073709551616) : acc v x k < 18446744073709551616 :=
  Nat.or_lt_two_pow (n := 64) (by omega) (by omega)
theorem acc_bits (v x k : Nat) (hv : v < 18446744073709551616) (hx : x < 256) :
    bits .or .u64 (v : Int) (IntKind.u64.wrap (IntKind.u64.wrap (bits .and .u8 (x : Int) 127) * 2 ^ (7 * k))) = ((acc v x k : Nat) : Int) := by
  have e1 : bits .and .u8 (x : Int) 127 = ((x % 128 : Nat) : Int) := by
    have := u8_and_nat x 127 hx (by omega); rw [nat_mask7] at this; exact this
  have e2 : IntKind.u64.wrap ((x % 128 : Nat) : Int) = ((x % 128 : Nat) : Int) := by rw [IntKind.wrap_u64]; omega
  have e3 : IntKind.u64.wrap (((x % 128 : Nat) : Int) * 2 ^ (7 * k)) = ((x % 128 * 2 ^ (7 * k) % 18446744073709551616 : Nat) : Int) := by
    have hp : ((2 : Int) ^ (7 * k)) = ((2 ^ (7 * k) : Nat) : Int) := by simp
    rw [hp, ← Int.natCast_mul, IntKind.wrap_u64]
    generalize x % 128 * 2 ^ (7 * k) = m
    omega
  rw [e1, e2, e3, u64_or_nat v _ hv (by omega)]; rfl
def ruv : List Nat → Nat → Nat → Nat × Nat × Nat
  | [], _, _ => (0, 0, 2)
  | x :: l, k, v => if k = 9 ∧ 1 < x then (0, 0, 3) else if 127 < x then ruv l (k + 1) (acc v x k) else if 0 < k ∧ x = 0 then (0, 0, 3) else (acc v x k, k + 1, 0)
theorem drop_get (l : List Nat) (k : Nat) (h : k < l.length) : l.drop k = l.getD k 0 :: l.drop (k + 1) := by
  rw [List.drop_eq_getElem_cons h, List.getD_eq_getElem?_getD, List.getElem?_eq_getElem h]; rfl
theorem ruv_nine (x k v : Nat) (l : List Nat) (h : k = 9) (hx : 1 < x) : ruv (x :: l) k v = (0, 0, 3) := by simp [ruv, h, hx]
theorem ruv_more (x k v : Nat) (l : List Nat) (h : ¬ (k = 9 ∧ 1 < x)) (hx : 127 < x) : ruv (x :: l) k v = ruv l (k + 1) (acc v x k) := by simp [ruv, h, hx]
theorem ruv_zero (x k v : Nat) (l : List Nat) (h : 0 < k) (hx : x = 0) : ruv (x :: l) k v = (0, 0, 3) := by simp [ruv, h, hx]
theorem ruv_end (x k v : Nat) (l : List Nat) (h : ¬ (k = 9 ∧ 1 < x)) (hx : ¬ 127 < x) (h0 : ¬ (0 < k ∧ x = 0)) : ruv (x :: l) k v = (acc v x k, k + 1, 0) := by simp [ruv, h, hx, h0]
/-- A number in seven digits a byte, at most f + 1 of them. -/
def uvF : Nat → Nat → List Nat
  | 0, v => [v]
  | f + 1, v => if v < 128 then [v] else (v % 128 + 128) :: uvF f (v / 128)
theorem uvF_eq : ∀ (f g v : Nat), v ≤ f → v ≤ g → uvF f v = uvF g v
  | 0, 0, _, _, _ => rfl
  | 0, g + 1, v, h, _ => by
    obtain rfl : v = 0 := by omega
    rfl
  | f + 1, 0, v, _, h => by
    obtain rfl : v = 0 := by omega
    rfl
  | f + 1, g + 1, v, h, h' => by
    simp only [uvF]
    by_cases hv : v < 128
    · rw [if_pos hv, if_pos hv]
    · rw [if_neg hv, if_neg hv, uvF_eq f g (v / 128) (by omega) (by omega)]
/-- A number in seven digits a byte. -/
def uv (v : Nat) : List Nat := uvF v v
theorem uv_lo (v : Nat) (h : v < 128) : uv v = [v] := by
  unfold uv
  cases v with
  | zero => rfl
  | succ v => simp only [uvF]; rw [if_pos h]
theorem uv_hi (v : Nat) (h : ¬ v < 128) : uv v = (v % 128 + 128) :: uv (v / 128) := by
  unfold uv
  cases v with
  | zero => omega
  | succ v => simp only [uvF]; rw [if_neg h, uvF_eq v ((v + 1) / 128) ((v + 1) / 128) (by omega) (by omega)]
theorem uv_len (n v : Nat) (h : v < 128 ^ (n + 1)) : (uv v).length ≤ n + 1 := by
  induction n generalizing v with
  | zero => rw [uv_lo v (by simpa using h)]; simp
  | succ n ih =>
    by_cases hv : v < 128
    · rw [uv_lo v hv]; simp
    · rw [uv_hi v hv]
      have := ih (v / 128) (by rw [Nat.div_lt_iff_lt_mul (by decide)]; rw [Nat.pow_succ] at h; exact h)
      simpa using this
theorem uv_pos (v : Nat) : 0 < (uv v).length := by
  by_cases hv : v < 128
  · rw [uv_lo v hv]; simp
  · rw [uv_hi v hv]; simp
theorem uv_ten (v : Nat) (h : v < 18446744073709551616) : (uv v).length ≤ 10 := uv_len 9 v (Nat.lt_of_lt_of_le h (by decide))
theorem uv_oct (v : Nat) : ∀ x ∈ uv v, x < 256 := by
  induction v using Nat.strongRecOn with
  | _ v ih =>
    by_cases hv : v < 128
    · rw [uv_lo v hv]; intro x hx; simp at hx; omega
    · rw [uv_hi v hv]; intro x hx
      rcases List.mem_cons.1 hx with h | h
      · omega
      · exact ih (v / 128) (by omega) x h
theorem or_128 : ∀ y, y < 256 → y ||| 128 = y % 128 + 128 := by decide +kernel
theorem or_u8 (u : Nat) : bits .or .u8 ((u : Int) % 256) 128 = ((u % 128 + 128 : Nat) : Int) := by
  have h := u8_or_nat (u % 256) 128 (by omega) (by omega)
  rw [or_128 _ (by omega)] at h
  rw [show ((u : Int) % 256) = ((u % 256 : Nat) : Int) by omega]
  refine Eq.trans h ?_
  congr 1; omega
theorem or_t (t : Nat) (ht : t < 128) : bits .or .u8 (t : Int) 128 = ((t + 128 : Nat) : Int) := by
  have h := u8_or_nat t 128 (by omega) (by omega)
  rw [or_128 _ (by omega), Nat.mod_eq_of_lt ht] at h
  exact h
theorem and_127 (u : Nat) (hu : u < 18446744073709551616) : bits .and .u64 (u : Int) 127 = ((u % 128 : Nat) : Int) := by
  have h := u64_and_nat u 127 hu (by omega)
  rw [nat_mask7] at h
  exact h
theorem acc_add (v x k : Nat) (hv : v < 2 ^ (7 * k)) (hx : x % 128 * 2 ^ (7 * k) < 18446744073709551616) : acc v x k = v + x % 128 * 2 ^ (7 * k) := by
  unfold acc
  rw [Nat.mod_eq_of_lt hx, Nat.or_comm, nat_join (7 * k) _ v (by simp) hv]
  omega
theorem ruv_uv (u : Nat) : ∀ (k v : Nat) (more : List Nat), v < 2 ^ (7 * k) → u * 2 ^ (7 * k) < 18446744073709551616 → (k = 0 ∨ 0 < u) → ruv (uv u ++ more) k v = (v + u * 2 ^ (7 * k), k + (uv u).length, 0) := by
  induction u using Nat.strongRecOn with
  | _ u ih =>
    intro k v more hv hu hku
    have hp : 2 ^ (7 * (k + 1)) = 128 * 2 ^ (7 * k) := by rw [Nat.mul_add, Nat.pow_add]; omega
    have hpos : 0 < 2 ^ (7 * k) := Nat.two_pow_pos _
    have hk9 : k ≤ 9 := by
      apply Nat.le_of_not_lt; intro h9
      have h1 : 0 < u := by omega
      have h2 : 2 ^ 70 ≤ 2 ^ (7 * k) := Nat.pow_le_pow_right (by decide) (by omega)
      have h3 : 1 * 2 ^ (7 * k) ≤ u * 2 ^ (7 * k) := Nat.mul_le_mul_right _ h1
      omega
    have h1u : k = 9 → u ≤ 1 := by
      intro h; subst h
      have : (2 : Nat) ^ (7 * 9) = 9223372036854775808 := by decide
      rw [this] at hu; omega
    by_cases hlo : u < 128
    · rw [uv_lo u hlo]
      have hm : u % 128 = u := Nat.mod_eq_of_lt hlo
      show ruv (u :: more) k v = _
      rw [ruv_end u k v more (by omega) (by omega) (by omega), acc_add v u k hv (by rw [hm]; exact hu), hm]
      rfl
    · rw [uv_hi u hlo]
      have hx : (u % 128 + 128) % 128 = u % 128 := by omega
      have hxb : u % 128 * 2 ^ (7 * k) < 18446744073709551616 := Nat.lt_of_le_of_lt (Nat.mul_le_mul_right _ (Nat.mod_le _ _)) hu
      show ruv ((u % 128 + 128) :: (uv (u / 128) ++ more)) k v = _
      rw [ruv_more _ k v _ (by omega) (by omega), acc_add v _ k hv (by rw [hx]; exact hxb), hx]
      have hsplit : u * 2 ^ (7 * k) = u % 128 * 2 ^ (7 * k) + (u / 128) * 2 ^ (7 * (k + 1)) := by
        rw [hp, ← Nat.mul_assoc, ← Nat.add_mul]
        congr 1; omega
      have hlt : v + u % 128 * 2 ^ (7 * k) < 2 ^ (7 * (k + 1)) := by
        rw [hp]
        have : u % 128 * 2 ^ (7 * k) ≤ 127 * 2 ^ (7 * k) := Nat.mul_le_mul_right _ (by omega)
        omega
      rw [ih (u / 128) (by omega) (k + 1) _ more hlt (by omega) (by right; omega)]
      simp only [List.length_cons, Prod.mk.injEq, and_true]
      omega
theorem ruv_back (v : Nat) (more : List Nat) (h : v < 18446744073709551616) : ruv (uv v ++ more) 0 0 = (v, (uv v).length, 0) := by
  have := ruv_uv v 0 0 more (by decide) (by simpa using h) (.inl rfl)
  simpa using this
#print axioms ruv_back
#print axioms acc_bits
#print axioms crcB_sees
#print axioms zag_bits
end Go.Proofs.Ythgicnfhclfcjaa.Math
