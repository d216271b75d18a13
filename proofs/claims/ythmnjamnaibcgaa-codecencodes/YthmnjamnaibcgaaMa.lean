/-
  Plain mathematics of numbers as bytes, of no program: zig and zag, seven digits a byte. · Values as bytes, over lists: what is written, what is read, and that these belong together. No program is named. · Values as bytes, over trees: what is written of a value, and what is read. No program is named. · What is written is read as it was; what is read is written so. No program is named. · What is read is written so; how bytes that are cut short are read. No program is named.
-/
import Derived.Laws.BitsAllLaws
import Derived.Laws.DeepNot64
import Derived.Test.YthmnjamnaibcgaaFrm
namespace Go.Proofs.Ythmnjamnaibcgaa.Math

/-! ### zig and zag -/
def zigS (v : Int) : Int := if 0 ≤ v then 2 * v else 2 * -(v + 1) + 1
def zagS (u : Int) : Int := if u % 2 = 0 then u / 2 else -(u / 2) - 1
theorem zag_zig (v : Int) : zagS (zigS v) = v := by
  unfold zagS zigS; split <;> split <;> omega
theorem zig_zag (u : Int) (h : 0 ≤ u) : zigS (zagS u) = u := by
  unfold zagS zigS; split <;> split <;> omega
theorem zig_bd (v : Int) (h1 : -9223372036854775808 ≤ v) (h2 : v ≤ 9223372036854775807) : 0 ≤ zigS v ∧ zigS v ≤ 18446744073709551615 := by
  unfold zigS; split <;> omega
theorem zag_bd (u : Int) (h1 : 0 ≤ u) (h2 : u ≤ 18446744073709551615) : -9223372036854775808 ≤ zagS u ∧ zagS u ≤ 9223372036854775807 := by
  unfold zagS; split <;> omega
theorem xor_ones (a : Nat) (ha : a < 18446744073709551616) : a ^^^ 18446744073709551615 = 18446744073709551615 - a := by
  have h : (BitVec.ofNat 64 a ^^^ BitVec.allOnes 64).toNat = (~~~ (BitVec.ofNat 64 a)).toNat := by rw [BitVec.xor_allOnes]
  rw [BitVec.toNat_xor, BitVec.toNat_not, BitVec.toNat_ofNat, BitVec.toNat_allOnes, Nat.mod_eq_of_lt (by omega)] at h
  simpa using h
theorem zig_bits (v : Int) (h1 : -9223372036854775808 ≤ v) (h2 : v ≤ 9223372036854775807) :
    bits .xor .u64 (IntKind.u64.wrap (IntKind.u64.wrap v * 2)) (IntKind.u64.wrap (v / 9223372036854775808)) = zigS v := by
  simp only [IntKind.wrap_u64]
  unfold zigS
  by_cases h : 0 ≤ v
  · rw [if_pos h, show v / 9223372036854775808 = 0 by omega]
    rw [u64_xor _ _ (by omega) (by omega) (by omega) (by omega)]
    simp
    omega
  · rw [if_neg h, show v / 9223372036854775808 = -1 by omega]
    rw [u64_xor _ _ (by omega) (by omega) (by omega) (by omega)]
    rw [show ((-1 : Int) % 18446744073709551616).toNat = 18446744073709551615 by decide, xor_ones _ (by omega)]
    omega
theorem zag_bits (u : Int) (h1 : 0 ≤ u) (h2 : u ≤ 18446744073709551615) :
    bits .xor .i64 (u / 2) (IntKind.i64.wrap (-IntKind.i64.wrap (bits .and .u64 u 1))) = zagS u := by
  obtain ⟨a, rfl⟩ := Int.eq_ofNat_of_zero_le h1
  have e1 : bits .and .u64 (a : Int) 1 = ((a % 2 : Nat) : Int) := by
    have := u64_and_nat a 1 (by omega) (by omega)
    rw [nat_mask1] at this
    exact this
  rw [e1]
  unfold zagS
  have h64 : ∀ b c : Int, bits .xor .i64 b c = IntKind.i64.wrap ((BitVec.ofInt 64 b ^^^ BitVec.ofInt 64 c).toNat : Int) := fun _ _ => rfl
  rcases Nat.mod_two_eq_zero_or_one a with h | h
  · rw [if_pos (by omega), h, show IntKind.i64.wrap (-IntKind.i64.wrap ((0 : Nat) : Int)) = 0 by decide]
    rw [h64, show ((a : Int) / 2) = ((a / 2 : Nat) : Int) by omega, BitVec.toNat_xor, ofInt_u64 (a / 2) (by omega)]
    simp [IntKind.wrap, IntKind.bits, IntKind.signed]
    omega
  · rw [if_neg (by omega), h, show IntKind.i64.wrap (-IntKind.i64.wrap ((1 : Nat) : Int)) = -1 by decide]
    have e := i64_not (a / 2) (by omega)
    rw [h64, BitVec.xor_comm, ← h64, show ((a : Int) / 2) = ((a / 2 : Nat) : Int) by omega, e]
    omega

/-! ### seven digits a byte -/
def acc (v x k : Nat) : Nat := v ||| (x % 128 * 2 ^ (7 * k) % 18446744073709551616)
theorem acc_lt (v x k : Nat) (h : v < 18446744073709551616) : acc v x k < 18446744073709551616 :=
  Nat.or_lt_two_pow (n := 64) (by omega) (by omega)
theorem acc_bits (v x k : Nat) (hv : v < 18446744073709551616) (hx : x < 256) :
    bits .or .u64 (v : Int) (IntKind.u64.wrap (IntKind.u64.wrap (bits .and .u8 (x : Int) 127) * 2 ^ (7 * k))) = ((acc v x k : Nat) : Int) := by
  have e1 : bits .and .u8 (x : Int) 127 = ((x % 128 : Nat) : Int) := by
    have := u8_and_nat x 127 hx (by omega); rw [nat_mask7] at this; exact this
  have e2 : IntKind.u64.wrap ((x % 128 : Nat) : Int) = ((x % 128 : Nat) : Int) := by rw [IntKind.wrap_u64]; omega
  have e3 : IntKind.u64.wrap (((x % 128 : Nat) : Int) * 2 ^ (7 * k)) = ((x % 128 * 2 ^ (7 * k) % 18446744073709551616 : Nat) : Int) := by
    have hp : ((2 : Int) ^ (7 * k)) = ((2 ^ (7 * k) : Nat) : Int) := by simp
    rw [hp, ← Int.natCast_mul, IntKind.wrap_u64]
    generalize x % 128 * 2 ^ (7 * k) = m
    omega
  rw [e1, e2, e3, u64_or_nat v _ hv (by omega)]; rfl
def ruv : List Nat → Nat → Nat → Nat × Nat × Nat
  | [], _, _ => (0, 0, 2)
  | x :: l, k, v => if k = 9 ∧ 1 < x then (0, 0, 3) else if 127 < x then ruv l (k + 1) (acc v x k) else if 0 < k ∧ x = 0 then (0, 0, 3) else (acc v x k, k + 1, 0)
theorem drop_get (l : List Nat) (k : Nat) (h : k < l.length) : l.drop k = l.getD k 0 :: l.drop (k + 1) := by
  rw [List.drop_eq_getElem_cons h, List.getD_eq_getElem?_getD, List.getElem?_eq_getElem h]; rfl
theorem ruv_nine (x k v : Nat) (l : List Nat) (h : k = 9) (hx : 1 < x) : ruv (x :: l) k v = (0, 0, 3) := by simp [ruv, h, hx]
theorem ruv_more (x k v : Nat) (l : List Nat) (h : ¬ (k = 9 ∧ 1 < x)) (hx : 127 < x) : ruv (x :: l) k v = ruv l (k + 1) (acc v x k) := by simp [ruv, h, hx]
theorem ruv_zero (x k v : Nat) (l : List Nat) (h : 0 < k) (hx : x = 0) : ruv (x :: l) k v = (0, 0, 3) := by simp [ruv, h, hx]
theorem ruv_end (x k v : Nat) (l : List Nat) (h : ¬ (k = 9 ∧ 1 < x)) (hx : ¬ 127 < x) (h0 : ¬ (0 < k ∧ x = 0)) : ruv (x :: l) k v = (acc v x k, k + 1, 0) := by simp [ruv, h, hx, h0]
/-- A number in seven digits a byte, at most f + 1 of them. -/
def uvF : Nat → Nat → List Nat
  | 0, v => [v]
  | f + 1, v => if v < 128 then [v] else (v % 128 + 128) :: uvF f (v / 128)
theorem uvF_eq : ∀ (f g v : Nat), v ≤ f → v ≤ g → uvF f v = uvF g v
  | 0, 0, _, _, _ => rfl
  | 0, g + 1, v, h, _ => by
    obtain rfl : v = 0 := by omega
    rfl
  | f + 1, 0, v, _, h => by
    obtain rfl : v = 0 := by omega
    rfl
  | f + 1, g + 1, v, h, h' => by
    simp only [uvF]
    by_cases hv : v < 128
    · rw [if_pos hv, if_pos hv]
    · rw [if_neg hv, if_neg hv, uvF_eq f g (v / 128) (by omega) (by omega)]
/-- A number in seven digits a byte. -/
def uv (v : Nat) : List Nat := uvF v v
theorem uv_lo (v : Nat) (h : v < 128) : uv v = [v] := by
  unfold uv
  cases v with
  | zero => rfl
  | succ v => simp only [uvF]; rw [if_pos h]
theorem uv_hi (v : Nat) (h : ¬ v < 128) : uv v = (v % 128 + 128) :: uv (v / 128) := by
  unfold uv
  cases v with
  | zero => omega
  | succ v => simp only [uvF]; rw [if_neg h, uvF_eq v ((v + 1) / 128) ((v + 1) / 128) (by omega) (by omega)]
theorem uv_len (n v : Nat) (h : v < 128 ^ (n + 1)) : (uv v).length ≤ n + 1 := by
  induction n generalizing v with
  | zero => rw [uv_lo v (by simpa using h)]; simp
  | succ n ih =>
    by_cases hv : v < 128
    · rw [uv_lo v hv]; simp
    · rw [uv_hi v hv]
      have := ih (v / 128) (by rw [Nat.div_lt_iff_lt_mul (by decide)]; rw [Nat.pow_succ] at h; exact h)
      simpa using this
theorem uv_pos (v : Nat) : 0 < (uv v).length := by
  by_cases hv : v < 128
  · rw [uv_lo v hv]; simp
  · rw [uv_hi v hv]; simp
theorem uv_ten (v : Nat) (h : v < 18446744073709551616) : (uv v).length ≤ 10 := uv_len 9 v (Nat.lt_of_lt_of_le h (by decide))
theorem uv_oct (v : Nat) : ∀ x ∈ uv v, x < 256 := by
  induction v using Nat.strongRecOn with
  | _ v ih =>
    by_cases hv : v < 128
    · rw [uv_lo v hv]; intro x hx; simp at hx; omega
    · rw [uv_hi v hv]; intro x hx
      rcases List.mem_cons.1 hx with h | h
      · omega
      · exact ih (v / 128) (by omega) x h
theorem or_128 : ∀ y, y < 256 → y ||| 128 = y % 128 + 128 := by decide +kernel
theorem or_u8 (u : Nat) : bits .or .u8 ((u : Int) % 256) 128 = ((u % 128 + 128 : Nat) : Int) := by
  have h := u8_or_nat (u % 256) 128 (by omega) (by omega)
  rw [or_128 _ (by omega)] at h
  rw [show ((u : Int) % 256) = ((u % 256 : Nat) : Int) by omega]
  refine Eq.trans h ?_
  congr 1; omega
theorem or_t (t : Nat) (ht : t < 128) : bits .or .u8 (t : Int) 128 = ((t + 128 : Nat) : Int) := by
  have h := u8_or_nat t 128 (by omega) (by omega)
  rw [or_128 _ (by omega), Nat.mod_eq_of_lt ht] at h
  exact h
theorem and_127 (u : Nat) (hu : u < 18446744073709551616) : bits .and .u64 (u : Int) 127 = ((u % 128 : Nat) : Int) := by
  have h := u64_and_nat u 127 hu (by omega)
  rw [nat_mask7] at h
  exact h
theorem acc_add (v x k : Nat) (hv : v < 2 ^ (7 * k)) (hx : x % 128 * 2 ^ (7 * k) < 18446744073709551616) : acc v x k = v + x % 128 * 2 ^ (7 * k) := by
  unfold acc
  rw [Nat.mod_eq_of_lt hx, Nat.or_comm, nat_join (7 * k) _ v (by simp) hv]
  omega
theorem ruv_uv (u : Nat) : ∀ (k v : Nat) (more : List Nat), v < 2 ^ (7 * k) → u * 2 ^ (7 * k) < 18446744073709551616 → (k = 0 ∨ 0 < u) → ruv (uv u ++ more) k v = (v + u * 2 ^ (7 * k), k + (uv u).length, 0) := by
  induction u using Nat.strongRecOn with
  | _ u ih =>
    intro k v more hv hu hku
    have hp : 2 ^ (7 * (k + 1)) = 128 * 2 ^ (7 * k) := by rw [Nat.mul_add, Nat.pow_add]; omega
    have hpos : 0 < 2 ^ (7 * k) := Nat.two_pow_pos _
    have hk9 : k ≤ 9 := by
      apply Nat.le_of_not_lt; intro h9
      have h1 : 0 < u := by omega
      have h2 : 2 ^ 70 ≤ 2 ^ (7 * k) := Nat.pow_le_pow_right (by decide) (by omega)
      have h3 : 1 * 2 ^ (7 * k) ≤ u * 2 ^ (7 * k) := Nat.mul_le_mul_right _ h1
      omega
    have h1u : k = 9 → u ≤ 1 := by
      intro h; subst h
      have : (2 : Nat) ^ (7 * 9) = 9223372036854775808 := by decide
      rw [this] at hu; omega
    by_cases hlo : u < 128
    · rw [uv_lo u hlo]
      have hm : u % 128 = u := Nat.mod_eq_of_lt hlo
      show ruv (u :: more) k v = _
      rw [ruv_end u k v more (by omega) (by omega) (by omega), acc_add v u k hv (by rw [hm]; exact hu), hm]
      rfl
    · rw [uv_hi u hlo]
      have hx : (u % 128 + 128) % 128 = u % 128 := by omega
      have hxb : u % 128 * 2 ^ (7 * k) < 18446744073709551616 := Nat.lt_of_le_of_lt (Nat.mul_le_mul_right _ (Nat.mod_le _ _)) hu
      show ruv ((u % 128 + 128) :: (uv (u / 128) ++ more)) k v = _
      rw [ruv_more _ k v _ (by omega) (by omega), acc_add v _ k hv (by rw [hx]; exact hxb), hx]
      have hsplit : u * 2 ^ (7 * k) = u % 128 * 2 ^ (7 * k) + (u / 128) * 2 ^ (7 * (k + 1)) := by
        rw [hp, ← Nat.mul_assoc, ← Nat.add_mul]
        congr 1; omega
      have hlt : v + u % 128 * 2 ^ (7 * k) < 2 ^ (7 * (k + 1)) := by
        rw [hp]
        have : u % 128 * 2 ^ (7 * k) ≤ 127 * 2 ^ (7 * k) := Nat.mul_le_mul_right _ (by omega)
        omega
      rw [ih (u / 128) (by omega) (k + 1) _ more hlt (by omega) (by right; omega)]
      simp only [List.length_cons, Prod.mk.injEq, and_true]
      omega
theorem ruv_back (v : Nat) (more : List Nat) (h : v < 18446744073709551616) : ruv (uv v ++ more) 0 0 = (v, (uv v).length, 0) := by
  have := ruv_uv v 0 0 more (by decide) (by simpa using h) (.inl rfl)
  simpa using this
end Go.Proofs.Ythmnjamnaibcgaa.Math
namespace Go.Proofs.Ythmnjamnaibcgaa
open Go.RowKit Math
set_option linter.unusedVariables false
def Oct (l : List Nat) : Prop := ∀ x ∈ l, x < 256
theorem Oct.right {l m : List Nat} (h : Oct (l ++ m)) : Oct m := fun x hx => h x (by simp [hx])
theorem Oct.left {l m : List Nat} (h : Oct (l ++ m)) : Oct l := fun x hx => h x (by simp [hx])
theorem Oct.app {l m : List Nat} (h : Oct l) (g : Oct m) : Oct (l ++ m) := fun x hx => by
  rcases List.mem_append.1 hx with hx | hx
  · exact h x hx
  · exact g x hx
/-! ### readers -/
def Rdr (α : Type) := List Nat → Except Nat (α × List Nat)
def Rdr.ret {α : Type} (x : α) : Rdr α := fun l => .ok (x, l)
def Rdr.no {α : Type} (e : Nat) : Rdr α := fun _ => .error e
def Rdr.bind {α β : Type} (f : Rdr α) (g : α → Rdr β) : Rdr β := fun l => match f l with
  | .ok (x, r) => g x r
  | .error e => .error e
theorem bind_ok {α β : Type} {f : Rdr α} {g : α → Rdr β} {l r : List Nat} {x : α} (h : f l = .ok (x, r)) : f.bind g l = g x r := by
  unfold Rdr.bind; rw [h]
theorem bind_no {α β : Type} {f : Rdr α} {g : α → Rdr β} {l : List Nat} {e : Nat} (h : f l = .error e) : f.bind g l = .error e := by
  unfold Rdr.bind; rw [h]
theorem bind_inv {α β : Type} {f : Rdr α} {g : α → Rdr β} {l r : List Nat} {y : β} (h : f.bind g l = .ok (y, r)) : ∃ x m, f l = .ok (x, m) ∧ g x m = .ok (y, r) := by
  unfold Rdr.bind at h
  cases hf : f l with
  | error e => rw [hf] at h; cases h
  | ok v => obtain ⟨x, m⟩ := v; rw [hf] at h; exact ⟨x, m, rfl, h⟩
/-- A reader takes what it takes whatever stands behind, and less is too short. -/
def Good {α : Type} (f : Rdr α) : Prop := ∀ l x r, Oct l → f l = .ok (x, r) → ∃ c, l = c ++ r ∧ (∀ m, f (c ++ m) = .ok (x, m)) ∧ ∀ c' m, c = c' ++ m → m ≠ [] → f c' = .error 2
theorem good_ret {α : Type} (x : α) : Good (Rdr.ret x) := fun l y r _ h => by
  obtain ⟨rfl, rfl⟩ := Prod.mk.inj (Except.ok.inj h)
  refine ⟨[], rfl, fun m => rfl, fun c' m h1 h2 => ?_⟩
  have := List.append_eq_nil_iff.1 h1.symm
  exact absurd this.2 h2
theorem good_no {α : Type} (e : Nat) : Good (Rdr.no (α := α) e) := fun l y r _ h => by cases h
theorem good_bind {α β : Type} {f : Rdr α} {g : α → Rdr β} (hf : Good f) (hg : ∀ x, Good (g x)) : Good (f.bind g) := fun l y r ho h => by
  obtain ⟨x, m, h1, h2⟩ := bind_inv h
  obtain ⟨c1, rfl, a2, a3⟩ := hf l x m ho h1
  obtain ⟨c2, rfl, b2, b3⟩ := hg x m y r ho.right h2
  refine ⟨c1 ++ c2, by simp, fun m => ?_, fun c' m e hm => ?_⟩
  · rw [List.append_assoc, bind_ok (a2 _)]; exact b2 m
  · rcases List.append_eq_append_iff.1 e with ⟨a', e1, e2⟩ | ⟨a', e1, e2⟩
    · rw [e1, bind_ok (a2 _)]
      exact b3 a' m e2 hm
    · by_cases h0 : a' = []
      · subst h0
        simp only [List.append_nil] at e1
        subst e1
        rw [show c1 = c1 ++ [] by simp, bind_ok (a2 [])]
        exact b3 [] c2 rfl (by simp only [List.nil_append] at e2; rw [← e2]; exact hm)
      · exact bind_no (a3 c' a' e1 h0)
theorem good_if {α : Type} {p : Prop} [Decidable p] {f g : Rdr α} (hf : Good f) (hg : Good g) : Good (if p then f else g) := by
  split <;> assumption
/-- It reads these bytes, whatever stands behind. -/
def Reads {α : Type} (f : Rdr α) (c : List Nat) (x : α) : Prop := ∀ m, f (c ++ m) = .ok (x, m)
theorem reads_ret {α : Type} (x : α) : Reads (Rdr.ret x) [] x := fun m => rfl
theorem reads_bind {α β : Type} {f : Rdr α} {g : α → Rdr β} {c1 c2 : List Nat} {x : α} {y : β} (h1 : Reads f c1 x) (h2 : Reads (g x) c2 y) : Reads (f.bind g) (c1 ++ c2) y := fun m => by
  rw [List.append_assoc, bind_ok (h1 _)]; exact h2 m
/-! ### bytes, numbers, texts -/
def byR : Rdr Nat := fun l => match l with
  | [] => .error 2
  | x :: r => .ok (x, r)
def uvR : Rdr Nat := fun l => if (ruv l 0 0).2.2 = 0 then .ok ((ruv l 0 0).1, l.drop (ruv l 0 0).2.1) else .error (ruv l 0 0).2.2
def lenR : Rdr Nat := uvR.bind fun u => if 65536 < u then .no 3 else .ret u
def bts (s : ByteArray) : List Nat := s.data.toList.map UInt8.toNat
def ofB (l : List Nat) : ByteArray := ⟨(l.map UInt8.ofNat).toArray⟩
def takeR (n : Nat) : Rdr (List Nat) := fun l => if l.length < n then .error 2 else .ok (l.take n, l.drop n)
def txR : Rdr ByteArray := lenR.bind fun n => (takeR n).bind fun b => .ret (ofB b)
theorem bts_len (s : ByteArray) : (bts s).length = s.size := by simp [bts]
theorem bts_oct (s : ByteArray) : ∀ x ∈ bts s, x < 256 := fun x hx => by
  obtain ⟨y, _, rfl⟩ := List.mem_map.1 hx
  exact y.toNat_lt
theorem ofB_bts (s : ByteArray) : ofB (bts s) = s := by
  unfold ofB bts
  rw [List.map_map]
  have : (UInt8.ofNat ∘ UInt8.toNat) = id := by funext x; simp
  rw [this]
  simp
theorem bts_ofB (l : List Nat) (h : ∀ x ∈ l, x < 256) : bts (ofB l) = l := by
  unfold ofB bts
  simp only [List.map_map]
  conv => rhs; rw [← List.map_id l]
  apply List.map_congr_left
  intro x hx
  have := h x hx
  simp
  omega
theorem ofB_size (l : List Nat) : (ofB l).size = l.length := by
  have : (ofB l).size = (ofB l).data.toList.length := by simp
  rw [this]
  simp [ofB]
theorem good_by : Good byR := fun l x r _ h => by
  cases l with
  | nil => cases h
  | cons y l =>
    obtain ⟨rfl, rfl⟩ := Prod.mk.inj (Except.ok.inj h)
    refine ⟨[y], rfl, fun m => rfl, fun c' m e hm => ?_⟩
    cases c' with
    | nil => rfl
    | cons z c' =>
      simp only [List.cons_append, List.cons.injEq] at e
      exact absurd (List.append_eq_nil_iff.1 e.2.symm).2 hm
theorem acc_hi {v x k : Nat} (h : k ≤ 8) (hv : v < 2 ^ (7 * k)) : acc v x k = v + x % 128 * 2 ^ (7 * k) ∧ acc v x k < 2 ^ (7 * (k + 1)) := by
  have hp : 2 ^ (7 * (k + 1)) = 128 * 2 ^ (7 * k) := by rw [Nat.mul_add, Nat.pow_add]; omega
  have h2 : 2 ^ (7 * (k + 1)) ≤ 2 ^ 63 := Nat.pow_le_pow_right (by decide) (by omega)
  have h3 : x % 128 * 2 ^ (7 * k) ≤ 127 * 2 ^ (7 * k) := Nat.mul_le_mul_right _ (by omega)
  have e := acc_add v x k hv (by omega)
  rw [e]
  omega
/-- What is read as a number is written so. -/
theorem ruv_inv : ∀ (l : List Nat) (k v u n : Nat), (∀ x ∈ l, x < 256) → k ≤ 9 → v < 2 ^ (7 * k) → ruv l k v = (u, n, 0) → ∃ q r, l = uv q ++ r ∧ n = k + (uv q).length ∧ u = v + q * 2 ^ (7 * k) ∧ (k = 0 ∨ 0 < q) ∧ u < 18446744073709551616
  | [], k, v, u, n, ho, hk, hv, h => by simp [ruv] at h
  | x :: l, k, v, u, n, ho, hk, hv, h => by
    have hx := ho x (by simp)
    have hp : 2 ^ (7 * (k + 1)) = 128 * 2 ^ (7 * k) := by rw [Nat.mul_add, Nat.pow_add]; omega
    by_cases h1 : k = 9 ∧ 1 < x
    · rw [ruv_nine x k v l h1.1 h1.2] at h
      simp at h
    by_cases h2 : 127 < x
    · rw [ruv_more x k v l h1 h2] at h
      have hk8 : k ≤ 8 := by omega
      obtain ⟨e1, e2⟩ := acc_hi (x := x) hk8 hv
      obtain ⟨q, r, rfl, rfl, rfl, hq, hu⟩ := ruv_inv l (k + 1) _ u n (fun y hy => ho y (by simp [hy])) (by omega) e2 h
      have hq : 0 < q := by omega
      refine ⟨x - 128 + q * 128, r, ?_, ?_, ?_, by omega, hu⟩
      · rw [uv_hi (x - 128 + q * 128) (by omega), show (x - 128 + q * 128) % 128 + 128 = x by omega, show (x - 128 + q * 128) / 128 = q by omega]
        rfl
      · rw [uv_hi (x - 128 + q * 128) (by omega), show (x - 128 + q * 128) / 128 = q by omega, List.length_cons]
        omega
      · rw [e1, hp, Nat.add_mul, show x % 128 = x - 128 by omega, Nat.add_assoc, Nat.mul_assoc]
    · by_cases h3 : 0 < k ∧ x = 0
      · rw [ruv_zero x k v l h3.1 h3.2] at h
        simp at h
      · rw [ruv_end x k v l h1 h2 h3] at h
        simp only [Prod.mk.injEq, and_true] at h
        obtain ⟨rfl, rfl⟩ := h
        have hlt : x * 2 ^ (7 * k) < 18446744073709551616 := by
          by_cases h9 : k = 9
          · subst h9
            have : x ≤ 1 := by omega
            have := Nat.mul_le_mul_right (2 ^ (7 * 9)) this
            exact Nat.lt_of_le_of_lt this (by decide)
          · have h2 : 2 ^ (7 * k) ≤ 2 ^ 56 := Nat.pow_le_pow_right (by decide) (by omega)
            have := Nat.mul_le_mul (show x ≤ 127 by omega) h2
            exact Nat.lt_of_le_of_lt this (by decide)
        have e := acc_add v x k hv (by rw [Nat.mod_eq_of_lt (by omega)]; exact hlt)
        rw [Nat.mod_eq_of_lt (by omega)] at e
        refine ⟨x, l, by rw [uv_lo x (by omega)]; rfl, by rw [uv_lo x (by omega)]; rfl, e, by omega, acc_lt _ _ _ ?_⟩
        by_cases h9 : k = 9
        · subst h9; exact Nat.lt_of_lt_of_le hv (by decide)
        · have h2 : 2 ^ (7 * k) ≤ 2 ^ 56 := Nat.pow_le_pow_right (by decide) (by omega)
          omega
theorem ruv_short : ∀ (q k v : Nat) (c' m : List Nat), (k = 0 ∨ 0 < q) → q * 2 ^ (7 * k) < 18446744073709551616 → uv q = c' ++ m → m ≠ [] → ruv c' k v = (0, 0, 2) := by
  intro q
  induction q using Nat.strongRecOn with
  | _ q ih =>
    intro k v c' m hk hq e hm
    by_cases hv : q < 128
    · rw [uv_lo q hv] at e
      cases c' with
      | nil => rfl
      | cons y c' =>
        simp only [List.cons_append, List.cons.injEq] at e
        exact absurd (List.append_eq_nil_iff.1 e.2.symm).2 hm
    · rw [uv_hi q hv] at e
      cases c' with
      | nil => rfl
      | cons y c' =>
        simp only [List.cons_append, List.cons.injEq] at e
        obtain ⟨rfl, e⟩ := e
        have hp : 2 ^ (7 * (k + 1)) = 128 * 2 ^ (7 * k) := by rw [Nat.mul_add, Nat.pow_add]; omega
        have h1 : q / 128 * 2 ^ (7 * (k + 1)) ≤ q * 2 ^ (7 * k) := by
          rw [hp, ← Nat.mul_assoc]
          exact Nat.mul_le_mul_right _ (by omega)
        have hk9 : k ≠ 9 := by
          rintro rfl
          have h63 : (2 : Nat) ^ (7 * 9) = 9223372036854775808 := by decide
          rw [h63] at hq
          omega
        rw [ruv_more _ k v _ (by omega) (by omega)]
        exact ih (q / 128) (by omega) (k + 1) _ c' m (by right; omega) (by omega) e hm
theorem reads_uv (u : Nat) (hu : u < 18446744073709551616) : Reads uvR (uv u) u := fun m => by
  unfold uvR
  rw [ruv_back u m hu]
  simp
theorem uv_inv {l r : List Nat} {u : Nat} (ho : ∀ x ∈ l, x < 256) (h : uvR l = .ok (u, r)) : l = uv u ++ r ∧ u < 18446744073709551616 := by
  unfold uvR at h
  split at h
  · next h0 =>
    obtain ⟨rfl, rfl⟩ := Prod.mk.inj (Except.ok.inj h)
    obtain ⟨q, r, e1, e2, e3, _, e5⟩ := ruv_inv l 0 0 (ruv l 0 0).1 (ruv l 0 0).2.1 ho (by decide) (by decide) (by
      generalize ruv l 0 0 = t at *
      obtain ⟨a, b, c⟩ := t
      simp only at h0
      rw [h0])
    have e3 : (ruv l 0 0).1 = q := by simpa using e3
    rw [e3] at e5 ⊢
    refine ⟨?_, e5⟩
    rw [e2, Nat.zero_add]
    conv => lhs; rw [e1]
    conv => rhs; rw [e1]
    simp
  · cases h
end Go.Proofs.Ythmnjamnaibcgaa
namespace Go.Proofs.Ythmnjamnaibcgaa
open Go.RowKit Math
set_option linter.unusedVariables false
/-! ### values one behind the other -/
def Fo.snoc : Fo → Vt → Fo
  | .nil, p => .cons p.1 p.2 .nil
  | .cons h k r, p => .cons h k (r.snoc p)
theorem snoc_list (p : Vt) : ∀ f : Fo, (f.snoc p).list = f.list ++ [p]
  | .nil => rfl
  | .cons h k r => by simp [Fo.snoc, Fo.list, snoc_list p r]
theorem Fo.ind {P : Fo → Prop} (h0 : P .nil) (h1 : ∀ f p, P f → P (f.snoc p)) (f : Fo) : P f := by
  have key : ∀ (r g : Fo), P g → ∀ f : Fo, f.list = g.list ++ r.list → P f := by
    have ext : ∀ f g : Fo, f.list = g.list → f = g := by
      intro f
      induction f with
      | nil => intro g h; cases g with
        | nil => rfl
        | cons h k r => simp [Fo.list] at h
      | cons h k r _ ih => intro g e; cases g with
        | nil => simp [Fo.list] at e
        | cons h' k' r' =>
          simp only [Fo.list, List.cons.injEq, Prod.mk.injEq] at e
          obtain ⟨⟨rfl, rfl⟩, e⟩ := e
          rw [ih r' e]
    intro r
    induction r with
    | nil => intro g hg f e; rw [ext f g (by simpa [Fo.list] using e)]; exact hg
    | cons h k r _ ih =>
      intro g hg f e
      exact ih (g.snoc (h, k)) (h1 g (h, k) hg) f (by rw [e, snoc_list]; simp [Fo.list])
  exact key f .nil h0 f rfl
/-- How deep values are. -/
def dpF : Fo → Nat
  | .nil => 0
  | .cons _ k r => max (1 + dpF k) (dpF r)
def dpV (p : Vt) : Nat := 1 + dpF p.2
theorem dp_snoc (p : Vt) : ∀ f : Fo, dpF (f.snoc p) = max (dpF f) (dpV p)
  | .nil => by simp [Fo.snoc, dpF, dpV]
  | .cons h k r => by simp only [Fo.snoc, dpF, dp_snoc p r]; omega
/-! ### the check without the depth -/
def chk0 : Fo → Int
  | .nil => 0
  | .cons h k r => if (if own h k.list.length ≠ 0 then own h k.list.length else chk0 k) ≠ 0 then (if own h k.list.length ≠ 0 then own h k.list.length else chk0 k) else chk0 r
def chk0V (p : Vt) : Int := if own p.1 p.2.list.length ≠ 0 then own p.1 p.2.list.length else chk0 p.2
theorem chk_flat : ∀ (f : Fo) (d : Int), d + (dpF f : Int) ≤ 17 → chk f d = chk0 f
  | .nil, d, _ => rfl
  | .cons h k r, d, hd => by
    simp only [dpF] at hd
    have e1 := chk_flat k (d + 1) (by omega)
    have e2 := chk_flat r d (by omega)
    simp only [chk, chk0]
    rw [if_neg (show ¬ 16 < d by omega), e1, e2]
theorem chkV_flat (p : Vt) (d : Int) (hd : d + (dpV p : Int) ≤ 17) : chkV p d = chk0V p := by
  unfold dpV at hd
  unfold chkV chk0V
  rw [if_neg (by omega), chk_flat p.2 (d + 1) (by omega)]
theorem chk0_cons (p : Vt) (r : Fo) : chk0 (.cons p.1 p.2 r) = if chk0V p ≠ 0 then chk0V p else chk0 r := rfl
theorem chk0_snoc (p : Vt) : ∀ f : Fo, chk0 (f.snoc p) = if chk0 f ≠ 0 then chk0 f else chk0V p
  | .nil => by
    show chk0 (.cons p.1 p.2 .nil) = _
    rw [chk0_cons]
    simp only [chk0]
    by_cases h : chk0V p = 0 <;> simp [h]
  | .cons h k r => by
    show chk0 (.cons (h, k).1 (h, k).2 (r.snoc p)) = _
    have e : chk0 (.cons h k r) = if chk0V (h, k) ≠ 0 then chk0V (h, k) else chk0 r := rfl
    rw [chk0_cons, chk0_snoc p r, e]
    by_cases h1 : chk0V (h, k) = 0 <;> simp [h1]
theorem deep_of : ∀ (f : Fo) (d : Int), d ≤ 17 → chk f d = 0 → d + (dpF f : Int) ≤ 17
  | .nil, d, hd, _ => by simp [dpF]; exact hd
  | .cons h k r, d, hd, hc => by
    simp only [chk] at hc
    by_cases h16 : 16 < d
    · rw [if_pos h16] at hc
      simp at hc
    rw [if_neg h16] at hc
    by_cases h1 : own h k.list.length = 0
    · simp only [h1, ne_eq, not_true_eq_false, if_false] at hc
      by_cases h2 : chk k (d + 1) = 0
      · simp only [h2, not_true_eq_false, if_false] at hc
        have a := deep_of k (d + 1) (by omega) h2
        have b := deep_of r d hd hc
        simp only [dpF]
        omega
      · simp [h2] at hc
    · simp [h1] at hc
theorem deepV_of (p : Vt) (d : Int) (hc : chkV p d = 0) : d + (dpV p : Int) ≤ 17 := by
  unfold chkV at hc
  by_cases h16 : 16 < d
  · rw [if_pos h16] at hc; cases hc
  rw [if_neg h16] at hc
  by_cases h1 : own p.1 p.2.list.length = 0
  · simp only [h1, ne_eq, not_true_eq_false, if_false] at hc
    have := deep_of p.2 (d + 1) (by omega) hc
    unfold dpV
    omega
  · simp [h1] at hc
/-! ### what is written -/
def txB (s : ByteArray) : List Nat := uv s.size ++ bts s
def bodyB (h : Hd) (kl : Nat) : List Nat :=
  if h.k = 2 then [h.n.toNat] else if h.k = 3 then uv (zigS h.n).toNat else if h.k = 4 then uv (zigS h.n).toNat ++ [h.s.toNat] else if h.k = 5 then uv h.n.toNat
  else if h.k = 6 then txB h.t else if h.k = 7 then txB h.t else if h.k = 8 then uv kl else if h.k = 9 then uv kl else []
def headB (h : Hd) (kl : Nat) : List Nat := h.k.toNat :: bodyB h kl
/-- Values one behind the other, each behind its name where they have names. -/
def enc : Fo → Bool → List ByteArray → List Nat
  | .nil, _, _ => []
  | .cons h k r, b, ns => ((if b then txB (ns.headD ⟨#[]⟩) else []) ++ (headB h k.list.length ++ enc k (decide (h.k = 9)) h.ns)) ++ enc r b ns.tail
def encV (p : Vt) : List Nat := headB p.1 p.2.list.length ++ enc p.2 (decide (p.1.k = 9)) p.1.ns
theorem enc_cons (p : Vt) (r : Fo) (b : Bool) (ns : List ByteArray) : enc (.cons p.1 p.2 r) b ns = ((if b then txB (ns.headD ⟨#[]⟩) else []) ++ encV p) ++ enc r b ns.tail := rfl
theorem enc_snoc (p : Vt) (s : ByteArray) : ∀ (f : Fo) (b : Bool) (ns : List ByteArray), (b = true → ns.length = f.list.length) → enc (f.snoc p) b (if b then ns ++ [s] else ns) = enc f b ns ++ ((if b then txB s else []) ++ encV p)
  | .nil, b, ns, h => by
    show enc (.cons p.1 p.2 .nil) b _ = _
    rw [enc_cons]
    cases b
    · simp [enc]
    · have : ns = [] := List.eq_nil_of_length_eq_zero (by simpa [Fo.list] using h rfl)
      subst this
      simp [enc]
  | .cons hd k r, b, ns, h => by
    show enc (.cons (hd, k).1 (hd, k).2 (r.snoc p)) b _ = enc (.cons (hd, k).1 (hd, k).2 r) b ns ++ _
    rw [enc_cons, enc_cons, List.append_assoc]
    cases b
    · have := enc_snoc p s r false ns.tail (by simp)
      simp only [Bool.false_eq_true, if_false] at this ⊢
      rw [this, List.append_assoc, List.append_assoc]
    · cases ns with
      | nil => simp [Fo.list] at h
      | cons x ns =>
        have := enc_snoc p s r true ns (fun _ => by simpa [Fo.list] using h rfl)
        simp only [if_true] at this ⊢
        simp only [List.cons_append, List.headD_cons, List.tail_cons]
        rw [this, List.append_assoc, List.append_assoc]
/-! ### what is read -/
abbrev em : ByteArray := ⟨#[]⟩
def lf (k n s : Int) (t : ByteArray) : Vt := (⟨k, n, s, t, []⟩, .nil)
def nst (k : Int) (q : Fo × List ByteArray) : Vt := (⟨k, 0, 0, em, q.2⟩, q.1)
def wr64 (u : Nat) : Int := if u < 9223372036854775808 then (u : Int) else (u : Int) - 18446744073709551616
def rdN (g : Rdr Vt) (b : Bool) : Nat → Rdr (Fo × List ByteArray)
  | 0 => .ret (.nil, [])
  | n + 1 => (rdN g b n).bind fun q => if b then txR.bind fun s => g.bind fun v => .ret (q.1.snoc v, q.2 ++ [s]) else g.bind fun v => .ret (q.1.snoc v, q.2)
def rdV : Nat → Rdr Vt
  | 0 => .no 9
  | d + 1 => byR.bind fun k =>
      if k = 1 then .ret (lf 1 0 0 em)
      else if k = 2 then byR.bind fun x => if 1 < x then .no 3 else .ret (lf 2 x 0 em)
      else if k = 3 then uvR.bind fun u => .ret (lf 3 (zagS u) 0 em)
      else if k = 4 then uvR.bind fun u => byR.bind fun x => .ret (lf 4 (zagS u) x em)
      else if k = 5 then uvR.bind fun u => .ret (lf 5 (wr64 u) 0 em)
      else if k = 6 then txR.bind fun t => .ret (lf 6 0 0 t)
      else if k = 7 then txR.bind fun t => .ret (lf 7 0 0 t)
      else if k = 8 then lenR.bind fun n => (rdN (fun l => rdV d l) false n).bind fun q => .ret (nst 8 q)
      else if k = 9 then lenR.bind fun n => (rdN (fun l => rdV d l) true n).bind fun q => .ret (nst 9 q)
      else .no 3
/-! ### good readers -/
theorem good_uv : Good uvR := fun l u r ho h => by
  obtain ⟨rfl, hu⟩ := uv_inv ho h
  refine ⟨uv u, rfl, reads_uv u hu, fun c' m e hm => ?_⟩
  unfold uvR
  rw [ruv_short u 0 0 c' m (.inl rfl) (by simpa using hu) e hm]
  rfl
theorem good_take (n : Nat) : Good (takeR n) := fun l x r ho h => by
  unfold takeR at h
  split at h
  · cases h
  · next hl =>
    obtain ⟨rfl, rfl⟩ := Prod.mk.inj (Except.ok.inj h)
    have hn : (l.take n).length = n := by rw [List.length_take]; omega
    refine ⟨l.take n, (List.take_append_drop n l).symm, fun m => ?_, fun c' m e hm => ?_⟩
    · unfold takeR
      rw [if_neg (by rw [List.length_append, hn]; omega), List.take_left' hn, List.drop_left' hn]
    · unfold takeR
      rw [if_pos]
      have := congrArg List.length e
      rw [hn, List.length_append] at this
      have := List.length_pos_iff.2 hm
      omega
theorem good_len : Good lenR := good_bind good_uv fun u => good_if (good_no _) (good_ret _)
theorem good_tx : Good txR := good_bind good_len fun n => good_bind (good_take n) fun b => good_ret _
theorem good_N {g : Rdr Vt} (hg : Good g) (b : Bool) : ∀ n, Good (rdN g b n)
  | 0 => good_ret _
  | n + 1 => good_bind (good_N hg b n) fun q => good_if (good_bind good_tx fun s => good_bind hg fun v => good_ret _) (good_bind hg fun v => good_ret _)
theorem good_V : ∀ d, Good (rdV d)
  | 0 => good_no _
  | d + 1 => good_bind good_by fun k => good_if (good_ret _) (good_if (good_bind good_by fun x => good_if (good_no _) (good_ret _)) (good_if (good_bind good_uv fun u => good_ret _) (good_if (good_bind good_uv fun u => good_bind good_by fun x => good_ret _)
      (good_if (good_bind good_uv fun u => good_ret _) (good_if (good_bind good_tx fun t => good_ret _) (good_if (good_bind good_tx fun t => good_ret _) (good_if (good_bind good_len fun n => good_bind (good_N (good_V d) _ n) fun q => good_ret _)
      (good_if (good_bind good_len fun n => good_bind (good_N (good_V d) _ n) fun q => good_ret _) (good_no _)))))))))
/-! ### what is written is read -/
theorem reads_len (n : Nat) (h : n ≤ 65536) : Reads lenR (uv n) n := fun m => by
  unfold lenR
  rw [bind_ok (reads_uv n (by omega) m), if_neg (by omega)]
  rfl
theorem reads_tx (s : ByteArray) (h : s.size ≤ 65536) : Reads txR (txB s) s := by
  refine reads_bind (reads_len s.size h) fun m => ?_
  have e : takeR s.size (bts s ++ m) = .ok (bts s, m) := by
    unfold takeR
    rw [if_neg (by rw [List.length_append, bts_len]; omega), List.take_left' (bts_len s), List.drop_left' (bts_len s)]
  rw [bind_ok e, ofB_bts]
  rfl
theorem reads_by (x : Nat) : Reads byR [x] x := fun m => rfl
structure Fine (h : Hd) (kl : Nat) : Prop where
  form : formed h kl = true
  t : h.t.size ≤ 16384
  c : kl ≤ 200
  nm : h.k = 9 → named h.ns kl = true
theorem own_fine {h : Hd} {kl : Nat} (e : own h kl = 0) : Fine h kl := by
  unfold own at e
  split at e
  · next hf =>
    split at e
    · cases e
    · next h2 =>
      split at e
      · cases e
      · next h3 =>
        refine ⟨hf, by omega, by omega, fun h9 => ?_⟩
        cases hn : named h.ns kl with
        | true => rfl
        | false => exact absurd ⟨h9, hn⟩ h3
  · cases e
theorem em_of {t : ByteArray} (h : t.toList.isEmpty = true) : t = em := by
  rw [ByteArray.toList_eq] at h
  cases t with
  | mk d =>
    cases d with
    | mk l =>
      cases l with
      | nil => rfl
      | cons a l => simp at h
theorem fo_nil {f : Fo} (h : f.list.length = 0) : f = .nil := by
  cases f with
  | nil => rfl
  | cons h k r => simp [Fo.list] at h
/-- The parts that a kind has, and no others. -/
theorem leaf_of {p : Vt} {F : Int} (h : only p.1 p.2.list.length F = true) (hF : F ≠ 16) (hF2 : F ≠ 24) : p.1.ns = [] ∧ p.2 = .nil ∧ (F ≠ 4 → p.1.t = em) ∧ (F ≠ 3 → p.1.s = 0) ∧ (F ≠ 1 → F ≠ 3 → p.1.n = 0) := by
  simp only [only, Bool.and_eq_true, Bool.or_eq_true, decide_eq_true_eq] at h
  obtain ⟨⟨⟨⟨h1, h2⟩, h3⟩, h4⟩, h5⟩ := h
  refine ⟨?_, ?_, fun hf => ?_, fun hf => ?_, fun ha hb => ?_⟩
  · rcases h4 with h4 | h4
    · exact absurd h4 hF2
    · exact List.eq_nil_of_length_eq_zero h4
  · rcases h5 with (h5 | h5) | h5
    · exact absurd h5 hF
    · exact absurd h5 hF2
    · exact fo_nil h5
  · rcases h3 with h3 | h3
    · exact absurd h3 hf
    · exact em_of h3
  · rcases h2 with h2 | h2
    · exact absurd h2 hf
    · exact h2
  · rcases h1 with (h1 | h1) | h1
    · exact absurd h1 ha
    · exact absurd h1 hb
    · exact h1
end Go.Proofs.Ythmnjamnaibcgaa
namespace Go.Proofs.Ythmnjamnaibcgaa
open Go.RowKit Math
set_option linter.unusedVariables false
theorem rd_one (d : Nat) {k : Nat} {c : List Nat} {x : Vt} {f : Rdr Vt} (hf : ∀ l, rdV (d + 1) (k :: l) = f l) (h : Reads f c x) : Reads (rdV (d + 1)) (k :: c) x := fun m => by
  rw [List.cons_append, hf]; exact h m
theorem names_len {ns : List ByteArray} {kl : Nat} (h : named ns kl = true) : ns.length = kl ∧ ∀ x ∈ ns, x.size ≤ 40 := by
  simp only [named, Bool.and_eq_true, decide_eq_true_eq] at h
  refine ⟨h.1, ?_⟩
  have : ∀ (l : List ByteArray) (a : ByteArray), rises a l = true → ∀ x ∈ l, x.size ≤ 40 := by
    intro l
    induction l with
    | nil => intro a _ x hx; cases hx
    | cons y l ih =>
      intro a h x hx
      simp only [rises, Bool.and_eq_true, Bool.not_eq_true', decide_eq_false_iff_not] at h
      rcases List.mem_cons.1 hx with rfl | hx
      · omega
      · exact ih y h.2 x hx
  exact this ns _ h.2
theorem chk0_mem : ∀ {f : Fo} {p : Vt}, chk0 f = 0 → p ∈ f.list → chk0V p = 0
  | .cons h k r, p, hc, hp => by
    have e : chk0 (.cons h k r) = if chk0V (h, k) ≠ 0 then chk0V (h, k) else chk0 r := rfl
    rw [e] at hc
    by_cases h0 : chk0V (h, k) = 0
    · rw [if_neg (by simpa using h0)] at hc
      rcases List.mem_cons.1 hp with rfl | hp
      · exact h0
      · exact chk0_mem hc hp
    · rw [if_pos h0] at hc
      exact absurd hc h0
theorem dp_mem : ∀ {f : Fo} {p : Vt}, p ∈ f.list → dpV p ≤ dpF f
  | .cons h k r, p, hp => by
    simp only [dpF]
    rcases List.mem_cons.1 hp with rfl | hp
    · simp only [dpV]; omega
    · have := dp_mem hp; omega
/-- A row of values, each of which is read. -/
theorem reads_N {g : Rdr Vt} (b : Bool) : ∀ (f : Fo) (ns : List ByteArray), (∀ p ∈ f.list, Reads g (encV p) p) → (b = true → ns.length = f.list.length ∧ ∀ x ∈ ns, x.size ≤ 65536) → (b = false → ns = []) → Reads (rdN g b f.list.length) (enc f b ns) (f, ns) := by
  intro f
  induction f using Fo.ind with
  | h0 =>
    intro ns _ h1 h2
    have : ns = [] := by
      cases b
      · exact h2 rfl
      · exact List.eq_nil_of_length_eq_zero (by simpa [Fo.list] using (h1 rfl).1)
    subst this
    exact reads_ret _
  | h1 f p ih =>
    intro ns hg h1 h2
    have hl : (f.snoc p).list.length = f.list.length + 1 := by simp [snoc_list]
    rw [hl]
    have gp := hg p (by simp [snoc_list])
    have gf : ∀ q ∈ f.list, Reads g (encV q) q := fun q hq => hg q (by simp [snoc_list, hq])
    cases b
    · obtain rfl := h2 rfl
      have e := enc_snoc p em f false [] (by simp)
      simp only [Bool.false_eq_true, if_false, List.nil_append] at e
      rw [e]
      refine reads_bind (ih [] gf (by simp) (fun _ => rfl)) ?_
      simp only [Bool.false_eq_true, if_false]
      have := reads_bind (g := fun v => Rdr.ret (f.snoc v, ([] : List ByteArray))) gp (reads_ret (f.snoc p, []))
      rw [List.append_nil] at this
      exact this
    · obtain ⟨hn, hx⟩ := h1 rfl
      obtain ⟨ms, s, rfl⟩ : ∃ ms s, ns = ms ++ [s] := ⟨ns.dropLast, ns.getLast (by intro e; rw [e, hl] at hn; cases hn), (List.dropLast_concat_getLast _).symm⟩
      have hm : ms.length = f.list.length := by rw [hl] at hn; simpa using hn
      have e := enc_snoc p s f true ms (fun _ => hm)
      simp only [if_true] at e
      rw [e]
      refine reads_bind (ih ms gf (fun _ => ⟨hm, fun x h => hx x (by simp [h])⟩) (by simp)) ?_
      simp only [if_true]
      refine reads_bind (reads_tx s (hx s (by simp))) ?_
      have := reads_bind (g := fun v => Rdr.ret (f.snoc v, ms ++ [s])) gp (reads_ret (f.snoc p, ms ++ [s]))
      rw [List.append_nil] at this
      exact this
theorem vt_eq {p : Vt} {k n s : Int} {t : ByteArray} {ns : List ByteArray} {f : Fo} (h1 : p.1.k = k) (h2 : p.1.n = n) (h3 : p.1.s = s) (h4 : p.1.t = t) (h5 : p.1.ns = ns) (h6 : p.2 = f) : p = (⟨k, n, s, t, ns⟩, f) := by
  obtain ⟨⟨k1, n1, s1, t1, ns1⟩, f1⟩ := p
  simp only at h1 h2 h3 h4 h5 h6
  subst h1 h2 h3 h4 h5 h6
  rfl
theorem reads_end {α : Type} {f : Rdr α} {c : List Nat} {x : α} (h : Reads f c x) {β : Type} (y : β) : Reads (f.bind fun _ => .ret y) c y := by
  have := reads_bind h (g := fun _ => Rdr.ret y) (reads_ret y)
  rw [List.append_nil] at this
  exact this
theorem reads_to {α : Type} {f : Rdr α} {c : List Nat} {x : α} (h : Reads f c x) {β : Type} (q : α → β) : Reads (f.bind fun v => .ret (q v)) c (q x) := by
  have := reads_bind h (g := fun v => Rdr.ret (q v)) (reads_ret (q x))
  rw [List.append_nil] at this
  exact this
theorem zig_nat (n : Int) (h1 : -9223372036854775808 ≤ n) (h2 : n < 9223372036854775808) : (zigS n).toNat < 18446744073709551616 ∧ zagS ((zigS n).toNat : Int) = n := by
  have := zig_bd n h1 (by omega)
  refine ⟨by omega, ?_⟩
  rw [Int.toNat_of_nonneg this.1, zag_zig]
theorem reads_V : ∀ (d : Nat) (p : Vt), WfV p → dpV p ≤ d → chk0V p = 0 → Reads (rdV d) (encV p) p
  | 0, p, _, hd, _ => by simp [dpV] at hd
  | d + 1, p, hw, hd, hc => by
    have ho : own p.1 p.2.list.length = 0 := by
      apply Classical.byContradiction
      intro h
      rw [chk0V, if_pos h] at hc
      exact h hc
    have hk : chk0 p.2 = 0 := by
      rw [chk0V, if_neg (by simpa using ho)] at hc
      exact hc
    obtain ⟨hf, ht, hkl, hnm⟩ := own_fine ho
    have kids : ∀ q ∈ p.2.list, Reads (fun l => rdV d l) (encV q) q := fun q hq => reads_V d q (hw.kid hq) (by have := dp_mem hq; simp only [dpV] at hd this ⊢; omega) (chk0_mem hk hq)
    have z := zig_nat p.1.n hw.1.n0 hw.1.n1
    unfold formed at hf
    split at hf
    · next h =>
      obtain ⟨a1, a2, a3, a4, a5⟩ := leaf_of hf (by decide) (by decide)
      have e := vt_eq h (a5 (by decide) (by decide)) (a4 (by decide)) (a3 (by decide)) a1 a2
      rw [e]
      exact rd_one d (k := 1) (c := []) (fun l => rfl) (reads_ret _)
    split at hf
    · next _ h =>
      rw [Bool.and_eq_true] at hf
      obtain ⟨a1, a2, a3, a4, a5⟩ := leaf_of hf.1 (by decide) (by decide)
      have e := vt_eq h rfl (a4 (by decide)) (a3 (by decide)) a1 a2
      have hn : p.1.n = 0 ∨ p.1.n = 1 := by simpa using hf.2
      generalize p.1.n = n at *
      rw [e]
      rcases hn with rfl | rfl
      · exact rd_one d (k := 2) (c := [0]) (fun l => rfl) (reads_end (reads_by 0) _)
      · exact rd_one d (k := 2) (c := [1]) (fun l => rfl) (reads_end (reads_by 1) _)
    split at hf
    · next _ _ h =>
      obtain ⟨a1, a2, a3, a4, a5⟩ := leaf_of hf (by decide) (by decide)
      have e := vt_eq h rfl (a4 (by decide)) (a3 (by decide)) a1 a2
      generalize p.1.n = n at *
      rw [e]
      have := reads_to (reads_uv (zigS n).toNat z.1) (fun u : Nat => lf 3 (zagS u) 0 em)
      rw [z.2] at this
      have := rd_one d (k := 3) (c := uv (zigS n).toNat) (fun l => rfl) this
      simpa [encV, headB, bodyB, enc, lf] using this
    split at hf
    · next _ _ _ h =>
      simp only [Bool.and_eq_true, decide_eq_true_eq] at hf
      obtain ⟨⟨⟨b1, b2⟩, b3⟩, b4⟩ := hf
      obtain ⟨a1, a2, a3, a4, a5⟩ := leaf_of b1 (by decide) (by decide)
      have e := vt_eq h rfl rfl (a3 (by decide)) a1 a2
      generalize p.1.n = n at *
      obtain ⟨s, hs⟩ : ∃ s : Nat, p.1.s = s := ⟨p.1.s.toNat, by omega⟩
      rw [hs] at e
      rw [e]
      have := reads_bind (f := uvR) (g := fun u : Nat => byR.bind fun x : Nat => Rdr.ret (lf 4 (zagS u) x em)) (reads_uv (zigS n).toNat z.1) (reads_to (reads_by s) (fun x : Nat => lf 4 (zagS ((zigS n).toNat : Int)) x em))
      rw [z.2] at this
      have := rd_one d (k := 4) (fun l => rfl) this
      simpa [encV, headB, bodyB, enc, lf] using this
    split at hf
    · next _ _ _ _ h =>
      simp only [Bool.and_eq_true, decide_eq_true_eq] at hf
      obtain ⟨⟨b1, b2⟩, b3⟩ := hf
      obtain ⟨a1, a2, a3, a4, a5⟩ := leaf_of b1 (by decide) (by decide)
      have e := vt_eq h rfl (a4 (by decide)) (a3 (by decide)) a1 a2
      obtain ⟨n, hn⟩ : ∃ n : Nat, p.1.n = n := ⟨p.1.n.toNat, by omega⟩
      rw [hn] at e
      rw [e]
      have := reads_to (reads_uv n (by omega)) (fun u : Nat => lf 5 (wr64 u) 0 em)
      have w : wr64 n = (n : Int) := by unfold wr64; rw [if_pos (by omega)]
      rw [w] at this
      have := rd_one d (k := 5) (c := uv n) (fun l => rfl) this
      simpa [encV, headB, bodyB, enc, lf] using this
    split at hf
    · next _ _ _ _ _ h =>
      obtain ⟨a1, a2, a3, a4, a5⟩ := leaf_of hf (by decide) (by decide)
      have e := vt_eq h (a5 (by decide) (by decide)) (a4 (by decide)) rfl a1 a2
      generalize p.1.t = t at *
      rw [e]
      have := rd_one d (k := 6) (c := txB t) (fun l => rfl) (reads_to (reads_tx t (by omega)) (fun t => lf 6 0 0 t))
      simpa [encV, headB, bodyB, enc, lf] using this
    split at hf
    · next _ _ _ _ _ _ h =>
      obtain ⟨a1, a2, a3, a4, a5⟩ := leaf_of hf (by decide) (by decide)
      have e := vt_eq h (a5 (by decide) (by decide)) (a4 (by decide)) rfl a1 a2
      generalize p.1.t = t at *
      rw [e]
      have := rd_one d (k := 7) (c := txB t) (fun l => rfl) (reads_to (reads_tx t (by omega)) (fun t => lf 7 0 0 t))
      simpa [encV, headB, bodyB, enc, lf] using this
    split at hf
    · next _ _ _ _ _ _ _ h =>
      simp only [only, Bool.and_eq_true, Bool.or_eq_true, decide_eq_true_eq] at hf
      obtain ⟨⟨⟨⟨h1, h2⟩, h3⟩, h4⟩, h5⟩ := hf
      have e := vt_eq (n := 0) (s := 0) h (by omega) (by omega) (em_of (by simpa using h3)) (List.eq_nil_of_length_eq_zero (by omega)) rfl
      have r := reads_N false p.2 [] kids (by simp) (fun _ => rfl)
      generalize p.2 = f at *
      rw [e]
      have h1 := reads_to r (fun q => nst 8 q)
      have h2 := reads_bind (f := lenR) (g := fun n => (rdN (fun l => rdV d l) false n).bind fun q => .ret (nst 8 q)) (reads_len f.list.length (by omega)) h1
      have := rd_one d (k := 8) (fun l => rfl) h2
      simpa [encV, headB, bodyB, nst] using this
    split at hf
    · next _ _ _ _ _ _ _ _ h =>
      simp only [only, Bool.and_eq_true, Bool.or_eq_true, decide_eq_true_eq] at hf
      obtain ⟨⟨⟨⟨h1, h2⟩, h3⟩, h4⟩, h5⟩ := hf
      have e := vt_eq (n := 0) (s := 0) h (by omega) (by omega) (em_of (by simpa using h3)) rfl rfl
      obtain ⟨n1, n2⟩ := names_len (hnm h)
      have r := reads_N true p.2 p.1.ns kids (fun _ => ⟨n1, fun x hx => by have := n2 x hx; omega⟩) (by simp)
      generalize p.2 = f at *
      generalize p.1.ns = ns at *
      rw [e]
      have h1 := reads_to r (fun q => nst 9 q)
      have h2 := reads_bind (f := lenR) (g := fun n => (rdN (fun l => rdV d l) true n).bind fun q => .ret (nst 9 q)) (reads_len f.list.length (by omega)) h1
      have := rd_one d (k := 9) (fun l => rfl) h2
      simpa [encV, headB, bodyB, nst] using this
    · cases hf
end Go.Proofs.Ythmnjamnaibcgaa
namespace Go.Proofs.Ythmnjamnaibcgaa
open Go.RowKit Math
set_option linter.unusedVariables false
theorem by_inv {l r : List Nat} {x : Nat} (h : byR l = .ok (x, r)) : l = x :: r := by
  cases l with
  | nil => cases h
  | cons y l => obtain ⟨rfl, rfl⟩ := Prod.mk.inj (Except.ok.inj h); rfl
theorem len_inv {l r : List Nat} {n : Nat} (ho : Oct l) (h : lenR l = .ok (n, r)) : l = uv n ++ r ∧ n ≤ 65536 := by
  obtain ⟨u, m, h1, h2⟩ := bind_inv h
  obtain ⟨rfl, _⟩ := uv_inv ho h1
  split at h2
  · cases h2
  · obtain ⟨rfl, rfl⟩ := Prod.mk.inj (Except.ok.inj h2)
    exact ⟨rfl, by omega⟩
theorem tx_inv {l r : List Nat} {s : ByteArray} (ho : Oct l) (h : txR l = .ok (s, r)) : l = txB s ++ r ∧ s.size ≤ 65536 := by
  obtain ⟨n, m, h1, h2⟩ := bind_inv h
  obtain ⟨rfl, hn⟩ := len_inv ho h1
  obtain ⟨b, q, h3, h4⟩ := bind_inv h2
  unfold takeR at h3
  split at h3
  · cases h3
  · next hl =>
    obtain ⟨rfl, rfl⟩ := Prod.mk.inj (Except.ok.inj h3)
    obtain ⟨rfl, rfl⟩ := Prod.mk.inj (Except.ok.inj h4)
    have hs : (ofB (m.take n)).size = n := by rw [ofB_size, List.length_take]; omega
    have hb : bts (ofB (m.take n)) = m.take n := bts_ofB _ fun x hx => ho.right x (List.mem_of_mem_take hx)
    refine ⟨?_, by omega⟩
    unfold txB
    rw [hs, hb, List.append_assoc, List.take_append_drop]
theorem wf_snoc {p : Vt} (hp : WfV p) : ∀ {f : Fo}, Wf f → Wf (f.snoc p)
  | .nil, _ => ⟨hp, trivial⟩
  | .cons h k r, hf => ⟨hf.1, wf_snoc hp hf.2⟩
/-- What a reader of values finds. -/
structure Fnd (d : Nat) (l : List Nat) (p : Vt) (r : List Nat) : Prop where
  wf : WfV p
  dp : dpV p ≤ d
  wr : chk0V p = 0 → l = encV p ++ r
structure FndN (d : Nat) (b : Bool) (n : Nat) (l : List Nat) (f : Fo) (ns : List ByteArray) (r : List Nat) : Prop where
  len : f.list.length = n
  nl : ns.length = if b then n else 0
  nz : ∀ x ∈ ns, x.size ≤ 65536
  wf : Wf f
  dp : dpF f ≤ d
  wr : chk0 f = 0 → l = enc f b ns ++ r
theorem find_N {g : Rdr Vt} {d : Nat} (hg : Good g) (ih : ∀ l p r, Oct l → g l = .ok (p, r) → Fnd d l p r) (b : Bool) : ∀ (n : Nat) (l : List Nat) (f : Fo) (ns : List ByteArray) (r : List Nat), Oct l → rdN g b n l = .ok ((f, ns), r) → FndN d b n l f ns r
  | 0, l, f, ns, r, ho, h => by
    obtain ⟨e, rfl⟩ := Prod.mk.inj (Except.ok.inj h)
    obtain ⟨rfl, rfl⟩ := Prod.mk.inj e
    exact ⟨rfl, by simp, by simp, trivial, Nat.zero_le _, fun _ => rfl⟩
  | n + 1, l, f, ns, r, ho, h => by
    obtain ⟨⟨f0, ns0⟩, m, h1, h2⟩ := bind_inv h
    have A := find_N hg ih b n l f0 ns0 m ho h1
    obtain ⟨c, hc, _, _⟩ := good_N hg b n l _ m ho h1
    have hom : Oct m := by rw [hc] at ho; exact ho.right
    cases b
    · simp only [Bool.false_eq_true, if_false] at h2
      obtain ⟨v, q, h3, h4⟩ := bind_inv h2
      obtain ⟨e, rfl⟩ := Prod.mk.inj (Except.ok.inj h4)
      obtain ⟨rfl, rfl⟩ := Prod.mk.inj e
      have B := ih m v q hom h3
      refine ⟨by rw [snoc_list, List.length_append, A.len]; rfl, by simpa using A.nl, A.nz, wf_snoc B.wf A.wf, by rw [dp_snoc]; have := A.dp; have := B.dp; omega, fun hk => ?_⟩
      rw [chk0_snoc] at hk
      by_cases k0 : chk0 f0 = 0
      · rw [if_neg (by simpa using k0)] at hk
        have e := enc_snoc v em f0 false ns0 (by simp)
        simp only [Bool.false_eq_true, if_false, List.nil_append] at e
        rw [e, List.append_assoc, ← B.wr hk]
        exact A.wr k0
      · rw [if_pos k0] at hk
        exact absurd hk k0
    · simp only [if_true] at h2
      obtain ⟨s, m2, h5, h6⟩ := bind_inv h2
      obtain ⟨rfl, hs⟩ := tx_inv hom h5
      obtain ⟨v, q, h3, h4⟩ := bind_inv h6
      obtain ⟨e, rfl⟩ := Prod.mk.inj (Except.ok.inj h4)
      obtain ⟨rfl, rfl⟩ := Prod.mk.inj e
      have B := ih m2 v q hom.right h3
      have nl := A.nl
      simp only [if_true] at nl
      refine ⟨by rw [snoc_list, List.length_append, A.len]; rfl, by simp [nl], fun x hx => ?_, wf_snoc B.wf A.wf, by rw [dp_snoc]; have := A.dp; have := B.dp; omega, fun hk => ?_⟩
      · rcases List.mem_append.1 hx with hx | hx
        · exact A.nz x hx
        · have : x = s := by simpa using hx
          rw [this]; exact hs
      rw [chk0_snoc] at hk
      by_cases k0 : chk0 f0 = 0
      · rw [if_neg (by simpa using k0)] at hk
        have e := enc_snoc v s f0 true ns0 (fun _ => by rw [nl, A.len])
        simp only [if_true] at e
        rw [e, List.append_assoc, List.append_assoc, ← B.wr hk]
        exact A.wr k0
      · rw [if_pos k0] at hk
        exact absurd hk k0
theorem wf_lf (k n s : Int) (t : ByteArray) (hk : 0 ≤ k ∧ k < 256) (hn : -9223372036854775808 ≤ n ∧ n < 9223372036854775808) (hs : 0 ≤ s ∧ s < 256) (ht : t.size ≤ 65536) : WfV (lf k n s t) :=
  ⟨⟨by show (_ : Int) ≤ k; omega, by show k < _; omega, hn.1, hn.2, by show (_ : Int) ≤ s; omega, by show s < _; omega, by show t.size ≤ _; omega, by simp [lf], by simp [lf]⟩, by simp [lf, Fo.list], trivial⟩
theorem hok_nst (k : Int) (hk : 0 ≤ k ∧ k < 256) (f : Fo) (ns : List ByteArray) (h1 : ns.length ≤ 140737488355328) (h2 : ∀ x ∈ ns, x.size ≤ 140737488355328) : Hok (nst k (f, ns)).1 :=
  ⟨by show (_ : Int) ≤ k; omega, by show k < _; omega, by show (_ : Int) ≤ 0; decide, by show (0 : Int) < _; decide, by show (_ : Int) ≤ 0; decide, by show (0 : Int) < _; decide, by show em.size ≤ _; decide, h1, h2⟩
theorem own_of0 {p : Vt} (h : chk0V p = 0) : own p.1 p.2.list.length = 0 ∧ chk0 p.2 = 0 := by
  by_cases ho : own p.1 p.2.list.length = 0
  · rw [chk0V, if_neg (by simpa using ho)] at h
    exact ⟨ho, h⟩
  · rw [chk0V, if_pos ho] at h
    exact absurd h ho
theorem zag_nat {u : Nat} (hu : u < 18446744073709551616) : -9223372036854775808 ≤ zagS u ∧ zagS u < 9223372036854775808 ∧ (zigS (zagS u)).toNat = u := by
  have := zag_bd u (by omega) (by omega)
  refine ⟨this.1, by omega, ?_⟩
  rw [zig_zag u (by omega)]
  rfl
theorem wr_bd {u : Nat} (hu : u < 18446744073709551616) : -9223372036854775808 ≤ wr64 u ∧ wr64 u < 9223372036854775808 := by
  unfold wr64
  split <;> omega
theorem find_V : ∀ (d : Nat) (l : List Nat) (p : Vt) (r : List Nat), Oct l → rdV d l = .ok (p, r) → Fnd d l p r
  | 0, l, p, r, ho, h => by cases h
  | d + 1, l, p, r, ho, h => by
    obtain ⟨k, m, h1, h'⟩ := bind_inv h
    obtain rfl := by_inv h1
    clear h h1
    have h := h'
    clear h'
    have hk := ho k (by simp)
    have hom : Oct m := fun x hx => ho x (by simp [hx])
    have dl : ∀ (k n s : Int) (t : ByteArray), dpV (lf k n s t) ≤ d + 1 := fun k n s t => by simp [dpV, lf, dpF]
    split at h
    · next hk1 =>
      subst hk1
      obtain ⟨rfl, rfl⟩ := Prod.mk.inj (Except.ok.inj h)
      exact ⟨wf_lf 1 0 0 em (by omega) (by omega) (by omega) (by decide), dl _ _ _ _, fun _ => by simp [encV, headB, bodyB, enc, lf]⟩
    split at h
    · next _ hk1 =>
      subst hk1
      obtain ⟨x, q, h2, h'⟩ := bind_inv h
      clear h
      have h := h'
      clear h'
      obtain rfl := by_inv h2
      split at h
      · cases h
      · obtain ⟨rfl, rfl⟩ := Prod.mk.inj (Except.ok.inj h)
        exact ⟨wf_lf 2 x 0 em (by omega) (by omega) (by omega) (by decide), dl _ _ _ _, fun _ => by simp [encV, headB, bodyB, enc, lf]⟩
    split at h
    · next _ _ hk1 =>
      subst hk1
      obtain ⟨u, q, h2, h'⟩ := bind_inv h
      clear h
      have h := h'
      clear h'
      obtain ⟨rfl, hu⟩ := uv_inv hom h2
      obtain ⟨rfl, rfl⟩ := Prod.mk.inj (Except.ok.inj h)
      have z := zag_nat hu
      exact ⟨wf_lf 3 _ 0 em (by omega) ⟨z.1, z.2.1⟩ (by omega) (by decide), dl _ _ _ _, fun _ => by simp [encV, headB, bodyB, enc, lf, z.2.2]⟩
    split at h
    · next _ _ _ hk1 =>
      subst hk1
      obtain ⟨u, q, h2, h'⟩ := bind_inv h
      clear h
      have h := h'
      clear h'
      obtain ⟨rfl, hu⟩ := uv_inv hom h2
      obtain ⟨x, q2, h3, h'⟩ := bind_inv h
      clear h
      have h := h'
      clear h'
      obtain rfl := by_inv h3
      obtain ⟨rfl, rfl⟩ := Prod.mk.inj (Except.ok.inj h)
      have hx := hom x (by simp)
      have z := zag_nat hu
      exact ⟨wf_lf 4 _ x em (by omega) ⟨z.1, z.2.1⟩ (by omega) (by decide), dl _ _ _ _, fun _ => by simp [encV, headB, bodyB, enc, lf, z.2.2]⟩
    split at h
    · next _ _ _ _ hk1 =>
      subst hk1
      obtain ⟨u, q, h2, h'⟩ := bind_inv h
      clear h
      have h := h'
      clear h'
      obtain ⟨rfl, hu⟩ := uv_inv hom h2
      obtain ⟨rfl, rfl⟩ := Prod.mk.inj (Except.ok.inj h)
      refine ⟨wf_lf 5 _ 0 em (by omega) (wr_bd hu) (by omega) (by decide), dl _ _ _ _, fun hc => ?_⟩
      have hf := (own_fine (own_of0 hc).1).form
      have w0 : 0 ≤ wr64 u := by
        unfold formed at hf
        rw [if_neg (by simp [lf]), if_neg (by simp [lf]), if_neg (by simp [lf]), if_neg (by simp [lf]), if_pos (by simp [lf])] at hf
        rw [Bool.and_eq_true, Bool.and_eq_true] at hf
        exact of_decide_eq_true hf.1.2
      have w : wr64 u = (u : Int) := by
        unfold wr64 at w0 ⊢
        by_cases hu6 : u < 9223372036854775808
        · rw [if_pos hu6]
        · rw [if_neg hu6] at w0
          omega
      simp [encV, headB, bodyB, enc, lf, w]
    split at h
    · next _ _ _ _ _ hk1 =>
      subst hk1
      obtain ⟨t, q, h2, h'⟩ := bind_inv h
      clear h
      have h := h'
      clear h'
      obtain ⟨rfl, ht⟩ := tx_inv hom h2
      obtain ⟨rfl, rfl⟩ := Prod.mk.inj (Except.ok.inj h)
      exact ⟨wf_lf 6 0 0 t (by omega) (by omega) (by omega) ht, dl _ _ _ _, fun _ => by simp [encV, headB, bodyB, enc, lf]⟩
    split at h
    · next _ _ _ _ _ _ hk1 =>
      subst hk1
      obtain ⟨t, q, h2, h'⟩ := bind_inv h
      clear h
      have h := h'
      clear h'
      obtain ⟨rfl, ht⟩ := tx_inv hom h2
      obtain ⟨rfl, rfl⟩ := Prod.mk.inj (Except.ok.inj h)
      exact ⟨wf_lf 7 0 0 t (by omega) (by omega) (by omega) ht, dl _ _ _ _, fun _ => by simp [encV, headB, bodyB, enc, lf]⟩
    split at h
    · next _ _ _ _ _ _ _ hk1 =>
      subst hk1
      obtain ⟨n, q, h2, h'⟩ := bind_inv h
      clear h
      have h := h'
      clear h'
      obtain ⟨rfl, hn⟩ := len_inv hom h2
      obtain ⟨⟨f, ns⟩, q2, h3, h'⟩ := bind_inv h
      clear h
      have h := h'
      clear h'
      obtain ⟨rfl, rfl⟩ := Prod.mk.inj (Except.ok.inj h)
      have A := find_N (d := d) (good_V d) (fun l p r => find_V d l p r) false n q f ns q2 hom.right h3
      have hl := A.len
      have hns : ns = [] := List.eq_nil_of_length_eq_zero (by simpa using A.nl)
      subst hns
      refine ⟨⟨hok_nst 8 (by decide) f [] (by simp) (by simp), by show f.list.length ≤ _; omega, A.wf⟩, by show 1 + dpF f ≤ _; have := A.dp; omega, fun hc => ?_⟩
      have := A.wr (own_of0 hc).2
      conv => lhs; rw [this]
      simp [encV, headB, bodyB, nst, hl]
    split at h
    · next _ _ _ _ _ _ _ _ hk1 =>
      subst hk1
      obtain ⟨n, q, h2, h'⟩ := bind_inv h
      clear h
      have h := h'
      clear h'
      obtain ⟨rfl, hn⟩ := len_inv hom h2
      obtain ⟨⟨f, ns⟩, q2, h3, h'⟩ := bind_inv h
      clear h
      have h := h'
      clear h'
      obtain ⟨rfl, rfl⟩ := Prod.mk.inj (Except.ok.inj h)
      have A := find_N (d := d) (good_V d) (fun l p r => find_V d l p r) true n q f ns q2 hom.right h3
      have hl := A.len
      have hnl := A.nl
      simp only [if_true] at hnl
      refine ⟨⟨hok_nst 9 (by decide) f ns (by omega) (fun x hx => Nat.le_trans (A.nz x hx) (by decide)), by show f.list.length ≤ _; omega, A.wf⟩, by show 1 + dpF f ≤ _; have := A.dp; omega, fun hc => ?_⟩
      have := A.wr (own_of0 hc).2
      conv => lhs; rw [this]
      simp [encV, headB, bodyB, nst, hl]
    · cases h
/-! ### what follows -/
theorem enc_back (p : Vt) (hw : WfV p) (hc : chkV p 1 = 0) (m : List Nat) : rdV 16 (encV p ++ m) = .ok (p, m) := by
  have h1 := deepV_of p 1 hc
  rw [chkV_flat p 1 h1] at hc
  exact reads_V 16 p hw (by omega) hc m
theorem enc_one {p q : Vt} (hp : WfV p) (hq : WfV q) (cp : chkV p 1 = 0) (cq : chkV q 1 = 0) (h : encV p = encV q) : p = q := by
  have a := enc_back p hp cp []
  rw [h, enc_back q hq cq []] at a
  exact (Prod.mk.inj (Except.ok.inj a)).1.symm
theorem enc_cut (p : Vt) (hw : WfV p) (hc : chkV p 1 = 0) (ho : Oct (encV p)) (c m : List Nat) (e : encV p = c ++ m) (hm : m ≠ []) : rdV 16 c = .error 2 := by
  have a := enc_back p hw hc []
  rw [List.append_nil] at a
  obtain ⟨c0, h1, _, h3⟩ := good_V 16 _ _ _ ho a
  rw [List.append_nil] at h1
  exact h3 c m (h1 ▸ e) hm
theorem uv_oct' (u : Nat) : Oct (uv u) := uv_oct u
theorem tx_oct (s : ByteArray) : Oct (txB s) := (uv_oct' _).app (bts_oct s)
theorem one_oct {x : Nat} (h : x < 256) : Oct [x] := fun y hy => by
  have : y = x := by simpa using hy
  omega
theorem head_oct {h : Hd} {kl : Nat} (hf : own h kl = 0) : Oct (headB h kl) := by
  have hfm := (own_fine hf).form
  have hk : 1 ≤ h.k ∧ h.k ≤ 9 := by
    unfold formed at hfm
    repeat' split at hfm
    all_goals first | omega | cases hfm
  intro x hx
  rcases List.mem_cons.1 hx with rfl | hx
  · omega
  unfold bodyB at hx
  unfold formed at hfm
  split at hx
  · next h2 =>
    simp only [h2, Int.reduceEq, if_false, if_true, Bool.and_eq_true, Bool.or_eq_true, beq_iff_eq] at hfm
    exact one_oct (by omega) x hx
  split at hx
  · exact uv_oct _ x hx
  split at hx
  · next h4 =>
    simp only [h4, Int.reduceEq, if_false, if_true, Bool.and_eq_true, decide_eq_true_eq] at hfm
    exact (uv_oct' _).app (one_oct (by omega)) x hx
  split at hx
  · exact uv_oct _ x hx
  split at hx
  · exact tx_oct _ x hx
  split at hx
  · exact tx_oct _ x hx
  split at hx
  · exact uv_oct _ x hx
  split at hx
  · exact uv_oct _ x hx
  · cases hx
theorem enc_oct : ∀ (f : Fo) (b : Bool) (ns : List ByteArray), chk0 f = 0 → Oct (enc f b ns)
  | .nil, _, _, _ => fun x hx => by cases hx
  | .cons h k r, b, ns, hc => by
    have c1 := chk0_mem (p := (h, k)) hc (by simp [Fo.list])
    have c2 : chk0 r = 0 := by
      have e : chk0 (.cons h k r) = if chk0V (h, k) ≠ 0 then chk0V (h, k) else chk0 r := rfl
      rw [e, if_neg (by simpa using c1)] at hc
      exact hc
    obtain ⟨a, b'⟩ := own_of0 c1
    refine Oct.app (Oct.app ?_ ((head_oct a).app (enc_oct k _ _ b'))) (enc_oct r b _ c2)
    cases b
    · intro x hx; cases hx
    · exact tx_oct _
theorem encV_oct (p : Vt) (hc : chk0V p = 0) : Oct (encV p) := (head_oct (own_of0 hc).1).app (enc_oct _ _ _ (own_of0 hc).2)
end Go.Proofs.Ythmnjamnaibcgaa
