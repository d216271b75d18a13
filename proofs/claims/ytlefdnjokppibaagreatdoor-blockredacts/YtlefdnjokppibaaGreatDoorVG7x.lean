/-
  Plain mathematics of numbers as bytes, of no program: zig and zag, seven digits a byte. · Values as bytes, over lists: what is written, what is read, and that these belong together. No program is named.
-/
import Derived.Laws.BitsAllLaws
import Derived.Laws.DeepNot64
import Derived.Test.YtlefdnjokppibaaGreatDoorVG0x
namespace Go.Proofs.YtlefdnjokppibaaGreatDoor.Math

/-! ### zig and zag -/
def zigS (v : Int) : Int := if 0 ≤ v then 2 * v else 2 * -(v + 1) + 1
def zagS (u : Int) : Int := if u % 2 = 0 then u / 2 else -(u / 2) - 1
theorem zag_zig (v : Int) : zagS (zigS v) = v := by
  unfold zagS zigS; split <;> split <;> omega
theorem zig_zag (u : Int) (h : 0 ≤ u) : zigS (zagS u) = u := by
  unfold zagS zigS; split <;> split <;> omega
theorem zig_bd (v : Int) (h1 : -9223372036854775808 ≤ v) (h2 : v ≤ 9223372036854775807) : 0 ≤ zigS v ∧ zigS v ≤ 18446744073709551615 := by
  unfold zigS; split <;> omega
theorem zag_bd (u : Int) (h1 : 0 ≤ u) (h2 : u ≤ 18446744073709551615) : -9223372036854775808 ≤ zagS u ∧ zagS u ≤ 9223372036854775807 := by
  unfold zagS; split <;> omega
theorem xor_ones (a : Nat) (ha : a < 18446744073709551616) : a ^^^ 18446744073709551615 = 18446744073709551615 - a := by
  have h : (BitVec.ofNat 64 a ^^^ BitVec.allOnes 64).toNat = (~~~ (BitVec.ofNat 64 a)).toNat := by rw [BitVec.xor_allOnes]
  rw [BitVec.toNat_xor, BitVec.toNat_not, BitVec.toNat_ofNat, BitVec.toNat_allOnes, Nat.mod_eq_of_lt (by omega)] at h
  simpa using h
theorem zig_bits (v : Int) (h1 : -9223372036854775808 ≤ v) (h2 : v ≤ 9223372036854775807) :
    bits .xor .u64 (IntKind.u64.wrap (IntKind.u64.wrap v * 2)) (IntKind.u64.wrap (v / 9223372036854775808)) = zigS v := by
  simp only [IntKind.wrap_u64]
  unfold zigS
  by_cases h : 0 ≤ v
  · rw [if_pos h, show v / 9223372036854775808 = 0 by omega]
    rw [u64_xor _ _ (by omega) (by omega) (by omega) (by omega)]
    simp
    omega
  · rw [if_neg h, show v / 9223372036854775808 = -1 by omega]
    rw [u64_xor _ _ (by omega) (by omega) (by omega) (by omega)]
    rw [show ((-1 : Int) % 18446744073709551616).toNat = 18446744073709551615 by decide, xor_ones _ (by omega)]
    omega
/-! ### seven digits a byte -/
def acc (v x k : Nat) : Nat := v ||| (x % 128 * 2 ^ (7 * k) % 18446744073709551616)
theorem acc_lt (v x k : Nat) (h : v < 18446744073709551616) : acc v x k < 18446744073709551616 :=
  Nat.or_lt_two_pow (n := 64) (by omega) (by omega)
theorem acc_bits (v x k : Nat) (hv : v < 18446744073709551616) (hx : x < 256) :
    bits .or .u64 (v : Int) (IntKind.u64.wrap (IntKind.u64.wrap (bits .and .u8 (x : Int) 127) * 2 ^ (7 * k))) = ((acc v x k : Nat) : Int) := by
  have e1 : bits .and .u8 (x : Int) 127 = ((x % 128 : Nat) : Int) := by
    have := u8_and_nat x 127 hx (by omega); rw [nat_mask7] at this; exact this
  have e2 : IntKind.u64.wrap ((x % 128 : Nat) : Int) = ((x % 128 : Nat) : Int) := by rw [IntKind.wrap_u64]; omega
  have e3 : IntKind.u64.wrap (((x % 128 : Nat) : Int) * 2 ^ (7 * k)) = ((x % 128 * 2 ^ (7 * k) % 18446744073709551616 : Nat) : Int) := by
    have hp : ((2 : Int) ^ (7 * k)) = ((2 ^ (7 * k) : Nat) : Int) := by simp
    rw [hp, ← Int.natCast_mul, IntKind.wrap_u64]
    generalize x % 128 * 2 ^ (7 * k) = m
    omega
  rw [e1, e2, e3, u64_or_nat v _ hv (by omega)]; rfl
def ruv : List Nat → Nat → Nat → Nat × Nat × Nat
  | [], _, _ => (0, 0, 2)
  | x :: l, k, v => if k = 9 ∧ 1 < x then (0, 0, 3) else if 127 < x then ruv l (k + 1) (acc v x k) else if 0 < k ∧ x = 0 then (0, 0, 3) else (acc v x k, k + 1, 0)
theorem drop_get (l : List Nat) (k : Nat) (h : k < l.length) : l.drop k = l.getD k 0 :: l.drop (k + 1) := by
  rw [List.drop_eq_getElem_cons h, List.getD_eq_getElem?_getD, List.getElem?_eq_getElem h]; rfl
theorem ruv_nine (x k v : Nat) (l : List Nat) (h : k = 9) (hx : 1 < x) : ruv (x :: l) k v = (0, 0, 3) := by simp [ruv, h, hx]
theorem ruv_more (x k v : Nat) (l : List Nat) (h : ¬ (k = 9 ∧ 1 < x)) (hx : 127 < x) : ruv (x :: l) k v = ruv l (k + 1) (acc v x k) := by simp [ruv, h, hx]
theorem ruv_zero (x k v : Nat) (l : List Nat) (h : 0 < k) (hx : x = 0) : ruv (x :: l) k v = (0, 0, 3) := by simp [ruv, h, hx]
theorem ruv_end (x k v : Nat) (l : List Nat) (h : ¬ (k = 9 ∧ 1 < x)) (hx : ¬ 127 < x) (h0 : ¬ (0 < k ∧ x = 0)) : ruv (x :: l) k v = (acc v x k, k + 1, 0) := by simp [ruv, h, hx, h0]
/-- A number in seven digits a byte, at most f + 1 of them. -/
def uvF : Nat → Nat → List Nat
  | 0, v => [v]
  | f + 1, v => if v < 128 then [v] else (v % 128 + 128) :: uvF f (v / 128)
theorem uvF_eq : ∀ (f g v : Nat), v ≤ f → v ≤ g → uvF f v = uvF g v
  | 0, 0, _, _, _ => rfl
  | 0, g + 1, v, h, _ => by
    obtain rfl : v = 0 := by omega
    rfl
  | f + 1, 0, v, _, h => by
    obtain rfl : v = 0 := by omega
    rfl
  | f + 1, g + 1, v, h, h' => by
    simp only [uvF]
    by_cases hv : v < 128
    · rw [if_pos hv, if_pos hv]
    · rw [if_neg hv, if_neg hv, uvF_eq f g (v / 128) (by omega) (by omega)]
/-- A number in seven digits a byte. -/
def uv (v : Nat) : List Nat := uvF v v
theorem uv_lo (v : Nat) (h : v < 128) : uv v = [v] := by
  unfold uv
  cases v with
  | zero => rfl
  | succ v => simp only [uvF]; rw [if_pos h]
theorem uv_hi (v : Nat) (h : ¬ v < 128) : uv v = (v % 128 + 128) :: uv (v / 128) := by
  unfold uv
  cases v with
  | zero => omega
  | succ v => simp only [uvF]; rw [if_neg h, uvF_eq v ((v + 1) / 128) ((v + 1) / 128) (by omega) (by omega)]
theorem uv_len (n v : Nat) (h : v < 128 ^ (n + 1)) : (uv v).length ≤ n + 1 := by
  induction n generalizing v with
  | zero => rw [uv_lo v (by simpa using h)]; simp
  | succ n ih =>
    by_cases hv : v < 128
    · rw [uv_lo v hv]; simp
    · rw [uv_hi v hv]
      have := ih (v / 128) (by rw [Nat.div_lt_iff_lt_mul (by decide)]; rw [Nat.pow_succ] at h; exact h)
      simpa using this
theorem uv_pos (v : Nat) : 0 < (uv v).length := by
  by_cases hv : v < 128
  · rw [uv_lo v hv]; simp
  · rw [uv_hi v hv]; simp
theorem uv_ten (v : Nat) (h : v < 18446744073709551616) : (uv v).length ≤ 10 := uv_len 9 v (Nat.lt_of_lt_of_le h (by decide))
theorem uv_oct (v : Nat) : ∀ x ∈ uv v, x < 256 := by
  induction v using Nat.strongRecOn with
  | _ v ih =>
    by_cases hv : v < 128
    · rw [uv_lo v hv]; intro x hx; simp at hx; omega
    · rw [uv_hi v hv]; intro x hx
      rcases List.mem_cons.1 hx with h | h
      · omega
      · exact ih (v / 128) (by omega) x h
theorem or_128 : ∀ y, y < 256 → y ||| 128 = y % 128 + 128 := by decide +kernel
theorem or_u8 (u : Nat) : bits .or .u8 ((u : Int) % 256) 128 = ((u % 128 + 128 : Nat) : Int) := by
  have h := u8_or_nat (u % 256) 128 (by omega) (by omega)
  rw [or_128 _ (by omega)] at h
  rw [show ((u : Int) % 256) = ((u % 256 : Nat) : Int) by omega]
  refine Eq.trans h ?_
  congr 1; omega
theorem or_t (t : Nat) (ht : t < 128) : bits .or .u8 (t : Int) 128 = ((t + 128 : Nat) : Int) := by
  have h := u8_or_nat t 128 (by omega) (by omega)
  rw [or_128 _ (by omega), Nat.mod_eq_of_lt ht] at h
  exact h
theorem and_127 (u : Nat) (hu : u < 18446744073709551616) : bits .and .u64 (u : Int) 127 = ((u % 128 : Nat) : Int) := by
  have h := u64_and_nat u 127 hu (by omega)
  rw [nat_mask7] at h
  exact h
theorem acc_add (v x k : Nat) (hv : v < 2 ^ (7 * k)) (hx : x % 128 * 2 ^ (7 * k) < 18446744073709551616) : acc v x k = v + x % 128 * 2 ^ (7 * k) := by
  unfold acc
  rw [Nat.mod_eq_of_lt hx, Nat.or_comm, nat_join (7 * k) _ v (by simp) hv]
  omega
theorem ruv_uv (u : Nat) : ∀ (k v : Nat) (more : List Nat), v < 2 ^ (7 * k) → u * 2 ^ (7 * k) < 18446744073709551616 → (k = 0 ∨ 0 < u) → ruv (uv u ++ more) k v = (v + u * 2 ^ (7 * k), k + (uv u).length, 0) := by
  induction u using Nat.strongRecOn with
  | _ u ih =>
    intro k v more hv hu hku
    have hp : 2 ^ (7 * (k + 1)) = 128 * 2 ^ (7 * k) := by rw [Nat.mul_add, Nat.pow_add]; omega
    have hpos : 0 < 2 ^ (7 * k) := Nat.two_pow_pos _
    have hk9 : k ≤ 9 := by
      apply Nat.le_of_not_lt; intro h9
      have h1 : 0 < u := by omega
      have h2 : 2 ^ 70 ≤ 2 ^ (7 * k) := Nat.pow_le_pow_right (by decide) (by omega)
      have h3 : 1 * 2 ^ (7 * k) ≤ u * 2 ^ (7 * k) := Nat.mul_le_mul_right _ h1
      omega
    have h1u : k = 9 → u ≤ 1 := by
      intro h; subst h
      have : (2 : Nat) ^ (7 * 9) = 9223372036854775808 := by decide
      rw [this] at hu; omega
    by_cases hlo : u < 128
    · rw [uv_lo u hlo]
      have hm : u % 128 = u := Nat.mod_eq_of_lt hlo
      show ruv (u :: more) k v = _
      rw [ruv_end u k v more (by omega) (by omega) (by omega), acc_add v u k hv (by rw [hm]; exact hu), hm]
      rfl
    · rw [uv_hi u hlo]
      have hx : (u % 128 + 128) % 128 = u % 128 := by omega
      have hxb : u % 128 * 2 ^ (7 * k) < 18446744073709551616 := Nat.lt_of_le_of_lt (Nat.mul_le_mul_right _ (Nat.mod_le _ _)) hu
      show ruv ((u % 128 + 128) :: (uv (u / 128) ++ more)) k v = _
      rw [ruv_more _ k v _ (by omega) (by omega), acc_add v _ k hv (by rw [hx]; exact hxb), hx]
      have hsplit : u * 2 ^ (7 * k) = u % 128 * 2 ^ (7 * k) + (u / 128) * 2 ^ (7 * (k + 1)) := by
        rw [hp, ← Nat.mul_assoc, ← Nat.add_mul]
        congr 1; omega
      have hlt : v + u % 128 * 2 ^ (7 * k) < 2 ^ (7 * (k + 1)) := by
        rw [hp]
        have : u % 128 * 2 ^ (7 * k) ≤ 127 * 2 ^ (7 * k) := Nat.mul_le_mul_right _ (by omega)
        omega
      rw [ih (u / 128) (by omega) (k + 1) _ more hlt (by omega) (by right; omega)]
      simp only [List.length_cons, Prod.mk.injEq, and_true]
      omega
theorem ruv_back (v : Nat) (more : List Nat) (h : v < 18446744073709551616) : ruv (uv v ++ more) 0 0 = (v, (uv v).length, 0) := by
  have := ruv_uv v 0 0 more (by decide) (by simpa using h) (.inl rfl)
  simpa using this
end Go.Proofs.YtlefdnjokppibaaGreatDoor.Math
namespace Go.Proofs.YtlefdnjokppibaaGreatDoor
open Go.RowKit Math
set_option linter.unusedVariables false
def Oct (l : List Nat) : Prop := ∀ x ∈ l, x < 256
theorem Oct.right {l m : List Nat} (h : Oct (l ++ m)) : Oct m := fun x hx => h x (by simp [hx])
theorem Oct.left {l m : List Nat} (h : Oct (l ++ m)) : Oct l := fun x hx => h x (by simp [hx])
theorem Oct.app {l m : List Nat} (h : Oct l) (g : Oct m) : Oct (l ++ m) := fun x hx => by
  rcases List.mem_append.1 hx with hx | hx
  · exact h x hx
  · exact g x hx
/-! ### readers -/
def Rdr (α : Type) := List Nat → Except Nat (α × List Nat)
def Rdr.ret {α : Type} (x : α) : Rdr α := fun l => .ok (x, l)
def Rdr.no {α : Type} (e : Nat) : Rdr α := fun _ => .error e
def Rdr.bind {α β : Type} (f : Rdr α) (g : α → Rdr β) : Rdr β := fun l => match f l with
  | .ok (x, r) => g x r
  | .error e => .error e
theorem bind_ok {α β : Type} {f : Rdr α} {g : α → Rdr β} {l r : List Nat} {x : α} (h : f l = .ok (x, r)) : f.bind g l = g x r := by
  unfold Rdr.bind; rw [h]
theorem bind_no {α β : Type} {f : Rdr α} {g : α → Rdr β} {l : List Nat} {e : Nat} (h : f l = .error e) : f.bind g l = .error e := by
  unfold Rdr.bind; rw [h]
theorem bind_inv {α β : Type} {f : Rdr α} {g : α → Rdr β} {l r : List Nat} {y : β} (h : f.bind g l = .ok (y, r)) : ∃ x m, f l = .ok (x, m) ∧ g x m = .ok (y, r) := by
  unfold Rdr.bind at h
  cases hf : f l with
  | error e => rw [hf] at h; cases h
  | ok v => obtain ⟨x, m⟩ := v; rw [hf] at h; exact ⟨x, m, rfl, h⟩
/-- A reader takes what it takes whatever stands behind, and less is too short. -/
def Good {α : Type} (f : Rdr α) : Prop := ∀ l x r, Oct l → f l = .ok (x, r) → ∃ c, l = c ++ r ∧ (∀ m, f (c ++ m) = .ok (x, m)) ∧ ∀ c' m, c = c' ++ m → m ≠ [] → f c' = .error 2
theorem good_ret {α : Type} (x : α) : Good (Rdr.ret x) := fun l y r _ h => by
  obtain ⟨rfl, rfl⟩ := Prod.mk.inj (Except.ok.inj h)
  refine ⟨[], rfl, fun m => rfl, fun c' m h1 h2 => ?_⟩
  have := List.append_eq_nil_iff.1 h1.symm
  exact absurd this.2 h2
theorem good_no {α : Type} (e : Nat) : Good (Rdr.no (α := α) e) := fun l y r _ h => by cases h
theorem good_bind {α β : Type} {f : Rdr α} {g : α → Rdr β} (hf : Good f) (hg : ∀ x, Good (g x)) : Good (f.bind g) := fun l y r ho h => by
  obtain ⟨x, m, h1, h2⟩ := bind_inv h
  obtain ⟨c1, rfl, a2, a3⟩ := hf l x m ho h1
  obtain ⟨c2, rfl, b2, b3⟩ := hg x m y r ho.right h2
  refine ⟨c1 ++ c2, by simp, fun m => ?_, fun c' m e hm => ?_⟩
  · rw [List.append_assoc, bind_ok (a2 _)]; exact b2 m
  · rcases List.append_eq_append_iff.1 e with ⟨a', e1, e2⟩ | ⟨a', e1, e2⟩
    · rw [e1, bind_ok (a2 _)]
      exact b3 a' m e2 hm
    · by_cases h0 : a' = []
      · subst h0
        simp only [List.append_nil] at e1
        subst e1
        rw [show c1 = c1 ++ [] by simp, bind_ok (a2 [])]
        exact b3 [] c2 rfl (by simp only [List.nil_append] at e2; rw [← e2]; exact hm)
      · exact bind_no (a3 c' a' e1 h0)
theorem good_if {α : Type} {p : Prop} [Decidable p] {f g : Rdr α} (hf : Good f) (hg : Good g) : Good (if p then f else g) := by
  split <;> assumption
/-- It reads these bytes, whatever stands behind. -/
def Reads {α : Type} (f : Rdr α) (c : List Nat) (x : α) : Prop := ∀ m, f (c ++ m) = .ok (x, m)
theorem reads_ret {α : Type} (x : α) : Reads (Rdr.ret x) [] x := fun m => rfl
theorem reads_bind {α β : Type} {f : Rdr α} {g : α → Rdr β} {c1 c2 : List Nat} {x : α} {y : β} (h1 : Reads f c1 x) (h2 : Reads (g x) c2 y) : Reads (f.bind g) (c1 ++ c2) y := fun m => by
  rw [List.append_assoc, bind_ok (h1 _)]; exact h2 m
/-! ### bytes, numbers, texts -/
def byR : Rdr Nat := fun l => match l with
  | [] => .error 2
  | x :: r => .ok (x, r)
def uvR : Rdr Nat := fun l => if (ruv l 0 0).2.2 = 0 then .ok ((ruv l 0 0).1, l.drop (ruv l 0 0).2.1) else .error (ruv l 0 0).2.2
def lenR : Rdr Nat := uvR.bind fun u => if 65536 < u then .no 3 else .ret u
def bts (s : ByteArray) : List Nat := s.data.toList.map UInt8.toNat
def ofB (l : List Nat) : ByteArray := ⟨(l.map UInt8.ofNat).toArray⟩
def takeR (n : Nat) : Rdr (List Nat) := fun l => if l.length < n then .error 2 else .ok (l.take n, l.drop n)
def txR : Rdr ByteArray := lenR.bind fun n => (takeR n).bind fun b => .ret (ofB b)
theorem bts_len (s : ByteArray) : (bts s).length = s.size := by simp [bts]
theorem bts_oct (s : ByteArray) : ∀ x ∈ bts s, x < 256 := fun x hx => by
  obtain ⟨y, _, rfl⟩ := List.mem_map.1 hx
  exact y.toNat_lt
theorem ofB_bts (s : ByteArray) : ofB (bts s) = s := by
  unfold ofB bts
  rw [List.map_map]
  have : (UInt8.ofNat ∘ UInt8.toNat) = id := by funext x; simp
  rw [this]
  simp
theorem bts_ofB (l : List Nat) (h : ∀ x ∈ l, x < 256) : bts (ofB l) = l := by
  unfold ofB bts
  simp only [List.map_map]
  conv => rhs; rw [← List.map_id l]
  apply List.map_congr_left
  intro x hx
  have := h x hx
  simp
  omega
theorem ofB_size (l : List Nat) : (ofB l).size = l.length := by
  have : (ofB l).size = (ofB l).data.toList.length := by simp
  rw [this]
  simp [ofB]
theorem good_by : Good byR := fun l x r _ h => by
  cases l with
  | nil => cases h
  | cons y l =>
    obtain ⟨rfl, rfl⟩ := Prod.mk.inj (Except.ok.inj h)
    refine ⟨[y], rfl, fun m => rfl, fun c' m e hm => ?_⟩
    cases c' with
    | nil => rfl
    | cons z c' =>
      simp only [List.cons_append, List.cons.injEq] at e
      exact absurd (List.append_eq_nil_iff.1 e.2.symm).2 hm
theorem acc_hi {v x k : Nat} (h : k ≤ 8) (hv : v < 2 ^ (7 * k)) : acc v x k = v + x % 128 * 2 ^ (7 * k) ∧ acc v x k < 2 ^ (7 * (k + 1)) := by
  have hp : 2 ^ (7 * (k + 1)) = 128 * 2 ^ (7 * k) := by rw [Nat.mul_add, Nat.pow_add]; omega
  have h2 : 2 ^ (7 * (k + 1)) ≤ 2 ^ 63 := Nat.pow_le_pow_right (by decide) (by omega)
  have h3 : x % 128 * 2 ^ (7 * k) ≤ 127 * 2 ^ (7 * k) := Nat.mul_le_mul_right _ (by omega)
  have e := acc_add v x k hv (by omega)
  rw [e]
  omega
/-- What is read as a number is written so. -/
theorem ruv_inv : ∀ (l : List Nat) (k v u n : Nat), (∀ x ∈ l, x < 256) → k ≤ 9 → v < 2 ^ (7 * k) → ruv l k v = (u, n, 0) → ∃ q r, l = uv q ++ r ∧ n = k + (uv q).length ∧ u = v + q * 2 ^ (7 * k) ∧ (k = 0 ∨ 0 < q) ∧ u < 18446744073709551616
  | [], k, v, u, n, ho, hk, hv, h => by simp [ruv] at h
  | x :: l, k, v, u, n, ho, hk, hv, h => by
    have hx := ho x (by simp)
    have hp : 2 ^ (7 * (k + 1)) = 128 * 2 ^ (7 * k) := by rw [Nat.mul_add, Nat.pow_add]; omega
    by_cases h1 : k = 9 ∧ 1 < x
    · rw [ruv_nine x k v l h1.1 h1.2] at h
      simp at h
    by_cases h2 : 127 < x
    · rw [ruv_more x k v l h1 h2] at h
      have hk8 : k ≤ 8 := by omega
      obtain ⟨e1, e2⟩ := acc_hi (x := x) hk8 hv
      obtain ⟨q, r, rfl, rfl, rfl, hq, hu⟩ := ruv_inv l (k + 1) _ u n (fun y hy => ho y (by simp [hy])) (by omega) e2 h
      have hq : 0 < q := by omega
      refine ⟨x - 128 + q * 128, r, ?_, ?_, ?_, by omega, hu⟩
      · rw [uv_hi (x - 128 + q * 128) (by omega), show (x - 128 + q * 128) % 128 + 128 = x by omega, show (x - 128 + q * 128) / 128 = q by omega]
        rfl
      · rw [uv_hi (x - 128 + q * 128) (by omega), show (x - 128 + q * 128) / 128 = q by omega, List.length_cons]
        omega
      · rw [e1, hp, Nat.add_mul, show x % 128 = x - 128 by omega, Nat.add_assoc, Nat.mul_assoc]
    · by_cases h3 : 0 < k ∧ x = 0
      · rw [ruv_zero x k v l h3.1 h3.2] at h
        simp at h
      · rw [ruv_end x k v l h1 h2 h3] at h
        simp only [Prod.mk.injEq, and_true] at h
        obtain ⟨rfl, rfl⟩ := h
        have hlt : x * 2 ^ (7 * k) < 18446744073709551616 := by
          by_cases h9 : k = 9
          · subst h9
            have : x ≤ 1 := by omega
            have := Nat.mul_le_mul_right (2 ^ (7 * 9)) this
            exact Nat.lt_of_le_of_lt this (by decide)
          · have h2 : 2 ^ (7 * k) ≤ 2 ^ 56 := Nat.pow_le_pow_right (by decide) (by omega)
            have := Nat.mul_le_mul (show x ≤ 127 by omega) h2
            exact Nat.lt_of_le_of_lt this (by decide)
        have e := acc_add v x k hv (by rw [Nat.mod_eq_of_lt (by omega)]; exact hlt)
        rw [Nat.mod_eq_of_lt (by omega)] at e
        refine ⟨x, l, by rw [uv_lo x (by omega)]; rfl, by rw [uv_lo x (by omega)]; rfl, e, by omega, acc_lt _ _ _ ?_⟩
        by_cases h9 : k = 9
        · subst h9; exact Nat.lt_of_lt_of_le hv (by decide)
        · have h2 : 2 ^ (7 * k) ≤ 2 ^ 56 := Nat.pow_le_pow_right (by decide) (by omega)
          omega
theorem ruv_short : ∀ (q k v : Nat) (c' m : List Nat), (k = 0 ∨ 0 < q) → q * 2 ^ (7 * k) < 18446744073709551616 → uv q = c' ++ m → m ≠ [] → ruv c' k v = (0, 0, 2) := by
  intro q
  induction q using Nat.strongRecOn with
  | _ q ih =>
    intro k v c' m hk hq e hm
    by_cases hv : q < 128
    · rw [uv_lo q hv] at e
      cases c' with
      | nil => rfl
      | cons y c' =>
        simp only [List.cons_append, List.cons.injEq] at e
        exact absurd (List.append_eq_nil_iff.1 e.2.symm).2 hm
    · rw [uv_hi q hv] at e
      cases c' with
      | nil => rfl
      | cons y c' =>
        simp only [List.cons_append, List.cons.injEq] at e
        obtain ⟨rfl, e⟩ := e
        have hp : 2 ^ (7 * (k + 1)) = 128 * 2 ^ (7 * k) := by rw [Nat.mul_add, Nat.pow_add]; omega
        have h1 : q / 128 * 2 ^ (7 * (k + 1)) ≤ q * 2 ^ (7 * k) := by
          rw [hp, ← Nat.mul_assoc]
          exact Nat.mul_le_mul_right _ (by omega)
        have hk9 : k ≠ 9 := by
          rintro rfl
          have h63 : (2 : Nat) ^ (7 * 9) = 9223372036854775808 := by decide
          rw [h63] at hq
          omega
        rw [ruv_more _ k v _ (by omega) (by omega)]
        exact ih (q / 128) (by omega) (k + 1) _ c' m (by right; omega) (by omega) e hm
theorem reads_uv (u : Nat) (hu : u < 18446744073709551616) : Reads uvR (uv u) u := fun m => by
  unfold uvR
  rw [ruv_back u m hu]
  simp
theorem uv_inv {l r : List Nat} {u : Nat} (ho : ∀ x ∈ l, x < 256) (h : uvR l = .ok (u, r)) : l = uv u ++ r ∧ u < 18446744073709551616 := by
  unfold uvR at h
  split at h
  · next h0 =>
    obtain ⟨rfl, rfl⟩ := Prod.mk.inj (Except.ok.inj h)
    obtain ⟨q, r, e1, e2, e3, _, e5⟩ := ruv_inv l 0 0 (ruv l 0 0).1 (ruv l 0 0).2.1 ho (by decide) (by decide) (by
      generalize ruv l 0 0 = t at *
      obtain ⟨a, b, c⟩ := t
      simp only at h0
      rw [h0])
    have e3 : (ruv l 0 0).1 = q := by simpa using e3
    rw [e3] at e5 ⊢
    refine ⟨?_, e5⟩
    rw [e2, Nat.zero_add]
    conv => lhs; rw [e1]
    conv => rhs; rw [e1]
    simp
  · cases h
end Go.Proofs.YtlefdnjokppibaaGreatDoor
