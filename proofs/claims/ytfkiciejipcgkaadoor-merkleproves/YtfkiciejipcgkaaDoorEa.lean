/-
  Trees of digests over lists (no program): roots, ways up, paths, consistencies, and what they make again.
-/
import Derived.Test.YtfkiciejipcgkaaDoorRows
namespace Go.Proofs.YtfkiciejipcgkaaDoor
namespace Mk

/-! ### powers of two -/
theorem pow_pos2 (n : Nat) : 0 < 2 ^ n := Nat.pow_pos (by decide)
theorem pow_split {a b : Nat} (h : a ≤ b) : 2 ^ b = 2 ^ a * 2 ^ (b - a) := by rw [← Nat.pow_add]; congr 1; omega
theorem pow_even {k : Nat} (h : 0 < k) : 2 ^ k = 2 * 2 ^ (k - 1) := by
  obtain ⟨j, rfl⟩ : ∃ j, k = j + 1 := ⟨k - 1, by omega⟩
  rw [Nat.pow_succ, Nat.mul_comm, Nat.add_sub_cancel]
theorem two_exists (n : Nat) (h : 2 ≤ n) : ∃ T, 2 ^ T < n ∧ n ≤ 2 ^ (T + 1) := by
  refine ⟨Nat.log2 (n - 1), ?_, ?_⟩
  · have := Nat.log2_self_le (n := n - 1) (by omega); omega
  · have := Nat.lt_log2_self (n := n - 1); omega
theorem two_one {n T T' : Nat} (h1 : 2 ^ T < n) (h2 : n ≤ 2 ^ (T + 1)) (h3 : 2 ^ T' < n) (h4 : n ≤ 2 ^ (T' + 1)) : T = T' := by
  rcases Nat.lt_trichotomy T T' with h | h | h
  · have := Nat.pow_le_pow_right (n := 2) (by decide) (show T + 1 ≤ T' by omega); omega
  · exact h
  · have := Nat.pow_le_pow_right (n := 2) (by decide) (show T' + 1 ≤ T by omega); omega
/-- the greatest power of two below n. -/
def hp (n : Nat) : Nat := 2 ^ Nat.log2 (n - 1)
theorem hp_of {n T : Nat} (h1 : 2 ^ T < n) (h2 : n ≤ 2 ^ (T + 1)) : hp n = 2 ^ T := by
  have hp0 := pow_pos2 T
  have a := Nat.log2_self_le (n := n - 1) (by omega)
  have b := Nat.lt_log2_self (n := n - 1)
  unfold hp
  rw [two_one (n := n) (T := Nat.log2 (n - 1)) (T' := T) (by omega) (by omega) h1 h2]

section
variable {H : Type} (nd : H → H → H) (em : H)

/-! ### the root -/
def rtF : Nat → List H → H
  | 0, l => l.headD em
  | f + 1, l => if l.length ≤ 1 then l.headD em else nd (rtF f (l.take (hp l.length))) (rtF f (l.drop (hp l.length)))
def R (l : List H) : H := rtF nd em l.length l
theorem rtF_eq : ∀ (f g : Nat) (l : List H), l.length ≤ f → l.length ≤ g → rtF nd em f l = rtF nd em g l
  | 0, 0, _, _, _ => rfl
  | 0, g + 1, l, h, _ => by rw [rtF, rtF, if_pos (by omega)]
  | f + 1, 0, l, _, h => by rw [rtF, rtF, if_pos (by omega)]
  | f + 1, g + 1, l, h1, h2 => by
    rw [rtF, rtF]
    by_cases hl : l.length ≤ 1
    · rw [if_pos hl, if_pos hl]
    · rw [if_neg hl, if_neg hl]
      obtain ⟨T, a, b⟩ := two_exists l.length (by omega)
      have e := hp_of a b
      have := pow_pos2 T
      have c : (l.take (hp l.length)).length ≤ l.length - 1 := by rw [List.length_take, e]; omega
      have d : (l.drop (hp l.length)).length ≤ l.length - 1 := by rw [List.length_drop, e]; omega
      rw [rtF_eq f g _ (by omega) (by omega), rtF_eq f g _ (by omega) (by omega)]
theorem R_nil : R nd em [] = em := rfl
theorem R_one (x : H) : R nd em [x] = x := by show rtF nd em 1 [x] = x; rw [rtF, if_pos (by simp)]; rfl
theorem R_split {l : List H} {T : Nat} (h1 : 2 ^ T < l.length) (h2 : l.length ≤ 2 ^ (T + 1)) : R nd em l = nd (R nd em (l.take (2 ^ T))) (R nd em (l.drop (2 ^ T))) := by
  have := pow_pos2 T
  obtain ⟨f, hf⟩ : ∃ f, l.length = f + 1 := ⟨l.length - 1, by omega⟩
  show rtF nd em l.length l = _
  rw [hf, rtF, if_neg (by omega), hp_of h1 h2]
  show _ = nd (rtF nd em _ _) (rtF nd em _ _)
  rw [rtF_eq nd em f (l.take (2 ^ T)).length _ (by rw [List.length_take]; omega) (Nat.le_refl _), rtF_eq nd em f (l.drop (2 ^ T)).length _ (by rw [List.length_drop]; omega) (Nat.le_refl _)]

/-! ### halves beside a way -/
def xr (a : Nat) : Nat := if a % 2 = 0 then a + 1 else a - 1
theorem xr_add (a k : Nat) : xr (2 * k + a) = 2 * k + xr a := by
  unfold xr
  rw [show (2 * k + a) % 2 = a % 2 by omega]
  split <;> omega
theorem xr_lt {a k : Nat} (h : a < 2 * k) : xr a < 2 * k := by unfold xr; split <;> omega
def bes (lev p size : Nat) : Nat → List (Nat × Nat)
  | 0 => []
  | j + 1 => bes lev p size j ++ (if xr (p / 2 ^ j) * 2 ^ (lev + j) < size then [(lev + j, xr (p / 2 ^ j))] else [])
theorem bes_step {lev p size j : Nat} (h1 : size ≤ 2 ^ (lev + j)) (h2 : p * 2 ^ lev < size) : bes lev p size (j + 1) = bes lev p size j := by
  have h3 : p < 2 ^ j := by
    rw [Nat.pow_add, Nat.mul_comm] at h1
    exact Nat.lt_of_mul_lt_mul_right (Nat.lt_of_lt_of_le h2 h1)
  rw [bes, Nat.div_eq_of_lt h3, if_neg (by show ¬ 1 * _ < _; omega), List.append_nil]
theorem bes_more {lev p size j : Nat} (h1 : size ≤ 2 ^ (lev + j)) (h2 : p * 2 ^ lev < size) : ∀ d, bes lev p size (j + d) = bes lev p size j
  | 0 => rfl
  | d + 1 => by
    rw [← Nat.add_assoc, bes_step _ h2, bes_more h1 h2 d]
    exact Nat.le_trans h1 (Nat.pow_le_pow_right (by decide) (by omega))
/-- the halves beside the way from the half p of a level up to the root of n. -/
def wy (lev p n : Nat) : List (Nat × Nat) := bes lev p n n
theorem wy_eq {lev p n j : Nat} (h1 : n ≤ 2 ^ (lev + j)) (h2 : p * 2 ^ lev < n) : wy lev p n = bes lev p n j := by
  have h0 : n ≤ 2 ^ (lev + n) := Nat.le_trans (Nat.le_of_lt Nat.lt_two_pow_self) (Nat.pow_le_pow_right (by decide) (by omega))
  unfold wy
  rcases Nat.le_total n j with h | h
  · obtain ⟨d, rfl⟩ := Nat.le.dest h; exact (bes_more h0 h2 d).symm
  · obtain ⟨d, e⟩ := Nat.le.dest h
    have := bes_more h1 h2 d
    rw [e] at this; exact this
theorem bes_left {lev p n T : Nat} (hT : 2 ^ T < n) (hl : lev ≤ T) (hp : p * 2 ^ lev < 2 ^ T) : ∀ j, j ≤ T - lev → bes lev p n j = bes lev p (2 ^ T) j
  | 0, _ => rfl
  | j + 1, h => by
    rw [bes, bes, bes_left hT hl hp j (by omega)]
    have e : 2 ^ T = 2 ^ (lev + j) * 2 ^ (T - (lev + j)) := pow_split (by omega)
    have e2 := pow_even (k := T - (lev + j)) (by omega)
    have ha : p / 2 ^ j < 2 ^ (T - (lev + j)) := by
      rw [Nat.div_lt_iff_lt_mul (pow_pos2 j)]
      rw [e, Nat.pow_add] at hp
      have : p * 2 ^ lev < 2 ^ (T - (lev + j)) * 2 ^ j * 2 ^ lev := by
        refine Nat.lt_of_lt_of_le hp (Nat.le_of_eq ?_)
        rw [Nat.mul_comm (2 ^ lev * 2 ^ j), Nat.mul_comm (2 ^ lev), ← Nat.mul_assoc]
      exact Nat.lt_of_mul_lt_mul_right this
    have hx : xr (p / 2 ^ j) < 2 ^ (T - (lev + j)) := by rw [e2] at ha ⊢; exact xr_lt ha
    have hy : xr (p / 2 ^ j) * 2 ^ (lev + j) < 2 ^ T := by
      rw [e, Nat.mul_comm]
      exact Nat.mul_lt_mul_of_pos_left hx (pow_pos2 _)
    rw [if_pos hy, if_pos (by omega)]
def sh (T : Nat) (x : Nat × Nat) : Nat × Nat := (x.1, 2 ^ (T - x.1) + x.2)
theorem bes_right {lev q n T : Nat} (hT : 2 ^ T < n) (hl : lev ≤ T) : ∀ j, j ≤ T - lev → bes lev (2 ^ (T - lev) + q) n j = (bes lev q (n - 2 ^ T) j).map (sh T)
  | 0, _ => rfl
  | j + 1, h => by
    rw [bes, bes, bes_right hT hl j (by omega), List.map_append]
    congr 1
    have e1 : 2 ^ (T - lev) = 2 ^ j * 2 ^ (T - (lev + j)) := by rw [← Nat.pow_add]; congr 1; omega
    have e2 := pow_even (k := T - (lev + j)) (by omega)
    have e3 : (2 ^ (T - lev) + q) / 2 ^ j = 2 ^ (T - (lev + j)) + q / 2 ^ j := by
      rw [e1, Nat.mul_add_div (pow_pos2 j)]
    have e4 : xr ((2 ^ (T - lev) + q) / 2 ^ j) = 2 ^ (T - (lev + j)) + xr (q / 2 ^ j) := by rw [e3, e2, xr_add]
    have e5 : (2 ^ (T - (lev + j)) + xr (q / 2 ^ j)) * 2 ^ (lev + j) = 2 ^ T + xr (q / 2 ^ j) * 2 ^ (lev + j) := by
      rw [Nat.add_mul, ← Nat.pow_add]; congr 2; omega
    rw [e4, e5]
    by_cases hc : xr (q / 2 ^ j) * 2 ^ (lev + j) < n - 2 ^ T
    · rw [if_pos hc, if_pos (by omega)]; rfl
    · rw [if_neg hc, if_neg (by omega)]; rfl
theorem wy_left {lev p n T : Nat} (h1 : 2 ^ T < n) (h2 : n ≤ 2 ^ (T + 1)) (hl : lev ≤ T) (hp : p * 2 ^ lev < 2 ^ T) : wy lev p n = wy lev p (2 ^ T) ++ [(T, 1)] := by
  have e : lev + (T - lev) = T := by omega
  rw [wy_eq (j := T - lev + 1) (by rw [← Nat.add_assoc, e]; exact h2) (by omega), bes, bes_left h1 hl hp _ (Nat.le_refl _), ← wy_eq (j := T - lev) (by rw [e]; exact Nat.le_refl _) hp]
  have h3 : p < 2 ^ (T - lev) := by
    have := pow_split hl
    rw [this, Nat.mul_comm] at hp
    exact Nat.lt_of_mul_lt_mul_left hp
  rw [Nat.div_eq_of_lt h3, e, if_pos (by show 1 * _ < _; omega)]
  rfl
theorem wy_right {lev q n T : Nat} (h1 : 2 ^ T < n) (h2 : n ≤ 2 ^ (T + 1)) (hl : lev ≤ T) (hq : q * 2 ^ lev < n - 2 ^ T) : wy lev (2 ^ (T - lev) + q) n = (wy lev q (n - 2 ^ T)).map (sh T) ++ [(T, 0)] := by
  have e : lev + (T - lev) = T := by omega
  have e1 : 2 ^ (T - lev) * 2 ^ lev = 2 ^ T := by rw [Nat.mul_comm]; exact (pow_split hl).symm
  have e2 : 2 ^ (T + 1) = 2 * 2 ^ T := by rw [Nat.pow_succ, Nat.mul_comm]
  rw [wy_eq (j := T - lev + 1) (by rw [← Nat.add_assoc, e]; exact h2) (by rw [Nat.add_mul, e1]; omega), bes, bes_right h1 hl _ (Nat.le_refl _), ← wy_eq (j := T - lev) (by rw [e]; omega) hq]
  have h3 : q < 2 ^ (T - lev) := by
    have : q * 2 ^ lev < 2 ^ (T - lev) * 2 ^ lev := by rw [e1]; omega
    exact Nat.lt_of_mul_lt_mul_right this
  have e3 : (2 ^ (T - lev) + q) / 2 ^ (T - lev) = 1 := by
    rw [Nat.add_comm, Nat.add_div_right _ (pow_pos2 _), Nat.div_eq_of_lt h3]
  rw [e3, e, if_pos (by show 0 * _ < _; omega)]
  rfl
theorem wy_one {lev p n : Nat} (h1 : n ≤ 2 ^ lev) (h2 : p * 2 ^ lev < n) : wy lev p n = [] := wy_eq (j := 0) h1 h2

/-! ### segments -/
def sg (l : List H) (x : Nat × Nat) : List H := (l.drop (x.2 * 2 ^ x.1)).take (2 ^ x.1)
theorem sg_shift (l : List H) (T : Nat) (x : Nat × Nat) (h : x.1 ≤ T) : sg l (sh T x) = sg (l.drop (2 ^ T)) x := by
  unfold sg sh
  rw [List.drop_drop]
  simp only
  rw [Nat.add_mul, ← Nat.pow_add, show T - x.1 + x.1 = T by omega]
theorem sg_left (l : List H) (T : Nat) (x : Nat × Nat) (h : (x.2 + 1) * 2 ^ x.1 ≤ 2 ^ T) : sg (l.take (2 ^ T)) x = sg l x := by
  unfold sg
  rw [Nat.add_mul, Nat.one_mul] at h
  rw [List.drop_take, List.take_take, Nat.min_eq_left (by omega)]
theorem sg_zero (l : List H) (T : Nat) : sg l (T, 0) = l.take (2 ^ T) := by unfold sg; simp
theorem sg_one (l : List H) (T : Nat) (h : l.length ≤ 2 ^ (T + 1)) : sg l (T, 1) = l.drop (2 ^ T) := by
  unfold sg
  simp only [Nat.one_mul]
  rw [List.take_of_length_le]
  rw [List.length_drop, Nat.pow_succ] at *
  omega
/-- what lies beside a way lies below its end. -/
theorem mem_bes {lev p size : Nat} : ∀ {j : Nat} {x : Nat × Nat}, x ∈ bes lev p size j → x.2 * 2 ^ x.1 < size ∧ lev ≤ x.1 ∧ x.1 < lev + j
  | 0, _, h => by simp [bes] at h
  | j + 1, x, h => by
    rw [bes, List.mem_append] at h
    rcases h with h | h
    · have := mem_bes h; omega
    · split at h
      · rw [List.mem_singleton] at h; subst h; simp only; omega
      · simp at h
theorem mem_wy_two {lev p T : Nat} (hl : lev ≤ T) (hp : p * 2 ^ lev < 2 ^ T) {x : Nat × Nat} (h : x ∈ wy lev p (2 ^ T)) : (x.2 + 1) * 2 ^ x.1 ≤ 2 ^ T ∧ x.1 < T := by
  have e : lev + (T - lev) = T := by omega
  rw [wy_eq (j := T - lev) (by rw [e]; exact Nat.le_refl _) hp] at h
  obtain ⟨h1, _, h2⟩ := mem_bes h
  refine ⟨?_, by omega⟩
  have h3 : x.1 ≤ T := by omega
  have := pow_split h3
  rw [this, Nat.mul_comm] at h1 ⊢
  exact Nat.mul_le_mul_left _ (Nat.lt_of_mul_lt_mul_left h1)
theorem mem_wy {lev p n T : Nat} (h1 : n ≤ 2 ^ T) (hl : lev ≤ T) (hp : p * 2 ^ lev < n) {x : Nat × Nat} (h : x ∈ wy lev p n) : x.2 * 2 ^ x.1 < n ∧ lev ≤ x.1 ∧ x.1 < T := by
  have e : lev + (T - lev) = T := by omega
  rw [wy_eq (j := T - lev) (by rw [e]; exact h1) hp] at h
  obtain ⟨a, b, c⟩ := mem_bes h
  exact ⟨a, b, by omega⟩
theorem wy_len {lev p n T : Nat} (h1 : n ≤ 2 ^ T) (hl : lev ≤ T) (hp : p * 2 ^ lev < n) : (wy lev p n).length ≤ T - lev := by
  have e : lev + (T - lev) = T := by omega
  rw [wy_eq (j := T - lev) (by rw [e]; exact h1) hp]
  generalize T - lev = j
  induction j with
  | zero => simp [bes]
  | succ j ih => rw [bes, List.length_append]; split <;> simp <;> omega
/-- the roots of halves of leaves. -/
def rts (l : List H) (os : List (Nat × Nat)) : List H := os.map fun x => R nd em (sg l x)
theorem rts_left {l : List H} {lev p T : Nat} (h1 : 2 ^ T < l.length) (h2 : l.length ≤ 2 ^ (T + 1)) (hl : lev ≤ T) (hp : p * 2 ^ lev < 2 ^ T) :
    rts nd em l (wy lev p l.length) = rts nd em (l.take (2 ^ T)) (wy lev p (2 ^ T)) ++ [R nd em (l.drop (2 ^ T))] := by
  rw [wy_left h1 h2 hl hp]
  unfold rts
  rw [List.map_append]
  congr 1
  · refine List.map_congr_left fun x hx => ?_
    rw [sg_left l T x (mem_wy_two hl hp hx).1]
  · simp [sg_one l T h2]
theorem rts_right {l : List H} {lev q T : Nat} (h1 : 2 ^ T < l.length) (h2 : l.length ≤ 2 ^ (T + 1)) (hl : lev ≤ T) (hq : q * 2 ^ lev < l.length - 2 ^ T) :
    rts nd em l (wy lev (2 ^ (T - lev) + q) l.length) = rts nd em (l.drop (2 ^ T)) (wy lev q (l.length - 2 ^ T)) ++ [R nd em (l.take (2 ^ T))] := by
  rw [wy_right h1 h2 hl hq]
  unfold rts
  rw [List.map_append, List.map_map]
  congr 1
  · refine List.map_congr_left fun x hx => ?_
    have := mem_wy (T := T) (by rw [Nat.pow_succ] at h2; omega) hl hq hx
    show R nd em (sg l (sh T x)) = _
    rw [sg_shift l T x (by omega)]
  · simp [sg_zero]

/-! ### what a path makes -/
def fo : H → List (Nat × Nat) → List H → H
  | h, x :: os, p :: ps => fo (if x.2 % 2 = 0 then nd p h else nd h p) os ps
  | h, _, _ => h
theorem fo_app : ∀ (h : H) (os : List (Nat × Nat)) (ps : List H) (x : Nat × Nat) (q : H), os.length = ps.length → fo nd h (os ++ [x]) (ps ++ [q]) = if x.2 % 2 = 0 then nd q (fo nd h os ps) else nd (fo nd h os ps) q
  | h, [], [], x, q, _ => rfl
  | h, y :: os, p :: ps, x, q, e => by
    rw [List.cons_append, List.cons_append, fo, fo_app _ os ps x q (by simpa using e), fo]
theorem fo_sh (T : Nat) : ∀ (h : H) (os : List (Nat × Nat)) (ps : List H), (∀ x ∈ os, x.1 < T) → fo nd h (os.map (sh T)) ps = fo nd h os ps
  | h, [], ps, _ => by cases ps <;> rfl
  | h, y :: os, [], _ => rfl
  | h, y :: os, p :: ps, hx => by
    rw [List.map_cons, fo, fo, fo_sh T _ os ps (fun x m => hx x (by simp [m]))]
    have e2 := pow_even (k := T - y.1) (by have := hx y (by simp); omega)
    have : (sh T y).2 % 2 = y.2 % 2 := by show (2 ^ (T - y.1) + y.2) % 2 = _; rw [e2]; omega
    rw [this]
theorem sh_lt {lev q n T : Nat} (h2 : n ≤ 2 ^ T) (hl : lev < T) (hq : q * 2 ^ lev < n) : ∀ x ∈ wy lev q n, x.1 < T := fun x hx => (mem_wy h2 (by omega) hq hx).2.2
/-- a path that is proved makes the root. -/
theorem fo_path : ∀ (T : Nat) (l : List H) (i : Nat) (x : H), l.length ≤ 2 ^ T → l[i]? = some x → fo nd x (wy 0 i l.length) (rts nd em l (wy 0 i l.length)) = R nd em l
  | 0, l, i, x, h, hi => by
    have hlt := (List.getElem?_eq_some_iff.1 hi).1
    obtain ⟨y, rfl⟩ : ∃ y, l = [y] := List.length_eq_one_iff.1 (by simp at h; omega)
    have : i = 0 := by simp at hlt; omega
    subst this
    rw [wy_one (by simp) (by simp)]
    simp at hi
    rw [R_one, hi]; rfl
  | T + 1, l, i, x, h, hi => by
    have hlt := (List.getElem?_eq_some_iff.1 hi).1
    by_cases hs : l.length ≤ 2 ^ T
    · exact fo_path T l i x hs hi
    · have h1 : 2 ^ T < l.length := by omega
      rw [R_split nd em h1 h]
      by_cases hi2 : i < 2 ^ T
      · have hp : i * 2 ^ 0 < 2 ^ T := by simpa using hi2
        have hl : (l.take (2 ^ T)).length = 2 ^ T := by rw [List.length_take]; omega
        rw [rts_left nd em h1 h (Nat.zero_le _) hp, wy_left h1 h (Nat.zero_le _) hp, fo_app _ _ _ _ _ _ (by unfold rts; rw [List.length_map]), if_neg (by show ¬ (1 % 2 = 0); decide)]
        have ih := fo_path T (l.take (2 ^ T)) i x (by omega) (by rw [List.getElem?_take, if_pos hi2]; exact hi)
        rw [hl] at ih
        rw [ih]
      · obtain ⟨q, rfl⟩ := Nat.le.dest (Nat.not_lt.1 hi2)
        have hq : q * 2 ^ 0 < l.length - 2 ^ T := by simp; omega
        have hl : (l.drop (2 ^ T)).length = l.length - 2 ^ T := List.length_drop
        have e0 : 2 ^ (T - 0) + q = 2 ^ T + q := rfl
        have hle : l.length - 2 ^ T ≤ 2 ^ T := by rw [Nat.pow_succ] at h; omega
        rw [← e0, rts_right nd em h1 h (Nat.zero_le _) hq, wy_right h1 h (Nat.zero_le _) hq, fo_app _ _ _ _ _ _ (by unfold rts; rw [List.length_map, List.length_map]), if_pos (by show 0 % 2 = 0; rfl)]
        have ih := fo_path T (l.drop (2 ^ T)) q x (by rw [hl]; exact hle) (by rw [List.getElem?_drop]; exact hi)
        rw [hl] at ih
        by_cases hT : 0 < T
        · rw [fo_sh nd T _ _ _ (sh_lt hle hT hq), ih]
        · have : T = 0 := by omega
          subst this
          rw [wy_one (by simpa using hle) hq] at ih ⊢
          rw [← ih]; rfl
end
end Mk
end Go.Proofs.YtfkiciejipcgkaaDoor
