/-
  Words of statements, over lists of bytes: plain mathematics.
-/
import Derived.Test.YtpfiejmhnkcjbaaGreatDoorProg
namespace Go.Proofs.YtpfiejmhnkcjbaaGreatDoor.Lx
set_option linter.unusedVariables false
set_option linter.unusedSimpArgs false
def isBl (c : Nat) : Bool := c == 32 || c == 9 || c == 10 || c == 13
def isLt (c : Nat) : Bool := (decide (97 ≤ c) && decide (c ≤ 122)) || (decide (65 ≤ c) && decide (c ≤ 90)) || c == 95
def isDg (c : Nat) : Bool := decide (48 ≤ c) && decide (c ≤ 57)
def isNm (c : Nat) : Bool := isLt c || isDg c
def sml (l : List Nat) : List Nat := l.map fun c => if 65 ≤ c ∧ c ≤ 90 then c + 32 else c
def words : List (List Nat) := [[115, 101, 108, 101, 99, 116], [118, 97, 108, 117, 101], [102, 114, 111, 109], [97, 115], [119, 104, 101, 114, 101], [111, 114, 100, 101, 114], [98, 121], [100, 101, 115, 99], [108, 105, 109, 105, 116], [105, 110, 115, 101, 114, 116], [105, 110, 116, 111], [117, 112, 100, 97, 116, 101], [115, 101, 116], [100, 101, 108, 101, 116, 101], [99, 114, 101, 97, 116, 101], [100, 114, 111, 112], [116, 97, 98, 108, 101], [105, 110, 100, 101, 120], [111, 110], [97, 110, 100], [111, 114], [110, 111, 116], [105, 115], [110, 117, 108, 108], [109, 105, 115, 115, 105, 110, 103], [116, 114, 117, 101], [102, 97, 108, 115, 101], [104, 105, 115, 116, 111, 114, 121], [109, 101, 116, 97]]
def isW (l : List Nat) : Bool := words.contains l
def signs : List (List Nat) := [[60, 61], [62, 61], [33, 61], [60, 62], [124, 124], [60], [62], [61], [43], [45], [42], [40], [41], [91], [93], [123], [125], [44], [46], [58], [59]]
def sgn (r : List Nat) : List Nat := (signs.find? (fun s => s.isPrefixOf r)).getD []
/-- How a sign is told. -/
def told (s : List Nat) : List Nat := if s = [60, 62] then [33, 61] else s
inductive St where
  | skip (n : Nat)
  | tok (k : Nat) (t : List Nat) (n : Nat)
  | bad
/-- How many bytes there are from behind a text's first sign up to and with its last one. -/
def txE : List Nat → Option Nat
  | [] => none
  | [c] => if c = 39 then some 1 else none
  | c :: d :: q => if c = 39 then (if d = 39 then (txE q).map (· + 2) else some 1) else (txE (d :: q)).map (· + 1)
/-- Where a number ends, and whether it has a point. -/
def nuE (r : List Nat) : Nat × Bool :=
  match r.dropWhile isDg with
  | p :: d :: q => if p = 46 ∧ isDg d = true then ((r.takeWhile isDg).length + 1 + ((d :: q).takeWhile isDg).length, true) else ((r.takeWhile isDg).length, false)
  | _ => ((r.takeWhile isDg).length, false)
/-- What may not folw a number. -/
def folw (r : List Nat) : Bool := match r with
  | c :: _ => isLt c || c == 46
  | [] => false
/-- The first thing of a row of bytes. -/
def step (tx nu : List Nat → Bool) (r : List Nat) : St :=
  match r with
  | [] => .bad
  | c :: q =>
    if isBl c then .skip 1
    else if c = 45 ∧ q.head? = some 45 then .skip (r.takeWhile (· != 10)).length
    else if isLt c then
      (if isW (sml (r.takeWhile isNm)) then .tok 2 (sml (r.takeWhile isNm)) (r.takeWhile isNm).length else .tok 1 (r.takeWhile isNm) (r.takeWhile isNm).length)
    else if c = 34 then
      (if q.length = (q.takeWhile (· != 34)).length ∨ (q.takeWhile (· != 34)).length < 1 ∨ 40 < (q.takeWhile (· != 34)).length then .bad else .tok 1 (q.takeWhile (· != 34)) ((q.takeWhile (· != 34)).length + 2))
    else if isDg c then
      (if folw (r.drop (nuE r).1) = true ∨ nu (r.take (nuE r).1) = false then .bad else .tok (if (nuE r).2 then 4 else 3) (r.take (nuE r).1) (nuE r).1)
    else if c = 39 then
      (match txE q with
      | none => .bad
      | some n => if tx (r.take (n + 1)) then .tok 5 (r.take (n + 1)) (n + 1) else .bad)
    else if c = 63 then .tok 7 [63] 1
    else (if sgn r = [] then .bad else .tok 6 (told (sgn r)) (sgn r).length)
abbrev Tk := Nat × List Nat × Nat
def lexF (tx nu : List Nat → Bool) : Nat → List Nat → Nat → List Tk × Option Nat
  | 0, _, p => ([(8, [], p)], none)
  | f + 1, r, p => if r = [] then ([(8, [], p)], none) else
    match step tx nu r with
    | .skip n => lexF tx nu f (r.drop n) (p + n)
    | .tok k t n => ((k, t, p) :: (lexF tx nu f (r.drop n) (p + n)).1, (lexF tx nu f (r.drop n) (p + n)).2)
    | .bad => ([], some p)
def lexR (tx nu : List Nat → Bool) (r : List Nat) (p : Nat) : List Tk × Option Nat := lexF tx nu r.length r p
/-! ### how much is read -/
theorem txE_le : ∀ (q : List Nat) (n : Nat), txE q = some n → 1 ≤ n ∧ n ≤ q.length
  | [], n, h => by cases h
  | [c], n, h => by
    simp only [txE] at h
    split at h
    · injection h with h; subst h; simp
    · cases h
  | c :: d :: q, n, h => by
    simp only [txE] at h
    split at h
    · split at h
      · cases hq : txE q with
        | none => rw [hq] at h; cases h
        | some m =>
          rw [hq] at h
          simp only [Option.map_some, Option.some.injEq] at h
          have := txE_le q m hq
          simp only [List.length_cons]
          omega
      · injection h with h; subst h; simp
    · cases hq : txE (d :: q) with
      | none => rw [hq] at h; cases h
      | some m =>
        rw [hq] at h
        simp only [Option.map_some, Option.some.injEq] at h
        have := txE_le (d :: q) m hq
        simp only [List.length_cons] at this ⊢
        omega
theorem tw_le (f : Nat → Bool) (r : List Nat) : (r.takeWhile f).length ≤ r.length := (List.takeWhile_sublist f).length_le
theorem tw_dw (f : Nat → Bool) (r : List Nat) : (r.takeWhile f).length + (r.dropWhile f).length = r.length := by
  have := congrArg List.length (List.takeWhile_append_dropWhile (p := f) (l := r))
  rw [List.length_append] at this
  exact this
theorem tw_pos {f : Nat → Bool} {c : Nat} {q : List Nat} (h : f c = true) : 1 ≤ ((c :: q).takeWhile f).length := by
  rw [List.takeWhile_cons, if_pos h]; simp
theorem nuE_le {c : Nat} {q : List Nat} (h : isDg c = true) : 1 ≤ (nuE (c :: q)).1 ∧ (nuE (c :: q)).1 ≤ (c :: q).length := by
  have h1 := tw_pos (q := q) h
  have h2 := tw_dw isDg (c :: q)
  unfold nuE
  split
  · rename_i p d q' e
    rw [e] at h2
    have h3 := tw_le isDg (d :: q')
    split
    · simp only [List.length_cons] at h2 h3 ⊢
      omega
    · simp only [List.length_cons] at h1 h2 ⊢
      omega
  · exact ⟨h1, tw_le _ _⟩
theorem sgn_pre (r : List Nat) : sgn r <+: r := by
  unfold sgn
  cases h : signs.find? (fun s => s.isPrefixOf r) with
  | none => exact List.nil_prefix
  | some s =>
    have := List.find?_some h
    exact List.isPrefixOf_iff_prefix.1 this
/-- A step reads something, and no more than there is. -/
theorem step_le {tx nu : List Nat → Bool} {r : List Nat} (hr : r ≠ []) : (∀ n, step tx nu r = .skip n → 1 ≤ n ∧ n ≤ r.length) ∧ (∀ k t n, step tx nu r = .tok k t n → 1 ≤ n ∧ n ≤ r.length) := by
  cases r with
  | nil => exact absurd rfl hr
  | cons c q =>
    have hl : 1 ≤ (c :: q).length := by simp
    unfold step
    simp only
    split
    · exact ⟨fun n h => by injection h with h; subst h; exact ⟨Nat.le_refl _, hl⟩, fun k t n h => by cases h⟩
    split
    · rename_i h
      refine ⟨fun n h' => ?_, fun k t n h => by cases h⟩
      injection h' with h'
      subst h'
      exact ⟨tw_pos (by rw [h.1]; decide), tw_le _ _⟩
    split
    · rename_i h
      have h1 : 1 ≤ ((c :: q).takeWhile isNm).length := tw_pos (by unfold isNm; rw [h]; rfl)
      have h2 := tw_le isNm (c :: q)
      split
      · exact ⟨fun n h => (by cases h), fun k t n h => by injection h with _ _ h; subst h; exact ⟨h1, h2⟩⟩
      · exact ⟨fun n h => (by cases h), fun k t n h => by injection h with _ _ h; subst h; exact ⟨h1, h2⟩⟩
    split
    · have h2 := tw_le (· != 34) q
      split
      · exact ⟨fun n h => (by cases h), fun k t n h => by cases h⟩
      · rename_i hn
        exact ⟨fun n h => (by cases h), fun k t n h => by
          injection h with _ _ h
          subst h
          have hq2 : (q.takeWhile (· != 34)).length ≤ q.length := h2
          have : (q.takeWhile (· != 34)).length ≠ q.length := fun e => hn (.inl e.symm)
          simp only [List.length_cons]
          omega⟩
    split
    · rename_i h
      have h1 := nuE_le (q := q) h
      split
      · exact ⟨fun n h => (by cases h), fun k t n h => by cases h⟩
      · exact ⟨fun n h => (by cases h), fun k t n h => by injection h with _ _ h; subst h; exact h1⟩
    split
    · split
      · exact ⟨fun n h => (by cases h), fun k t n h => by cases h⟩
      · rename_i m hm
        have h1 := txE_le q m hm
        split
        · exact ⟨fun n h => (by cases h), fun k t n h => by injection h with _ _ h; subst h; simp only [List.length_cons]; omega⟩
        · exact ⟨fun n h => (by cases h), fun k t n h => by cases h⟩
    split
    · exact ⟨fun n h => (by cases h), fun k t n h => by injection h with _ _ h; subst h; exact ⟨Nat.le_refl _, hl⟩⟩
    split
    · exact ⟨fun n h => (by cases h), fun k t n h => by cases h⟩
    · rename_i hs
      refine ⟨fun n h => (by cases h), fun k t n h => ?_⟩
      injection h with _ _ h
      subst h
      refine ⟨?_, (sgn_pre _).length_le⟩
      cases e : sgn (c :: q) with
      | nil => exact absurd e hs
      | cons x y => simp
/-- More than enough is enough. -/
theorem lexF_more (tx nu : List Nat → Bool) : ∀ (f : Nat) (r : List Nat) (p : Nat), r.length ≤ f → lexF tx nu f r p = lexF tx nu r.length r p := by
  intro f
  induction f using Nat.strongRecOn with
  | ind f ih =>
    intro r p h
    cases hr : r with
    | nil => cases f <;> simp [lexF]
    | cons c q =>
      rw [← hr]
      have hne : r ≠ [] := by rw [hr]; simp
      obtain ⟨m, hm⟩ : ∃ m, r.length = m + 1 := ⟨q.length, by rw [hr]; simp⟩
      obtain ⟨g, rfl⟩ : ∃ g, f = g + 1 := ⟨f - 1, by omega⟩
      obtain ⟨s1, s2⟩ := step_le (tx := tx) (nu := nu) hne
      rw [hm]
      simp only [lexF, if_neg hne]
      have key : ∀ n, 1 ≤ n → n ≤ r.length → lexF tx nu g (r.drop n) (p + n) = lexF tx nu m (r.drop n) (p + n) := fun n h1 h2 => by
        have hl : (r.drop n).length ≤ m := by rw [List.length_drop]; omega
        rw [ih g (by omega) _ _ (by omega)]
        by_cases hg : m < g + 1
        · rw [ih m hg _ _ hl]
        · omega
      cases hs : step tx nu r with
      | skip n =>
        obtain ⟨h1, h2⟩ := s1 n hs
        exact key n h1 h2
      | tok k t n =>
        obtain ⟨h1, h2⟩ := s2 k t n hs
        simp only [key n h1 h2]
      | bad => rfl
theorem lexR_nil (tx nu : List Nat → Bool) (p : Nat) : lexR tx nu [] p = ([(8, [], p)], none) := rfl
theorem lexR_step (tx nu : List Nat → Bool) {r : List Nat} (hr : r ≠ []) (p : Nat) : lexR tx nu r p = match step tx nu r with
    | .skip n => lexR tx nu (r.drop n) (p + n)
    | .tok k t n => ((k, t, p) :: (lexR tx nu (r.drop n) (p + n)).1, (lexR tx nu (r.drop n) (p + n)).2)
    | .bad => ([], some p) := by
  obtain ⟨m, hm⟩ : ∃ m, r.length = m + 1 := ⟨r.length - 1, by have := List.length_pos_iff.2 hr; omega⟩
  obtain ⟨s1, s2⟩ := step_le (tx := tx) (nu := nu) hr
  unfold lexR
  rw [hm]
  simp only [lexF, if_neg hr]
  have key : ∀ n, 1 ≤ n → n ≤ r.length → lexF tx nu m (r.drop n) (p + n) = lexF tx nu (r.drop n).length (r.drop n) (p + n) := fun n h1 h2 => lexF_more tx nu m _ _ (by rw [List.length_drop]; omega)
  cases hs : step tx nu r with
  | skip n =>
    obtain ⟨h1, h2⟩ := s1 n hs
    exact key n h1 h2
  | tok k t n =>
    obtain ⟨h1, h2⟩ := s2 k t n hs
    simp only [key n h1 h2]
  | bad => rfl
/-! ### places -/
end Go.Proofs.YtpfiejmhnkcjbaaGreatDoor.Lx
