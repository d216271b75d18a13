/-
  Words of statements, over lists of bytes: plain mathematics. · Words of statements: what stands behind, blanks between, small and great letters.
-/
import Derived.Test.YtpfiejmhnkcjbaaGreatDoorProg
namespace Go.Proofs.YtpfiejmhnkcjbaaGreatDoor.Lx
set_option linter.unusedVariables false
set_option linter.unusedSimpArgs false
def isBl (c : Nat) : Bool := c == 32 || c == 9 || c == 10 || c == 13
def isLt (c : Nat) : Bool := (decide (97 ≤ c) && decide (c ≤ 122)) || (decide (65 ≤ c) && decide (c ≤ 90)) || c == 95
def isDg (c : Nat) : Bool := decide (48 ≤ c) && decide (c ≤ 57)
def isNm (c : Nat) : Bool := isLt c || isDg c
def sml (l : List Nat) : List Nat := l.map fun c => if 65 ≤ c ∧ c ≤ 90 then c + 32 else c
def words : List (List Nat) := [[115, 101, 108, 101, 99, 116], [118, 97, 108, 117, 101], [102, 114, 111, 109], [97, 115], [119, 104, 101, 114, 101], [111, 114, 100, 101, 114], [98, 121], [100, 101, 115, 99], [108, 105, 109, 105, 116], [105, 110, 115, 101, 114, 116], [105, 110, 116, 111], [117, 112, 100, 97, 116, 101], [115, 101, 116], [100, 101, 108, 101, 116, 101], [99, 114, 101, 97, 116, 101], [100, 114, 111, 112], [116, 97, 98, 108, 101], [105, 110, 100, 101, 120], [111, 110], [97, 110, 100], [111, 114], [110, 111, 116], [105, 115], [110, 117, 108, 108], [109, 105, 115, 115, 105, 110, 103], [116, 114, 117, 101], [102, 97, 108, 115, 101], [104, 105, 115, 116, 111, 114, 121], [109, 101, 116, 97]]
def isW (l : List Nat) : Bool := words.contains l
def signs : List (List Nat) := [[60, 61], [62, 61], [33, 61], [60, 62], [124, 124], [60], [62], [61], [43], [45], [42], [40], [41], [91], [93], [123], [125], [44], [46], [58], [59]]
def sgn (r : List Nat) : List Nat := (signs.find? (fun s => s.isPrefixOf r)).getD []
/-- How a sign is told. -/
def told (s : List Nat) : List Nat := if s = [60, 62] then [33, 61] else s
inductive St where
  | skip (n : Nat)
  | tok (k : Nat) (t : List Nat) (n : Nat)
  | bad
/-- How many bytes there are from behind a text's first sign up to and with its last one. -/
def txE : List Nat → Option Nat
  | [] => none
  | [c] => if c = 39 then some 1 else none
  | c :: d :: q => if c = 39 then (if d = 39 then (txE q).map (· + 2) else some 1) else (txE (d :: q)).map (· + 1)
/-- Where a number ends, and whether it has a point. -/
def nuE (r : List Nat) : Nat × Bool :=
  match r.dropWhile isDg with
  | p :: d :: q => if p = 46 ∧ isDg d = true then ((r.takeWhile isDg).length + 1 + ((d :: q).takeWhile isDg).length, true) else ((r.takeWhile isDg).length, false)
  | _ => ((r.takeWhile isDg).length, false)
/-- What may not folw a number. -/
def folw (r : List Nat) : Bool := match r with
  | c :: _ => isLt c || c == 46
  | [] => false
/-- The first thing of a row of bytes. -/
def step (tx nu : List Nat → Bool) (r : List Nat) : St :=
  match r with
  | [] => .bad
  | c :: q =>
    if isBl c then .skip 1
    else if c = 45 ∧ q.head? = some 45 then .skip (r.takeWhile (· != 10)).length
    else if isLt c then
      (if isW (sml (r.takeWhile isNm)) then .tok 2 (sml (r.takeWhile isNm)) (r.takeWhile isNm).length else .tok 1 (r.takeWhile isNm) (r.takeWhile isNm).length)
    else if c = 34 then
      (if q.length = (q.takeWhile (· != 34)).length ∨ (q.takeWhile (· != 34)).length < 1 ∨ 40 < (q.takeWhile (· != 34)).length then .bad else .tok 1 (q.takeWhile (· != 34)) ((q.takeWhile (· != 34)).length + 2))
    else if isDg c then
      (if folw (r.drop (nuE r).1) = true ∨ nu (r.take (nuE r).1) = false then .bad else .tok (if (nuE r).2 then 4 else 3) (r.take (nuE r).1) (nuE r).1)
    else if c = 39 then
      (match txE q with
      | none => .bad
      | some n => if tx (r.take (n + 1)) then .tok 5 (r.take (n + 1)) (n + 1) else .bad)
    else if c = 63 then .tok 7 [63] 1
    else (if sgn r = [] then .bad else .tok 6 (told (sgn r)) (sgn r).length)
abbrev Tk := Nat × List Nat × Nat
def lexF (tx nu : List Nat → Bool) : Nat → List Nat → Nat → List Tk × Option Nat
  | 0, _, p => ([(8, [], p)], none)
  | f + 1, r, p => if r = [] then ([(8, [], p)], none) else
    match step tx nu r with
    | .skip n => lexF tx nu f (r.drop n) (p + n)
    | .tok k t n => ((k, t, p) :: (lexF tx nu f (r.drop n) (p + n)).1, (lexF tx nu f (r.drop n) (p + n)).2)
    | .bad => ([], some p)
def lexR (tx nu : List Nat → Bool) (r : List Nat) (p : Nat) : List Tk × Option Nat := lexF tx nu r.length r p
/-! ### how much is read -/
theorem txE_le : ∀ (q : List Nat) (n : Nat), txE q = some n → 1 ≤ n ∧ n ≤ q.length
  | [], n, h => by cases h
  | [c], n, h => by
    simp only [txE] at h
    split at h
    · injection h with h; subst h; simp
    · cases h
  | c :: d :: q, n, h => by
    simp only [txE] at h
    split at h
    · split at h
      · cases hq : txE q with
        | none => rw [hq] at h; cases h
        | some m =>
          rw [hq] at h
          simp only [Option.map_some, Option.some.injEq] at h
          have := txE_le q m hq
          simp only [List.length_cons]
          omega
      · injection h with h; subst h; simp
    · cases hq : txE (d :: q) with
      | none => rw [hq] at h; cases h
      | some m =>
        rw [hq] at h
        simp only [Option.map_some, Option.some.injEq] at h
        have := txE_le (d :: q) m hq
        simp only [List.length_cons] at this ⊢
        omega
theorem tw_le (f : Nat → Bool) (r : List Nat) : (r.takeWhile f).length ≤ r.length := (List.takeWhile_sublist f).length_le
theorem tw_dw (f : Nat → Bool) (r : List Nat) : (r.takeWhile f).length + (r.dropWhile f).length = r.length := by
  have := congrArg List.length (List.takeWhile_append_dropWhile (p := f) (l := r))
  rw [List.length_append] at this
  exact this
theorem tw_pos {f : Nat → Bool} {c : Nat} {q : List Nat} (h : f c = true) : 1 ≤ ((c :: q).takeWhile f).length := by
  rw [List.takeWhile_cons, if_pos h]; simp
theorem nuE_le {c : Nat} {q : List Nat} (h : isDg c = true) : 1 ≤ (nuE (c :: q)).1 ∧ (nuE (c :: q)).1 ≤ (c :: q).length := by
  have h1 := tw_pos (q := q) h
  have h2 := tw_dw isDg (c :: q)
  unfold nuE
  split
  · rename_i p d q' e
    rw [e] at h2
    have h3 := tw_le isDg (d :: q')
    split
    · simp only [List.length_cons] at h2 h3 ⊢
      omega
    · simp only [List.length_cons] at h1 h2 ⊢
      omega
  · exact ⟨h1, tw_le _ _⟩
theorem sgn_pre (r : List Nat) : sgn r <+: r := by
  unfold sgn
  cases h : signs.find? (fun s => s.isPrefixOf r) with
  | none => exact List.nil_prefix
  | some s =>
    have := List.find?_some h
    exact List.isPrefixOf_iff_prefix.1 this
/-- A step reads something, and no more than there is. -/
theorem step_le {tx nu : List Nat → Bool} {r : List Nat} (hr : r ≠ []) : (∀ n, step tx nu r = .skip n → 1 ≤ n ∧ n ≤ r.length) ∧ (∀ k t n, step tx nu r = .tok k t n → 1 ≤ n ∧ n ≤ r.length) := by
  cases r with
  | nil => exact absurd rfl hr
  | cons c q =>
    have hl : 1 ≤ (c :: q).length := by simp
    unfold step
    simp only
    split
    · exact ⟨fun n h => by injection h with h; subst h; exact ⟨Nat.le_refl _, hl⟩, fun k t n h => by cases h⟩
    split
    · rename_i h
      refine ⟨fun n h' => ?_, fun k t n h => by cases h⟩
      injection h' with h'
      subst h'
      exact ⟨tw_pos (by rw [h.1]; decide), tw_le _ _⟩
    split
    · rename_i h
      have h1 : 1 ≤ ((c :: q).takeWhile isNm).length := tw_pos (by unfold isNm; rw [h]; rfl)
      have h2 := tw_le isNm (c :: q)
      split
      · exact ⟨fun n h => (by cases h), fun k t n h => by injection h with _ _ h; subst h; exact ⟨h1, h2⟩⟩
      · exact ⟨fun n h => (by cases h), fun k t n h => by injection h with _ _ h; subst h; exact ⟨h1, h2⟩⟩
    split
    · have h2 := tw_le (· != 34) q
      split
      · exact ⟨fun n h => (by cases h), fun k t n h => by cases h⟩
      · rename_i hn
        exact ⟨fun n h => (by cases h), fun k t n h => by
          injection h with _ _ h
          subst h
          have hq2 : (q.takeWhile (· != 34)).length ≤ q.length := h2
          have : (q.takeWhile (· != 34)).length ≠ q.length := fun e => hn (.inl e.symm)
          simp only [List.length_cons]
          omega⟩
    split
    · rename_i h
      have h1 := nuE_le (q := q) h
      split
      · exact ⟨fun n h => (by cases h), fun k t n h => by cases h⟩
      · exact ⟨fun n h => (by cases h), fun k t n h => by injection h with _ _ h; subst h; exact h1⟩
    split
    · split
      · exact ⟨fun n h => (by cases h), fun k t n h => by cases h⟩
      · rename_i m hm
        have h1 := txE_le q m hm
        split
        · exact ⟨fun n h => (by cases h), fun k t n h => by injection h with _ _ h; subst h; simp only [List.length_cons]; omega⟩
        · exact ⟨fun n h => (by cases h), fun k t n h => by cases h⟩
    split
    · exact ⟨fun n h => (by cases h), fun k t n h => by injection h with _ _ h; subst h; exact ⟨Nat.le_refl _, hl⟩⟩
    split
    · exact ⟨fun n h => (by cases h), fun k t n h => by cases h⟩
    · rename_i hs
      refine ⟨fun n h => (by cases h), fun k t n h => ?_⟩
      injection h with _ _ h
      subst h
      refine ⟨?_, (sgn_pre _).length_le⟩
      cases e : sgn (c :: q) with
      | nil => exact absurd e hs
      | cons x y => simp
/-- More than enough is enough. -/
theorem lexF_more (tx nu : List Nat → Bool) : ∀ (f : Nat) (r : List Nat) (p : Nat), r.length ≤ f → lexF tx nu f r p = lexF tx nu r.length r p := by
  intro f
  induction f using Nat.strongRecOn with
  | ind f ih =>
    intro r p h
    cases hr : r with
    | nil => cases f <;> simp [lexF]
    | cons c q =>
      rw [← hr]
      have hne : r ≠ [] := by rw [hr]; simp
      obtain ⟨m, hm⟩ : ∃ m, r.length = m + 1 := ⟨q.length, by rw [hr]; simp⟩
      obtain ⟨g, rfl⟩ : ∃ g, f = g + 1 := ⟨f - 1, by omega⟩
      obtain ⟨s1, s2⟩ := step_le (tx := tx) (nu := nu) hne
      rw [hm]
      simp only [lexF, if_neg hne]
      have key : ∀ n, 1 ≤ n → n ≤ r.length → lexF tx nu g (r.drop n) (p + n) = lexF tx nu m (r.drop n) (p + n) := fun n h1 h2 => by
        have hl : (r.drop n).length ≤ m := by rw [List.length_drop]; omega
        rw [ih g (by omega) _ _ (by omega)]
        by_cases hg : m < g + 1
        · rw [ih m hg _ _ hl]
        · omega
      cases hs : step tx nu r with
      | skip n =>
        obtain ⟨h1, h2⟩ := s1 n hs
        exact key n h1 h2
      | tok k t n =>
        obtain ⟨h1, h2⟩ := s2 k t n hs
        simp only [key n h1 h2]
      | bad => rfl
theorem lexR_nil (tx nu : List Nat → Bool) (p : Nat) : lexR tx nu [] p = ([(8, [], p)], none) := rfl
theorem lexR_step (tx nu : List Nat → Bool) {r : List Nat} (hr : r ≠ []) (p : Nat) : lexR tx nu r p = match step tx nu r with
    | .skip n => lexR tx nu (r.drop n) (p + n)
    | .tok k t n => ((k, t, p) :: (lexR tx nu (r.drop n) (p + n)).1, (lexR tx nu (r.drop n) (p + n)).2)
    | .bad => ([], some p) := by
  obtain ⟨m, hm⟩ : ∃ m, r.length = m + 1 := ⟨r.length - 1, by have := List.length_pos_iff.2 hr; omega⟩
  obtain ⟨s1, s2⟩ := step_le (tx := tx) (nu := nu) hr
  unfold lexR
  rw [hm]
  simp only [lexF, if_neg hr]
  have key : ∀ n, 1 ≤ n → n ≤ r.length → lexF tx nu m (r.drop n) (p + n) = lexF tx nu (r.drop n).length (r.drop n) (p + n) := fun n h1 h2 => lexF_more tx nu m _ _ (by rw [List.length_drop]; omega)
  cases hs : step tx nu r with
  | skip n =>
    obtain ⟨h1, h2⟩ := s1 n hs
    exact key n h1 h2
  | tok k t n =>
    obtain ⟨h1, h2⟩ := s2 k t n hs
    simp only [key n h1 h2]
  | bad => rfl
/-! ### places -/
theorem lexR_rise (tx nu : List Nat → Bool) : ∀ (m : Nat) (r : List Nat) (p : Nat), r.length ≤ m →
    (∀ x, (lexR tx nu r p).2 = some x → p ≤ x ∧ x < p + r.length) ∧
    ((lexR tx nu r p).2 = none → (lexR tx nu r p).1 ≠ [] ∧ (lexR tx nu r p).1.getLast? = some (8, [], p + r.length) ∧ (∀ y ∈ (lexR tx nu r p).1, p ≤ y.2.2) ∧ (lexR tx nu r p).1.Pairwise (fun a b => a.2.2 < b.2.2)) := by
  intro m
  induction m with
  | zero =>
    intro r p h
    obtain rfl : r = [] := List.eq_nil_of_length_eq_zero (by omega)
    rw [lexR_nil]
    simp
  | succ m ih =>
    intro r p h
    by_cases hr : r = []
    · subst hr
      rw [lexR_nil]
      simp
    · obtain ⟨s1, s2⟩ := step_le (tx := tx) (nu := nu) hr
      rw [lexR_step tx nu hr p]
      cases hs : step tx nu r with
      | skip n =>
        obtain ⟨h1, h2⟩ := s1 n hs
        have hl : (r.drop n).length = r.length - n := List.length_drop ..
        obtain ⟨i1, i2⟩ := ih (r.drop n) (p + n) (by omega)
        rw [hl, show p + n + (r.length - n) = p + r.length by omega] at i1 i2
        refine ⟨fun x hx => by have := i1 x hx; omega, fun hx => ?_⟩
        obtain ⟨j1, j2, j3, j4⟩ := i2 hx
        exact ⟨j1, j2, fun y hy => by have := j3 y hy; omega, j4⟩
      | tok k t n =>
        obtain ⟨h1, h2⟩ := s2 k t n hs
        have hl : (r.drop n).length = r.length - n := List.length_drop ..
        obtain ⟨i1, i2⟩ := ih (r.drop n) (p + n) (by omega)
        rw [hl, show p + n + (r.length - n) = p + r.length by omega] at i1 i2
        refine ⟨fun x hx => by have := i1 x hx; omega, fun hx => ?_⟩
        obtain ⟨j1, j2, j3, j4⟩ := i2 hx
        refine ⟨by simp, ?_, fun y hy => ?_, List.pairwise_cons.2 ⟨fun y hy => by have := j3 y hy; simp only; omega, j4⟩⟩
        · rw [List.getLast?_cons_of_ne_nil j1]; exact j2
        · rcases List.mem_cons.1 hy with rfl | hy
          · exact Nat.le_refl _
          · have := j3 y hy; omega
      | bad =>
        refine ⟨fun x hx => ?_, fun hx => by cases hx⟩
        injection hx with hx
        have := List.length_pos_iff.2 hr
        omega
end Go.Proofs.YtpfiejmhnkcjbaaGreatDoor.Lx
namespace Go.Proofs.YtpfiejmhnkcjbaaGreatDoor.Lx
set_option linter.unusedVariables false
set_option linter.unusedSimpArgs false
theorem tw_app {f : Nat → Bool} (h : f 10 = false) (z : List Nat) : ∀ r : List Nat, (r ++ 10 :: z).takeWhile f = r.takeWhile f
  | [] => by simp [h]
  | c :: r => by
    rw [List.cons_append, List.takeWhile_cons, List.takeWhile_cons, tw_app h z r]
theorem dw_app {f : Nat → Bool} (h : f 10 = false) (z : List Nat) : ∀ r : List Nat, (r ++ 10 :: z).dropWhile f = r.dropWhile f ++ 10 :: z
  | [] => by simp [h]
  | c :: r => by
    rw [List.cons_append, List.dropWhile_cons, List.dropWhile_cons, dw_app h z r]
    split <;> rfl
/-- Where a search ends within, it ends there whatever stands behind. -/
theorem tw_in {f : Nat → Bool} (z : List Nat) : ∀ r : List Nat, (r.takeWhile f).length < r.length → (r ++ z).takeWhile f = r.takeWhile f
  | [], h => by simp at h
  | c :: r, h => by
    rw [List.cons_append, List.takeWhile_cons, List.takeWhile_cons]
    split
    · rename_i hc
      rw [List.takeWhile_cons, if_pos hc] at h
      simp only [List.length_cons] at h
      rw [tw_in z r (by omega)]
    · rfl
theorem txE_app (z : List Nat) : ∀ (q : List Nat) (n : Nat), txE q = some n → txE (q ++ 10 :: z) = some n
  | [], n, h => by cases h
  | [c], n, h => by
    simp only [txE] at h
    split at h
    · rename_i hc
      injection h with h
      subst h hc
      show txE (39 :: 10 :: z) = some 1
      simp [txE]
    · cases h
  | c :: d :: q, n, h => by
    simp only [txE] at h
    show txE (c :: d :: (q ++ 10 :: z)) = some n
    simp only [txE]
    split at h
    · rename_i hc
      rw [if_pos hc]
      split at h
      · rename_i hd
        rw [if_pos hd]
        cases hq : txE q with
        | none => rw [hq] at h; cases h
        | some m => rw [txE_app z q m hq, ← h, hq]
      · rename_i hd
        rw [if_neg hd]
        exact h
    · rename_i hc
      rw [if_neg hc]
      cases hq : txE (d :: q) with
      | none => rw [hq] at h; cases h
      | some m =>
        have := txE_app z (d :: q) m hq
        rw [List.cons_append] at this
        rw [this, ← h, hq]
theorem nuE_app (z : List Nat) (r : List Nat) : nuE (r ++ 10 :: z) = nuE r := by
  have h1 := tw_app (f := isDg) (by decide) z r
  have h2 := dw_app (f := isDg) (by decide) z r
  unfold nuE
  rw [h1, h2]
  cases hd : r.dropWhile isDg with
  | nil =>
    cases z with
    | nil => rfl
    | cons a z => simp [isDg]
  | cons p q =>
    cases q with
    | nil =>
      show (if p = 46 ∧ isDg 10 = true then _ else _) = _
      rw [if_neg (fun h => absurd h.2 (by decide))]
    | cons d q =>
      show (if p = 46 ∧ isDg d = true then ((r.takeWhile isDg).length + 1 + ((d :: (q ++ 10 :: z)).takeWhile isDg).length, true) else _) = _
      have := tw_app (f := isDg) (by decide) z (d :: q)
      rw [List.cons_append] at this
      rw [this]
theorem folw_app (z : List Nat) : ∀ r : List Nat, folw (r ++ 10 :: z) = folw r
  | [] => rfl
  | _ :: _ => rfl
theorem pre_app {s r z : List Nat} (h : 10 ∉ s) : s.isPrefixOf (r ++ 10 :: z) = s.isPrefixOf r := by
  induction s generalizing r with
  | nil => simp
  | cons x s ih =>
    cases r with
    | nil =>
      have hx : x ≠ 10 := fun e => h (by simp [e])
      simp [List.isPrefixOf, hx]
    | cons y r =>
      simp only [List.cons_append, List.isPrefixOf]
      rw [ih (fun q => h (by simp [q]))]
theorem find_app {z r : List Nat} : ∀ (l : List (List Nat)), (∀ s ∈ l, 10 ∉ s) → l.find? (fun s => s.isPrefixOf (r ++ 10 :: z)) = l.find? (fun s => s.isPrefixOf r)
  | [], _ => rfl
  | s :: l, h => by
    rw [List.find?_cons, List.find?_cons, pre_app (h s (by simp)), find_app l (fun s hs => h s (by simp [hs]))]
theorem sgn_app (z r : List Nat) : sgn (r ++ 10 :: z) = sgn r := by
  unfold sgn
  rw [find_app signs (by decide)]
/-- What is told at a place stays, if the end of a line comes behind. -/
theorem step_app {tx nu : List Nat → Bool} {r : List Nat} (hr : r ≠ []) (z : List Nat) (hb : step tx nu r ≠ .bad) : step tx nu (r ++ 10 :: z) = step tx nu r := by
  cases r with
  | nil => exact absurd rfl hr
  | cons c q =>
    have hh : ((q ++ 10 :: z).head? = some 45) ↔ (q.head? = some 45) := by cases q <;> simp
    have e1 := tw_app (f := (· != 10)) (by decide) z (c :: q)
    have e2 := tw_app (f := isNm) (by decide) z (c :: q)
    have e3 := nuE_app z (c :: q)
    have e4 := sgn_app z (c :: q)
    have hn : isDg c = true → (nuE (c :: q)).1 ≤ (c :: q).length := fun h => (nuE_le h).2
    rw [List.cons_append] at e1 e2 e3 e4 ⊢
    unfold step at hb ⊢
    simp only at hb ⊢
    rw [e1, e2, e3, e4]
    split
    · rfl
    rename_i c1
    rw [if_neg c1] at hb
    by_cases c2 : c = 45 ∧ q.head? = some 45
    · rw [if_pos c2, if_pos ⟨c2.1, hh.2 c2.2⟩]
    rw [if_neg c2] at hb ⊢
    rw [if_neg (fun h => c2 ⟨h.1, hh.1 h.2⟩)]
    split
    · rfl
    rename_i c3
    rw [if_neg c3] at hb
    split
    · rename_i c4
      rw [if_pos c4] at hb
      have hi : ¬ (q.length = (q.takeWhile (· != 34)).length ∨ (q.takeWhile (· != 34)).length < 1 ∨ 40 < (q.takeWhile (· != 34)).length) := fun h => hb (if_pos h)
      have hl : (q.takeWhile (· != 34)).length < q.length := by
        have := tw_le (· != 34) q
        have h2 : q.length ≠ (q.takeWhile (· != 34)).length := fun e => hi (.inl e)
        omega
      rw [tw_in (10 :: z) q hl, if_neg hi, if_neg]
      rintro (h | h)
      · rw [List.length_append] at h
        have : (q.takeWhile (· != 34)).length < q.length := hl
        omega
      · exact hi (.inr h)
    rename_i c4
    rw [if_neg c4] at hb
    split
    · rename_i c5
      have hl := hn c5
      have e5 : (c :: (q ++ 10 :: z)).drop (nuE (c :: q)).1 = (c :: q).drop (nuE (c :: q)).1 ++ 10 :: z := by
        rw [← List.cons_append, List.drop_append_of_le_length hl]
      have e6 : (c :: (q ++ 10 :: z)).take (nuE (c :: q)).1 = (c :: q).take (nuE (c :: q)).1 := by
        rw [← List.cons_append, List.take_append_of_le_length hl]
      rw [e5, e6, folw_app]
    rename_i c5
    rw [if_neg c5] at hb
    split
    · rename_i c6
      rw [if_pos c6] at hb
      cases ht : txE q with
      | none => rw [ht] at hb; exact absurd rfl hb
      | some n =>
        have hle := (txE_le q n ht).2
        rw [txE_app z q n ht]
        have e6 : (c :: (q ++ 10 :: z)).take (n + 1) = (c :: q).take (n + 1) := by
          rw [← List.cons_append, List.take_append_of_le_length (by simp; omega)]
        simp only [e6]
    rfl
theorem lexR_app (tx nu : List Nat → Bool) (z : List Nat) : ∀ (m : Nat) (r : List Nat) (p : Nat), r.length ≤ m → (lexR tx nu r p).2 = none →
    ∃ ts, (lexR tx nu r p).1 = ts ++ [(8, [], p + r.length)] ∧ lexR tx nu (r ++ 10 :: z) p = (ts ++ (lexR tx nu (10 :: z) (p + r.length)).1, (lexR tx nu (10 :: z) (p + r.length)).2) := by
  intro m
  induction m with
  | zero =>
    intro r p h _
    obtain rfl : r = [] := List.eq_nil_of_length_eq_zero (by omega)
    exact ⟨[], rfl, rfl⟩
  | succ m ih =>
    intro r p h hn
    by_cases hr : r = []
    · subst hr
      exact ⟨[], rfl, rfl⟩
    · obtain ⟨s1, s2⟩ := step_le (tx := tx) (nu := nu) hr
      rw [lexR_step tx nu hr p] at hn ⊢
      rw [lexR_step tx nu (r := r ++ 10 :: z) (by simp) p]
      have ha := step_app (tx := tx) (nu := nu) hr z
      cases hs : step tx nu r with
      | skip n =>
        obtain ⟨h1, h2⟩ := s1 n hs
        rw [hs] at hn ha
        rw [ha (by simp)]
        have hl : (r.drop n).length = r.length - n := List.length_drop ..
        obtain ⟨ts, i1, i2⟩ := ih (r.drop n) (p + n) (by omega) hn
        rw [hl, show p + n + (r.length - n) = p + r.length by omega] at i1 i2
        refine ⟨ts, i1, ?_⟩
        simp only
        rw [List.drop_append_of_le_length h2]
        exact i2
      | tok k t n =>
        obtain ⟨h1, h2⟩ := s2 k t n hs
        rw [hs] at hn ha
        rw [ha (by simp)]
        have hl : (r.drop n).length = r.length - n := List.length_drop ..
        obtain ⟨ts, i1, i2⟩ := ih (r.drop n) (p + n) (by omega) hn
        rw [hl, show p + n + (r.length - n) = p + r.length by omega] at i1 i2
        refine ⟨(k, t, p) :: ts, by simp only; rw [i1]; rfl, ?_⟩
        simp only
        rw [List.drop_append_of_le_length h2, i2]
        rfl
      | bad => rw [hs] at hn; cases hn
/-- Places move along with what stands ahead. -/
theorem lexR_sh (tx nu : List Nat → Bool) (d : Nat) : ∀ (m : Nat) (r : List Nat) (p : Nat), r.length ≤ m → lexR tx nu r (p + d) = ((lexR tx nu r p).1.map fun x => (x.1, x.2.1, x.2.2 + d), (lexR tx nu r p).2.map (· + d)) := by
  intro m
  induction m with
  | zero =>
    intro r p h
    obtain rfl : r = [] := List.eq_nil_of_length_eq_zero (by omega)
    rfl
  | succ m ih =>
    intro r p h
    by_cases hr : r = []
    · subst hr
      rfl
    · obtain ⟨s1, s2⟩ := step_le (tx := tx) (nu := nu) hr
      rw [lexR_step tx nu hr p, lexR_step tx nu hr (p + d)]
      cases hs : step tx nu r with
      | skip n =>
        obtain ⟨h1, h2⟩ := s1 n hs
        have hl : (r.drop n).length = r.length - n := List.length_drop ..
        simp only
        rw [show p + d + n = (p + n) + d by omega, ih (r.drop n) (p + n) (by omega)]
      | tok k t n =>
        obtain ⟨h1, h2⟩ := s2 k t n hs
        have hl : (r.drop n).length = r.length - n := List.length_drop ..
        simp only
        rw [show p + d + n = (p + n) + d by omega, ih (r.drop n) (p + n) (by omega)]
        rfl
      | bad => rfl
/-- The blanks and the remark of LexBlanks. -/
def sepB : List Nat := [10, 9, 45, 45, 32, 97, 32, 114, 101, 109, 97, 114, 107, 32, 39, 32, 34, 32, 10, 32]
theorem lexR_skip {tx nu : List Nat → Bool} {r : List Nat} {p n : Nat} (hr : r ≠ []) (h : step tx nu r = .skip n) : lexR tx nu r p = lexR tx nu (r.drop n) (p + n) := by
  rw [lexR_step tx nu hr p, h]
theorem lexR_sep (tx nu : List Nat → Bool) (b : List Nat) (p : Nat) : lexR tx nu (sepB ++ b) p = lexR tx nu b (p + 20) := by
  have e1 : sepB ++ b = 10 :: 9 :: 45 :: 45 :: 32 :: 97 :: 32 :: 114 :: 101 :: 109 :: 97 :: 114 :: 107 :: 32 :: 39 :: 32 :: 34 :: 32 :: 10 :: 32 :: b := rfl
  rw [e1, lexR_skip (n := 1) (by simp) (by simp [step, isBl]), List.drop_succ_cons, List.drop_zero, lexR_skip (n := 1) (by simp) (by simp [step, isBl]), List.drop_succ_cons, List.drop_zero,
    lexR_skip (n := 16) (by simp) (by simp [step, isBl])]
  simp only [List.drop_succ_cons, List.drop_zero]
  rw [lexR_skip (n := 1) (by simp) (by simp [step, isBl]), List.drop_succ_cons, List.drop_zero, lexR_skip (n := 1) (by simp) (by simp [step, isBl]), List.drop_succ_cons, List.drop_zero]
/-- LexBlanks. -/
theorem lexR_blanks (tx nu : List Nat → Bool) (a b : List Nat) (ha : (lexR tx nu a 0).2 = none) (hb : (lexR tx nu b 0).2 = none) :
    ∃ ts, (lexR tx nu a 0).1 = ts ++ [(8, [], a.length)] ∧ lexR tx nu (a ++ (sepB ++ b)) 0 = (ts ++ (lexR tx nu b 0).1.map (fun x => (x.1, x.2.1, x.2.2 + (a.length + 20))), none) := by
  obtain ⟨ts, h1, h2⟩ := lexR_app tx nu ([9, 45, 45, 32, 97, 32, 114, 101, 109, 97, 114, 107, 32, 39, 32, 34, 32, 10, 32] ++ b) a.length a 0 (Nat.le_refl _) ha
  rw [Nat.zero_add] at h1 h2
  have h3 := lexR_sep tx nu b a.length
  have h4 := lexR_sh tx nu (a.length + 20) b.length b 0 (Nat.le_refl _)
  rw [Nat.zero_add] at h4
  have e : a ++ (sepB ++ b) = a ++ 10 :: ([9, 45, 45, 32, 97, 32, 114, 101, 109, 97, 114, 107, 32, 39, 32, 34, 32, 10, 32] ++ b) := rfl
  have e3 : lexR tx nu (10 :: ([9, 45, 45, 32, 97, 32, 114, 101, 109, 97, 114, 107, 32, 39, 32, 34, 32, 10, 32] ++ b)) a.length = lexR tx nu b (a.length + 20) := h3
  refine ⟨ts, h1, ?_⟩
  rw [e, h2, e3, h4, hb]
  rfl
/-! ### letters -/
end Go.Proofs.YtpfiejmhnkcjbaaGreatDoor.Lx
