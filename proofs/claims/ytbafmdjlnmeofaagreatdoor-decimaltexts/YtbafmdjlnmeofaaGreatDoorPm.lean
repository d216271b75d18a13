/-
  What the document's own Parse finds in a text, over lists: no walk.
-/
import Derived.Test.YtbafmdjlnmeofaaGreatDoorPd
import Derived.Test.YtbafmdjlnmeofaaGreatDoorTpm
namespace Go.Proofs.YtbafmdjlnmeofaaGreatDoor
open Go.RowKit
set_option linter.unusedVariables false
/-- Digits with at most one dot: where it is, and the digits. -/
def Scan (l : List UInt8) (pt : Int) (ds : List UInt8) : Prop :=
  (pt = -1 ∧ ds = l ∧ l.all dig10 = true) ∨ ∃ a c, l = a ++ 46 :: c ∧ pt = (a.length : Int) ∧ ds = a ++ c ∧ a.all dig10 = true ∧ c.all dig10 = true
theorem Scan.nil : Scan [] (-1) [] := .inl ⟨rfl, rfl, rfl⟩
theorem Scan.dig {l ds : List UInt8} {pt : Int} {x : UInt8} (h : Scan l pt ds) (hx : dig10 x = true) : Scan (l ++ [x]) pt (ds ++ [x]) := by
  rcases h with ⟨h1, rfl, h3⟩ | ⟨a, c, rfl, h2, rfl, h4, h5⟩
  · exact .inl ⟨h1, rfl, by simp [List.all_append, h3, hx]⟩
  · exact .inr ⟨a, c ++ [x], by simp, h2, by simp, h4, by simp [List.all_append, h5, hx]⟩
theorem Scan.dot {l ds : List UInt8} {pt : Int} (h : Scan l pt ds) (hp : pt < 0) : Scan (l ++ [46]) (l.length : Int) ds := by
  rcases h with ⟨h1, rfl, h3⟩ | ⟨a, c, rfl, h2, rfl, h4, h5⟩
  · exact .inr ⟨ds, [], rfl, rfl, by simp, h3, rfl⟩
  · omega
theorem Scan.bad {l ds : List UInt8} {pt : Int} {x : UInt8} (h : Scan l pt ds) (hx : dig10 x = false) (hp : x = 46 → 0 ≤ pt) (r : List UInt8) (pt' : Int) (ds' : List UInt8) : ¬ Scan (l ++ x :: r) pt' ds' := by
  intro h2
  have no : ∀ (q : List UInt8), q.all dig10 = true → x ∈ q → False := fun q hq hm => by
    have := List.all_eq_true.1 hq x hm
    rw [hx] at this; cases this
  have key : x = 46 ∧ l.all dig10 = true := by
    rcases h2 with ⟨_, _, h3⟩ | ⟨a, c, e, _, _, h4, h5⟩
    · exact (no _ h3 (by simp)).elim
    · rcases List.append_eq_append_iff.1 e with ⟨a', e1, e2⟩ | ⟨c', e1, e2⟩
      · cases a' with
        | nil =>
          simp only [List.nil_append, List.cons.injEq] at e2
          simp only [List.append_nil] at e1
          exact ⟨e2.1, by rw [← e1]; exact h4⟩
        | cons y a' =>
          simp only [List.cons_append, List.cons.injEq] at e2
          exact (no _ h4 (by rw [e1, e2.1]; simp)).elim
      · cases c' with
        | nil =>
          simp only [List.nil_append, List.cons.injEq] at e2
          simp only [List.append_nil] at e1
          exact ⟨e2.1.symm, by rw [e1]; exact h4⟩
        | cons y c' =>
          simp only [List.cons_append, List.cons.injEq] at e2
          exact (no _ h5 (by rw [e2.2]; simp)).elim
  have h0 := hp key.1
  rcases h with ⟨h1, _, _⟩ | ⟨a, c, rfl, _, _, _, _⟩
  · omega
  · have := List.all_eq_true.1 key.2 46 (by simp)
    cases this
theorem no_dot {l : List UInt8} (h : l.all dig10 = true) : ¬ (46 : UInt8) ∈ l := fun hm => by
  have := List.all_eq_true.1 h 46 hm
  cases this
theorem cut_one {a c a' c' : List UInt8} (h : a ++ 46 :: c = a' ++ 46 :: c') (ha : ¬ (46 : UInt8) ∈ a) (ha' : ¬ (46 : UInt8) ∈ a') : a = a' ∧ c = c' := by
  rcases List.append_eq_append_iff.1 h with ⟨b, e1, e2⟩ | ⟨b, e1, e2⟩
  · cases b with
    | nil =>
      simp only [List.nil_append, List.cons.injEq] at e2
      simp only [List.append_nil] at e1
      exact ⟨e1.symm, e2.2⟩
    | cons y b =>
      simp only [List.cons_append, List.cons.injEq] at e2
      exact (ha' (by rw [e1, ← e2.1]; simp)).elim
  · cases b with
    | nil =>
      simp only [List.nil_append, List.cons.injEq] at e2
      simp only [List.append_nil] at e1
      exact ⟨e1, e2.2.symm⟩
    | cons y b =>
      simp only [List.cons_append, List.cons.injEq] at e2
      exact (ha (by rw [e1, ← e2.1]; simp)).elim
/-- What a scan finds is what a cut at the dot finds. -/
theorem Scan.cuts {R A B : ByteArray} {d : Bool} {pt : Int} {ds : List UInt8} (h : Scan R.data.toList pt ds) (hc : Cuts R A B d) :
    A.data.toList.all dig10 = true ∧ B.data.toList.all dig10 = true ∧ ds = A.data.toList ++ B.data.toList ∧ pt = (if d then (A.size : Int) else -1) := by
  cases hc with
  | none h1 ha hb =>
    subst ha hb
    rcases h with ⟨e1, rfl, e3⟩ | ⟨a, c, e, _⟩
    · exact ⟨e3, rfl, by simp, by simpa using e1⟩
    · exact (h1 (by rw [e]; simp)).elim
  | «at» h1 ha =>
    rcases h with ⟨e1, rfl, e3⟩ | ⟨a, c, e, e2, rfl, e4, e5⟩
    · exact (no_dot e3 (by rw [h1]; simp)).elim
    · rw [h1] at e
      obtain ⟨x1, x2⟩ := cut_one e ha (no_dot e4)
      rw [x1, x2]
      exact ⟨e4, e5, rfl, by rw [e2, ← x1, size_list]; rfl⟩
theorem scan_of {R A B : ByteArray} {d : Bool} (hc : Cuts R A B d) (hA : A.data.toList.all dig10 = true) (hB : B.data.toList.all dig10 = true) : ∃ pt ds, Scan R.data.toList pt ds := by
  cases hc with
  | none h1 ha hb => subst ha; exact ⟨_, _, .inl ⟨rfl, rfl, hA⟩⟩
  | «at» h1 ha => rw [h1]; exact ⟨_, _, .inr ⟨_, _, rfl, rfl, rfl, hA, hB⟩⟩
theorem cuts_nil {R A B : ByteArray} (hc : Cuts R A B false) : B = ⟨#[]⟩ := by
  cases hc with
  | none h1 ha hb => exact hb
/-- No scan: no number. -/
theorem parse_no {R A B : ByteArray} {b d : Bool} (hc : Cuts R A B d) (h : ∀ pt ds, ¬ Scan R.data.toList pt ds) : parseV b d R A B = none := by
  unfold parseV
  rw [if_neg]
  rintro ⟨h1, h2, _⟩
  have hA := whole_dig h1
  have hB : B.data.toList.all dig10 = true := by
    cases d
    · rw [cuts_nil hc]; rfl
    · exact (part_dig (h2 rfl)).1
  obtain ⟨pt, ds, hs⟩ := scan_of hc hA hB
  exact h _ _ hs
/-- The number that a text's digits are: its parts' together. -/
theorem num_two (a c : List UInt8) (hc : c.all dig10 = true) : numL (a ++ c) = numL a * 10 ^ c.length + numL c := by
  have : ∀ (c : List UInt8) (n : Nat), c.foldl (fun n b => n * 10 + (b.toNat - 48)) n = n * 10 ^ c.length + numL c := by
    intro c
    induction c with
    | nil => intro n; simp [numL]
    | cons x c ih =>
      intro n
      have e : numL (x :: c) = (0 * 10 + (x.toNat - 48)) * 10 ^ c.length + numL c := ih _
      rw [List.foldl_cons, ih, e, List.length_cons, Nat.pow_succ]
      generalize 10 ^ c.length = P
      generalize x.toNat - 48 = d
      grind
  unfold numL
  rw [List.foldl_append, this]
  rfl
theorem num_head {x : UInt8} {r : List UInt8} (hx : dig10 x = true) (hr : r.all dig10 = true) (h0 : x ≠ 48) : 10 ^ r.length ≤ numL (x :: r) := by
  have h : numL (x :: r) = numL [x] * 10 ^ r.length + numL r := num_two [x] r hr
  have h1 : 1 ≤ numL [x] := by
    unfold dig10 at hx
    rw [decide_eq_true_eq] at hx
    have : x.toNat ≠ 48 := fun e => h0 (UInt8.toNat_inj.1 e)
    simp [numL]
    omega
  rw [h]
  have := Nat.mul_le_mul_right (10 ^ r.length) h1
  omega
/-- So many digits ahead of the dot do not fit. -/
theorem rs_long {b : Bool} {m s : Nat} (h : 10 ^ 19 * 10 ^ s ≤ m) : rs (sgn b m) s = .rg := by
  have e : res (sgn b m) s = none := by
    unfold res
    rw [if_neg]
    intro hf
    simp only [fits, Bool.and_eq_true, decide_eq_true_eq] at hf
    have h1 := natAbs_dn (sgn b m) s
    have ha : (sgn b m).natAbs = m := by cases b <;> simp [sgn]
    rw [ha] at h1
    have h2 := dnN_val s m
    have h3 : (dnN m s).1 ≤ 9223372036854775808 := by omega
    have h4 : 10 ^ (s - (dnN m s).2) ≤ 10 ^ s := Nat.pow_le_pow_right (by decide) (by omega)
    have h5 := Nat.mul_le_mul h3 h4
    rw [h2] at h5
    have h6 := Nat.le_trans h h5
    have := Nat.le_of_mul_le_mul_right h6 (ten_pos s)
    exact absurd this (by decide)
  simp [rs, e]
theorem nought_dig {l : List UInt8} (h : l.all dig10 = true) : noughtB l = l.all (· == 48) := by
  unfold noughtB
  rw [Bool.eq_iff_iff, List.all_eq_true, List.all_eq_true]
  refine forall_congr' fun x => forall_congr' fun hx => ?_
  have := List.all_eq_true.1 h x hx
  have : x ≠ 46 := fun e => by rw [e] at this; cases this
  simp [this]
theorem nought_cut {R A B : ByteArray} {d : Bool} (hc : Cuts R A B d) (hA : A.data.toList.all dig10 = true) (hB : B.data.toList.all dig10 = true) : noughtB R.data.toList = (A.data.toList ++ B.data.toList).all (· == 48) := by
  cases hc with
  | none h1 ha hb =>
    subst ha hb
    rw [nought_dig hA]
    simp
  | «at» h1 ha =>
    rw [h1, List.all_append, ← nought_dig hA, ← nought_dig hB]
    unfold noughtB
    rw [List.all_append, List.all_cons]
    simp
/-! ### what is answered -/
theorem pv_empty {R A B : ByteArray} {b d : Bool} (h : A.size = 0) : parseV b d R A B = none := by
  unfold parseV
  rw [if_neg]
  rintro ⟨h1, _⟩
  have := dig_pos (s := A) (by unfold wholeB at h1; rw [Bool.and_eq_true] at h1; exact h1.1)
  omega
theorem pv_nought {R A B : ByteArray} {b d : Bool} (h : 1 < A.size) (h0 : A.data.toList.head? = some 48) : parseV b d R A B = none := by
  unfold parseV
  rw [if_neg]
  rintro ⟨h1, _⟩
  unfold wholeB at h1
  simp only [Bool.and_eq_true, Bool.or_eq_true, decide_eq_true_eq] at h1
  rcases h1.2 with h2 | h2
  · exact h2 h0
  · omega
theorem pv_part {R A B : ByteArray} {b : Bool} (h : B.size = 0 ∨ 18 < B.size) : parseV b true R A B = none := by
  unfold parseV
  rw [if_neg]
  rintro ⟨_, h1, _⟩
  have h1 := h1 rfl
  unfold partB at h1
  simp only [Bool.and_eq_true, decide_eq_true_eq] at h1
  have := dig_pos h1.1
  omega
theorem pv_minus {R A B : ByteArray} {d : Bool} (h : noughtB R.data.toList = true) : parseV true d R A B = none := by
  unfold parseV
  rw [if_neg]
  rintro ⟨_, _, h1⟩
  rw [h1 rfl] at h
  cases h
theorem all_dig {l : List UInt8} (h : l.all dig10 = true) (h0 : 0 < l.length) : allDig l = true := by
  unfold allDig
  rw [h]
  cases l with
  | nil => simp at h0
  | cons a l => rfl
theorem pv_num {R A B : ByteArray} {b d : Bool} (hc : Cuts R A B d) (dA : A.data.toList.all dig10 = true) (dB : B.data.toList.all dig10 = true) (hA : 0 < A.size) (h0 : A.size = 1 ∨ ¬ A.data.toList.head? = some 48) (hB : d = true → 0 < B.size ∧ B.size ≤ 18) (hm : b = true → noughtB R.data.toList = false) :
    parseV b d R A B = some (if 340282366920938463463374607431768211456 ≤ numL (A.data.toList ++ B.data.toList) then .rg else rs (sgn b (numL (A.data.toList ++ B.data.toList))) B.size) := by
  have hw : wholeB A = true := by
    unfold wholeB
    rw [all_dig dA (by rw [← size_list]; exact hA)]
    rcases h0 with h0 | h0
    · simp [h0]
    · simp [h0]
  have hp : d = true → partB B = true := fun hd => by
    unfold partB
    rw [all_dig dB (by rw [← size_list]; exact (hB hd).1)]
    simp [(hB hd).2]
  have hB18 : B.size ≤ 18 := by
    cases d
    · rw [cuts_nil hc]; decide
    · exact (hB rfl).2
  unfold parseV
  rw [if_pos ⟨hw, hp, hm⟩]
  have e := num_two A.data.toList B.data.toList dB
  rw [← size_list] at e
  rw [← e]
  by_cases hl : 19 < A.size
  · rw [if_pos hl]
    have h1 : 10 ^ 19 * 10 ^ B.size ≤ numL (A.data.toList ++ B.data.toList) := by
      rw [e]
      have h2 : 10 ^ 19 ≤ numL A.data.toList := by
        rw [size_list] at hl
        cases hq : A.data.toList with
        | nil => rw [hq] at hl; simp at hl
        | cons x r =>
          rw [hq] at dA hl
          rw [List.all_cons, Bool.and_eq_true] at dA
          have hx : x ≠ 48 := fun e => by
            rcases h0 with h0 | h0
            · rw [size_list, hq] at h0; simp only [List.length_cons] at h0 hl; omega
            · exact h0 (by rw [hq, e]; rfl)
          exact Nat.le_trans (Nat.pow_le_pow_right (by decide) (by simp only [List.length_cons] at hl; omega)) (num_head dA.1 dA.2 hx)
      have := Nat.mul_le_mul_right (10 ^ B.size) h2
      omega
    rw [rs_long h1]
    split <;> rfl
  · rw [if_neg hl, if_neg]
    intro h
    have l1 := numL_lt _ (A.data.toList ++ B.data.toList) rfl (by rw [List.all_append, dA, dB]; rfl)
    have l2 : (A.data.toList ++ B.data.toList).length ≤ 37 := by rw [List.length_append, ← size_list, ← size_list]; omega
    have l3 := Nat.lt_of_lt_of_le l1 (Nat.pow_le_pow_right (by decide : 0 < 10) l2)
    have l4 : (10 : Nat) ^ 37 < 340282366920938463463374607431768211456 := by decide
    omega
end Go.Proofs.YtbafmdjlnmeofaaGreatDoor
