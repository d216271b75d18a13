/-
  decimal.Parse: what it answers.
-/
import Derived.Test.YtpfiejmhnkcjbaaGreatDoorED6Ps
import Derived.Test.YtpfiejmhnkcjbaaGreatDoorED6Ct
namespace Go.Proofs.YtpfiejmhnkcjbaaGreatDoor.D6
open Go.RowKit
set_option linter.unusedVariables false
/-- What a Parse answers: nothing (ErrForm), or what is reckoned. -/
def Po.k : Option Rs → Int
  | none => 0
  | some r => r.k
def Po.n : Option Rs → Int
  | none => 0
  | some r => r.n
def Po.s : Option Rs → Int
  | none => 0
  | some r => r.s
def Po.e : Option Rs → Int
  | none => 3
  | some r => r.e
/-- A minus ahead, and what is behind it. -/
inductive Minus (s R : ByteArray) : Bool → Prop
  | yes (h : s.data.toList = 45 :: R.data.toList) : Minus s R true
  | no (h : ¬ s.data.toList.head? = some 45) (hr : R = s) : Minus s R false
def partB (B : ByteArray) : Bool := allDig B.data.toList && decide (B.size ≤ 18)
def parseV (b d : Bool) (R A B : ByteArray) : Option Rs :=
  if wholeB A = true ∧ (d = true → partB B = true) ∧ (b = true → noughtB R.data.toList = false) then
    (if 19 < A.size then some .rg else some (rs (sgn b (numL A.data.toList * 10 ^ B.size + numL B.data.toList)) B.size))
  else none
theorem minus_any (s : ByteArray) : ∃ R b, Minus s R b ∧ R.size ≤ s.size ∧ ∀ W, Calls Tryz.prog 50 #[.string s, .string ⟨#[45]⟩] W fun e w' => e = .returned (.tuple #[.string R, .bool b]) ∧ Grow W w' := by
  have K : ∀ W, _ := fun W => Any.strings_CutPrefix Tryz.lays103 s ⟨#[45]⟩ W
  refine ⟨⟨(Lib.trimPrefix s.data.toList [45]).toArray⟩, Lib.hasPrefix s.data.toList [45], ?_, ?_, fun W => (K W).mono fun e w' ⟨h1, h2⟩ => ⟨h1, by rw [h2]; exact Grow.refl _⟩⟩
  · cases hl : s.data.toList with
    | nil => exact .no (by rw [hl]; simp) (by rw [← hl]; exact of_list (by rw [hl]; rfl))
    | cons a r =>
      by_cases ha : a = 45
      · subst ha
        have e : Lib.hasPrefix (45 :: r) [45] = true := by simp [Lib.hasPrefix]
        rw [e]
        refine .yes ?_
        simp [Lib.trimPrefix, e, hl]
      · have e : Lib.hasPrefix (a :: r) [45] = false := by
          have h2 : ¬ (45 : UInt8) = a := fun h => ha h.symm
          show (((45 : UInt8) == a) && [].isPrefixOf r) = false
          rw [show ((45 : UInt8) == a) = false by simpa using h2]
          rfl
        rw [e]
        refine .no (by rw [hl]; simpa using ha) (of_list ?_)
        simp [Lib.trimPrefix, e, hl]
  · rw [size_list, size_list]
    show (Lib.trimPrefix s.data.toList [45]).length ≤ _
    unfold Lib.trimPrefix
    split
    · simp
    · exact Nat.le_refl _
theorem wordG (s : ByteArray) (hs : s.size ≤ 19) (hd : s.data.toList.all dig10 = true) (w : World) : Calls Tryz.prog 74 #[.string s] w fun e w' => e = .returned (.int .u64 (numL s.data.toList : Int)) ∧ Grow w w' :=
  (wordOf_any s hs hd w).mono fun e w' ⟨he, hw⟩ => ⟨he, by rw [hw]; exact Grow.refl _⟩
theorem tensG (n : Nat) (hn : n ≤ 18) (w : World) : Calls Tryz.prog 75 #[.int .i64 (n : Int)] w fun e w' => e = .returned (.int .u64 ((10 ^ n : Nat) : Int)) ∧ Grow w w' :=
  (tensD n hn w).mono fun e w' ⟨he, hw⟩ => ⟨he, by rw [hw]; exact Grow.refl _⟩
theorem whole_dig {A : ByteArray} (h : wholeB A = true) : A.data.toList.all dig10 = true := by
  unfold wholeB allDig at h
  simp only [Bool.and_eq_true] at h
  exact h.1.2
theorem part_dig {B : ByteArray} (h : partB B = true) : B.data.toList.all dig10 = true ∧ B.size ≤ 18 := by
  unfold partB allDig at h
  simp only [Bool.and_eq_true, decide_eq_true_eq] at h
  exact ⟨h.1.2, h.2⟩
/-- The words of a number's text, put together. -/
theorem words (A B : ByteArray) (hA : A.size ≤ 19) (hB : B.size ≤ 18) (dA : A.data.toList.all dig10 = true) (dB : B.data.toList.all dig10 = true) :
    ∃ h1 l1 h l, Wd h1 l1 (numL A.data.toList * 10 ^ B.size) ∧ Wd h l (numL A.data.toList * 10 ^ B.size + numL B.data.toList) ∧ numL A.data.toList < 18446744073709551616 ∧ 10 ^ B.size < 18446744073709551616 ∧ numL B.data.toList < 18446744073709551616 := by
  have a1 := numL_lt A.data.toList.length _ rfl dA
  have b1 := numL_lt B.data.toList.length _ rfl dB
  rw [← size_list] at a1 b1
  have a2 : numL A.data.toList < 10 ^ 19 := Nat.lt_of_lt_of_le a1 (pow_le hA)
  have b2 : numL B.data.toList < 10 ^ 18 := Nat.lt_of_lt_of_le b1 (pow_le hB)
  have p := pow_le (k := B.size) (n := 18) hB
  have m : numL A.data.toList * 10 ^ B.size ≤ 10 ^ 19 * 10 ^ 18 := Nat.mul_le_mul (Nat.le_of_lt a2) p
  generalize numL A.data.toList * 10 ^ B.size = X at *
  generalize numL A.data.toList = a at *
  generalize numL B.data.toList = b at *
  generalize 10 ^ B.size = c at *
  obtain ⟨h1, l1, W1⟩ := wd_of X (Nat.lt_of_le_of_lt m (by decide))
  obtain ⟨h, l, W2⟩ := wd_of (X + b) (Nat.lt_of_lt_of_le (Nat.add_lt_add_of_le_of_lt m b2) (by decide))
  exact ⟨h1, l1, h, l, W1, W2, Nat.lt_of_lt_of_le a2 (by decide), Nat.lt_of_le_of_lt p (by decide), Nat.lt_of_lt_of_le b2 (by decide)⟩
theorem dParse_any (s R A B : ByteArray) (b d : Bool) (hR : R.size ≤ 1000000) (hA : A.size ≤ 1000000) (hB : B.size ≤ 1000000) (hd : d = false → B = ⟨#[]⟩)
    (CP : ∀ W, Calls Tryz.prog 50 #[.string s, .string ⟨#[45]⟩] W fun e w' => e = .returned (.tuple #[.string R, .bool b]) ∧ Grow W w')
    (CT : ∀ W, Calls Tryz.prog 54 #[.string R, .string ⟨#[46]⟩] W fun e w' => e = .returned (.tuple #[.string A, .string B, .bool d]) ∧ Grow W w') (w : World) :
    Calls Tryz.prog 53 #[.string s] w fun e w' => e = .returned (.tuple #[.agg #[.int .i64 (Po.k (parseV b d R A B)), .int .i64 (Po.n (parseV b d R A B)), .int .i64 (Po.s (parseV b d R A B)), .string ⟨#[]⟩, .slice none 0 0, .slice none 0 0], .int .i64 (Po.e (parseV b d R A B))]) ∧ Grow w w' := by
  have KW : ∀ W, _ := fun W => isWhole_any A hA W
  have KP : ∀ W, _ := fun W => isPart_any B hB W
  have KN : ∀ W, _ := fun W => isNought_any R hR W
  change ∀ W, Calls Tryz.prog 71 #[.string B] W fun e w' => e = .returned (.bool (partB B)) ∧ Grow W w' at KP
  cases hw : wholeB A with
  | false =>
    rw [hw] at KW
    have e : parseV b d R A B = none := by unfold parseV; rw [if_neg (by rw [hw]; simp)]
    rw [e]
    exact parse_a s R A B b d CP CT KW w
  | true =>
    rw [hw] at KW
    by_cases hp : d = true → partB B = true
    · by_cases hn : b = true → noughtB R.data.toList = false
      · have e : parseV b d R A B = (if 19 < A.size then some .rg else some (rs (sgn b (numL A.data.toList * 10 ^ B.size + numL B.data.toList)) B.size)) := by unfold parseV; rw [if_pos ⟨hw, hp, hn⟩]
        rw [e]
        by_cases hl : 19 < A.size
        · rw [if_pos hl]
          cases d
          · cases b
            · exact parse_lip s R A B hl CP CT KW w
            · rw [hn rfl] at KN
              exact parse_lin s R A B hl CP CT KW KN w
          · rw [hp rfl] at KP
            cases b
            · exact parse_ldp s R A B hl CP CT KW KP w
            · rw [hn rfl] at KN
              exact parse_ldn s R A B hl CP CT KW KP KN w
        · rw [if_neg hl]
          have dB : B.data.toList.all dig10 = true ∧ B.size ≤ 18 := by
            cases d
            · rw [hd rfl]
              exact ⟨rfl, by decide⟩
            · exact part_dig (hp rfl)
          have dA := whole_dig hw
          obtain ⟨h1, l1, h, l, W1, W2, x1, x2, x3⟩ := words A B (by omega) dB.2 dA dB.1
          have V : ∀ W, _ := fun W => value_any b h l _ B.size (by have := dB.2; omega) W2 _ rfl W
          have P := fun W => product_any (numL A.data.toList) (10 ^ B.size) h1 l1 x1 x2 W1 W
          have PL := fun W => plusW h1 l1 _ 0 (numL B.data.toList) (numL B.data.toList) h l W1 ⟨by omega, x3, by omega⟩ W2 W
          have T := fun W => tensG B.size dB.2 W
          have Wa := fun W => wordG A (by omega) dA W
          have Wb := fun W => wordG B (by have := dB.2; omega) dB.1 W
          cases d
          · cases b
            · exact parse_vip s R A B (by omega) _ _ h1 l1 _ h l _ CP CT KW Wa T P Wb PL V w
            · rw [hn rfl] at KN
              exact parse_vin s R A B (by omega) _ _ h1 l1 _ h l _ CP CT KW KN Wa T P Wb PL V w
          · rw [hp rfl] at KP
            cases b
            · exact parse_vdp s R A B (by omega) _ _ h1 l1 _ h l _ CP CT KW KP Wa T P Wb PL V w
            · rw [hn rfl] at KN
              exact parse_vdn s R A B (by omega) _ _ h1 l1 _ h l _ CP CT KW KP KN Wa T P Wb PL V w
      · have e : parseV b d R A B = none := by unfold parseV; rw [if_neg (fun h => hn h.2.2)]
        rw [e]
        obtain ⟨rfl, hn2⟩ : b = true ∧ noughtB R.data.toList = true := by
          cases b <;> cases h : noughtB R.data.toList <;> simp_all
        rw [hn2] at KN
        cases d
        · exact parse_ci s R A B CP CT KW KN w
        · rw [hp rfl] at KP
          exact parse_cd s R A B CP CT KW KP KN w
    · have e : parseV b d R A B = none := by unfold parseV; rw [if_neg (fun h => hp h.2.1)]
      rw [e]
      obtain ⟨rfl, hp2⟩ : d = true ∧ partB B = false := by
        cases d <;> cases h : partB B <;> simp_all
      rw [hp2] at KP
      exact parse_b s R A B b CP CT KW KP w
end Go.Proofs.YtpfiejmhnkcjbaaGreatDoor.D6
