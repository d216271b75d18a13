/-
  strings.CutPrefix of a minus, strings.Cut at a dot.
-/
import Derived.Test.YtpfiejmhnkcjbaaGreatDoorED6Sh2
import Derived.Test.YtpfiejmhnkcjbaaGreatDoorEG37x
import Derived.OwnWalk
namespace Go.Proofs.YtpfiejmhnkcjbaaGreatDoor.D6
open Go.RowKit
set_option linter.unusedVariables false
theorem dotIx (R : ByteArray) (w : World) : Calls Tryz.prog 102 #[.string R, .string ⟨#[46]⟩] w fun e w' => e = .returned (.int .i64 (Lib.indexByte R.data.toList 46)) ∧ w' = w := Any.stringslite_Index_one Tryz.lays219 R 46 w
theorem ix_split : ∀ l : List UInt8, (Lib.indexByte l 46 = -1 ∧ ¬ (46 : UInt8) ∈ l) ∨ ∃ a b, l = a ++ 46 :: b ∧ ¬ (46 : UInt8) ∈ a ∧ Lib.indexByte l 46 = (a.length : Int)
  | [] => .inl ⟨rfl, by simp⟩
  | x :: l => by
    by_cases hx : x = 46
    · subst hx
      exact .inr ⟨[], l, rfl, by simp, by simp [Lib.indexByte]⟩
    · have hx' : (x == 46) = false := by simpa using hx
      have hx2 : ¬ (46 : UInt8) = x := fun e => hx e.symm
      rcases ix_split l with ⟨h1, h2⟩ | ⟨a, b, h1, h2, h3⟩
      · exact .inl ⟨by simp [Lib.indexByte, hx', h1], by simp [hx2, h2]⟩
      · refine .inr ⟨x :: a, b, by rw [h1]; rfl, by simp [hx2, h2], ?_⟩
        have : ¬ ((a.length : Int) == -1) = true := by
          simp
        simp only [Lib.indexByte, hx', h3, List.length_cons]
        simp [this]
set_option maxRecDepth 8000 in
theorem cutI_no (R : ByteArray) (K : Hid (∀ W, Calls Tryz.prog 102 #[.string R, .string ⟨#[46]⟩] W fun e w' => e = .returned (.int .i64 (-1)) ∧ w' = W)) (w : World) :
    Calls Tryz.prog 78 #[.string R, .string ⟨#[46]⟩] w fun e w' => e = .returned (.tuple #[.string R, .string ⟨#[]⟩, .bool false]) ∧ Grow w w' := by
  go_enter Tryz.func78, Tryz.ntmps78
  go_wp2_with fail
  refine (K.out _).mono ?_
  rintro e w2 ⟨rfl, rfl⟩
  go_wp2
  go_ret3
  exact ⟨rfl, Grow.refl _⟩
set_option maxRecDepth 8000 in
theorem cutI_yes (R : ByteArray) (i j : Nat) (hj : i + 1 = j) (hi : j ≤ R.size) (hR : R.size ≤ 1000000) (K : Hid (∀ W, Calls Tryz.prog 102 #[.string R, .string ⟨#[46]⟩] W fun e w' => e = .returned (.int .i64 (i : Int)) ∧ w' = W)) (w : World) :
    Calls Tryz.prog 78 #[.string R, .string ⟨#[46]⟩] w fun e w' => e = .returned (.tuple #[.string (R.extract 0 i),   .string (R.extract j R.size), .bool true]) ∧ Grow w w' := by
  have e1 : (i : Int) + 1 = (j : Int) := by omega
  have e2 : i ≤ R.size := by omega
  clear hj
  go_enter Tryz.func78, Tryz.ntmps78
  go_wp2_with fail
  refine (K.out _).mono ?_
  rintro e w2 ⟨rfl, rfl⟩
  go_wp2
  go_quiet (fail)
  go_wp2
  go_ret3
  exact ⟨rfl, grow_dq _ _⟩
theorem cutS (R A B : ByteArray) (d : Bool) (K : Hid (∀ W, Calls Tryz.prog 78 #[.string R, .string ⟨#[46]⟩] W fun e w' => e = .returned (.tuple #[.string A, .string B, .bool d]) ∧ Grow W w')) (w : World) :
    Calls Tryz.prog 54 #[.string R, .string ⟨#[46]⟩] w fun e w' => e = .returned (.tuple #[.string A, .string B, .bool d]) ∧ Grow w w' := by
  go_enter Tryz.func54, Tryz.ntmps54
  go_wp2_with fail
  refine (K.out _).mono ?_
  rintro e w2 ⟨rfl, g⟩
  have G : Hid (Grow w w2) := g
  clear g
  go_wp2
  go_ret3
  exact ⟨rfl, G.out⟩
/-- What a cut at the first dot leaves. -/
inductive Cuts (R A B : ByteArray) : Bool → Prop
  | none (h : ¬ (46 : UInt8) ∈ R.data.toList) (ha : A = R) (hb : B = ⟨#[]⟩) : Cuts R A B false
  | at (h : R.data.toList = A.data.toList ++ 46 :: B.data.toList) (ha : ¬ (46 : UInt8) ∈ A.data.toList) : Cuts R A B true
theorem cut_any (R : ByteArray) (hR : R.size ≤ 1000000) : ∃ A B d, Cuts R A B d ∧ ∀ W, Calls Tryz.prog 54 #[.string R, .string ⟨#[46]⟩] W fun e w' => e = .returned (.tuple #[.string A, .string B, .bool d]) ∧ Grow W w' := by
  rcases ix_split R.data.toList with ⟨h1, h2⟩ | ⟨a, b, h1, h2, h3⟩
  · exact ⟨R, ⟨#[]⟩, false, .none h2 rfl rfl, fun W => cutS _ _ _ _ (fun W => cutI_no R (fun W => by have := dotIx R W; rw [h1] at this; exact this) W) W⟩
  · have hl : R.size = a.length + 1 + b.length := by rw [size_list, h1]; simp; omega
    have ea : (R.extract 0 a.length).data.toList = a := by
      simp [h1]
    have eb : (R.extract (a.length + 1) R.size).data.toList = b := by
      simp [h1, hl]
    refine ⟨_, _, true, .at ?_ ?_, fun W => cutS _ _ _ _ (fun W => cutI_yes R a.length (a.length + 1) rfl (by omega) hR (fun W => by have := dotIx R W; rw [h3] at this; exact this) W) W⟩
    · rw [ea, eb, h1]
    · rw [ea]; exact h2
end Go.Proofs.YtpfiejmhnkcjbaaGreatDoor.D6
