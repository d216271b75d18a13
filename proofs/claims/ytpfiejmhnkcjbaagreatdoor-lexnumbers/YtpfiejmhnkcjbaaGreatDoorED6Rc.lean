/-
  The document's own check of values whose kind is Int or Decimal; Check; Is.
-/
import Derived.Test.YtpfiejmhnkcjbaaGreatDoorEG34x
namespace Go.Proofs.YtpfiejmhnkcjbaaGreatDoor.D6
open Go.RowKit
set_option linter.unusedVariables false
set_option maxRecDepth 8000 in
theorem rcheck_yes3 (n : Int) (na : Option Addr) (nc : Nat) (ka : Option Addr) (kc : Nat) (w : World) :
    Calls Tryz.prog 44 #[.agg #[.int .i64 3, .int .i64 n, .int .i64 0, .string ⟨#[]⟩, .slice na 0 nc, .slice ka 0 kc], .int .i64 1] w fun e w' => e = .returned (.int .i64 0) ∧ Grow w w' := by
  go_enter Tryz.func44, Tryz.ntmps44
  go_wp2
  go_loopw [8] (fun i wr => i = .int .i64 0 ∧ wr = w.alloc (Obj.cells #[.int .i64 3, .int .i64 n, .int .i64 0, .string ⟨#[]⟩, .slice na 0 nc, .slice ka 0 kc] 41)) (fun _ _ => 0)
  case atStart => exact ⟨rfl, rfl⟩
  case round =>
    obtain ⟨rfl, rfl⟩ := hrel
    go_wp2
    go_ret
    exact ⟨rfl, (Grow.refl _).alloc _⟩
set_option maxRecDepth 8000 in
theorem rcheck_yes4 (n s : Int) (h1 : 1 ≤ s) (h2 : s ≤ 18) (h3 : ¬ n.tmod 10 = 0) (na : Option Addr) (nc : Nat) (ka : Option Addr) (kc : Nat) (w : World) :
    Calls Tryz.prog 44 #[.agg #[.int .i64 4, .int .i64 n, .int .i64 s, .string ⟨#[]⟩, .slice na 0 nc, .slice ka 0 kc], .int .i64 1] w fun e w' => e = .returned (.int .i64 0) ∧ Grow w w' := by
  have hb : (n.tmod 10 == 0) = false := by simp [h3]
  go_enter Tryz.func44, Tryz.ntmps44
  go_wp2
  go_loopw [8] (fun i wr => i = .int .i64 0 ∧ wr = w.alloc (Obj.cells #[.int .i64 4, .int .i64 n, .int .i64 s, .string ⟨#[]⟩, .slice na 0 nc, .slice ka 0 kc] 41)) (fun _ _ => 0)
  case atStart => exact ⟨rfl, rfl⟩
  case round =>
    obtain ⟨rfl, rfl⟩ := hrel
    go_wp2
    go_ret
    exact ⟨rfl, (Grow.refl _).alloc _⟩
theorem not_num3 {n s : Int} {t : ByteArray} {nl kl : Nat} (h : isNum 3 n s t nl kl = false) : ¬ s = 0 ∨ (s = 0 ∧ (t.toList == []) = false) ∨ (s = 0 ∧ (t.toList == []) = true ∧ 0 < kl) ∨ (s = 0 ∧ (t.toList == []) = true ∧ kl = 0 ∧ 0 < nl) := by
  by_cases h0 : s = 0
  · right
    cases h1 : (t.toList == [])
    · exact .inl ⟨h0, rfl⟩
    · right
      by_cases h2 : kl = 0
      · right
        refine ⟨h0, rfl, h2, ?_⟩
        apply Nat.pos_of_ne_zero
        intro h3
        have : t.toList = [] := by simpa using h1
        simp [isNum, h0, h2, h3, this] at h
      · exact .inl ⟨h0, rfl, by omega⟩
  · exact .inl h0
set_option maxRecDepth 8000 in
set_option maxHeartbeats 1000000 in
theorem rcheck_no3 (n s : Int) (t : ByteArray) (na : Option Addr) (nl nc : Nat) (ka : Option Addr) (kl kc : Nat) (h : isNum 3 n s t nl kl = false) (w : World) :
    Calls Tryz.prog 44 #[.agg #[.int .i64 3, .int .i64 n, .int .i64 s, .string t, .slice na nl nc, .slice ka kl kc], .int .i64 1] w fun e w' => e = .returned (.int .i64 3) ∧ Grow w w' := by
  rcases not_num3 h with h0 | ⟨rfl, h0⟩ | ⟨rfl, h1, h0⟩ | ⟨rfl, h1, rfl, h0⟩
  all_goals
    clear h
    go_enter Tryz.func44, Tryz.ntmps44
    go_wp2
    all_goals
      go_ret
      exact ⟨rfl, (Grow.refl _).alloc _⟩
theorem not_num4 {n s : Int} {t : ByteArray} {nl kl : Nat} (h : isNum 4 n s t nl kl = false) : s < 1 ∨ (1 ≤ s ∧ 18 < s) ∨ (1 ≤ s ∧ s ≤ 18 ∧ (n.tmod 10 == 0) = true) ∨ (1 ≤ s ∧ s ≤ 18 ∧ (n.tmod 10 == 0) = false ∧ (t.toList == []) = false) ∨ (1 ≤ s ∧ s ≤ 18 ∧ (n.tmod 10 == 0) = false ∧ (t.toList == []) = true ∧ 0 < kl) ∨ (1 ≤ s ∧ s ≤ 18 ∧ (n.tmod 10 == 0) = false ∧ (t.toList == []) = true ∧ kl = 0 ∧ 0 < nl) := by
  by_cases a : s < 1
  · exact .inl a
  by_cases b : 18 < s
  · exact .inr (.inl ⟨by omega, b⟩)
  cases c : (n.tmod 10 == 0)
  · cases d : (t.toList == [])
    · exact .inr (.inr (.inr (.inl ⟨by omega, by omega, rfl, rfl⟩)))
    · by_cases e : kl = 0
      · refine .inr (.inr (.inr (.inr (.inr ⟨by omega, by omega, rfl, rfl, e, ?_⟩))))
        apply Nat.pos_of_ne_zero
        intro h3
        have h4 : t.toList = [] := by simpa using d
        have h5 : ¬ n.tmod 10 = 0 := by simpa using c
        have h6 : 1 ≤ s := by omega
        have h7 : s ≤ 18 := by omega
        simp [isNum, e, h3, h4, h5, h6, h7] at h
      · exact .inr (.inr (.inr (.inr (.inl ⟨by omega, by omega, rfl, rfl, by omega⟩))))
  · exact .inr (.inr (.inl ⟨by omega, by omega, rfl⟩))
set_option maxRecDepth 8000 in
set_option maxHeartbeats 1000000 in
theorem rcheck_no4 (n s : Int) (t : ByteArray) (na : Option Addr) (nl nc : Nat) (ka : Option Addr) (kl kc : Nat) (h : isNum 4 n s t nl kl = false) (w : World) :
    Calls Tryz.prog 44 #[.agg #[.int .i64 4, .int .i64 n, .int .i64 s, .string t, .slice na nl nc, .slice ka kl kc], .int .i64 1] w fun e w' => e = .returned (.int .i64 3) ∧ Grow w w' := by
  rcases not_num4 h with h0 | ⟨_, h0⟩ | ⟨_, _, h0⟩ | ⟨_, _, _, h0⟩ | ⟨_, _, _, h1, h0⟩ | ⟨_, _, _, h1, rfl, h0⟩
  all_goals
    clear h
    go_enter Tryz.func44, Tryz.ntmps44
    go_wp2
    all_goals
      go_ret
      exact ⟨rfl, (Grow.refl _).alloc _⟩
theorem rCheck_num (k n s : Int) (hk : k = 3 ∨ k = 4) (t : ByteArray) (na : Option Addr) (nl nc : Nat) (ka : Option Addr) (kl kc : Nat) (w : World) :
    Calls Tryz.prog 26 #[.agg #[.int .i64 k, .int .i64 n, .int .i64 s, .string t, .slice na nl nc, .slice ka kl kc]] w fun e w' => e = .returned (.int .i64 (chkN (isNum k n s t nl kl))) ∧ Grow w w' := by
  have K : Hid (∀ W, Calls Tryz.prog 44 #[.agg #[.int .i64 k, .int .i64 n, .int .i64 s, .string t, .slice na nl nc, .slice ka kl kc], .int .i64 1] W fun e w' => e = .returned (.int .i64 (chkN (isNum k n s t nl kl))) ∧ Grow W w') := fun W => by
    cases hN : isNum k n s t nl kl with
    | false =>
      rcases hk with rfl | rfl
      · exact rcheck_no3 n s t na nl nc ka kl kc hN W
      · exact rcheck_no4 n s t na nl nc ka kl kc hN W
    | true =>
      obtain ⟨rfl, rfl, rfl, ⟨rfl, rfl⟩ | ⟨rfl, h1, h2, h3⟩⟩ := isNum_yes hN
      · exact rcheck_yes3 n na nc ka kc W
      · exact rcheck_yes4 n s h1 h2 h3 na nc ka kc W
  generalize chkN (isNum k n s t nl kl) = E at *
  clear hk
  go_enter Tryz.func26, Tryz.ntmps26
  go_wp2_with fail
  refine (K.out _).mono ?_
  rintro e w2 ⟨rfl, g2⟩
  have G : Hid (Grow w w2) := Grow.trans ((Grow.refl _).alloc _) g2
  clear g2 K
  go_wp2
  go_ret
  exact ⟨rfl, G.out⟩
set_option maxRecDepth 8000 in
theorem isR_any (k n s : Int) (t : ByteArray) (na : Option Addr) (nl nc : Nat) (ka : Option Addr) (kl kc : Nat) (w : World) :
    Calls Tryz.prog 15 #[.agg #[.int .i64 k, .int .i64 n, .int .i64 s, .string t, .slice na nl nc, .slice ka kl kc]] w fun e w' => e = .returned (.bool (isNum k n s t nl kl)) ∧ Grow w w' := by
  by_cases hk : k = 3 ∨ k = 4
  · have K : Hid (∀ W, Calls Tryz.prog 26 #[.agg #[.int .i64 k, .int .i64 n, .int .i64 s, .string t, .slice na nl nc, .slice ka kl kc]] W fun e w' => e = .returned (.int .i64 (chkN (isNum k n s t nl kl))) ∧ Grow W w') := fun W => rCheck_num k n s hk t na nl nc ka kl kc W
    have HE : Hid ((chkN (isNum k n s t nl kl) == 0) = isNum k n s t nl kl) := by
      show _ = _
      cases isNum k n s t nl kl <;> rfl
    generalize chkN (isNum k n s t nl kl) = E at *
    generalize isNum k n s t nl kl = R at *
    rcases hk with rfl | rfl
    all_goals
      go_enter Tryz.func15, Tryz.ntmps15
      go_wp2_with fail
      refine (K.out _).mono ?_
      rintro e w2 ⟨rfl, g2⟩
      have G : Hid (Grow w w2) := Grow.trans ((Grow.refl _).alloc _) g2
      clear g2 K
      have he := HE.out
      go_wp2
      go_ret
      exact ⟨rfl, G.out⟩
  · have h3 : ¬ k = 3 := fun e => hk (.inl e)
    have h4 : ¬ k = 4 := fun e => hk (.inr e)
    have e : isNum k n s t nl kl = false := by simp [isNum, h3, h4]
    rw [e]
    clear hk e
    go_enter Tryz.func15, Tryz.ntmps15
    go_wp2
    go_ret
    exact ⟨rfl, (Grow.refl _).alloc _⟩
end Go.Proofs.YtpfiejmhnkcjbaaGreatDoor.D6
