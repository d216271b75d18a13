/-
  Is it a number? value.Check and the document's own Check of values whose kind is Int or Decimal.
-/
import Derived.Test.YtbafmdjlnmeofaaGreatDoorLe
namespace Go.Proofs.YtbafmdjlnmeofaaGreatDoor
open Go.RowKit
set_option linter.unusedVariables false
/-- Int or Decimal, formed as such. -/
def isNum (k n s : Int) (t : ByteArray) (nl kl : Nat) : Bool :=
  (decide (k = 3) && decide (s = 0) || decide (k = 4) && decide (1 ≤ s) && decide (s ≤ 18) && !decide (n.tmod 10 = 0)) && t.toList.isEmpty && decide (nl = 0) && decide (kl = 0)
theorem bytes_nil {t : ByteArray} (h : t.toList.isEmpty = true) : t = ⟨#[]⟩ := by
  rw [ByteArray.toList_eq] at h
  cases t with
  | mk d =>
    have : d.toList = [] := by simpa using h
    simp only [ByteArray.mk.injEq]
    exact Array.toList_inj.1 (by simpa using this)
/-- What a number is. -/
theorem isNum_yes {k n s : Int} {t : ByteArray} {nl kl : Nat} (h : isNum k n s t nl kl = true) : t = ⟨#[]⟩ ∧ nl = 0 ∧ kl = 0 ∧ ((k = 3 ∧ s = 0) ∨ (k = 4 ∧ 1 ≤ s ∧ s ≤ 18 ∧ n.tmod 10 ≠ 0)) := by
  simp only [isNum, Bool.and_eq_true, Bool.or_eq_true, decide_eq_true_eq, Bool.not_eq_true', decide_eq_false_iff_not] at h
  obtain ⟨⟨⟨h1, h2⟩, h3⟩, h4⟩ := h
  refine ⟨bytes_nil h2, h3, h4, ?_⟩
  rcases h1 with h1 | ⟨⟨⟨a, b⟩, c⟩, d⟩
  · exact .inl h1
  · exact .inr ⟨a, b, c, d⟩
def only (n s : Int) (t : ByteArray) (nl kl : Nat) (F : Int) : Bool :=
  (F = 1 || F = 3 || decide (n = 0)) && (F = 3 || decide (s = 0)) && t.toList.isEmpty && decide (nl = 0) && decide (kl = 0)
set_option maxRecDepth 8000 in
set_option maxHeartbeats 2000000 in
theorem only_any (k n s : Int) (t : ByteArray) (na : Option Addr) (nl nc : Nat) (ka : Option Addr) (kl kc : Nat) (F : Int) (hF : F = 1 ∨ F = 3) (w : World) :
    Calls Tryz.prog 131 #[.agg #[.int .i64 k, .int .i64 n, .int .i64 s, .string t, .slice na nl nc, .slice ka kl kc], .int .u64 F] w fun e w' => e = .returned (.bool (only n s t nl kl F)) ∧ Grow w w' := by
  have HF : Hid _ := hF
  clear hF
  go_enter Tryz.func131, Tryz.ntmps131
  go_wp2
  all_goals
    go_ret
    refine ⟨?_, (Grow.refl _).alloc _⟩
    unfold only
    cases hte : t.toList.isEmpty <;> rcases HF.out with rfl | rfl <;> simp_all <;> decide
theorem num_of_only3 (n s : Int) (t : ByteArray) (nl kl : Nat) : isNum 3 n s t nl kl = only n s t nl kl 1 := by
  simp [isNum, only]
theorem num_of_only4 (n s : Int) (t : ByteArray) (nl kl : Nat) : isNum 4 n s t nl kl = (only n s t nl kl 3 && decide (1 ≤ s) && decide (s ≤ 18) && !decide (n.tmod 10 = 0)) := by
  simp only [isNum, only]
  cases t.toList.isEmpty <;> cases decide (nl = 0) <;> cases decide (kl = 0) <;> simp
set_option maxRecDepth 8000 in
theorem formed3 (n s : Int) (t : ByteArray) (na : Option Addr) (nl nc : Nat) (ka : Option Addr) (kl kc : Nat) (w : World) :
    Calls Tryz.prog 106 #[.agg #[.int .i64 3, .int .i64 n, .int .i64 s, .string t, .slice na nl nc, .slice ka kl kc]] w fun e w' => e = .returned (.bool (isNum 3 n s t nl kl)) ∧ Grow w w' := by
  have K : Hid (∀ W, Calls Tryz.prog 131 #[.agg #[.int .i64 3, .int .i64 n, .int .i64 s, .string t, .slice na nl nc, .slice ka kl kc], .int .u64 1] W fun e w' => e = .returned (.bool (isNum 3 n s t nl kl)) ∧ Grow W w') := fun W => by
    rw [num_of_only3]
    exact only_any 3 n s t na nl nc ka kl kc 1 (.inl rfl) W
  generalize isNum 3 n s t nl kl = R at *
  go_enter Tryz.func106, Tryz.ntmps106
  go_wp2_with fail
  refine (K.out _).mono ?_
  rintro e w2 ⟨rfl, g2⟩
  have G : Hid (Grow w w2) := Grow.trans ((Grow.refl _).alloc _) g2
  clear g2 K
  go_wp2
  go_ret
  exact ⟨rfl, G.out⟩
set_option maxRecDepth 8000 in
theorem formed4 (n s : Int) (t : ByteArray) (na : Option Addr) (nl nc : Nat) (ka : Option Addr) (kl kc : Nat) (w : World) :
    Calls Tryz.prog 106 #[.agg #[.int .i64 4, .int .i64 n, .int .i64 s, .string t, .slice na nl nc, .slice ka kl kc]] w fun e w' => e = .returned (.bool (isNum 4 n s t nl kl)) ∧ Grow w w' := by
  obtain ⟨O, hO⟩ : ∃ O, only n s t nl kl 3 = O := ⟨_, rfl⟩
  have K : Hid (∀ W, Calls Tryz.prog 131 #[.agg #[.int .i64 4, .int .i64 n, .int .i64 s, .string t, .slice na nl nc, .slice ka kl kc], .int .u64 3] W fun e w' => e = .returned (.bool O) ∧ Grow W w') := fun W => by
    rw [← hO]
    exact only_any 4 n s t na nl nc ka kl kc 3 (.inr rfl) W
  have HR : Hid (isNum 4 n s t nl kl = (O && decide (1 ≤ s) && decide (s ≤ 18) && !decide (n.tmod 10 = 0))) := by
    show _ = _
    rw [num_of_only4, hO]
  clear hO
  generalize isNum 4 n s t nl kl = R at *
  go_enter Tryz.func106, Tryz.ntmps106
  go_wp2_with fail
  refine (K.out _).mono ?_
  rintro e w2 ⟨rfl, g2⟩
  have bB : Blk w2 w.heap.size 25 [.int .i64 4, .int .i64 n, .int .i64 s, .string t, .slice na nl nc, .slice ka kl kc] := Blk.grow (blk_at rfl) g2
  have c1 : w2.cell? ⟨w.heap.size, 1, none⟩ = some (.int .i64 n) := bB.cell 1
  have c2 : w2.cell? ⟨w.heap.size, 2, none⟩ = some (.int .i64 s) := bB.cell 2
  have G : Hid (Grow w w2) := Grow.trans ((Grow.refl _).alloc _) g2
  clear g2 K bB
  cases O
  · go_wp2
    go_ret
    exact ⟨by rw [HR.out]; rfl, G.out⟩
  · go_wp2
    all_goals
      go_ret
      refine ⟨?_, G.out⟩
      rw [HR.out]
      by_cases e0 : n.tmod 10 = 0 <;> by_cases e1 : 1 ≤ s <;> by_cases e2 : s ≤ 18 <;> simp [e0, e1, e2] <;> omega
def chkN (b : Bool) : Int := if b then 0 else 3
set_option maxRecDepth 8000 in
theorem checkAt_no (k n s : Int) (t : ByteArray) (na : Option Addr) (nl nc : Nat) (ka : Option Addr) (kl kc : Nat) (K : Hid (∀ W, Calls Tryz.prog 106 #[.agg #[.int .i64 k, .int .i64 n, .int .i64 s, .string t, .slice na nl nc, .slice ka kl kc]] W fun e w' => e = .returned (.bool false) ∧ Grow W w')) (w : World) :
    Calls Tryz.prog 77 #[.agg #[.int .i64 k, .int .i64 n, .int .i64 s, .string t, .slice na nl nc, .slice ka kl kc], .int .i64 1] w fun e w' => e = .returned (.int .i64 3) ∧ Grow w w' := by
  go_enter Tryz.func77, Tryz.ntmps77
  go_wp2_with fail
  refine (K.out _).mono ?_
  rintro e w2 ⟨rfl, g2⟩
  have G : Hid (Grow w w2) := Grow.trans ((Grow.refl _).alloc _) g2
  clear g2 K
  go_wp2
  go_ret
  exact ⟨rfl, G.out⟩
set_option maxRecDepth 8000 in
theorem checkAt_yes (k n s : Int) (na : Option Addr) (nc : Nat) (ka : Option Addr) (kc : Nat) (hk : ¬ k = 9) (K : Hid (∀ W, Calls Tryz.prog 106 #[.agg #[.int .i64 k, .int .i64 n, .int .i64 s, .string ⟨#[]⟩, .slice na 0 nc, .slice ka 0 kc]] W fun e w' => e = .returned (.bool true) ∧ Grow W w')) (w : World) :
    Calls Tryz.prog 77 #[.agg #[.int .i64 k, .int .i64 n, .int .i64 s, .string ⟨#[]⟩, .slice na 0 nc, .slice ka 0 kc], .int .i64 1] w fun e w' => e = .returned (.int .i64 0) ∧ Grow w w' := by
  go_enter Tryz.func77, Tryz.ntmps77
  go_wp2_with fail
  refine (K.out _).mono ?_
  rintro e w2 ⟨rfl, g2⟩
  have bB : Blk w2 w.heap.size 25 [.int .i64 k, .int .i64 n, .int .i64 s, .string ⟨#[]⟩, .slice na 0 nc, .slice ka 0 kc] := Blk.grow (blk_at rfl) g2
  have c0 : w2.cell? ⟨w.heap.size, 0, none⟩ = some (.int .i64 k) := bB.cell 0
  have c3 : w2.cell? ⟨w.heap.size, 3, none⟩ = some (.string ⟨#[]⟩) := bB.cell 3
  have c5 : w2.cell? ⟨w.heap.size, 5, none⟩ = some (.slice ka 0 kc) := bB.cell 5
  have G : Hid (Grow w w2) := Grow.trans ((Grow.refl _).alloc _) g2
  clear g2 K bB
  go_wp2
  go_loopw [34] (fun i wr => i = .int .i64 0 ∧ wr = w2) (fun _ _ => 0)
  case atStart => exact ⟨rfl, rfl⟩
  case round =>
    obtain ⟨rfl, rfl⟩ := hrel
    go_wp2
    go_ret
    exact ⟨rfl, G.out⟩
end Go.Proofs.YtbafmdjlnmeofaaGreatDoor
