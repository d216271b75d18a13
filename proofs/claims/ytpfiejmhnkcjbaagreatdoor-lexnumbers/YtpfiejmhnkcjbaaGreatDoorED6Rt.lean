/-
  The document's own Text.
-/
import Derived.Test.YtpfiejmhnkcjbaaGreatDoorEG35x
import Derived.Test.YtpfiejmhnkcjbaaGreatDoorEG39x
namespace Go.Proofs.YtpfiejmhnkcjbaaGreatDoor.D6
open Go.RowKit
set_option linter.unusedVariables false
def strSize : Value → Nat
  | .string b => b.size
  | _ => 0
theorem zeros_none (D : ByteArray) : zeros 0 ++ D = D := by
  apply ByteArray.ext
  simp [zeros, ByteArray.data_append]
theorem zeros_more (j : Nat) (D : ByteArray) : (⟨#[48]⟩ : ByteArray) ++ (zeros j ++ D) = zeros (j + 1) ++ D := by
  apply ByteArray.ext
  apply Array.toList_inj.1
  simp [zeros, ByteArray.data_append, List.replicate_succ]
set_option maxRecDepth 8000 in
set_option maxHeartbeats 1000000 in
theorem rText_i_p (k1 n1 : Int) (na1 : Option Addr) (nc1 : Nat) (ka1 : Option Addr) (kc1 : Nat) (A : Nat) (D : ByteArray) (hD : D.size ≤ 20) (hn : 0 ≤ n1) (K1 : Hid (∀ W, Calls Tryz.prog 15 #[.agg #[.int .i64 k1, .int .i64 n1, .int .i64 0, .string ⟨#[]⟩, .slice na1 0 nc1, .slice ka1 0 kc1]] W fun e w' => e = .returned (.bool true) ∧ Grow W w')) (K2 : Hid (∀ W, Calls Tryz.prog 28 #[.int .i64 n1] W fun e w' => e = .returned (.int .u64 (A : Int)) ∧ Grow W w')) (K3 : Hid (∀ W, Calls Tryz.prog 27 #[.int .u64 (A : Int)] W fun e w' => e = .returned (.string D) ∧ Grow W w')) (w : World) :
    Calls Tryz.prog 16 #[.agg #[.int .i64 k1, .int .i64 n1, .int .i64 0, .string ⟨#[]⟩, .slice na1 0 nc1, .slice ka1 0 kc1]] w fun e w' => e = .returned (.tuple #[.string D, .int .i64 0]) ∧ Grow w w' := by
  have hsz : ¬ 9223372036854775807 < 1 + D.size := by omega
  go_enter Tryz.func16, Tryz.ntmps16
  go_wp2_with fail
  obtain ⟨w1, HW1, H0⟩ : ∃ w1, (w.alloc (Obj.cells #[.int .i64 k1, .int .i64 n1, .int .i64 0, .string ⟨#[]⟩, .slice na1 0 nc1, .slice ka1 0 kc1] 41)) = w1 ∧ Hid (Blk w1 (w.heap.size) 41 [.int .i64 k1, .int .i64 n1, .int .i64 0, .string ⟨#[]⟩, .slice na1 0 nc1, .slice ka1 0 kc1] ∧ Grow w w1) := ⟨_, rfl, (blk_at rfl), ((Grow.refl _).alloc _)⟩
  rw [HW1]
  clear HW1
  refine (K1.out _).mono ?_
  rintro e w2 ⟨rfl, g0⟩
  have H1 : Hid (Blk w2 (w.heap.size) 41 [.int .i64 k1, .int .i64 n1, .int .i64 0, .string ⟨#[]⟩, .slice na1 0 nc1, .slice ka1 0 kc1] ∧ Grow w w2) := ⟨(H0.out.1).grow g0, Grow.trans (H0.out.2) g0⟩
  clear H0 g0
  have q0_0 : w2.cell? ⟨w.heap.size, 0, none⟩ = some (.int .i64 k1) := (H1.out.1).cell 0
  have q0_1 : w2.cell? ⟨w.heap.size, 1, none⟩ = some (.int .i64 n1) := (H1.out.1).cell 1
  have q0_2 : w2.cell? ⟨w.heap.size, 2, none⟩ = some (.int .i64 0) := (H1.out.1).cell 2
  have q0_3 : w2.cell? ⟨w.heap.size, 3, none⟩ = some (.string ⟨#[]⟩) := (H1.out.1).cell 3
  have q0_4 : w2.cell? ⟨w.heap.size, 4, none⟩ = some (.slice na1 0 nc1) := (H1.out.1).cell 4
  have q0_5 : w2.cell? ⟨w.heap.size, 5, none⟩ = some (.slice ka1 0 kc1) := (H1.out.1).cell 5
  go_wp2_with fail
  clear q0_0 q0_1 q0_2 q0_3 q0_4 q0_5
  refine (K2.out _).mono ?_
  rintro e w3 ⟨rfl, g1⟩
  have H2 : Hid (Blk w3 (w.heap.size) 41 [.int .i64 k1, .int .i64 n1, .int .i64 0, .string ⟨#[]⟩, .slice na1 0 nc1, .slice ka1 0 kc1] ∧ Grow w w3) := ⟨(H1.out.1).grow g1, Grow.trans (H1.out.2) g1⟩
  clear H1 g1
  go_wp2_with fail
  refine (K3.out _).mono ?_
  rintro e w4 ⟨rfl, g2⟩
  have H3 : Hid (Blk w4 (w.heap.size) 41 [.int .i64 k1, .int .i64 n1, .int .i64 0, .string ⟨#[]⟩, .slice na1 0 nc1, .slice ka1 0 kc1] ∧ Grow w w4) := ⟨(H2.out.1).grow g2, Grow.trans (H2.out.2) g2⟩
  clear H2 g2
  have q0_0 : w4.cell? ⟨w.heap.size, 0, none⟩ = some (.int .i64 k1) := (H3.out.1).cell 0
  have q0_1 : w4.cell? ⟨w.heap.size, 1, none⟩ = some (.int .i64 n1) := (H3.out.1).cell 1
  have q0_2 : w4.cell? ⟨w.heap.size, 2, none⟩ = some (.int .i64 0) := (H3.out.1).cell 2
  have q0_3 : w4.cell? ⟨w.heap.size, 3, none⟩ = some (.string ⟨#[]⟩) := (H3.out.1).cell 3
  have q0_4 : w4.cell? ⟨w.heap.size, 4, none⟩ = some (.slice na1 0 nc1) := (H3.out.1).cell 4
  have q0_5 : w4.cell? ⟨w.heap.size, 5, none⟩ = some (.slice ka1 0 kc1) := (H3.out.1).cell 5
  go_wp2
  go_ret2
  exact ⟨rfl, H3.out.2⟩
set_option maxRecDepth 8000 in
set_option maxHeartbeats 1000000 in
theorem rText_d_p (k1 n1 : Int) (s1 : Nat) (na1 : Option Addr) (nc1 : Nat) (ka1 : Option Addr) (kc1 : Nat) (s0 : 0 < s1) (s18 : s1 ≤ 18) (A : Nat) (D : ByteArray) (hD0 : 0 < D.size) (hD : D.size ≤ 20) (hn : 0 ≤ n1) (K1 : Hid (∀ W, Calls Tryz.prog 15 #[.agg #[.int .i64 k1, .int .i64 n1, .int .i64 (s1 : Int), .string ⟨#[]⟩, .slice na1 0 nc1, .slice ka1 0 kc1]] W fun e w' => e = .returned (.bool true) ∧ Grow W w')) (K2 : Hid (∀ W, Calls Tryz.prog 28 #[.int .i64 n1] W fun e w' => e = .returned (.int .u64 (A : Int)) ∧ Grow W w')) (K3 : Hid (∀ W, Calls Tryz.prog 27 #[.int .u64 (A : Int)] W fun e w' => e = .returned (.string D) ∧ Grow W w')) (w : World) :
    Calls Tryz.prog 16 #[.agg #[.int .i64 k1, .int .i64 n1, .int .i64 (s1 : Int), .string ⟨#[]⟩, .slice na1 0 nc1, .slice ka1 0 kc1]] w fun e w' => e = .returned (.tuple #[.string (dotN D s1), .int .i64 0]) ∧ Grow w w' := by
  go_enter Tryz.func16, Tryz.ntmps16
  go_wp2_with fail
  obtain ⟨w1, HW1, H0⟩ : ∃ w1, (w.alloc (Obj.cells #[.int .i64 k1, .int .i64 n1, .int .i64 (s1 : Int), .string ⟨#[]⟩, .slice na1 0 nc1, .slice ka1 0 kc1] 41)) = w1 ∧ Hid (Blk w1 (w.heap.size) 41 [.int .i64 k1, .int .i64 n1, .int .i64 (s1 : Int), .string ⟨#[]⟩, .slice na1 0 nc1, .slice ka1 0 kc1] ∧ Grow w w1) := ⟨_, rfl, (blk_at rfl), ((Grow.refl _).alloc _)⟩
  rw [HW1]
  clear HW1
  refine (K1.out _).mono ?_
  rintro e w2 ⟨rfl, g0⟩
  have H1 : Hid (Blk w2 (w.heap.size) 41 [.int .i64 k1, .int .i64 n1, .int .i64 (s1 : Int), .string ⟨#[]⟩, .slice na1 0 nc1, .slice ka1 0 kc1] ∧ Grow w w2) := ⟨(H0.out.1).grow g0, Grow.trans (H0.out.2) g0⟩
  clear H0 g0
  have q0_0 : w2.cell? ⟨w.heap.size, 0, none⟩ = some (.int .i64 k1) := (H1.out.1).cell 0
  have q0_1 : w2.cell? ⟨w.heap.size, 1, none⟩ = some (.int .i64 n1) := (H1.out.1).cell 1
  have q0_2 : w2.cell? ⟨w.heap.size, 2, none⟩ = some (.int .i64 (s1 : Int)) := (H1.out.1).cell 2
  have q0_3 : w2.cell? ⟨w.heap.size, 3, none⟩ = some (.string ⟨#[]⟩) := (H1.out.1).cell 3
  have q0_4 : w2.cell? ⟨w.heap.size, 4, none⟩ = some (.slice na1 0 nc1) := (H1.out.1).cell 4
  have q0_5 : w2.cell? ⟨w.heap.size, 5, none⟩ = some (.slice ka1 0 kc1) := (H1.out.1).cell 5
  go_wp2_with fail
  clear q0_0 q0_1 q0_2 q0_3 q0_4 q0_5
  refine (K2.out _).mono ?_
  rintro e w3 ⟨rfl, g1⟩
  have H2 : Hid (Blk w3 (w.heap.size) 41 [.int .i64 k1, .int .i64 n1, .int .i64 (s1 : Int), .string ⟨#[]⟩, .slice na1 0 nc1, .slice ka1 0 kc1] ∧ Grow w w3) := ⟨(H1.out.1).grow g1, Grow.trans (H1.out.2) g1⟩
  clear H1 g1
  go_wp2_with fail
  refine (K3.out _).mono ?_
  rintro e w4 ⟨rfl, g2⟩
  have H3 : Hid (Blk w4 (w.heap.size) 41 [.int .i64 k1, .int .i64 n1, .int .i64 (s1 : Int), .string ⟨#[]⟩, .slice na1 0 nc1, .slice ka1 0 kc1] ∧ Grow w w4) := ⟨(H2.out.1).grow g2, Grow.trans (H2.out.2) g2⟩
  clear H2 g2
  have q0_0 : w4.cell? ⟨w.heap.size, 0, none⟩ = some (.int .i64 k1) := (H3.out.1).cell 0
  have q0_1 : w4.cell? ⟨w.heap.size, 1, none⟩ = some (.int .i64 n1) := (H3.out.1).cell 1
  have q0_2 : w4.cell? ⟨w.heap.size, 2, none⟩ = some (.int .i64 (s1 : Int)) := (H3.out.1).cell 2
  have q0_3 : w4.cell? ⟨w.heap.size, 3, none⟩ = some (.string ⟨#[]⟩) := (H3.out.1).cell 3
  have q0_4 : w4.cell? ⟨w.heap.size, 4, none⟩ = some (.slice na1 0 nc1) := (H3.out.1).cell 4
  have q0_5 : w4.cell? ⟨w.heap.size, 5, none⟩ = some (.slice ka1 0 kc1) := (H3.out.1).cell 5
  go_wp2
  clear q0_0 q0_1 q0_2 q0_3 q0_4 q0_5
  go_loopw [4] (fun q wr => ∃ S : ByteArray, S.size ≤ 40 ∧ q = .string S ∧ Hid ((∃ j, S = zeros j ++ D ∧ (j = 0 ∨ S.size ≤ s1 + 1)) ∧ Blk wr w.heap.size 41 [.int .i64 k1, .int .i64 n1, .int .i64 (s1 : Int), .string ⟨#[]⟩, .slice na1 0 nc1, .slice ka1 0 kc1] ∧ Grow w wr)) (fun q _ => s1 + 1 - strSize q)
  case atStart => exact ⟨D, by omega, rfl, ⟨0, (zeros_none D).symm, .inl rfl⟩, H3.out.1, H3.out.2⟩
  case round =>
    obtain ⟨S, hS, rfl, HI⟩ := hrel
    clear H3
    have y1 : wr.cell? ⟨w.heap.size, 1, none⟩ = some (.int .i64 n1) := HI.out.2.1.cell 1
    have y2 : wr.cell? ⟨w.heap.size, 2, none⟩ = some (.int .i64 (s1 : Int)) := HI.out.2.1.cell 2
    by_cases hle : S.size ≤ s1
    · have hsz : ¬ 9223372036854775807 < 1 + S.size := by omega
      go_wp2
      go_roundw
      case rel =>
        obtain ⟨⟨j, e, hj⟩, hb, hg⟩ := HI.out
        have e1 : ((⟨#[48]⟩ : ByteArray) ++ S).size = 1 + S.size := by rw [ByteArray.size_append]; rfl
        exact ⟨_, by omega, rfl, ⟨j + 1, by rw [e, zeros_more], .inr (by omega)⟩, hb, hg⟩
      case measure =>
        have e1 : ((⟨#[48]⟩ : ByteArray) ++ S).size = 1 + S.size := by rw [ByteArray.size_append]; rfl
        simp only [strSize]
        omega
    · obtain ⟨p, hp⟩ : ∃ p, S.size - s1 = p := ⟨_, rfl⟩
      have e2 : (S.size : Int) - (s1 : Int) = (p : Int) := by omega
      have e4 : p ≤ S.size := by omega
      have HT : Hid (dotN D s1 = S.extract 0 p ++ ⟨#[46]⟩ ++ S.extract p S.size ∧ (S.extract 0 p ++ ⟨#[46]⟩ ++ S.extract p S.size).size = S.size + 1) := by
        obtain ⟨⟨j, e, hj⟩, hb, hg⟩ := HI.out
        have q : S.size = j + D.size := by rw [e, ByteArray.size_append, zeros_size]
        refine ⟨?_, dotAt_size S p e4⟩
        unfold dotN
        by_cases hd : D.size ≤ s1
        · rw [if_pos hd, show s1 + 1 - D.size = j by omega, ← e, show 1 = p by omega]
          rfl
        · have j0 : j = 0 := by omega
          rw [if_neg hd]
          subst j0
          rw [zeros_none] at e
          subst e
          rw [hp]
          rfl
      have hsz : ¬ 9223372036854775807 < 1 + (S.extract 0 p ++ ⟨#[46]⟩ ++ S.extract p S.size).size := by rw [HT.out.2]; omega
      clear hp
      go_wp2
      go_quiet (fail)
      go_wp2
      go_ret2
      exact ⟨by rw [HT.out.1]; rfl, HI.out.2.2.trans (grow_dq _ _)⟩
set_option maxRecDepth 8000 in
set_option maxHeartbeats 1000000 in
theorem rText_i_n (k1 n1 : Int) (na1 : Option Addr) (nc1 : Nat) (ka1 : Option Addr) (kc1 : Nat) (A : Nat) (D : ByteArray) (hD : D.size ≤ 20) (hn : n1 < 0) (K1 : Hid (∀ W, Calls Tryz.prog 15 #[.agg #[.int .i64 k1, .int .i64 n1, .int .i64 0, .string ⟨#[]⟩, .slice na1 0 nc1, .slice ka1 0 kc1]] W fun e w' => e = .returned (.bool true) ∧ Grow W w')) (K2 : Hid (∀ W, Calls Tryz.prog 28 #[.int .i64 n1] W fun e w' => e = .returned (.int .u64 (A : Int)) ∧ Grow W w')) (K3 : Hid (∀ W, Calls Tryz.prog 27 #[.int .u64 (A : Int)] W fun e w' => e = .returned (.string D) ∧ Grow W w')) (w : World) :
    Calls Tryz.prog 16 #[.agg #[.int .i64 k1, .int .i64 n1, .int .i64 0, .string ⟨#[]⟩, .slice na1 0 nc1, .slice ka1 0 kc1]] w fun e w' => e = .returned (.tuple #[.string (⟨#[45]⟩ ++ D), .int .i64 0]) ∧ Grow w w' := by
  have hsz : ¬ 9223372036854775807 < 1 + D.size := by omega
  go_enter Tryz.func16, Tryz.ntmps16
  go_wp2_with fail
  obtain ⟨w1, HW1, H0⟩ : ∃ w1, (w.alloc (Obj.cells #[.int .i64 k1, .int .i64 n1, .int .i64 0, .string ⟨#[]⟩, .slice na1 0 nc1, .slice ka1 0 kc1] 41)) = w1 ∧ Hid (Blk w1 (w.heap.size) 41 [.int .i64 k1, .int .i64 n1, .int .i64 0, .string ⟨#[]⟩, .slice na1 0 nc1, .slice ka1 0 kc1] ∧ Grow w w1) := ⟨_, rfl, (blk_at rfl), ((Grow.refl _).alloc _)⟩
  rw [HW1]
  clear HW1
  refine (K1.out _).mono ?_
  rintro e w2 ⟨rfl, g0⟩
  have H1 : Hid (Blk w2 (w.heap.size) 41 [.int .i64 k1, .int .i64 n1, .int .i64 0, .string ⟨#[]⟩, .slice na1 0 nc1, .slice ka1 0 kc1] ∧ Grow w w2) := ⟨(H0.out.1).grow g0, Grow.trans (H0.out.2) g0⟩
  clear H0 g0
  have q0_0 : w2.cell? ⟨w.heap.size, 0, none⟩ = some (.int .i64 k1) := (H1.out.1).cell 0
  have q0_1 : w2.cell? ⟨w.heap.size, 1, none⟩ = some (.int .i64 n1) := (H1.out.1).cell 1
  have q0_2 : w2.cell? ⟨w.heap.size, 2, none⟩ = some (.int .i64 0) := (H1.out.1).cell 2
  have q0_3 : w2.cell? ⟨w.heap.size, 3, none⟩ = some (.string ⟨#[]⟩) := (H1.out.1).cell 3
  have q0_4 : w2.cell? ⟨w.heap.size, 4, none⟩ = some (.slice na1 0 nc1) := (H1.out.1).cell 4
  have q0_5 : w2.cell? ⟨w.heap.size, 5, none⟩ = some (.slice ka1 0 kc1) := (H1.out.1).cell 5
  go_wp2_with fail
  clear q0_0 q0_1 q0_2 q0_3 q0_4 q0_5
  refine (K2.out _).mono ?_
  rintro e w3 ⟨rfl, g1⟩
  have H2 : Hid (Blk w3 (w.heap.size) 41 [.int .i64 k1, .int .i64 n1, .int .i64 0, .string ⟨#[]⟩, .slice na1 0 nc1, .slice ka1 0 kc1] ∧ Grow w w3) := ⟨(H1.out.1).grow g1, Grow.trans (H1.out.2) g1⟩
  clear H1 g1
  go_wp2_with fail
  refine (K3.out _).mono ?_
  rintro e w4 ⟨rfl, g2⟩
  have H3 : Hid (Blk w4 (w.heap.size) 41 [.int .i64 k1, .int .i64 n1, .int .i64 0, .string ⟨#[]⟩, .slice na1 0 nc1, .slice ka1 0 kc1] ∧ Grow w w4) := ⟨(H2.out.1).grow g2, Grow.trans (H2.out.2) g2⟩
  clear H2 g2
  have q0_0 : w4.cell? ⟨w.heap.size, 0, none⟩ = some (.int .i64 k1) := (H3.out.1).cell 0
  have q0_1 : w4.cell? ⟨w.heap.size, 1, none⟩ = some (.int .i64 n1) := (H3.out.1).cell 1
  have q0_2 : w4.cell? ⟨w.heap.size, 2, none⟩ = some (.int .i64 0) := (H3.out.1).cell 2
  have q0_3 : w4.cell? ⟨w.heap.size, 3, none⟩ = some (.string ⟨#[]⟩) := (H3.out.1).cell 3
  have q0_4 : w4.cell? ⟨w.heap.size, 4, none⟩ = some (.slice na1 0 nc1) := (H3.out.1).cell 4
  have q0_5 : w4.cell? ⟨w.heap.size, 5, none⟩ = some (.slice ka1 0 kc1) := (H3.out.1).cell 5
  go_wp2
  go_ret2
  exact ⟨rfl, H3.out.2⟩
set_option maxRecDepth 8000 in
set_option maxHeartbeats 1000000 in
theorem rText_d_n (k1 n1 : Int) (s1 : Nat) (na1 : Option Addr) (nc1 : Nat) (ka1 : Option Addr) (kc1 : Nat) (s0 : 0 < s1) (s18 : s1 ≤ 18) (A : Nat) (D : ByteArray) (hD0 : 0 < D.size) (hD : D.size ≤ 20) (hn : n1 < 0) (K1 : Hid (∀ W, Calls Tryz.prog 15 #[.agg #[.int .i64 k1, .int .i64 n1, .int .i64 (s1 : Int), .string ⟨#[]⟩, .slice na1 0 nc1, .slice ka1 0 kc1]] W fun e w' => e = .returned (.bool true) ∧ Grow W w')) (K2 : Hid (∀ W, Calls Tryz.prog 28 #[.int .i64 n1] W fun e w' => e = .returned (.int .u64 (A : Int)) ∧ Grow W w')) (K3 : Hid (∀ W, Calls Tryz.prog 27 #[.int .u64 (A : Int)] W fun e w' => e = .returned (.string D) ∧ Grow W w')) (w : World) :
    Calls Tryz.prog 16 #[.agg #[.int .i64 k1, .int .i64 n1, .int .i64 (s1 : Int), .string ⟨#[]⟩, .slice na1 0 nc1, .slice ka1 0 kc1]] w fun e w' => e = .returned (.tuple #[.string (⟨#[45]⟩ ++ dotN D s1), .int .i64 0]) ∧ Grow w w' := by
  go_enter Tryz.func16, Tryz.ntmps16
  go_wp2_with fail
  obtain ⟨w1, HW1, H0⟩ : ∃ w1, (w.alloc (Obj.cells #[.int .i64 k1, .int .i64 n1, .int .i64 (s1 : Int), .string ⟨#[]⟩, .slice na1 0 nc1, .slice ka1 0 kc1] 41)) = w1 ∧ Hid (Blk w1 (w.heap.size) 41 [.int .i64 k1, .int .i64 n1, .int .i64 (s1 : Int), .string ⟨#[]⟩, .slice na1 0 nc1, .slice ka1 0 kc1] ∧ Grow w w1) := ⟨_, rfl, (blk_at rfl), ((Grow.refl _).alloc _)⟩
  rw [HW1]
  clear HW1
  refine (K1.out _).mono ?_
  rintro e w2 ⟨rfl, g0⟩
  have H1 : Hid (Blk w2 (w.heap.size) 41 [.int .i64 k1, .int .i64 n1, .int .i64 (s1 : Int), .string ⟨#[]⟩, .slice na1 0 nc1, .slice ka1 0 kc1] ∧ Grow w w2) := ⟨(H0.out.1).grow g0, Grow.trans (H0.out.2) g0⟩
  clear H0 g0
  have q0_0 : w2.cell? ⟨w.heap.size, 0, none⟩ = some (.int .i64 k1) := (H1.out.1).cell 0
  have q0_1 : w2.cell? ⟨w.heap.size, 1, none⟩ = some (.int .i64 n1) := (H1.out.1).cell 1
  have q0_2 : w2.cell? ⟨w.heap.size, 2, none⟩ = some (.int .i64 (s1 : Int)) := (H1.out.1).cell 2
  have q0_3 : w2.cell? ⟨w.heap.size, 3, none⟩ = some (.string ⟨#[]⟩) := (H1.out.1).cell 3
  have q0_4 : w2.cell? ⟨w.heap.size, 4, none⟩ = some (.slice na1 0 nc1) := (H1.out.1).cell 4
  have q0_5 : w2.cell? ⟨w.heap.size, 5, none⟩ = some (.slice ka1 0 kc1) := (H1.out.1).cell 5
  go_wp2_with fail
  clear q0_0 q0_1 q0_2 q0_3 q0_4 q0_5
  refine (K2.out _).mono ?_
  rintro e w3 ⟨rfl, g1⟩
  have H2 : Hid (Blk w3 (w.heap.size) 41 [.int .i64 k1, .int .i64 n1, .int .i64 (s1 : Int), .string ⟨#[]⟩, .slice na1 0 nc1, .slice ka1 0 kc1] ∧ Grow w w3) := ⟨(H1.out.1).grow g1, Grow.trans (H1.out.2) g1⟩
  clear H1 g1
  go_wp2_with fail
  refine (K3.out _).mono ?_
  rintro e w4 ⟨rfl, g2⟩
  have H3 : Hid (Blk w4 (w.heap.size) 41 [.int .i64 k1, .int .i64 n1, .int .i64 (s1 : Int), .string ⟨#[]⟩, .slice na1 0 nc1, .slice ka1 0 kc1] ∧ Grow w w4) := ⟨(H2.out.1).grow g2, Grow.trans (H2.out.2) g2⟩
  clear H2 g2
  have q0_0 : w4.cell? ⟨w.heap.size, 0, none⟩ = some (.int .i64 k1) := (H3.out.1).cell 0
  have q0_1 : w4.cell? ⟨w.heap.size, 1, none⟩ = some (.int .i64 n1) := (H3.out.1).cell 1
  have q0_2 : w4.cell? ⟨w.heap.size, 2, none⟩ = some (.int .i64 (s1 : Int)) := (H3.out.1).cell 2
  have q0_3 : w4.cell? ⟨w.heap.size, 3, none⟩ = some (.string ⟨#[]⟩) := (H3.out.1).cell 3
  have q0_4 : w4.cell? ⟨w.heap.size, 4, none⟩ = some (.slice na1 0 nc1) := (H3.out.1).cell 4
  have q0_5 : w4.cell? ⟨w.heap.size, 5, none⟩ = some (.slice ka1 0 kc1) := (H3.out.1).cell 5
  go_wp2
  clear q0_0 q0_1 q0_2 q0_3 q0_4 q0_5
  go_loopw [4] (fun q wr => ∃ S : ByteArray, S.size ≤ 40 ∧ q = .string S ∧ Hid ((∃ j, S = zeros j ++ D ∧ (j = 0 ∨ S.size ≤ s1 + 1)) ∧ Blk wr w.heap.size 41 [.int .i64 k1, .int .i64 n1, .int .i64 (s1 : Int), .string ⟨#[]⟩, .slice na1 0 nc1, .slice ka1 0 kc1] ∧ Grow w wr)) (fun q _ => s1 + 1 - strSize q)
  case atStart => exact ⟨D, by omega, rfl, ⟨0, (zeros_none D).symm, .inl rfl⟩, H3.out.1, H3.out.2⟩
  case round =>
    obtain ⟨S, hS, rfl, HI⟩ := hrel
    clear H3
    have y1 : wr.cell? ⟨w.heap.size, 1, none⟩ = some (.int .i64 n1) := HI.out.2.1.cell 1
    have y2 : wr.cell? ⟨w.heap.size, 2, none⟩ = some (.int .i64 (s1 : Int)) := HI.out.2.1.cell 2
    by_cases hle : S.size ≤ s1
    · have hsz : ¬ 9223372036854775807 < 1 + S.size := by omega
      go_wp2
      go_roundw
      case rel =>
        obtain ⟨⟨j, e, hj⟩, hb, hg⟩ := HI.out
        have e1 : ((⟨#[48]⟩ : ByteArray) ++ S).size = 1 + S.size := by rw [ByteArray.size_append]; rfl
        exact ⟨_, by omega, rfl, ⟨j + 1, by rw [e, zeros_more], .inr (by omega)⟩, hb, hg⟩
      case measure =>
        have e1 : ((⟨#[48]⟩ : ByteArray) ++ S).size = 1 + S.size := by rw [ByteArray.size_append]; rfl
        simp only [strSize]
        omega
    · obtain ⟨p, hp⟩ : ∃ p, S.size - s1 = p := ⟨_, rfl⟩
      have e2 : (S.size : Int) - (s1 : Int) = (p : Int) := by omega
      have e4 : p ≤ S.size := by omega
      have HT : Hid (dotN D s1 = S.extract 0 p ++ ⟨#[46]⟩ ++ S.extract p S.size ∧ (S.extract 0 p ++ ⟨#[46]⟩ ++ S.extract p S.size).size = S.size + 1) := by
        obtain ⟨⟨j, e, hj⟩, hb, hg⟩ := HI.out
        have q : S.size = j + D.size := by rw [e, ByteArray.size_append, zeros_size]
        refine ⟨?_, dotAt_size S p e4⟩
        unfold dotN
        by_cases hd : D.size ≤ s1
        · rw [if_pos hd, show s1 + 1 - D.size = j by omega, ← e, show 1 = p by omega]
          rfl
        · have j0 : j = 0 := by omega
          rw [if_neg hd]
          subst j0
          rw [zeros_none] at e
          subst e
          rw [hp]
          rfl
      have hsz : ¬ 9223372036854775807 < 1 + (S.extract 0 p ++ ⟨#[46]⟩ ++ S.extract p S.size).size := by rw [HT.out.2]; omega
      clear hp
      go_wp2
      go_quiet (fail)
      go_wp2
      go_ret2
      exact ⟨by rw [HT.out.1]; rfl, HI.out.2.2.trans (grow_dq _ _)⟩
end Go.Proofs.YtpfiejmhnkcjbaaGreatDoor.D6
