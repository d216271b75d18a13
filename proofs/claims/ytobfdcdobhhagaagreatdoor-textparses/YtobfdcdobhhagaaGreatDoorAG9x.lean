/-
   ·  ·  ·  · 
-/
import Derived.Test.YtobfdcdobhhagaaGreatDoorAG7x
import Derived.Test.YtobfdcdobhhagaaGreatDoorAG8x
namespace Go.Proofs.YtobfdcdobhhagaaGreatDoor.D6
set_option maxHeartbeats 1000000
set_option maxRecDepth 8000
open Go.RowKit
set_option linter.unusedVariables false
def strSize : Value -> Nat
 | .string b => b.size
 | _ => 0
theorem zeros_none (D : ByteArray) : zeros 0 ++ D = D := by
 apply ByteArray.ext
 simp [zeros, ByteArray.data_append]
theorem zeros_more (j : Nat) (D : ByteArray) : (⟨#[48]⟩ : ByteArray) ++ (zeros j ++ D) = zeros (j + 1) ++ D := by
 apply ByteArray.ext
 apply Array.toList_inj.1
 simp [zeros, ByteArray.data_append, List.replicate_succ]
theorem rText_i_p (k1 n1 : Int) (na1 : Option Addr) (nc1 : Nat) (ka1 : Option Addr) (kc1 : Nat) (A : Nat) (D : ByteArray) (hD : D.size <= 20) (hn : 0 <= n1) (K1 : Hid (∀ W, Calls Tryz.prog 111 #[.agg #[.int .i64 k1, .int .i64 n1, .int .i64 0, .string ⟨#[]⟩, .slice na1 0 nc1, .slice ka1 0 kc1]] W fun e w' => e = .returned (.bool true) /\ Grow W w')) (K2 : Hid (∀ W, Calls Tryz.prog 112 #[.int .i64 n1] W fun e w' => e = .returned (.int .u64 (A : Int)) /\ Grow W w')) (K3 : Hid (∀ W, Calls Tryz.prog 64 #[.int .u64 (A : Int)] W fun e w' => e = .returned (.string D) /\ Grow W w')) (w : World) :
 Calls Tryz.prog 63 #[.agg #[.int .i64 k1, .int .i64 n1, .int .i64 0, .string ⟨#[]⟩, .slice na1 0 nc1, .slice ka1 0 kc1]] w fun e w' => e = .returned (.tuple #[.string D, .int .i64 0]) /\ Grow w w' := by
 have hsz : ¬ 9223372036854775807 < 1 + D.size := by omega
 go_enter Tryz.func63, Tryz.ntmps63
 go_wp2_with fail
 obtain ⟨w1, HW1, H0⟩ : ∃ w1, (w.alloc (Obj.cells #[.int .i64 k1, .int .i64 n1, .int .i64 0, .string ⟨#[]⟩, .slice na1 0 nc1, .slice ka1 0 kc1] 38)) = w1 /\ Hid (Blk w1 (w.heap.size) 38 [.int .i64 k1, .int .i64 n1, .int .i64 0, .string ⟨#[]⟩, .slice na1 0 nc1, .slice ka1 0 kc1] /\ Grow w w1) := ⟨_, rfl, (blk_at rfl), ((Grow.refl _).alloc _)⟩
 rw [HW1]
 clear HW1
 refine (K1.out _).mono ?_
 rintro e w2 ⟨rfl, g0⟩
 have H1 : Hid (Blk w2 (w.heap.size) 38 [.int .i64 k1, .int .i64 n1, .int .i64 0, .string ⟨#[]⟩, .slice na1 0 nc1, .slice ka1 0 kc1] /\ Grow w w2) := ⟨(H0.out.1).grow g0, Grow.trans (H0.out.2) g0⟩
 clear H0 g0
 have q0_0 : w2.cell? ⟨w.heap.size, 0, none⟩ = some (.int .i64 k1) := (H1.out.1).cell 0
 have q0_1 : w2.cell? ⟨w.heap.size, 1, none⟩ = some (.int .i64 n1) := (H1.out.1).cell 1
 have q0_2 : w2.cell? ⟨w.heap.size, 2, none⟩ = some (.int .i64 0) := (H1.out.1).cell 2
 have q0_3 : w2.cell? ⟨w.heap.size, 3, none⟩ = some (.string ⟨#[]⟩) := (H1.out.1).cell 3
 have q0_4 : w2.cell? ⟨w.heap.size, 4, none⟩ = some (.slice na1 0 nc1) := (H1.out.1).cell 4
 have q0_5 : w2.cell? ⟨w.heap.size, 5, none⟩ = some (.slice ka1 0 kc1) := (H1.out.1).cell 5
 go_wp2_with fail
 clear q0_0 q0_1 q0_2 q0_3 q0_4 q0_5
 refine (K2.out _).mono ?_
 rintro e w3 ⟨rfl, g1⟩
 have H2 : Hid (Blk w3 (w.heap.size) 38 [.int .i64 k1, .int .i64 n1, .int .i64 0, .string ⟨#[]⟩, .slice na1 0 nc1, .slice ka1 0 kc1] /\ Grow w w3) := ⟨(H1.out.1).grow g1, Grow.trans (H1.out.2) g1⟩
 clear H1 g1
 go_wp2_with fail
 refine (K3.out _).mono ?_
 rintro e w4 ⟨rfl, g2⟩
 have H3 : Hid (Blk w4 (w.heap.size) 38 [.int .i64 k1, .int .i64 n1, .int .i64 0, .string ⟨#[]⟩, .slice na1 0 nc1, .slice ka1 0 kc1] /\ Grow w w4) := ⟨(H2.out.1).grow g2, Grow.trans (H2.out.2) g2⟩
 clear H2 g2
 have q0_0 : w4.cell? ⟨w.heap.size, 0, none⟩ = some (.int .i64 k1) := (H3.out.1).cell 0
 have q0_1 : w4.cell? ⟨w.heap.size, 1, none⟩ = some (.int .i64 n1) := (H3.out.1).cell 1
 have q0_2 : w4.cell? ⟨w.heap.size, 2, none⟩ = some (.int .i64 0) := (H3.out.1).cell 2
 have q0_3 : w4.cell? ⟨w.heap.size, 3, none⟩ = some (.string ⟨#[]⟩) := (H3.out.1).cell 3
 have q0_4 : w4.cell? ⟨w.heap.size, 4, none⟩ = some (.slice na1 0 nc1) := (H3.out.1).cell 4
 have q0_5 : w4.cell? ⟨w.heap.size, 5, none⟩ = some (.slice ka1 0 kc1) := (H3.out.1).cell 5
 go_wp2
 go_ret2
 exact ⟨rfl, H3.out.2⟩
theorem rText_d_p (k1 n1 : Int) (s1 : Nat) (na1 : Option Addr) (nc1 : Nat) (ka1 : Option Addr) (kc1 : Nat) (s0 : 0 < s1) (s18 : s1 <= 18) (A : Nat) (D : ByteArray) (hD0 : 0 < D.size) (hD : D.size <= 20) (hn : 0 <= n1) (K1 : Hid (∀ W, Calls Tryz.prog 111 #[.agg #[.int .i64 k1, .int .i64 n1, .int .i64 (s1 : Int), .string ⟨#[]⟩, .slice na1 0 nc1, .slice ka1 0 kc1]] W fun e w' => e = .returned (.bool true) /\ Grow W w')) (K2 : Hid (∀ W, Calls Tryz.prog 112 #[.int .i64 n1] W fun e w' => e = .returned (.int .u64 (A : Int)) /\ Grow W w')) (K3 : Hid (∀ W, Calls Tryz.prog 64 #[.int .u64 (A : Int)] W fun e w' => e = .returned (.string D) /\ Grow W w')) (w : World) :
 Calls Tryz.prog 63 #[.agg #[.int .i64 k1, .int .i64 n1, .int .i64 (s1 : Int), .string ⟨#[]⟩, .slice na1 0 nc1, .slice ka1 0 kc1]] w fun e w' => e = .returned (.tuple #[.string (dotN D s1), .int .i64 0]) /\ Grow w w' := by
 go_enter Tryz.func63, Tryz.ntmps63
 go_wp2_with fail
 obtain ⟨w1, HW1, H0⟩ : ∃ w1, (w.alloc (Obj.cells #[.int .i64 k1, .int .i64 n1, .int .i64 (s1 : Int), .string ⟨#[]⟩, .slice na1 0 nc1, .slice ka1 0 kc1] 38)) = w1 /\ Hid (Blk w1 (w.heap.size) 38 [.int .i64 k1, .int .i64 n1, .int .i64 (s1 : Int), .string ⟨#[]⟩, .slice na1 0 nc1, .slice ka1 0 kc1] /\ Grow w w1) := ⟨_, rfl, (blk_at rfl), ((Grow.refl _).alloc _)⟩
 rw [HW1]
 clear HW1
 refine (K1.out _).mono ?_
 rintro e w2 ⟨rfl, g0⟩
 have H1 : Hid (Blk w2 (w.heap.size) 38 [.int .i64 k1, .int .i64 n1, .int .i64 (s1 : Int), .string ⟨#[]⟩, .slice na1 0 nc1, .slice ka1 0 kc1] /\ Grow w w2) := ⟨(H0.out.1).grow g0, Grow.trans (H0.out.2) g0⟩
 clear H0 g0
 have q0_0 : w2.cell? ⟨w.heap.size, 0, none⟩ = some (.int .i64 k1) := (H1.out.1).cell 0
 have q0_1 : w2.cell? ⟨w.heap.size, 1, none⟩ = some (.int .i64 n1) := (H1.out.1).cell 1
 have q0_2 : w2.cell? ⟨w.heap.size, 2, none⟩ = some (.int .i64 (s1 : Int)) := (H1.out.1).cell 2
 have q0_3 : w2.cell? ⟨w.heap.size, 3, none⟩ = some (.string ⟨#[]⟩) := (H1.out.1).cell 3
 have q0_4 : w2.cell? ⟨w.heap.size, 4, none⟩ = some (.slice na1 0 nc1) := (H1.out.1).cell 4
 have q0_5 : w2.cell? ⟨w.heap.size, 5, none⟩ = some (.slice ka1 0 kc1) := (H1.out.1).cell 5
 go_wp2_with fail
 clear q0_0 q0_1 q0_2 q0_3 q0_4 q0_5
 refine (K2.out _).mono ?_
 rintro e w3 ⟨rfl, g1⟩
 have H2 : Hid (Blk w3 (w.heap.size) 38 [.int .i64 k1, .int .i64 n1, .int .i64 (s1 : Int), .string ⟨#[]⟩, .slice na1 0 nc1, .slice ka1 0 kc1] /\ Grow w w3) := ⟨(H1.out.1).grow g1, Grow.trans (H1.out.2) g1⟩
 clear H1 g1
 go_wp2_with fail
 refine (K3.out _).mono ?_
 rintro e w4 ⟨rfl, g2⟩
 have H3 : Hid (Blk w4 (w.heap.size) 38 [.int .i64 k1, .int .i64 n1, .int .i64 (s1 : Int), .string ⟨#[]⟩, .slice na1 0 nc1, .slice ka1 0 kc1] /\ Grow w w4) := ⟨(H2.out.1).grow g2, Grow.trans (H2.out.2) g2⟩
 clear H2 g2
 have q0_0 : w4.cell? ⟨w.heap.size, 0, none⟩ = some (.int .i64 k1) := (H3.out.1).cell 0
 have q0_1 : w4.cell? ⟨w.heap.size, 1, none⟩ = some (.int .i64 n1) := (H3.out.1).cell 1
 have q0_2 : w4.cell? ⟨w.heap.size, 2, none⟩ = some (.int .i64 (s1 : Int)) := (H3.out.1).cell 2
 have q0_3 : w4.cell? ⟨w.heap.size, 3, none⟩ = some (.string ⟨#[]⟩) := (H3.out.1).cell 3
 have q0_4 : w4.cell? ⟨w.heap.size, 4, none⟩ = some (.slice na1 0 nc1) := (H3.out.1).cell 4
 have q0_5 : w4.cell? ⟨w.heap.size, 5, none⟩ = some (.slice ka1 0 kc1) := (H3.out.1).cell 5
 go_wp2
 clear q0_0 q0_1 q0_2 q0_3 q0_4 q0_5
 go_loopw [4] (fun q wr => ∃ S : ByteArray, S.size <= 40 /\ q = .string S /\ Hid ((∃ j, S = zeros j ++ D /\ (j = 0 ∨ S.size <= s1 + 1)) /\ Blk wr w.heap.size 38 [.int .i64 k1, .int .i64 n1, .int .i64 (s1 : Int), .string ⟨#[]⟩, .slice na1 0 nc1, .slice ka1 0 kc1] /\ Grow w wr)) (fun q _ => s1 + 1 - strSize q)
 case atStart => exact ⟨D, by omega, rfl, ⟨0, (zeros_none D).symm, .inl rfl⟩, H3.out.1, H3.out.2⟩
 case round =>
  obtain ⟨S, hS, rfl, HI⟩ := hrel
  clear H3
  have y1 : wr.cell? ⟨w.heap.size, 1, none⟩ = some (.int .i64 n1) := HI.out.2.1.cell 1
  have y2 : wr.cell? ⟨w.heap.size, 2, none⟩ = some (.int .i64 (s1 : Int)) := HI.out.2.1.cell 2
  by_cases hle : S.size <= s1
  . have hsz : ¬ 9223372036854775807 < 1 + S.size := by omega
    go_wp2
    go_roundw
    case rel =>
     obtain ⟨⟨j, e, hj⟩, hb, hg⟩ := HI.out
     have e1 : ((⟨#[48]⟩ : ByteArray) ++ S).size = 1 + S.size := by rw [ByteArray.size_append]; rfl
     exact ⟨_, by omega, rfl, ⟨j + 1, by rw [e, zeros_more], .inr (by omega)⟩, hb, hg⟩
    case measure =>
     have e1 : ((⟨#[48]⟩ : ByteArray) ++ S).size = 1 + S.size := by rw [ByteArray.size_append]; rfl
     simp only [strSize]
     omega
  . obtain ⟨p, hp⟩ : ∃ p, S.size - s1 = p := ⟨_, rfl⟩
    have e2 : (S.size : Int) - (s1 : Int) = (p : Int) := by omega
    have e4 : p <= S.size := by omega
    have HT : Hid (dotN D s1 = S.extract 0 p ++ ⟨#[46]⟩ ++ S.extract p S.size /\ (S.extract 0 p ++ ⟨#[46]⟩ ++ S.extract p S.size).size = S.size + 1) := by
     obtain ⟨⟨j, e, hj⟩, hb, hg⟩ := HI.out
     have q : S.size = j + D.size := by rw [e, ByteArray.size_append, zeros_size]
     refine ⟨?_, dotAt_size S p e4⟩
     unfold dotN
     by_cases hd : D.size <= s1
     . rw [if_pos hd, show s1 + 1 - D.size = j by omega, <- e, show 1 = p by omega]
       rfl
     . have j0 : j = 0 := by omega
       rw [if_neg hd]
       subst j0
       rw [zeros_none] at e
       subst e
       rw [hp]
       rfl
    have hsz : ¬ 9223372036854775807 < 1 + (S.extract 0 p ++ ⟨#[46]⟩ ++ S.extract p S.size).size := by rw [HT.out.2]; omega
    clear hp
    go_wp2
    go_quiet (fail)
    go_wp2
    go_ret2
    exact ⟨by rw [HT.out.1]; rfl, HI.out.2.2.trans (grow_dq _ _)⟩
theorem rText_i_n (k1 n1 : Int) (na1 : Option Addr) (nc1 : Nat) (ka1 : Option Addr) (kc1 : Nat) (A : Nat) (D : ByteArray) (hD : D.size <= 20) (hn : n1 < 0) (K1 : Hid (∀ W, Calls Tryz.prog 111 #[.agg #[.int .i64 k1, .int .i64 n1, .int .i64 0, .string ⟨#[]⟩, .slice na1 0 nc1, .slice ka1 0 kc1]] W fun e w' => e = .returned (.bool true) /\ Grow W w')) (K2 : Hid (∀ W, Calls Tryz.prog 112 #[.int .i64 n1] W fun e w' => e = .returned (.int .u64 (A : Int)) /\ Grow W w')) (K3 : Hid (∀ W, Calls Tryz.prog 64 #[.int .u64 (A : Int)] W fun e w' => e = .returned (.string D) /\ Grow W w')) (w : World) :
 Calls Tryz.prog 63 #[.agg #[.int .i64 k1, .int .i64 n1, .int .i64 0, .string ⟨#[]⟩, .slice na1 0 nc1, .slice ka1 0 kc1]] w fun e w' => e = .returned (.tuple #[.string (⟨#[45]⟩ ++ D), .int .i64 0]) /\ Grow w w' := by
 have hsz : ¬ 9223372036854775807 < 1 + D.size := by omega
 go_enter Tryz.func63, Tryz.ntmps63
 go_wp2_with fail
 obtain ⟨w1, HW1, H0⟩ : ∃ w1, (w.alloc (Obj.cells #[.int .i64 k1, .int .i64 n1, .int .i64 0, .string ⟨#[]⟩, .slice na1 0 nc1, .slice ka1 0 kc1] 38)) = w1 /\ Hid (Blk w1 (w.heap.size) 38 [.int .i64 k1, .int .i64 n1, .int .i64 0, .string ⟨#[]⟩, .slice na1 0 nc1, .slice ka1 0 kc1] /\ Grow w w1) := ⟨_, rfl, (blk_at rfl), ((Grow.refl _).alloc _)⟩
 rw [HW1]
 clear HW1
 refine (K1.out _).mono ?_
 rintro e w2 ⟨rfl, g0⟩
 have H1 : Hid (Blk w2 (w.heap.size) 38 [.int .i64 k1, .int .i64 n1, .int .i64 0, .string ⟨#[]⟩, .slice na1 0 nc1, .slice ka1 0 kc1] /\ Grow w w2) := ⟨(H0.out.1).grow g0, Grow.trans (H0.out.2) g0⟩
 clear H0 g0
 have q0_0 : w2.cell? ⟨w.heap.size, 0, none⟩ = some (.int .i64 k1) := (H1.out.1).cell 0
 have q0_1 : w2.cell? ⟨w.heap.size, 1, none⟩ = some (.int .i64 n1) := (H1.out.1).cell 1
 have q0_2 : w2.cell? ⟨w.heap.size, 2, none⟩ = some (.int .i64 0) := (H1.out.1).cell 2
 have q0_3 : w2.cell? ⟨w.heap.size, 3, none⟩ = some (.string ⟨#[]⟩) := (H1.out.1).cell 3
 have q0_4 : w2.cell? ⟨w.heap.size, 4, none⟩ = some (.slice na1 0 nc1) := (H1.out.1).cell 4
 have q0_5 : w2.cell? ⟨w.heap.size, 5, none⟩ = some (.slice ka1 0 kc1) := (H1.out.1).cell 5
 go_wp2_with fail
 clear q0_0 q0_1 q0_2 q0_3 q0_4 q0_5
 refine (K2.out _).mono ?_
 rintro e w3 ⟨rfl, g1⟩
 have H2 : Hid (Blk w3 (w.heap.size) 38 [.int .i64 k1, .int .i64 n1, .int .i64 0, .string ⟨#[]⟩, .slice na1 0 nc1, .slice ka1 0 kc1] /\ Grow w w3) := ⟨(H1.out.1).grow g1, Grow.trans (H1.out.2) g1⟩
 clear H1 g1
 go_wp2_with fail
 refine (K3.out _).mono ?_
 rintro e w4 ⟨rfl, g2⟩
 have H3 : Hid (Blk w4 (w.heap.size) 38 [.int .i64 k1, .int .i64 n1, .int .i64 0, .string ⟨#[]⟩, .slice na1 0 nc1, .slice ka1 0 kc1] /\ Grow w w4) := ⟨(H2.out.1).grow g2, Grow.trans (H2.out.2) g2⟩
 clear H2 g2
 have q0_0 : w4.cell? ⟨w.heap.size, 0, none⟩ = some (.int .i64 k1) := (H3.out.1).cell 0
 have q0_1 : w4.cell? ⟨w.heap.size, 1, none⟩ = some (.int .i64 n1) := (H3.out.1).cell 1
 have q0_2 : w4.cell? ⟨w.heap.size, 2, none⟩ = some (.int .i64 0) := (H3.out.1).cell 2
 have q0_3 : w4.cell? ⟨w.heap.size, 3, none⟩ = some (.string ⟨#[]⟩) := (H3.out.1).cell 3
 have q0_4 : w4.cell? ⟨w.heap.size, 4, none⟩ = some (.slice na1 0 nc1) := (H3.out.1).cell 4
 have q0_5 : w4.cell? ⟨w.heap.size, 5, none⟩ = some (.slice ka1 0 kc1) := (H3.out.1).cell 5
 go_wp2
 go_ret2
 exact ⟨rfl, H3.out.2⟩
theorem rText_d_n (k1 n1 : Int) (s1 : Nat) (na1 : Option Addr) (nc1 : Nat) (ka1 : Option Addr) (kc1 : Nat) (s0 : 0 < s1) (s18 : s1 <= 18) (A : Nat) (D : ByteArray) (hD0 : 0 < D.size) (hD : D.size <= 20) (hn : n1 < 0) (K1 : Hid (∀ W, Calls Tryz.prog 111 #[.agg #[.int .i64 k1, .int .i64 n1, .int .i64 (s1 : Int), .string ⟨#[]⟩, .slice na1 0 nc1, .slice ka1 0 kc1]] W fun e w' => e = .returned (.bool true) /\ Grow W w')) (K2 : Hid (∀ W, Calls Tryz.prog 112 #[.int .i64 n1] W fun e w' => e = .returned (.int .u64 (A : Int)) /\ Grow W w')) (K3 : Hid (∀ W, Calls Tryz.prog 64 #[.int .u64 (A : Int)] W fun e w' => e = .returned (.string D) /\ Grow W w')) (w : World) :
 Calls Tryz.prog 63 #[.agg #[.int .i64 k1, .int .i64 n1, .int .i64 (s1 : Int), .string ⟨#[]⟩, .slice na1 0 nc1, .slice ka1 0 kc1]] w fun e w' => e = .returned (.tuple #[.string (⟨#[45]⟩ ++ dotN D s1), .int .i64 0]) /\ Grow w w' := by
 go_enter Tryz.func63, Tryz.ntmps63
 go_wp2_with fail
 obtain ⟨w1, HW1, H0⟩ : ∃ w1, (w.alloc (Obj.cells #[.int .i64 k1, .int .i64 n1, .int .i64 (s1 : Int), .string ⟨#[]⟩, .slice na1 0 nc1, .slice ka1 0 kc1] 38)) = w1 /\ Hid (Blk w1 (w.heap.size) 38 [.int .i64 k1, .int .i64 n1, .int .i64 (s1 : Int), .string ⟨#[]⟩, .slice na1 0 nc1, .slice ka1 0 kc1] /\ Grow w w1) := ⟨_, rfl, (blk_at rfl), ((Grow.refl _).alloc _)⟩
 rw [HW1]
 clear HW1
 refine (K1.out _).mono ?_
 rintro e w2 ⟨rfl, g0⟩
 have H1 : Hid (Blk w2 (w.heap.size) 38 [.int .i64 k1, .int .i64 n1, .int .i64 (s1 : Int), .string ⟨#[]⟩, .slice na1 0 nc1, .slice ka1 0 kc1] /\ Grow w w2) := ⟨(H0.out.1).grow g0, Grow.trans (H0.out.2) g0⟩
 clear H0 g0
 have q0_0 : w2.cell? ⟨w.heap.size, 0, none⟩ = some (.int .i64 k1) := (H1.out.1).cell 0
 have q0_1 : w2.cell? ⟨w.heap.size, 1, none⟩ = some (.int .i64 n1) := (H1.out.1).cell 1
 have q0_2 : w2.cell? ⟨w.heap.size, 2, none⟩ = some (.int .i64 (s1 : Int)) := (H1.out.1).cell 2
 have q0_3 : w2.cell? ⟨w.heap.size, 3, none⟩ = some (.string ⟨#[]⟩) := (H1.out.1).cell 3
 have q0_4 : w2.cell? ⟨w.heap.size, 4, none⟩ = some (.slice na1 0 nc1) := (H1.out.1).cell 4
 have q0_5 : w2.cell? ⟨w.heap.size, 5, none⟩ = some (.slice ka1 0 kc1) := (H1.out.1).cell 5
 go_wp2_with fail
 clear q0_0 q0_1 q0_2 q0_3 q0_4 q0_5
 refine (K2.out _).mono ?_
 rintro e w3 ⟨rfl, g1⟩
 have H2 : Hid (Blk w3 (w.heap.size) 38 [.int .i64 k1, .int .i64 n1, .int .i64 (s1 : Int), .string ⟨#[]⟩, .slice na1 0 nc1, .slice ka1 0 kc1] /\ Grow w w3) := ⟨(H1.out.1).grow g1, Grow.trans (H1.out.2) g1⟩
 clear H1 g1
 go_wp2_with fail
 refine (K3.out _).mono ?_
 rintro e w4 ⟨rfl, g2⟩
 have H3 : Hid (Blk w4 (w.heap.size) 38 [.int .i64 k1, .int .i64 n1, .int .i64 (s1 : Int), .string ⟨#[]⟩, .slice na1 0 nc1, .slice ka1 0 kc1] /\ Grow w w4) := ⟨(H2.out.1).grow g2, Grow.trans (H2.out.2) g2⟩
 clear H2 g2
 have q0_0 : w4.cell? ⟨w.heap.size, 0, none⟩ = some (.int .i64 k1) := (H3.out.1).cell 0
 have q0_1 : w4.cell? ⟨w.heap.size, 1, none⟩ = some (.int .i64 n1) := (H3.out.1).cell 1
 have q0_2 : w4.cell? ⟨w.heap.size, 2, none⟩ = some (.int .i64 (s1 : Int)) := (H3.out.1).cell 2
 have q0_3 : w4.cell? ⟨w.heap.size, 3, none⟩ = some (.string ⟨#[]⟩) := (H3.out.1).cell 3
 have q0_4 : w4.cell? ⟨w.heap.size, 4, none⟩ = some (.slice na1 0 nc1) := (H3.out.1).cell 4
 have q0_5 : w4.cell? ⟨w.heap.size, 5, none⟩ = some (.slice ka1 0 kc1) := (H3.out.1).cell 5
 go_wp2
 clear q0_0 q0_1 q0_2 q0_3 q0_4 q0_5
 go_loopw [4] (fun q wr => ∃ S : ByteArray, S.size <= 40 /\ q = .string S /\ Hid ((∃ j, S = zeros j ++ D /\ (j = 0 ∨ S.size <= s1 + 1)) /\ Blk wr w.heap.size 38 [.int .i64 k1, .int .i64 n1, .int .i64 (s1 : Int), .string ⟨#[]⟩, .slice na1 0 nc1, .slice ka1 0 kc1] /\ Grow w wr)) (fun q _ => s1 + 1 - strSize q)
 case atStart => exact ⟨D, by omega, rfl, ⟨0, (zeros_none D).symm, .inl rfl⟩, H3.out.1, H3.out.2⟩
 case round =>
  obtain ⟨S, hS, rfl, HI⟩ := hrel
  clear H3
  have y1 : wr.cell? ⟨w.heap.size, 1, none⟩ = some (.int .i64 n1) := HI.out.2.1.cell 1
  have y2 : wr.cell? ⟨w.heap.size, 2, none⟩ = some (.int .i64 (s1 : Int)) := HI.out.2.1.cell 2
  by_cases hle : S.size <= s1
  . have hsz : ¬ 9223372036854775807 < 1 + S.size := by omega
    go_wp2
    go_roundw
    case rel =>
     obtain ⟨⟨j, e, hj⟩, hb, hg⟩ := HI.out
     have e1 : ((⟨#[48]⟩ : ByteArray) ++ S).size = 1 + S.size := by rw [ByteArray.size_append]; rfl
     exact ⟨_, by omega, rfl, ⟨j + 1, by rw [e, zeros_more], .inr (by omega)⟩, hb, hg⟩
    case measure =>
     have e1 : ((⟨#[48]⟩ : ByteArray) ++ S).size = 1 + S.size := by rw [ByteArray.size_append]; rfl
     simp only [strSize]
     omega
  . obtain ⟨p, hp⟩ : ∃ p, S.size - s1 = p := ⟨_, rfl⟩
    have e2 : (S.size : Int) - (s1 : Int) = (p : Int) := by omega
    have e4 : p <= S.size := by omega
    have HT : Hid (dotN D s1 = S.extract 0 p ++ ⟨#[46]⟩ ++ S.extract p S.size /\ (S.extract 0 p ++ ⟨#[46]⟩ ++ S.extract p S.size).size = S.size + 1) := by
     obtain ⟨⟨j, e, hj⟩, hb, hg⟩ := HI.out
     have q : S.size = j + D.size := by rw [e, ByteArray.size_append, zeros_size]
     refine ⟨?_, dotAt_size S p e4⟩
     unfold dotN
     by_cases hd : D.size <= s1
     . rw [if_pos hd, show s1 + 1 - D.size = j by omega, <- e, show 1 = p by omega]
       rfl
     . have j0 : j = 0 := by omega
       rw [if_neg hd]
       subst j0
       rw [zeros_none] at e
       subst e
       rw [hp]
       rfl
    have hsz : ¬ 9223372036854775807 < 1 + (S.extract 0 p ++ ⟨#[46]⟩ ++ S.extract p S.size).size := by rw [HT.out.2]; omega
    clear hp
    go_wp2
    go_quiet (fail)
    go_wp2
    go_ret2
    exact ⟨by rw [HT.out.1]; rfl, HI.out.2.2.trans (grow_dq _ _)⟩
end Go.Proofs.YtobfdcdobhhagaaGreatDoor.D6
namespace Go.Proofs.YtobfdcdobhhagaaGreatDoor.D6
open Go.RowKit
set_option linter.unusedVariables false
theorem rText_num (k n : Int) (s : Nat) (hN : isNum k n s ⟨#[]⟩ 0 0 = true) (f : -9223372036854775808 <= n /\ n < 9223372036854775808) (na : Option Addr) (nc : Nat) (ka : Option Addr) (kc : Nat) (w : World) :
 Calls Tryz.prog 63 #[.agg #[.int .i64 k, .int .i64 n, .int .i64 (s : Int), .string ⟨#[]⟩, .slice na 0 nc, .slice ka 0 kc]] w fun e w' => e = .returned (.tuple #[.string (txt n s ⟨(Lib.decDigits n.natAbs).toArray⟩), .int .i64 0]) /\ Grow w w' := by
 have q := dig_size n.natAbs (by omega)
 have K1 := fun W => isR_yes k n s na nc ka kc hN W
 have K2 := fun W => absG n f.1 f.2 W
 have K3 := fun W => decR n.natAbs (by omega) W
 have hs : s <= 18 := by
  obtain ⟨_, _, _, h⟩ := isNum_yes hN
  omega
 generalize (⟨(Lib.decDigits n.natAbs).toArray⟩ : ByteArray) = D at *
 unfold txt
 by_cases hn : n < 0
 . rw [if_pos hn]
   by_cases s0 : s = 0
   . subst s0
     exact rText_i_n k n na nc ka kc n.natAbs D q.2 hn K1 K2 K3 w
   . rw [if_neg s0]
     exact rText_d_n k n s na nc ka kc (by omega) hs n.natAbs D q.1 q.2 hn K1 K2 K3 w
 . rw [if_neg hn]
   by_cases s0 : s = 0
   . subst s0
     exact rText_i_p k n na nc ka kc n.natAbs D q.2 (by omega) K1 K2 K3 w
   . rw [if_neg s0]
     exact rText_d_p k n s na nc ka kc (by omega) hs n.natAbs D q.1 q.2 (by omega) K1 K2 K3 w
end Go.Proofs.YtobfdcdobhhagaaGreatDoor.D6
namespace Go.Proofs.YtobfdcdobhhagaaGreatDoor.D6
set_option maxRecDepth 8000
open Go.RowKit
set_option linter.unusedVariables false
theorem trimZ (s c : ByteArray) (w : World) (hs : s.size <= 9223372036854775807) (hc : c.size < 4294967281) (ha : c.data.toList.all (fun b => decide (b.toNat < 128)) = true) :
 Calls Tryz.prog 175 #[.string s, .string c] w fun e w' => e = .returned (.string ⟨(Lib.trimS s.data.toList c.data.toList).toArray⟩) /\ Grow w w' :=
 Any.strings_Trim_laid Tryz.lays160 (by kernel_rfl) s c w hs hc (ascii_of_all ha)
theorem dw_nil {p : UInt8 -> Bool} : ∀ m : List UInt8, (∀ x ∈ m.dropWhile p, p x = true) -> m.dropWhile p = []
 | [], _ => rfl
 | a :: m, h => by
   rw [List.dropWhile_cons] at h ⊢
   split at h
   . rename_i ha
     rw [if_pos ha]
     exact dw_nil m h
   . rename_i ha
     exact absurd (h a (List.mem_cons_self ..)) ha
theorem dw_iff {p : UInt8 -> Bool} : ∀ m : List UInt8, m.dropWhile p = [] ↔ ∀ x ∈ m, p x = true
 | [] => by simp
 | a :: m => by
   rw [List.dropWhile_cons]
   split
   . rename_i ha
     rw [dw_iff m]
     simp [ha]
   . rename_i ha
     simp [ha]
theorem trim_all (l cs : List UInt8) : Lib.trimS l cs = [] ↔ l.all (cs.contains ·) = true := by
 unfold Lib.trimS Lib.trimLeftS Lib.trimRightS
 constructor
 . intro h
   have h1 := (dw_iff _).1 h
   have h2 := dw_nil l.reverse (fun x hx => h1 x (List.mem_reverse.2 hx))
   have h3 := (dw_iff _).1 h2
   exact List.all_eq_true.2 fun x hx => h3 x (List.mem_reverse.2 hx)
 . intro h
   have h3 := List.all_eq_true.1 h
   rw [(dw_iff _).2 (fun x hx => h3 x (List.mem_reverse.1 hx))]
   rfl
def dig10 (b : UInt8) : Bool := decide (48 <= b.toNat /\ b.toNat <= 57)
theorem dig10_set (b : UInt8) : ([48, 49, 50, 51, 52, 53, 54, 55, 56, 57] : List UInt8).contains b = dig10 b := by
 have h : ∀ n : Nat, n < 256 -> ([48, 49, 50, 51, 52, 53, 54, 55, 56, 57] : List UInt8).contains (UInt8.ofNat n) = dig10 (UInt8.ofNat n) := by decide +kernel
 have := h b.toNat b.toNat_lt
 rwa [UInt8.ofNat_toNat] at this
def allDig (l : List UInt8) : Bool := !l.isEmpty && l.all dig10
theorem str_nil (a : ByteArray) : (a.toList == []) = decide (a.data.toList = []) := by
 rw [Lib.toList_data]
 cases a.data.toList <;> rfl
theorem isDigits_any (s : ByteArray) (hs : s.size <= 1000000) (w : World) : Calls Tryz.prog 174 #[.string s] w fun e w' => e = .returned (.bool (allDig s.data.toList)) /\ Grow w w' := by
 obtain ⟨T, hT⟩ : ∃ T : ByteArray, T = ⟨(Lib.trimS s.data.toList (⟨#[48, 49, 50, 51, 52, 53, 54, 55, 56, 57]⟩ : ByteArray).data.toList).toArray⟩ := ⟨_, rfl⟩
 have K := Lib.hid (fun W => trimZ s ⟨#[48, 49, 50, 51, 52, 53, 54, 55, 56, 57]⟩ W (by omega) (by decide) (by decide))
 rw [<- hT] at K
 have HT : Hid ((T.toList == []) = s.data.toList.all dig10) := by
  show _ = _
  rw [str_nil, hT]
  have := trim_all s.data.toList [48, 49, 50, 51, 52, 53, 54, 55, 56, 57]
  rw [show (fun x => ([48, 49, 50, 51, 52, 53, 54, 55, 56, 57] : List UInt8).contains x) = dig10 from funext dig10_set] at this
  show decide (Lib.trimS s.data.toList [48, 49, 50, 51, 52, 53, 54, 55, 56, 57] = []) = _
  cases h : s.data.toList.all dig10 with
  | true => exact decide_eq_true (this.2 h)
  | false => exact decide_eq_false (fun e => by rw [this.1 e] at h; cases h)
 by_cases h0 : (s.toList == []) = true
 . have e : allDig s.data.toList = false := by
    rw [str_nil, decide_eq_true_eq] at h0
    rw [h0]; rfl
   rw [e]
   clear HT hT e
   go_enter Tryz.func174, Tryz.ntmps174
   go_wp2
   go_ret
   exact ⟨rfl, Grow.refl _⟩
 . have h0' : (s.toList == []) = false := by simpa using h0
   have e : Hid (allDig s.data.toList = s.data.toList.all dig10) := by
    show _ = _
    rw [str_nil, decide_eq_false_iff_not] at h0'
    cases hl : s.data.toList with
    | nil => exact absurd hl h0'
    | cons a b => rfl
   have HR : Hid ((T.toList == []) = allDig s.data.toList) := by show _ = _; rw [HT.out, e.out]
   generalize allDig s.data.toList = R at *
   clear HT e h0 hT
   have hr := HR.out
   go_enter Tryz.func174, Tryz.ntmps174
   go_wp2_with fail
   refine (K.out _).mono ?_
   rintro e w2 ⟨rfl, g⟩
   have G : Hid (Grow w w2) := g
   clear g
   go_wp2
   go_ret
   exact ⟨rfl, G.out⟩
end Go.Proofs.YtobfdcdobhhagaaGreatDoor.D6
namespace Go.Proofs.YtobfdcdobhhagaaGreatDoor.D6
set_option maxRecDepth 8000
open Go.RowKit
set_option linter.unusedVariables false
theorem isPart_any (s : ByteArray) (hs : s.size <= 1000000) (w : World) : Calls Tryz.prog 143 #[.string s] w fun e w' => e = .returned (.bool (allDig s.data.toList && decide (s.size <= 18))) /\ Grow w w' := by
 have K := Lib.hid (fun W => isDigits_any s hs W)
 generalize allDig s.data.toList = R at *
 cases R
 . go_enter Tryz.func143, Tryz.ntmps143
   go_wp2_with fail
   refine (K.out _).mono ?_
   rintro e w2 ⟨rfl, g⟩
   have G : Hid (Grow w w2) := g
   clear g
   go_wp2
   go_ret
   exact ⟨rfl, G.out⟩
 . by_cases h : s.size <= 18
   all_goals
    have e : decide (s.size <= 18) = decide ((s.size : Int) <= 18) := by simp; omega
    have HE := Lib.hid e
    clear e
    go_enter Tryz.func143, Tryz.ntmps143
    go_wp2_with fail
    refine (K.out _).mono ?_
    rintro e w2 ⟨rfl, g⟩
    have G : Hid (Grow w w2) := g
    clear g
    go_wp2
    go_ret
    exact ⟨by rw [HE.out]; rfl, G.out⟩
def wholeB (s : ByteArray) : Bool := allDig s.data.toList && (decide (¬ s.data.toList.head? = some 48) || decide (s.size = 1))
theorem dig_pos {s : ByteArray} (h : allDig s.data.toList = true) : 0 < s.size := by
 rw [size_list]
 cases hl : s.data.toList with
 | nil => rw [hl] at h; cases h
 | cons a r => simp
theorem byte_at (s : ByteArray) (i : Nat) (h : i < s.size) (h' : i < s.data.toList.length) : s[i] = s.data.toList[i] := by
 rw [Array.getElem_toList]
 rfl
theorem whole_eq (s : ByteArray) (h0 : 0 < s.size) (hd : allDig s.data.toList = true) : wholeB s = (decide (¬ ((s[0]'h0).toNat : Int) = 48) || decide (s.size = 1)) := by
 unfold wholeB
 rw [hd, Bool.true_and]
 congr 1
 apply decide_eq_decide.2
 have hl : 0 < s.data.toList.length := by rw [<- size_list]; exact h0
 rw [byte_at s 0 h0 hl, List.head?_eq_getElem?, List.getElem?_eq_getElem hl]
 generalize s.data.toList[0] = a
 constructor
 . intro h e
   apply h
   congr 1
   apply UInt8.toNat_inj.1
   show a.toNat = 48
   omega
 . intro h e
   injection e with e
   apply h
   rw [e]
   rfl
theorem isWhole_any (s : ByteArray) (hs : s.size <= 1000000) (w : World) : Calls Tryz.prog 142 #[.string s] w fun e w' => e = .returned (.bool (wholeB s)) /\ Grow w w' := by
 have K := Lib.hid (fun W => isDigits_any s hs W)
 cases hd : allDig s.data.toList with
 | false =>
   have e : wholeB s = false := by unfold wholeB; rw [hd]; rfl
   rw [hd] at K
   rw [e]
   clear hd e
   go_enter Tryz.func142, Tryz.ntmps142
   go_wp2_with fail
   refine (K.out _).mono ?_
   rintro e w2 ⟨rfl, g⟩
   have G : Hid (Grow w w2) := g
   clear g
   go_wp2
   go_ret
   exact ⟨rfl, G.out⟩
 | true =>
   have h0 := dig_pos hd
   have HE := Lib.hid (whole_eq s h0 hd)
   rw [hd] at K
   clear hd
   go_enter Tryz.func142, Tryz.ntmps142
   go_wp2_with fail
   refine (K.out _).mono ?_
   rintro e w2 ⟨rfl, g⟩
   have G : Hid (Grow w w2) := g
   clear g
   go_wp2
   . rename_i h
     go_ret
     refine ⟨?_, G.out⟩
     rw [HE.out]
     show Ending.returned (.bool ((s.size : Int) == 1)) = _
     congr 2
     simp only [h, not_true_eq_false, decide_false, Bool.false_or]
     by_cases e : s.size = 1
     . simp [e]
     . have : ¬ (s.size : Int) = 1 := by omega
       simp [e, this]
   . rename_i h
     go_ret
     refine ⟨?_, G.out⟩
     rw [HE.out]
     simp only [h, not_false_eq_true, decide_true, Bool.true_or]
     rfl
def noughtB (l : List UInt8) : Bool := l.all (([48, 46] : List UInt8).contains ·)
theorem isNought_any (s : ByteArray) (hs : s.size <= 1000000) (w : World) : Calls Tryz.prog 144 #[.string s] w fun e w' => e = .returned (.bool (noughtB s.data.toList)) /\ Grow w w' := by
 obtain ⟨T, hT⟩ : ∃ T : ByteArray, T = ⟨(Lib.trimS s.data.toList (⟨#[48, 46]⟩ : ByteArray).data.toList).toArray⟩ := ⟨_, rfl⟩
 have K := Lib.hid (fun W => trimZ s ⟨#[48, 46]⟩ W (by omega) (by decide) (by decide))
 rw [<- hT] at K
 have HT : Hid ((T.toList == []) = noughtB s.data.toList) := by
  show _ = _
  rw [str_nil, hT]
  have := trim_all s.data.toList [48, 46]
  show decide (Lib.trimS s.data.toList [48, 46] = []) = _
  cases h : noughtB s.data.toList with
  | true => exact decide_eq_true (this.2 h)
  | false => exact decide_eq_false (fun e => by rw [show noughtB s.data.toList = true from this.1 e] at h; cases h)
 generalize noughtB s.data.toList = R at *
 clear hT
 have hr := HT.out
 go_enter Tryz.func144, Tryz.ntmps144
 go_wp2_with fail
 refine (K.out _).mono ?_
 rintro e w2 ⟨rfl, g⟩
 have G : Hid (Grow w w2) := g
 clear g
 go_wp2
 go_ret
 exact ⟨rfl, G.out⟩
end Go.Proofs.YtobfdcdobhhagaaGreatDoor.D6
namespace Go.Proofs.YtobfdcdobhhagaaGreatDoor.D6
set_option maxRecDepth 8000
open Go.RowKit
set_option linter.unusedVariables false
def numL (l : List UInt8) : Nat := l.foldl (fun n b => n * 10 + (b.toNat - 48)) 0
theorem numL_snoc (l : List UInt8) (b : UInt8) : numL (l ++ [b]) = numL l * 10 + (b.toNat - 48) := by simp [numL, List.foldl_append]
theorem numL_lt : ∀ (n : Nat) (l : List UInt8), l.length = n -> l.all dig10 = true -> numL l < 10 ^ n
 | 0, l, h, _ => by
   obtain rfl := List.eq_nil_of_length_eq_zero h
   decide
 | n + 1, l, h, ha => by
   obtain ⟨r, b, rfl⟩ : ∃ r b, l = r ++ [b] := ⟨l.dropLast, l.getLast (by intro e; rw [e] at h; cases h), (List.dropLast_concat_getLast _).symm⟩
   rw [List.length_append] at h
   rw [List.all_append, Bool.and_eq_true] at ha
   have h1 := numL_lt n r (by simpa using h) ha.1
   have h2 : dig10 b = true := by simpa using ha.2
   unfold dig10 at h2
   rw [decide_eq_true_eq] at h2
   rw [numL_snoc, Nat.pow_succ]
   omega
theorem wordOf_any (s : ByteArray) (hs : s.size <= 19) (hd : s.data.toList.all dig10 = true) (w : World) : Calls Tryz.prog 146 #[.string s] w fun e w' => e = .returned (.int .u64 (numL s.data.toList : Int)) /\ w' = w := by
 have HD := Lib.hid hd
 clear hd
 go_enter Tryz.func146, Tryz.ntmps146
 go_wp2
 go_loopw [3, 7] (fun p q wr => ∃ i v : Nat, i <= s.size /\ p = .int .u64 (v : Int) /\ q = .int .i64 (i : Int) /\ wr = w /\ Hid (numL (s.data.toList.take i) = v)) (fun _ q _ => s.size - (intOf q).toNat)
 case atStart => exact ⟨0, 0, Nat.zero_le _, rfl, rfl, rfl, rfl⟩
 case round =>
  obtain ⟨i, v, hi, rfl, rfl, rfl, HV⟩ := hrel
  by_cases hlt : i < s.size
  case neg =>
   go_wp2
   go_ret
   have e : i = s.size := by omega
   subst e
   refine ⟨?_, rfl⟩
   have h := HV.out
   rw [size_list, List.take_length] at h
   rw [h]
   rfl
  have hl : i < s.data.toList.length := by rw [<- size_list]; exact hlt
  have eb : (s[i]'hlt) = s.data.toList[i] := byte_at s i hlt hl
  have hb : 48 <= (s[i]'hlt).toNat /\ (s[i]'hlt).toNat <= 57 := by
   rw [eb]
   have := List.all_eq_true.1 HD.out _ (List.getElem_mem hl)
   unfold dig10 at this
   rwa [decide_eq_true_eq] at this
  have hn : numL (s.data.toList.take (i + 1)) = v * 10 + ((s[i]'hlt).toNat - 48) := by
   rw [List.take_add_one, List.getElem?_eq_getElem hl, Option.toList_some, numL_snoc, HV.out, eb]
  have hm : v * 10 + ((s[i]'hlt).toNat - 48) < 18446744073709551616 := by
   rw [<- hn]
   have h1 := numL_lt (s.data.toList.take (i + 1)).length _ rfl (List.all_eq_true.2 fun x hx => List.all_eq_true.1 HD.out x (List.mem_of_mem_take hx))
   have h2 : (s.data.toList.take (i + 1)).length <= 19 := by
    rw [List.length_take, <- size_list]
    omega
   exact Nat.lt_of_lt_of_le h1 (Nat.le_trans (pow_le h2) (by decide))
  have HN := Lib.hid hn
  clear hn eb hl
  obtain ⟨b0, b1⟩ := hb
  go_wp2
  go_roundw
  case rel => exact ⟨i + 1, v * 10 + ((s[i]'hlt).toNat - 48), by omega, by go_num, by go_num, trivial, HN.out⟩
  case measure => simp [intOf]; omega
end Go.Proofs.YtobfdcdobhhagaaGreatDoor.D6
