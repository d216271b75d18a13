/-
  codec's reader: uvarint, signed, truth, length.
-/
import Derived.Test.YtimddoaejldgaaaXc
namespace Go.Proofs.Ytimddoaejldgaaa
open Go.RowKit Math
set_option linter.unusedVariables false
set_option maxRecDepth 8000 in
theorem uv_err (r : Nat) (ab : Option Addr) (cb N i : Nat) (err : Int) (he : err ≠ 0) (W : World) (hb : Blk W r 83 [.slice ab N cb, .int .i64 (i : Int), .int .i64 err]) :
    Calls Try.prog 64 #[.pointer (some ⟨r, 0, none⟩)] W fun e w' => e = .returned (.int .u64 0) ∧ w' = W := by
  have c2 : W.cell? ⟨r, 2, none⟩ = some (.int .i64 err) := hb.cell 2
  have hne : (err != 0) = true := by simpa using he
  clear hb
  go_enter Try.func64, Try.ntmps64
  go_wp2
  go_ret
  exact ⟨rfl, rfl⟩
set_option maxRecDepth 8000 in
theorem uv_none (r : Nat) (j u n e : Nat) (hj : n = j) (hn : n ≤ 10) (hjN : j ≤ 0) (W : World) (hb : Blk W r 83 [.slice none 0 0, .int .i64 0, .int .i64 0])
    (KS : Hid (∀ q, Calls Try.prog 74 #[.slice none 0 0] (W.drewN q) fun e' w' => e' = .returned (.tuple #[.int .u64 (u : Int), .int .i64 (n : Int), .int .i64 (e : Int)]) ∧ w' = W.drewN q)) :
    Calls Try.prog 64 #[.pointer (some ⟨r, 0, none⟩)] W fun e' w' => e' = .returned (.int .u64 (u : Int)) ∧ Hid (Ro r none 0 0 W w' j (e : Int)) := by
  have c0 : W.cell? ⟨r, 0, none⟩ = some (.slice none 0 0) := hb.cell 0
  have c1 : W.cell? ⟨r, 1, none⟩ = some (.int .i64 0) := hb.cell 1
  have c2 : W.cell? ⟨r, 2, none⟩ = some (.int .i64 0) := hb.cell 2
  have HB : Hid (Blk W r 83 [.slice none 0 0, .int .i64 0, .int .i64 0]) := hb
  have hin : (n : Int) = (j : Int) := by omega
  clear hb hj
  go_enter Try.func64, Try.ntmps64
  go_wp2
  go_quiet (exact Calls.quiet_of_same (KS.out _))
  clear KS
  have HB2 : Hid (Blk (W.drewN nq) r 83 [.slice none 0 0, .int .i64 0, .int .i64 0]) := HB.out.drewN nq
  have HG2 : Hid (W.grownBy (W.drewN nq) (some r)) := grown_dq W nq _
  generalize W.drewN nq = W2 at *
  have K := fail_any r none 0 0 0 (Nat.le_refl _) 0 (e : Int) W2 HB2.out
  simp only [ne_eq, not_true_eq_false, if_false] at K
  clear c0 c1 c2 HB
  go_wp2_with fail
  refine K.mono ?_
  clear K
  rintro e' w3 ⟨rfl, H3⟩
  have HB3 : Hid (Blk w3 r 83 [.slice none 0 0, .int .i64 0, .int .i64 (e : Int)]) := H3.out.blk
  have HG3 : Hid (W.grownBy w3 (some r)) := HG2.out.trans H3.out.gr
  have d1 : w3.cell? ⟨r, 1, none⟩ = some (.int .i64 0) := HB3.out.cell 1
  clear H3 HB2 HG2
  go_wp2_with (refine st_one rfl 3 (.tmp 35) (.tmp 33) rfl r 1 83 _ (.int .i64 (j : Int)) rfl rfl rfl rfl (by simp) HB3.out s3 ?_)
  intro w4 b4 g4
  have HR : Hid (Ro r none 0 0 W w4 j (e : Int)) := ⟨b4, hjN, HG3.out.trans g4⟩
  clear b4 g4 HB3 HG3 d1
  go_wp2
  go_ret
  exact ⟨rfl, HR.out⟩
set_option maxRecDepth 8000 in
theorem uv_end (r : Nat) (bb ob N j u n e : Nat) (hj : N + n = j) (hn : n ≤ 10) (hN : N ≤ 1000000) (hjN : j ≤ N) (W : World) (hb : Blk W r 83 [.slice (some ⟨bb, ob, none⟩) N N, .int .i64 (N : Int), .int .i64 0])
    (KS : Hid (∀ q, Calls Try.prog 74 #[.slice (some ⟨bb, ob, none⟩) 0 0] (W.drewN q) fun e' w' => e' = .returned (.tuple #[.int .u64 (u : Int), .int .i64 (n : Int), .int .i64 (e : Int)]) ∧ w' = W.drewN q)) :
    Calls Try.prog 64 #[.pointer (some ⟨r, 0, none⟩)] W fun e' w' => e' = .returned (.int .u64 (u : Int)) ∧ Hid (Ro r (some ⟨bb, ob, none⟩) N N W w' j (e : Int)) := by
  have c0 : W.cell? ⟨r, 0, none⟩ = some (.slice (some ⟨bb, ob, none⟩) N N) := hb.cell 0
  have c1 : W.cell? ⟨r, 1, none⟩ = some (.int .i64 (N : Int)) := hb.cell 1
  have c2 : W.cell? ⟨r, 2, none⟩ = some (.int .i64 0) := hb.cell 2
  have HB : Hid (Blk W r 83 [.slice (some ⟨bb, ob, none⟩) N N, .int .i64 (N : Int), .int .i64 0]) := hb
  have hin : (N : Int) + (n : Int) = (j : Int) := by omega
  clear hb hj
  go_enter Try.func64, Try.ntmps64
  go_wp2
  go_quiet (exact Calls.quiet_of_same (KS.out _))
  clear KS
  have HB2 : Hid (Blk (W.drewN nq) r 83 [.slice (some ⟨bb, ob, none⟩) N N, .int .i64 (N : Int), .int .i64 0]) := HB.out.drewN nq
  have HG2 : Hid (W.grownBy (W.drewN nq) (some r)) := grown_dq W nq _
  generalize W.drewN nq = W2 at *
  have K := fail_any r (some ⟨bb, ob, none⟩) N N N (Nat.le_refl _) 0 (e : Int) W2 HB2.out
  simp only [ne_eq, not_true_eq_false, if_false] at K
  clear c0 c1 c2 HB
  go_wp2_with fail
  refine K.mono ?_
  clear K
  rintro e' w3 ⟨rfl, H3⟩
  have HB3 : Hid (Blk w3 r 83 [.slice (some ⟨bb, ob, none⟩) N N, .int .i64 (N : Int), .int .i64 (e : Int)]) := H3.out.blk
  have HG3 : Hid (W.grownBy w3 (some r)) := HG2.out.trans H3.out.gr
  have d1 : w3.cell? ⟨r, 1, none⟩ = some (.int .i64 (N : Int)) := HB3.out.cell 1
  clear H3 HB2 HG2
  go_wp2_with (refine st_one rfl 3 (.tmp 35) (.tmp 33) rfl r 1 83 _ (.int .i64 (j : Int)) rfl rfl rfl rfl (by simp) HB3.out s3 ?_)
  intro w4 b4 g4
  have HR : Hid (Ro r (some ⟨bb, ob, none⟩) N N W w4 j (e : Int)) := ⟨b4, hjN, HG3.out.trans g4⟩
  clear b4 g4 HB3 HG3 d1
  go_wp2
  go_ret
  exact ⟨rfl, HR.out⟩
set_option maxRecDepth 8000 in
theorem uv_mid (r : Nat) (bb ob cb N i j u n e : Nat) (hj : i + n = j) (hn : n ≤ 10) (hi : i ≤ N) (hN : N ≤ 1000000) (hcb : N ≤ cb) (hcm : cb ≤ 9223372036854775807) (hjN : j ≤ N) (hci : ¬ cb = i) (W : World) (hb : Blk W r 83 [.slice (some ⟨bb, ob, none⟩) N cb, .int .i64 (i : Int), .int .i64 0])
    (KS : Hid (∀ q, Calls Try.prog 74 #[.slice (some ⟨bb, ob + i, none⟩) (N - i) (cb - i)] (W.drewN q) fun e' w' => e' = .returned (.tuple #[.int .u64 (u : Int), .int .i64 (n : Int), .int .i64 (e : Int)]) ∧ w' = W.drewN q)) :
    Calls Try.prog 64 #[.pointer (some ⟨r, 0, none⟩)] W fun e' w' => e' = .returned (.int .u64 (u : Int)) ∧ Hid (Ro r (some ⟨bb, ob, none⟩) cb N W w' j (e : Int)) := by
  have c0 : W.cell? ⟨r, 0, none⟩ = some (.slice (some ⟨bb, ob, none⟩) N cb) := hb.cell 0
  have c1 : W.cell? ⟨r, 1, none⟩ = some (.int .i64 (i : Int)) := hb.cell 1
  have c2 : W.cell? ⟨r, 2, none⟩ = some (.int .i64 0) := hb.cell 2
  have HB : Hid (Blk W r 83 [.slice (some ⟨bb, ob, none⟩) N cb, .int .i64 (i : Int), .int .i64 0]) := hb
  have hin : (i : Int) + (n : Int) = (j : Int) := by omega
  have hiN : (i : Int) ≤ (N : Int) := by omega
  clear hb hj
  go_enter Try.func64, Try.ntmps64
  go_wp2
  go_quiet (exact Calls.quiet_of_same (KS.out _))
  clear KS
  have HB2 : Hid (Blk (W.drewN nq) r 83 [.slice (some ⟨bb, ob, none⟩) N cb, .int .i64 (i : Int), .int .i64 0]) := HB.out.drewN nq
  have HG2 : Hid (W.grownBy (W.drewN nq) (some r)) := grown_dq W nq _
  generalize W.drewN nq = W2 at *
  have K := fail_any r (some ⟨bb, ob, none⟩) cb N i hi 0 (e : Int) W2 HB2.out
  simp only [ne_eq, not_true_eq_false, if_false] at K
  clear c0 c1 c2 HB
  go_wp2_with fail
  refine K.mono ?_
  clear K
  rintro e' w3 ⟨rfl, H3⟩
  have HB3 : Hid (Blk w3 r 83 [.slice (some ⟨bb, ob, none⟩) N cb, .int .i64 (i : Int), .int .i64 (e : Int)]) := H3.out.blk
  have HG3 : Hid (W.grownBy w3 (some r)) := HG2.out.trans H3.out.gr
  have d1 : w3.cell? ⟨r, 1, none⟩ = some (.int .i64 (i : Int)) := HB3.out.cell 1
  clear H3 HB2 HG2
  go_wp2_with (refine st_one rfl 3 (.tmp 35) (.tmp 33) rfl r 1 83 _ (.int .i64 (j : Int)) rfl rfl rfl rfl (by simp) HB3.out s3 ?_)
  intro w4 b4 g4
  have HR : Hid (Ro r (some ⟨bb, ob, none⟩) cb N W w4 j (e : Int)) := ⟨b4, hjN, HG3.out.trans g4⟩
  clear b4 g4 HB3 HG3 d1
  go_wp2
  go_ret
  exact ⟨rfl, HR.out⟩
end Go.Proofs.Ytimddoaejldgaaa
