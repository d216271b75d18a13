/-
  codec's reader: take, next.
-/
import Derived.Test.YtimddoaejldgaaaXa
namespace Go.Proofs.Ytimddoaejldgaaa
open Go.RowKit Math
set_option linter.unusedVariables false
theorem Blk.drewN {w : World} {b : Nat} {t : TypeId} {vs : List Value} (h : Blk w b t vs) (q : Nat) : Blk (w.drewN q) b t vs := by
  unfold Blk at *; simpa using h
theorem grown_dq (w : World) (q : Nat) (row : Option Nat) : w.grownBy (w.drewN q) row := ⟨rfl, rfl, rfl, Nat.le_refl _, fun _ _ _ => rfl⟩
set_option maxRecDepth 8000 in
theorem take_ok (r : Nat) (bb ob cb N i n j : Nat) (hj : i + n = j) (hi : j ≤ N) (hN : N ≤ 1000000) (hcb : N ≤ cb) (hcm : cb ≤ 9223372036854775807) (W : World) (hb : Blk W r 83 [.slice (some ⟨bb, ob, none⟩) N cb, .int .i64 (i : Int), .int .i64 0]) :
    Calls Try.prog 72 #[.pointer (some ⟨r, 0, none⟩), .int .i64 (n : Int)] W fun e w' => ∃ o c, e = .returned (.slice (some ⟨bb, o, none⟩) n c) ∧ Hid (Ro r (some ⟨bb, ob, none⟩) cb N W w' j 0 ∧ (0 < n → o = ob + i)) := by
  have c0 : W.cell? ⟨r, 0, none⟩ = some (.slice (some ⟨bb, ob, none⟩) N cb) := hb.cell 0
  have c1 : W.cell? ⟨r, 1, none⟩ = some (.int .i64 (i : Int)) := hb.cell 1
  have c2 : W.cell? ⟨r, 2, none⟩ = some (.int .i64 0) := hb.cell 2
  have HB : Hid (Blk W r 83 [.slice (some ⟨bb, ob, none⟩) N cb, .int .i64 (i : Int), .int .i64 0]) := hb
  have hgt : decide ((N : Int) - (i : Int) < (n : Int)) = false := by simp; omega
  have hin : (i : Int) + (n : Int) = (j : Int) := by omega
  have hjn : (j : Int) - (n : Int) = (i : Int) := by omega
  have hij : i ≤ j := by omega
  have hjcb : j ≤ cb := by omega
  have hje : j - i = n := by omega
  clear hb hj
  go_enter Try.func72, Try.ntmps72
  go_wp2
  go_quiet (fail)
  have HB2 : Hid (Blk (W.drewN nq) r 83 [.slice (some ⟨bb, ob, none⟩) N cb, .int .i64 (i : Int), .int .i64 0]) := HB.out.drewN nq
  have HG2 : Hid (W.grownBy (W.drewN nq) (some r)) := grown_dq W nq _
  generalize W.drewN nq = W2 at *
  clear c0 c1 c2 HB
  have c0 : W2.cell? ⟨r, 0, none⟩ = some (.slice (some ⟨bb, ob, none⟩) N cb) := HB2.out.cell 0
  have c1 : W2.cell? ⟨r, 1, none⟩ = some (.int .i64 (i : Int)) := HB2.out.cell 1
  have c2 : W2.cell? ⟨r, 2, none⟩ = some (.int .i64 0) := HB2.out.cell 2
  go_wp2_with (refine st_one rfl 3 (.tmp 31) (.tmp 29) rfl r 1 83 _ (.int .i64 (j : Int)) rfl rfl rfl rfl (by simp) HB2.out s3 ?_)
  intro w3 b3 g3
  have HR : Hid (Ro r (some ⟨bb, ob, none⟩) cb N W w3 j 0) := ⟨b3, hi, HG2.out.trans g3⟩
  clear c0 c1 c2 HB2 HG2 b3 g3
  have d0 : w3.cell? ⟨r, 0, none⟩ = some (.slice (some ⟨bb, ob, none⟩) N cb) := HR.out.blk.cell 0
  have d1 : w3.cell? ⟨r, 1, none⟩ = some (.int .i64 (j : Int)) := HR.out.blk.cell 1
  go_wp2
  go_quiet (fail)
  have HR3 : Hid (Ro r (some ⟨bb, ob, none⟩) cb N W (w3.drewN nq) j 0) := ⟨HR.out.blk.drewN nq, HR.out.le, HR.out.gr.trans (grown_dq _ _ _)⟩
  generalize w3.drewN nq = w4 at *
  clear HR d0 d1
  by_cases hci : cb = i
  · subst hci
    have hn0 : ¬ 0 < n := by omega
    go_wp2
    go_ret
    exact ⟨_, _, rfl, HR3.out, fun h => absurd h hn0⟩
  · go_wp2
    go_ret
    first
    | exact ⟨_, _, rfl, HR3.out, fun h => rfl⟩
    | exact ⟨_, ⟨_, rfl⟩, HR3.out, fun h => rfl⟩
    | exact ⟨_, rfl, ⟨HR3.out, fun h => rfl⟩⟩
set_option maxRecDepth 8000 in
theorem take_no (r : Nat) (ab : Option Addr) (cb N i n : Nat) (hi : i ≤ N) (hN : N ≤ 1000000) (err : Int) (hne : err ≠ 0 ∨ N < i + n) (W : World) (hb : Blk W r 83 [.slice ab N cb, .int .i64 (i : Int), .int .i64 err]) :
    Calls Try.prog 72 #[.pointer (some ⟨r, 0, none⟩), .int .i64 (n : Int)] W fun e w' => e = .returned (.slice none 0 0) ∧ Hid (Ro r ab cb N W w' i (if err ≠ 0 then err else 2)) := by
  have c0 : W.cell? ⟨r, 0, none⟩ = some (.slice ab N cb) := hb.cell 0
  have c1 : W.cell? ⟨r, 1, none⟩ = some (.int .i64 (i : Int)) := hb.cell 1
  have c2 : W.cell? ⟨r, 2, none⟩ = some (.int .i64 err) := hb.cell 2
  have HB : Hid (Blk W r 83 [.slice ab N cb, .int .i64 (i : Int), .int .i64 err]) := hb
  obtain ⟨E, HE⟩ : ∃ E, Hid ((if err ≠ 0 then err else 2) = E) := ⟨_, rfl⟩
  have hEn : (E != 0) = true := by
    rw [← HE.out]
    by_cases h : err = 0
    · simp [h]
    · simp [h]
  rw [HE.out]
  clear hb
  by_cases hs : N < i + n
  · have hgt : decide ((N : Int) - (i : Int) < (n : Int)) = true := by simp; omega
    go_enter Try.func72, Try.ntmps72
    go_wp2
    go_quiet (fail)
    have HB2 : Hid (Blk (W.drewN nq) r 83 [.slice ab N cb, .int .i64 (i : Int), .int .i64 err]) := HB.out.drewN nq
    have HG2 : Hid (W.grownBy (W.drewN nq) (some r)) := grown_dq W nq _
    generalize W.drewN nq = W2 at *
    have K := fail_any r ab cb N i hi err 2 W2 HB2.out
    rw [HE.out] at K
    clear c0 c1 c2 HB
    go_wp2_with fail
    refine K.mono ?_
    clear K
    rintro e w3 ⟨rfl, H3⟩
    have HR : Hid (Ro r ab cb N W w3 i E) := ⟨H3.out.blk, H3.out.le, HG2.out.trans H3.out.gr⟩
    have d2 : w3.cell? ⟨r, 2, none⟩ = some (.int .i64 E) := H3.out.blk.cell 2
    clear H3 HB2 HG2
    go_wp2
    go_ret
    exact ⟨rfl, HR.out⟩
  · have hgt : decide ((N : Int) - (i : Int) < (n : Int)) = false := by simp; omega
    have hr0 : err ≠ 0 := by omega
    have hEe : E = err := by rw [← HE.out, if_pos hr0]
    subst hEe
    clear HE hne
    go_enter Try.func72, Try.ntmps72
    go_wp2
    go_quiet (fail)
    have HR : Hid (Ro r ab cb N W (W.drewN nq) i E) := ⟨HB.out.drewN nq, hi, grown_dq _ _ _⟩
    generalize W.drewN nq = W2 at *
    have d2 : W2.cell? ⟨r, 2, none⟩ = some (.int .i64 E) := HR.out.blk.cell 2
    clear c0 c1 c2 HB
    go_wp2
    go_ret
    exact ⟨rfl, HR.out⟩
end Go.Proofs.Ytimddoaejldgaaa
