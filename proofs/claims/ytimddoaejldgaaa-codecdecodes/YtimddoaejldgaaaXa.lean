/-
  codec's reader: fail, take, next.
-/
import Derived.Test.YtimddoaejldgaaaWh
import Derived.Test.YtimddoaejldgaaaOruvr
namespace Go.Proofs.Ytimddoaejldgaaa
open Go.RowKit Math
set_option linter.unusedVariables false
theorem ret_ite {a b : Int} (c : Prop) [Decidable c] (h : c) : Ending.returned (.int .i64 a) = .returned (.int .i64 (if c then a else b)) := by rw [if_pos h]
set_option maxRecDepth 8000 in
theorem or_any (a b : Int) (g c : Nat) (w : World) (h0 : w.cell? ⟨g, 0, none⟩ = some (.int .i64 a)) (h1 : w.cell? ⟨g, 1, none⟩ = some (.int .i64 b)) :
    Calls Try.prog 46 #[.slice (some ⟨g, 0, none⟩) 2 c] w fun e w' => e = .returned (.int .i64 (if a ≠ 0 then a else b)) ∧ w' = w := by
  have H0 : Hid (w.cell? ⟨g, 0, none⟩ = some (.int .i64 a)) := h0
  have H1 : Hid (w.cell? ⟨g, 1, none⟩ = some (.int .i64 b)) := h1
  clear h0 h1
  obtain ⟨E, HE⟩ : ∃ E, Hid ((if a ≠ 0 then a else b) = E) := ⟨_, rfl⟩
  rw [HE.out]
  go_enter Try.func46, Try.ntmps46
  go_wp2
  go_loopw [8] (fun i wr => ∃ k : Nat, k ≤ 2 ∧ i = .int .i64 (k : Int) ∧ wr = w ∧ Hid (1 ≤ k → a = 0) ∧ Hid (2 ≤ k → b = 0)) (fun i _ => 2 - (intOf i).toNat)
  case atStart => exact ⟨0, by omega, rfl, rfl, fun h => by omega, fun h => by omega⟩
  case round =>
    obtain ⟨k, hk, rfl, rfl, HA, HB⟩ := hrel
    by_cases k2 : k = 2
    · subst k2
      have ha := HA.out (by omega)
      have hb := HB.out (by omega)
      go_wp2
      go_ret
      exact ⟨ret_int (by rw [← HE.out, ha, hb]; rfl), rfl⟩
    by_cases k1 : k = 1
    · subst k1
      have c1 := H1.out
      by_cases hb : b = 0
      · have hbb : (b != 0) = false := by simpa using hb
        have HB0 : Hid (b = 0) := hb
        clear hb
        go_wp2
        go_roundw
        case rel => exact ⟨2, by omega, rfl, trivial, fun _ => HA.out (by omega), fun _ => HB0.out⟩
        case measure => simp [intOf]
      · have hbb : (b != 0) = true := by simpa using hb
        have ha := HA.out (by omega)
        have HAA : Hid (a = 0) := ha
        clear ha
        go_wp2
        go_ret
        exact ⟨ret_int (by rw [← HE.out, if_neg (by simpa using HAA.out)]), rfl⟩
    obtain rfl : k = 0 := by omega
    have c0 := H0.out
    by_cases ha : a = 0
    · have hab : (a != 0) = false := by simpa using ha
      have HA0 : Hid (a = 0) := ha
      clear ha
      go_wp2
      go_roundw
      case rel => exact ⟨1, by omega, rfl, trivial, fun _ => HA0.out, fun h => by omega⟩
      case measure => simp [intOf]
    · have hab : (a != 0) = true := by simpa using ha
      go_wp2
      go_ret
      exact ⟨ret_int (by rw [← HE.out, if_pos ha]), rfl⟩
theorem or_lit (a b : Int) (w : World) : Calls Try.prog 46 #[.slice (some ⟨w.heap.size, 0, none⟩) 2 2] (w.alloc (.cells #[.int .i64 a, .int .i64 b] 30)) fun e w' => e = .returned (.int .i64 (if a ≠ 0 then a else b)) ∧ w' = w.alloc (.cells #[.int .i64 a, .int .i64 b] 30) :=
  or_any a b w.heap.size 2 _ (by simp [World.cell?_alloc_new]) (by simp [World.cell?_alloc_new])
/-- The reader in memory, and what is as it was. -/
structure Ro (r : Nat) (ab : Option Addr) (cb N : Nat) (W w' : World) (i : Nat) (err : Int) : Prop where
  blk : Blk w' r 83 [.slice ab N cb, .int .i64 (i : Int), .int .i64 err]
  le : i ≤ N
  gr : W.grownBy w' (some r)
theorem Ro.trans {r : Nat} {ab : Option Addr} {cb N : Nat} {W w1 w2 : World} {i j : Nat} {e f : Int} (h : Ro r ab cb N W w1 i e) (k : Ro r ab cb N w1 w2 j f) : Ro r ab cb N W w2 j f := ⟨k.blk, k.le, h.gr.trans k.gr⟩
theorem Ro.after {r : Nat} {ab : Option Addr} {cb N : Nat} {W w1 w2 : World} {j : Nat} {f : Int} (g : Below W.heap.size W w1) (k : Ro r ab cb N w1 w2 j f) : Ro r ab cb N W w2 j f :=
  ⟨k.blk, k.le, ⟨k.gr.os.trans g.os, k.gr.tape.trans g.tape, k.gr.output.trans g.output, Nat.le_trans g.size k.gr.size, fun i hi hne => (k.gr.block i (Nat.lt_of_lt_of_le hi g.size) hne).trans (g.block i hi)⟩⟩
theorem s30 : (Try.prog.info? 30).map (·.size) = some 1 := by kernel_rfl
theorem s3 : (Try.prog.info? 3).map (·.size) = some 1 := by kernel_rfl
set_option maxRecDepth 8000 in
theorem fail_any (r : Nat) (ab : Option Addr) (cb N i : Nat) (hi : i ≤ N) (err e : Int) (W : World) (hb : Blk W r 83 [.slice ab N cb, .int .i64 (i : Int), .int .i64 err]) :
    Calls Try.prog 60 #[.pointer (some ⟨r, 0, none⟩), .int .i64 e] W fun e' w' => e' = .returned (.tuple #[]) ∧ Hid (Ro r ab cb N W w' i (if err ≠ 0 then err else e)) := by
  have c2 : W.cell? ⟨r, 2, none⟩ = some (.int .i64 err) := hb.cell 2
  have HB : Hid (Blk (W.alloc (.cells #[.int .i64 err, .int .i64 e] 30)) r 83 [.slice ab N cb, .int .i64 (i : Int), .int .i64 err]) := hb.alloc _
  have HG : Hid (W.grownBy (W.alloc (.cells #[.int .i64 err, .int .i64 e] 30)) (some r)) := World.grownBy_alloc W _ _
  have K := or_lit err e W
  generalize (if err ≠ 0 then err else e) = E at *
  clear hb
  go_enter Try.func60, Try.ntmps60
  go_wp2_with fail
  refine K.mono ?_
  clear K
  generalize W.alloc (.cells #[.int .i64 err, .int .i64 e] 30) = W1 at *
  rintro e w1 ⟨rfl, hw⟩
  have hw' := hw.symm
  subst hw'
  clear hw
  go_wp2_with (refine st_one rfl 30 (.tmp 13) (.tmp 11) rfl r 2 83 _ _ rfl rfl rfl rfl (by simp) HB.out s30 ?_)
  intro w2 b2 g2
  have HR : Hid (Ro r ab cb N W w2 i E) := ⟨b2, hi, HG.out.trans g2⟩
  clear b2 g2 HB HG
  go_wp2
  go_end0
  exact ⟨rfl, HR.out⟩
end Go.Proofs.Ytimddoaejldgaaa
