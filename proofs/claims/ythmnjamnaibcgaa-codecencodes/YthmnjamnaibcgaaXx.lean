/-
  codec's reader: fail, take, next. · codec's reader: take, next. · codec's reader: next, uvarint, signed, truth, length. · codec's reader: uvarint, signed, truth, length. · codec's reader: what uvarint, signed, truth, length read. · codec's reader: text.
-/
import Derived.Test.YthmnjamnaibcgaaWh
import Derived.Test.YthmnjamnaibcgaaOruvr
import Derived.Laws.BytesArg
namespace Go.Proofs.Ythmnjamnaibcgaa
open Go.RowKit Math
set_option linter.unusedVariables false
theorem ret_ite {a b : Int} (c : Prop) [Decidable c] (h : c) : Ending.returned (.int .i64 a) = .returned (.int .i64 (if c then a else b)) := by rw [if_pos h]
set_option maxRecDepth 8000 in
theorem or_any (a b : Int) (g c : Nat) (w : World) (h0 : w.cell? ⟨g, 0, none⟩ = some (.int .i64 a)) (h1 : w.cell? ⟨g, 1, none⟩ = some (.int .i64 b)) :
    Calls Try.prog 44 #[.slice (some ⟨g, 0, none⟩) 2 c] w fun e w' => e = .returned (.int .i64 (if a ≠ 0 then a else b)) ∧ w' = w := by
  have H0 : Hid (w.cell? ⟨g, 0, none⟩ = some (.int .i64 a)) := h0
  have H1 : Hid (w.cell? ⟨g, 1, none⟩ = some (.int .i64 b)) := h1
  clear h0 h1
  obtain ⟨E, HE⟩ : ∃ E, Hid ((if a ≠ 0 then a else b) = E) := ⟨_, rfl⟩
  rw [HE.out]
  go_enter Try.func44, Try.ntmps44
  go_wp2
  go_loopw [8] (fun i wr => ∃ k : Nat, k ≤ 2 ∧ i = .int .i64 (k : Int) ∧ wr = w ∧ Hid (1 ≤ k → a = 0) ∧ Hid (2 ≤ k → b = 0)) (fun i _ => 2 - (intOf i).toNat)
  case atStart => exact ⟨0, by omega, rfl, rfl, fun h => by omega, fun h => by omega⟩
  case round =>
    obtain ⟨k, hk, rfl, rfl, HA, HB⟩ := hrel
    by_cases k2 : k = 2
    · subst k2
      have ha := HA.out (by omega)
      have hb := HB.out (by omega)
      go_wp2
      go_ret
      exact ⟨ret_int (by rw [← HE.out, ha, hb]; rfl), rfl⟩
    by_cases k1 : k = 1
    · subst k1
      have c1 := H1.out
      by_cases hb : b = 0
      · have hbb : (b != 0) = false := by simpa using hb
        have HB0 : Hid (b = 0) := hb
        clear hb
        go_wp2
        go_roundw
        case rel => exact ⟨2, by omega, rfl, trivial, fun _ => HA.out (by omega), fun _ => HB0.out⟩
        case measure => simp [intOf]
      · have hbb : (b != 0) = true := by simpa using hb
        have ha := HA.out (by omega)
        have HAA : Hid (a = 0) := ha
        clear ha
        go_wp2
        go_ret
        exact ⟨ret_int (by rw [← HE.out, if_neg (by simpa using HAA.out)]), rfl⟩
    obtain rfl : k = 0 := by omega
    have c0 := H0.out
    by_cases ha : a = 0
    · have hab : (a != 0) = false := by simpa using ha
      have HA0 : Hid (a = 0) := ha
      clear ha
      go_wp2
      go_roundw
      case rel => exact ⟨1, by omega, rfl, trivial, fun _ => HA0.out, fun h => by omega⟩
      case measure => simp [intOf]
    · have hab : (a != 0) = true := by simpa using ha
      go_wp2
      go_ret
      exact ⟨ret_int (by rw [← HE.out, if_pos ha]), rfl⟩
theorem or_lit (a b : Int) (w : World) : Calls Try.prog 44 #[.slice (some ⟨w.heap.size, 0, none⟩) 2 2] (w.alloc (.cells #[.int .i64 a, .int .i64 b] 30)) fun e w' => e = .returned (.int .i64 (if a ≠ 0 then a else b)) ∧ w' = w.alloc (.cells #[.int .i64 a, .int .i64 b] 30) :=
  or_any a b w.heap.size 2 _ (by simp [World.cell?_alloc_new]) (by simp [World.cell?_alloc_new])
/-- The reader in memory, and what is as it was. -/
structure Ro (r : Nat) (ab : Option Addr) (cb N : Nat) (W w' : World) (i : Nat) (err : Int) : Prop where
  blk : Blk w' r 78 [.slice ab N cb, .int .i64 (i : Int), .int .i64 err]
  le : i ≤ N
  gr : W.grownBy w' (some r)
theorem Ro.trans {r : Nat} {ab : Option Addr} {cb N : Nat} {W w1 w2 : World} {i j : Nat} {e f : Int} (h : Ro r ab cb N W w1 i e) (k : Ro r ab cb N w1 w2 j f) : Ro r ab cb N W w2 j f := ⟨k.blk, k.le, h.gr.trans k.gr⟩
theorem Ro.after {r : Nat} {ab : Option Addr} {cb N : Nat} {W w1 w2 : World} {j : Nat} {f : Int} (g : Below W.heap.size W w1) (k : Ro r ab cb N w1 w2 j f) : Ro r ab cb N W w2 j f :=
  ⟨k.blk, k.le, ⟨k.gr.os.trans g.os, k.gr.tape.trans g.tape, k.gr.output.trans g.output, Nat.le_trans g.size k.gr.size, fun i hi hne => (k.gr.block i (Nat.lt_of_lt_of_le hi g.size) hne).trans (g.block i hi)⟩⟩
theorem s30 : (Try.prog.info? 30).map (·.size) = some 1 := by kernel_rfl
theorem s3 : (Try.prog.info? 3).map (·.size) = some 1 := by kernel_rfl
set_option maxRecDepth 8000 in
theorem fail_any (r : Nat) (ab : Option Addr) (cb N i : Nat) (hi : i ≤ N) (err e : Int) (W : World) (hb : Blk W r 78 [.slice ab N cb, .int .i64 (i : Int), .int .i64 err]) :
    Calls Try.prog 49 #[.pointer (some ⟨r, 0, none⟩), .int .i64 e] W fun e' w' => e' = .returned (.tuple #[]) ∧ Hid (Ro r ab cb N W w' i (if err ≠ 0 then err else e)) := by
  have c2 : W.cell? ⟨r, 2, none⟩ = some (.int .i64 err) := hb.cell 2
  have HB : Hid (Blk (W.alloc (.cells #[.int .i64 err, .int .i64 e] 30)) r 78 [.slice ab N cb, .int .i64 (i : Int), .int .i64 err]) := hb.alloc _
  have HG : Hid (W.grownBy (W.alloc (.cells #[.int .i64 err, .int .i64 e] 30)) (some r)) := World.grownBy_alloc W _ _
  have K := or_lit err e W
  generalize (if err ≠ 0 then err else e) = E at *
  clear hb
  go_enter Try.func49, Try.ntmps49
  go_wp2_with fail
  refine K.mono ?_
  clear K
  generalize W.alloc (.cells #[.int .i64 err, .int .i64 e] 30) = W1 at *
  rintro e w1 ⟨rfl, hw⟩
  have hw' := hw.symm
  subst hw'
  clear hw
  go_wp2_with (refine st_one rfl 30 (.tmp 13) (.tmp 11) rfl r 2 78 _ _ rfl rfl rfl rfl (by simp) HB.out s30 ?_)
  intro w2 b2 g2
  have HR : Hid (Ro r ab cb N W w2 i E) := ⟨b2, hi, HG.out.trans g2⟩
  clear b2 g2 HB HG
  go_wp2
  go_end0
  exact ⟨rfl, HR.out⟩
end Go.Proofs.Ythmnjamnaibcgaa
namespace Go.Proofs.Ythmnjamnaibcgaa
open Go.RowKit Math
set_option linter.unusedVariables false
theorem Blk.drewN {w : World} {b : Nat} {t : TypeId} {vs : List Value} (h : Blk w b t vs) (q : Nat) : Blk (w.drewN q) b t vs := by
  unfold Blk at *; simpa using h
theorem grown_dq (w : World) (q : Nat) (row : Option Nat) : w.grownBy (w.drewN q) row := ⟨rfl, rfl, rfl, Nat.le_refl _, fun _ _ _ => rfl⟩
set_option maxRecDepth 8000 in
theorem take_ok (r : Nat) (bb ob cb N i n j : Nat) (hj : i + n = j) (hi : j ≤ N) (hN : N ≤ 1000000) (hcb : N ≤ cb) (hcm : cb ≤ 9223372036854775807) (W : World) (hb : Blk W r 78 [.slice (some ⟨bb, ob, none⟩) N cb, .int .i64 (i : Int), .int .i64 0]) :
    Calls Try.prog 56 #[.pointer (some ⟨r, 0, none⟩), .int .i64 (n : Int)] W fun e w' => ∃ o c, e = .returned (.slice (some ⟨bb, o, none⟩) n c) ∧ Hid (Ro r (some ⟨bb, ob, none⟩) cb N W w' j 0 ∧ (0 < n → o = ob + i)) := by
  have c0 : W.cell? ⟨r, 0, none⟩ = some (.slice (some ⟨bb, ob, none⟩) N cb) := hb.cell 0
  have c1 : W.cell? ⟨r, 1, none⟩ = some (.int .i64 (i : Int)) := hb.cell 1
  have c2 : W.cell? ⟨r, 2, none⟩ = some (.int .i64 0) := hb.cell 2
  have HB : Hid (Blk W r 78 [.slice (some ⟨bb, ob, none⟩) N cb, .int .i64 (i : Int), .int .i64 0]) := hb
  have hgt : decide ((N : Int) - (i : Int) < (n : Int)) = false := by simp; omega
  have hin : (i : Int) + (n : Int) = (j : Int) := by omega
  have hjn : (j : Int) - (n : Int) = (i : Int) := by omega
  have hij : i ≤ j := by omega
  have hjcb : j ≤ cb := by omega
  have hje : j - i = n := by omega
  clear hb hj
  go_enter Try.func56, Try.ntmps56
  go_wp2
  go_quiet (fail)
  have HB2 : Hid (Blk (W.drewN nq) r 78 [.slice (some ⟨bb, ob, none⟩) N cb, .int .i64 (i : Int), .int .i64 0]) := HB.out.drewN nq
  have HG2 : Hid (W.grownBy (W.drewN nq) (some r)) := grown_dq W nq _
  generalize W.drewN nq = W2 at *
  clear c0 c1 c2 HB
  have c0 : W2.cell? ⟨r, 0, none⟩ = some (.slice (some ⟨bb, ob, none⟩) N cb) := HB2.out.cell 0
  have c1 : W2.cell? ⟨r, 1, none⟩ = some (.int .i64 (i : Int)) := HB2.out.cell 1
  have c2 : W2.cell? ⟨r, 2, none⟩ = some (.int .i64 0) := HB2.out.cell 2
  go_wp2_with (refine st_one rfl 3 (.tmp 31) (.tmp 29) rfl r 1 78 _ (.int .i64 (j : Int)) rfl rfl rfl rfl (by simp) HB2.out s3 ?_)
  intro w3 b3 g3
  have HR : Hid (Ro r (some ⟨bb, ob, none⟩) cb N W w3 j 0) := ⟨b3, hi, HG2.out.trans g3⟩
  clear c0 c1 c2 HB2 HG2 b3 g3
  have d0 : w3.cell? ⟨r, 0, none⟩ = some (.slice (some ⟨bb, ob, none⟩) N cb) := HR.out.blk.cell 0
  have d1 : w3.cell? ⟨r, 1, none⟩ = some (.int .i64 (j : Int)) := HR.out.blk.cell 1
  go_wp2
  go_quiet (fail)
  have HR3 : Hid (Ro r (some ⟨bb, ob, none⟩) cb N W (w3.drewN nq) j 0) := ⟨HR.out.blk.drewN nq, HR.out.le, HR.out.gr.trans (grown_dq _ _ _)⟩
  generalize w3.drewN nq = w4 at *
  clear HR d0 d1
  by_cases hci : cb = i
  · subst hci
    have hn0 : ¬ 0 < n := by omega
    go_wp2
    go_ret
    exact ⟨_, _, rfl, HR3.out, fun h => absurd h hn0⟩
  · go_wp2
    go_ret
    first
    | exact ⟨_, _, rfl, HR3.out, fun h => rfl⟩
    | exact ⟨_, ⟨_, rfl⟩, HR3.out, fun h => rfl⟩
    | exact ⟨_, rfl, ⟨HR3.out, fun h => rfl⟩⟩
set_option maxRecDepth 8000 in
theorem take_no (r : Nat) (ab : Option Addr) (cb N i n : Nat) (hi : i ≤ N) (hN : N ≤ 1000000) (err : Int) (hne : err ≠ 0 ∨ N < i + n) (W : World) (hb : Blk W r 78 [.slice ab N cb, .int .i64 (i : Int), .int .i64 err]) :
    Calls Try.prog 56 #[.pointer (some ⟨r, 0, none⟩), .int .i64 (n : Int)] W fun e w' => e = .returned (.slice none 0 0) ∧ Hid (Ro r ab cb N W w' i (if err ≠ 0 then err else 2)) := by
  have c0 : W.cell? ⟨r, 0, none⟩ = some (.slice ab N cb) := hb.cell 0
  have c1 : W.cell? ⟨r, 1, none⟩ = some (.int .i64 (i : Int)) := hb.cell 1
  have c2 : W.cell? ⟨r, 2, none⟩ = some (.int .i64 err) := hb.cell 2
  have HB : Hid (Blk W r 78 [.slice ab N cb, .int .i64 (i : Int), .int .i64 err]) := hb
  obtain ⟨E, HE⟩ : ∃ E, Hid ((if err ≠ 0 then err else 2) = E) := ⟨_, rfl⟩
  have hEn : (E != 0) = true := by
    rw [← HE.out]
    by_cases h : err = 0
    · simp [h]
    · simp [h]
  rw [HE.out]
  clear hb
  by_cases hs : N < i + n
  · have hgt : decide ((N : Int) - (i : Int) < (n : Int)) = true := by simp; omega
    go_enter Try.func56, Try.ntmps56
    go_wp2
    go_quiet (fail)
    have HB2 : Hid (Blk (W.drewN nq) r 78 [.slice ab N cb, .int .i64 (i : Int), .int .i64 err]) := HB.out.drewN nq
    have HG2 : Hid (W.grownBy (W.drewN nq) (some r)) := grown_dq W nq _
    generalize W.drewN nq = W2 at *
    have K := fail_any r ab cb N i hi err 2 W2 HB2.out
    rw [HE.out] at K
    clear c0 c1 c2 HB
    go_wp2_with fail
    refine K.mono ?_
    clear K
    rintro e w3 ⟨rfl, H3⟩
    have HR : Hid (Ro r ab cb N W w3 i E) := ⟨H3.out.blk, H3.out.le, HG2.out.trans H3.out.gr⟩
    have d2 : w3.cell? ⟨r, 2, none⟩ = some (.int .i64 E) := H3.out.blk.cell 2
    clear H3 HB2 HG2
    go_wp2
    go_ret
    exact ⟨rfl, HR.out⟩
  · have hgt : decide ((N : Int) - (i : Int) < (n : Int)) = false := by simp; omega
    have hr0 : err ≠ 0 := by omega
    have hEe : E = err := by rw [← HE.out, if_pos hr0]
    subst hEe
    clear HE hne
    go_enter Try.func56, Try.ntmps56
    go_wp2
    go_quiet (fail)
    have HR : Hid (Ro r ab cb N W (W.drewN nq) i E) := ⟨HB.out.drewN nq, hi, grown_dq _ _ _⟩
    generalize W.drewN nq = W2 at *
    have d2 : W2.cell? ⟨r, 2, none⟩ = some (.int .i64 E) := HR.out.blk.cell 2
    clear c0 c1 c2 HB
    go_wp2
    go_ret
    exact ⟨rfl, HR.out⟩
end Go.Proofs.Ythmnjamnaibcgaa
namespace Go.Proofs.Ythmnjamnaibcgaa
open Go.RowKit Math
set_option linter.unusedVariables false
/-- What a reader reads. -/
structure En (w0 W : World) (r : Nat) (ab : Option Addr) (cb : Nat) (L : List Nat) : Prop where
  byt : Byt w0 ab L
  oct : Oct L
  bl : Below w0.heap.size w0 W
  lt : w0.heap.size ≤ r
  len : L.length ≤ 1000000
  cap : L.length ≤ cb
  cm : cb ≤ 9223372036854775807
  nil : ab = none → cb = 0
theorem En.ro {w0 W w' : World} {r : Nat} {ab : Option Addr} {cb : Nat} {L : List Nat} {i : Nat} {err : Int} (h : En w0 W r ab cb L) (k : Ro r ab cb L.length W w' i err) : En w0 w' r ab cb L :=
  ⟨h.byt, h.oct, h.bl.grown k.gr h.bl.size (fun x e => by injection e with e; have := h.lt; omega), h.lt, h.len, h.cap, h.cm, h.nil⟩
theorem En.below {w0 W w' : World} {r : Nat} {ab : Option Addr} {cb : Nat} {L : List Nat} (h : En w0 W r ab cb L) (k : Below W.heap.size W w') : En w0 w' r ab cb L :=
  ⟨h.byt, h.oct, h.bl.trans (k.mono h.bl.size), h.lt, h.len, h.cap, h.cm, h.nil⟩
theorem En.ptr {w0 W : World} {r : Nat} {ab : Option Addr} {cb : Nat} {L : List Nat} (h : En w0 W r ab cb L) (hL : 0 < L.length) : ∃ bb ob, ab = some ⟨bb, ob, none⟩ ∧ Cells w0 bb ob L := by
  rcases h.byt with e | ⟨bb, ob, e, hc⟩
  · rw [e] at hL; simp at hL
  · exact ⟨bb, ob, e, hc⟩
theorem En.cell {w0 W : World} {r : Nat} {bb ob cb : Nat} {L : List Nat} (h : En w0 W r (some ⟨bb, ob, none⟩) cb L) {i : Nat} (hi : i < L.length) : W.cell? ⟨bb, ob + i, none⟩ = some (.int .u8 ((L.getD i 0 : Nat) : Int)) := by
  rcases h.byt with e | ⟨b, o, e, hc⟩
  · rw [e] at hi; simp at hi
  · simp only [Option.some.injEq, Addr.mk.injEq, and_true] at e
    obtain ⟨rfl, rfl⟩ := e
    have := hc i hi
    rw [← this]
    exact h.bl.cell (p := ⟨bb, ob + i, none⟩) (cell_lt this)
/-- One step of a reader: behind an error nothing is done. -/
def St {α : Type} (f : Rdr α) (L : List Nat) (i : Nat) (err : Int) (j : Nat) (err' : Int) (x : α) : Prop :=
  (err ≠ 0 ∧ j = i ∧ err' = err) ∨ (err = 0 ∧ ((f (L.drop i) = .ok (x, L.drop j) ∧ err' = 0 ∧ i ≤ j) ∨ ∃ e : Nat, f (L.drop i) = .error e ∧ err' = (e : Int) ∧ e ≠ 0))
def RdC {α : Type} (F : Nat) (f : Rdr α) (val : α → Value) (P Z : α → Prop) : Prop := ∀ (w0 W : World) (r : Nat) (ab : Option Addr) (cb : Nat) (L : List Nat) (i : Nat) (err : Int), En w0 W r ab cb L → Blk W r 78 [.slice ab L.length cb, .int .i64 (i : Int), .int .i64 err] → i ≤ L.length →
  Calls Try.prog F #[.pointer (some ⟨r, 0, none⟩)] W fun e w' => ∃ x j err', e = .returned (val x) ∧ P x ∧ (err' ≠ 0 → Z x) ∧ Hid (Ro r ab cb L.length W w' j err' ∧ St f L i err j err' x)
set_option maxRecDepth 8000 in
theorem next_any : RdC 50 byR (fun x => .int .i64 (x : Int)) (· < 256) (· = 0) := by
  intro w0 W r ab cb L i err hE hb hi
  have hlen := hE.len
  have hcap := hE.cap
  have hcm := hE.cm
  by_cases hno : err ≠ 0 ∨ L.length < i + 1
  · have K := take_no r ab cb L.length i 1 hi hE.len err hno W hb
    obtain ⟨E, HEE⟩ : ∃ E, Hid ((if err ≠ 0 then err else 2) = E) := ⟨_, rfl⟩
    rw [HEE.out] at K
    have HS : Hid (St byR L i err i E 0) := by
      by_cases he : err = 0
      · right
        refine ⟨he, .inr ⟨2, ?_, ?_, by decide⟩⟩
        · rw [List.drop_of_length_le (by omega)]; rfl
        · rw [← HEE.out, if_neg (by simpa using he)]; rfl
      · left
        exact ⟨he, rfl, by rw [← HEE.out, if_pos he]⟩
    clear hb hE
    go_enter Try.func50, Try.ntmps50
    go_wp2_with fail
    refine K.mono ?_
    clear K
    rintro e w1 ⟨rfl, H1⟩
    go_wp2
    go_ret
    exact ⟨0, i, E, rfl, by decide, fun _ => rfl, H1.out, HS.out⟩
  have herr : err = 0 := by omega
  subst herr
  have hlt : i < L.length := by omega
  obtain ⟨bb, ob, rfl, hc⟩ := hE.ptr (by omega)
  have K := take_ok r bb ob cb L.length i 1 (i + 1) rfl (by omega) hE.len hE.cap hE.cm W hb
  have HE : Hid (En w0 W r (some ⟨bb, ob, none⟩) cb L) := hE
  have hx : L.getD i 0 < 256 := oct_get hE.oct i
  have HS : Hid (St byR L i 0 (i + 1) 0 (L.getD i 0)) := .inr ⟨rfl, .inl ⟨by rw [drop_get L i hlt]; rfl, rfl, by omega⟩⟩
  clear hb hc hE
  go_enter Try.func50, Try.ntmps50
  go_wp2_with fail
  refine K.mono ?_
  clear K
  rintro e w1 ⟨oo, c, rfl, H1⟩
  have ha := H1.out.2 (by omega)
  subst ha
  have HR : Hid (Ro r (some ⟨bb, ob, none⟩) cb L.length W w1 (i + 1) 0) := H1.out.1
  have cx : w1.cell? ⟨bb, ob + i, none⟩ = some (.int .u8 ((L.getD i 0 : Nat) : Int)) := (HE.out.ro HR.out).cell hlt
  generalize L.getD i 0 = x at *
  clear H1 HE
  go_wp2
  go_ret
  exact ⟨x, i + 1, 0, rfl, hx, fun h => absurd rfl h, HR.out, HS.out⟩
theorem ruv_bad : ∀ (l : List Nat) (k v : Nat), (ruv l k v).2.2 ≠ 0 → (ruv l k v).1 = 0 ∧ (ruv l k v).2.1 = 0
  | [], k, v, h => ⟨rfl, rfl⟩
  | x :: l, k, v, h => by
    unfold ruv at h ⊢
    split
    · exact ⟨rfl, rfl⟩
    · next h1 =>
      rw [if_neg h1] at h
      split
      · next h2 =>
        rw [if_pos h2] at h
        exact ruv_bad l _ _ h
      · next h2 =>
        rw [if_neg h2] at h
        split
        · exact ⟨rfl, rfl⟩
        · next h3 =>
          rw [if_neg h3] at h
          exact absurd rfl h
theorem ruv_good {l : List Nat} (ho : Oct l) (h : (ruv l 0 0).2.2 = 0) : (ruv l 0 0).1 < 18446744073709551616 ∧ (ruv l 0 0).2.1 ≤ l.length ∧ (ruv l 0 0).2.1 ≤ 10 ∧ 0 < (ruv l 0 0).2.1 := by
  obtain ⟨q, r, e1, e2, e3, _, e5⟩ := ruv_inv l 0 0 (ruv l 0 0).1 (ruv l 0 0).2.1 ho (by decide) (by decide) (by
    generalize ruv l 0 0 = t at *
    obtain ⟨a, b, c⟩ := t
    simp only at h
    rw [h])
  have e3 : (ruv l 0 0).1 = q := by simpa using e3
  refine ⟨e5, ?_, ?_, ?_⟩
  · rw [e2, Nat.zero_add]
    conv => rhs; rw [e1]
    simp
  · rw [e2, Nat.zero_add]
    exact uv_ten q (by omega)
  · rw [e2, Nat.zero_add]
    exact uv_pos q
end Go.Proofs.Ythmnjamnaibcgaa
namespace Go.Proofs.Ythmnjamnaibcgaa
open Go.RowKit Math
set_option linter.unusedVariables false
set_option maxRecDepth 8000 in
theorem uv_err (r : Nat) (ab : Option Addr) (cb N i : Nat) (err : Int) (he : err ≠ 0) (W : World) (hb : Blk W r 78 [.slice ab N cb, .int .i64 (i : Int), .int .i64 err]) :
    Calls Try.prog 53 #[.pointer (some ⟨r, 0, none⟩)] W fun e w' => e = .returned (.int .u64 0) ∧ w' = W := by
  have c2 : W.cell? ⟨r, 2, none⟩ = some (.int .i64 err) := hb.cell 2
  have hne : (err != 0) = true := by simpa using he
  clear hb
  go_enter Try.func53, Try.ntmps53
  go_wp2
  go_ret
  exact ⟨rfl, rfl⟩
set_option maxRecDepth 8000 in
theorem uv_none (r : Nat) (j u n e : Nat) (hj : n = j) (hn : n ≤ 10) (hjN : j ≤ 0) (W : World) (hb : Blk W r 78 [.slice none 0 0, .int .i64 0, .int .i64 0])
    (KS : Hid (∀ q, Calls Try.prog 58 #[.slice none 0 0] (W.drewN q) fun e' w' => e' = .returned (.tuple #[.int .u64 (u : Int), .int .i64 (n : Int), .int .i64 (e : Int)]) ∧ w' = W.drewN q)) :
    Calls Try.prog 53 #[.pointer (some ⟨r, 0, none⟩)] W fun e' w' => e' = .returned (.int .u64 (u : Int)) ∧ Hid (Ro r none 0 0 W w' j (e : Int)) := by
  have c0 : W.cell? ⟨r, 0, none⟩ = some (.slice none 0 0) := hb.cell 0
  have c1 : W.cell? ⟨r, 1, none⟩ = some (.int .i64 0) := hb.cell 1
  have c2 : W.cell? ⟨r, 2, none⟩ = some (.int .i64 0) := hb.cell 2
  have HB : Hid (Blk W r 78 [.slice none 0 0, .int .i64 0, .int .i64 0]) := hb
  have hin : (n : Int) = (j : Int) := by omega
  clear hb hj
  go_enter Try.func53, Try.ntmps53
  go_wp2
  go_quiet (exact Calls.quiet_of_same (KS.out _))
  clear KS
  have HB2 : Hid (Blk (W.drewN nq) r 78 [.slice none 0 0, .int .i64 0, .int .i64 0]) := HB.out.drewN nq
  have HG2 : Hid (W.grownBy (W.drewN nq) (some r)) := grown_dq W nq _
  generalize W.drewN nq = W2 at *
  have K := fail_any r none 0 0 0 (Nat.le_refl _) 0 (e : Int) W2 HB2.out
  simp only [ne_eq, not_true_eq_false, if_false] at K
  clear c0 c1 c2 HB
  go_wp2_with fail
  refine K.mono ?_
  clear K
  rintro e' w3 ⟨rfl, H3⟩
  have HB3 : Hid (Blk w3 r 78 [.slice none 0 0, .int .i64 0, .int .i64 (e : Int)]) := H3.out.blk
  have HG3 : Hid (W.grownBy w3 (some r)) := HG2.out.trans H3.out.gr
  have d1 : w3.cell? ⟨r, 1, none⟩ = some (.int .i64 0) := HB3.out.cell 1
  clear H3 HB2 HG2
  go_wp2_with (refine st_one rfl 3 (.tmp 35) (.tmp 33) rfl r 1 78 _ (.int .i64 (j : Int)) rfl rfl rfl rfl (by simp) HB3.out s3 ?_)
  intro w4 b4 g4
  have HR : Hid (Ro r none 0 0 W w4 j (e : Int)) := ⟨b4, hjN, HG3.out.trans g4⟩
  clear b4 g4 HB3 HG3 d1
  go_wp2
  go_ret
  exact ⟨rfl, HR.out⟩
set_option maxRecDepth 8000 in
theorem uv_end (r : Nat) (bb ob N j u n e : Nat) (hj : N + n = j) (hn : n ≤ 10) (hN : N ≤ 1000000) (hjN : j ≤ N) (W : World) (hb : Blk W r 78 [.slice (some ⟨bb, ob, none⟩) N N, .int .i64 (N : Int), .int .i64 0])
    (KS : Hid (∀ q, Calls Try.prog 58 #[.slice (some ⟨bb, ob, none⟩) 0 0] (W.drewN q) fun e' w' => e' = .returned (.tuple #[.int .u64 (u : Int), .int .i64 (n : Int), .int .i64 (e : Int)]) ∧ w' = W.drewN q)) :
    Calls Try.prog 53 #[.pointer (some ⟨r, 0, none⟩)] W fun e' w' => e' = .returned (.int .u64 (u : Int)) ∧ Hid (Ro r (some ⟨bb, ob, none⟩) N N W w' j (e : Int)) := by
  have c0 : W.cell? ⟨r, 0, none⟩ = some (.slice (some ⟨bb, ob, none⟩) N N) := hb.cell 0
  have c1 : W.cell? ⟨r, 1, none⟩ = some (.int .i64 (N : Int)) := hb.cell 1
  have c2 : W.cell? ⟨r, 2, none⟩ = some (.int .i64 0) := hb.cell 2
  have HB : Hid (Blk W r 78 [.slice (some ⟨bb, ob, none⟩) N N, .int .i64 (N : Int), .int .i64 0]) := hb
  have hin : (N : Int) + (n : Int) = (j : Int) := by omega
  clear hb hj
  go_enter Try.func53, Try.ntmps53
  go_wp2
  go_quiet (exact Calls.quiet_of_same (KS.out _))
  clear KS
  have HB2 : Hid (Blk (W.drewN nq) r 78 [.slice (some ⟨bb, ob, none⟩) N N, .int .i64 (N : Int), .int .i64 0]) := HB.out.drewN nq
  have HG2 : Hid (W.grownBy (W.drewN nq) (some r)) := grown_dq W nq _
  generalize W.drewN nq = W2 at *
  have K := fail_any r (some ⟨bb, ob, none⟩) N N N (Nat.le_refl _) 0 (e : Int) W2 HB2.out
  simp only [ne_eq, not_true_eq_false, if_false] at K
  clear c0 c1 c2 HB
  go_wp2_with fail
  refine K.mono ?_
  clear K
  rintro e' w3 ⟨rfl, H3⟩
  have HB3 : Hid (Blk w3 r 78 [.slice (some ⟨bb, ob, none⟩) N N, .int .i64 (N : Int), .int .i64 (e : Int)]) := H3.out.blk
  have HG3 : Hid (W.grownBy w3 (some r)) := HG2.out.trans H3.out.gr
  have d1 : w3.cell? ⟨r, 1, none⟩ = some (.int .i64 (N : Int)) := HB3.out.cell 1
  clear H3 HB2 HG2
  go_wp2_with (refine st_one rfl 3 (.tmp 35) (.tmp 33) rfl r 1 78 _ (.int .i64 (j : Int)) rfl rfl rfl rfl (by simp) HB3.out s3 ?_)
  intro w4 b4 g4
  have HR : Hid (Ro r (some ⟨bb, ob, none⟩) N N W w4 j (e : Int)) := ⟨b4, hjN, HG3.out.trans g4⟩
  clear b4 g4 HB3 HG3 d1
  go_wp2
  go_ret
  exact ⟨rfl, HR.out⟩
set_option maxRecDepth 8000 in
theorem uv_mid (r : Nat) (bb ob cb N i j u n e : Nat) (hj : i + n = j) (hn : n ≤ 10) (hi : i ≤ N) (hN : N ≤ 1000000) (hcb : N ≤ cb) (hcm : cb ≤ 9223372036854775807) (hjN : j ≤ N) (hci : ¬ cb = i) (W : World) (hb : Blk W r 78 [.slice (some ⟨bb, ob, none⟩) N cb, .int .i64 (i : Int), .int .i64 0])
    (KS : Hid (∀ q, Calls Try.prog 58 #[.slice (some ⟨bb, ob + i, none⟩) (N - i) (cb - i)] (W.drewN q) fun e' w' => e' = .returned (.tuple #[.int .u64 (u : Int), .int .i64 (n : Int), .int .i64 (e : Int)]) ∧ w' = W.drewN q)) :
    Calls Try.prog 53 #[.pointer (some ⟨r, 0, none⟩)] W fun e' w' => e' = .returned (.int .u64 (u : Int)) ∧ Hid (Ro r (some ⟨bb, ob, none⟩) cb N W w' j (e : Int)) := by
  have c0 : W.cell? ⟨r, 0, none⟩ = some (.slice (some ⟨bb, ob, none⟩) N cb) := hb.cell 0
  have c1 : W.cell? ⟨r, 1, none⟩ = some (.int .i64 (i : Int)) := hb.cell 1
  have c2 : W.cell? ⟨r, 2, none⟩ = some (.int .i64 0) := hb.cell 2
  have HB : Hid (Blk W r 78 [.slice (some ⟨bb, ob, none⟩) N cb, .int .i64 (i : Int), .int .i64 0]) := hb
  have hin : (i : Int) + (n : Int) = (j : Int) := by omega
  have hiN : (i : Int) ≤ (N : Int) := by omega
  clear hb hj
  go_enter Try.func53, Try.ntmps53
  go_wp2
  go_quiet (exact Calls.quiet_of_same (KS.out _))
  clear KS
  have HB2 : Hid (Blk (W.drewN nq) r 78 [.slice (some ⟨bb, ob, none⟩) N cb, .int .i64 (i : Int), .int .i64 0]) := HB.out.drewN nq
  have HG2 : Hid (W.grownBy (W.drewN nq) (some r)) := grown_dq W nq _
  generalize W.drewN nq = W2 at *
  have K := fail_any r (some ⟨bb, ob, none⟩) cb N i hi 0 (e : Int) W2 HB2.out
  simp only [ne_eq, not_true_eq_false, if_false] at K
  clear c0 c1 c2 HB
  go_wp2_with fail
  refine K.mono ?_
  clear K
  rintro e' w3 ⟨rfl, H3⟩
  have HB3 : Hid (Blk w3 r 78 [.slice (some ⟨bb, ob, none⟩) N cb, .int .i64 (i : Int), .int .i64 (e : Int)]) := H3.out.blk
  have HG3 : Hid (W.grownBy w3 (some r)) := HG2.out.trans H3.out.gr
  have d1 : w3.cell? ⟨r, 1, none⟩ = some (.int .i64 (i : Int)) := HB3.out.cell 1
  clear H3 HB2 HG2
  go_wp2_with (refine st_one rfl 3 (.tmp 35) (.tmp 33) rfl r 1 78 _ (.int .i64 (j : Int)) rfl rfl rfl rfl (by simp) HB3.out s3 ?_)
  intro w4 b4 g4
  have HR : Hid (Ro r (some ⟨bb, ob, none⟩) cb N W w4 j (e : Int)) := ⟨b4, hjN, HG3.out.trans g4⟩
  clear b4 g4 HB3 HG3 d1
  go_wp2
  go_ret
  exact ⟨rfl, HR.out⟩
end Go.Proofs.Ythmnjamnaibcgaa
namespace Go.Proofs.Ythmnjamnaibcgaa
open Go.RowKit Math
set_option linter.unusedVariables false
def RdP {α : Type} (F : Nat) (f : Rdr α) (val : α → Value) (P Z : α → Prop) : Prop := ∀ (w0 W : World) (r : Nat) (ab : Option Addr) (cb : Nat) (L : List Nat) (i : Nat) (err : Int), En w0 W r ab cb L → Blk W r 78 [.slice ab L.length cb, .int .i64 (i : Int), .int .i64 err] → i ≤ L.length → (err = 0 → 0 < L.length) →
  Calls Try.prog F #[.pointer (some ⟨r, 0, none⟩)] W fun e w' => ∃ x j err', e = .returned (val x) ∧ P x ∧ (err' ≠ 0 → Z x) ∧ Hid (Ro r ab cb L.length W w' j err' ∧ St f L i err j err' x)
theorem RdC.p {α : Type} {F : Nat} {f : Rdr α} {val : α → Value} {P Z : α → Prop} (h : RdC F f val P Z) : RdP F f val P Z := fun w0 W r ab cb L i err a b c _ => h w0 W r ab cb L i err a b c
theorem byt_drop {w : World} {bb ob : Nat} {L : List Nat} (h : Cells w bb ob L) (i : Nat) : Cells w bb (ob + i) (L.drop i) := fun k hk => by
  rw [List.length_drop] at hk
  have := h (i + k) (by omega)
  rw [Nat.add_assoc, this]
  simp [List.getD_eq_getElem?_getD, List.getElem?_drop]
theorem Cells.drewN {w : World} {bb ob : Nat} {L : List Nat} (h : Cells w bb ob L) (q : Nat) : Cells (w.drewN q) bb ob L := fun k hk => h k hk
theorem uvarint_any : RdP 53 uvR (fun u => .int .u64 (u : Int)) (· < 18446744073709551616) (· = 0) := by
  intro w0 W r ab cb L i err hE hb hi hp
  by_cases he : err = 0
  case neg =>
    refine (uv_err r ab cb L.length i err he W hb).mono ?_
    rintro e w' ⟨rfl, rfl⟩
    exact ⟨0, i, err, rfl, by decide, fun _ => rfl, ⟨hb, hi, World.grownBy.refl _ _⟩, .inl ⟨he, rfl, rfl⟩⟩
  subst he
  obtain ⟨bb, ob, rfl, hc⟩ := hE.ptr (hp rfl)
  have hoct : Oct (L.drop i) := fun x hx => hE.oct x (List.mem_of_mem_drop hx)
  have hcW : Cells W bb ob L := hc.below hE.bl
  obtain ⟨u, n, e, ht⟩ : ∃ u n e, ruv (L.drop i) 0 0 = (u, n, e) := ⟨_, _, _, rfl⟩
  have g1 : e ≠ 0 → u = 0 ∧ n = 0 := fun h => by
    have := ruv_bad (L.drop i) 0 0 (by rw [ht]; exact h)
    rw [ht] at this
    exact this
  have g2 : e = 0 → u < 18446744073709551616 ∧ n ≤ (L.drop i).length ∧ n ≤ 10 ∧ 0 < n := fun h => by
    have := ruv_good hoct (by rw [ht]; exact h)
    rw [ht] at this
    exact this
  have hu : u < 18446744073709551616 := by
    by_cases h : e = 0
    · exact (g2 h).1
    · rw [(g1 h).1]; decide
  have hn : n ≤ 10 := by
    by_cases h : e = 0
    · exact (g2 h).2.2.1
    · rw [(g1 h).2]; decide
  have hjN : i + n ≤ L.length := by
    by_cases h : e = 0
    · have := (g2 h).2.1
      rw [List.length_drop] at this
      omega
    · rw [(g1 h).2]; omega
  have hS : St uvR L i 0 (i + n) (e : Int) u := by
    right
    refine ⟨rfl, ?_⟩
    by_cases h : e = 0
    · left
      refine ⟨?_, by rw [h]; rfl, by omega⟩
      unfold uvR
      rw [ht]
      simp only [h, if_true]
      rw [List.drop_drop]
    · right
      refine ⟨e, ?_, rfl, h⟩
      unfold uvR
      rw [ht]
      simp only [h, if_false]
  have hlen := hE.len
  have KS : ∀ (A : Option Addr) (c : Nat), (∀ q, Byt (W.drewN q) A (L.drop i)) → ∀ q, Calls Try.prog 58 #[.slice A (L.length - i) c] (W.drewN q) fun e' w' => e' = .returned (.tuple #[.int .u64 (u : Int), .int .i64 (n : Int), .int .i64 (e : Int)]) ∧ w' = W.drewN q := fun A c hA q => by
    have := ruv_any A c (L.drop i) (by rw [List.length_drop]; omega) (W.drewN q) (hA q) hoct
    rw [List.length_drop, ht] at this
    exact this
  have fin : ∀ {e' : Ending} {w' : World}, (e' = .returned (.int .u64 (u : Int)) ∧ Hid (Ro r (some ⟨bb, ob, none⟩) cb L.length W w' (i + n) (e : Int))) → ∃ (x : Nat) (j : Nat) (err' : Int), e' = .returned (.int .u64 (x : Int)) ∧ x < 18446744073709551616 ∧ (err' ≠ 0 → x = 0) ∧ Hid (Ro r (some ⟨bb, ob, none⟩) cb L.length W w' j err' ∧ St uvR L i 0 j err' x) := by
    rintro e' w' ⟨rfl, H⟩
    exact ⟨u, i + n, (e : Int), rfl, hu, fun h => (g1 (by omega)).1, H.out, hS⟩
  by_cases hci : cb = i
  · have h1 := hE.cap
    obtain rfl : cb = L.length := by omega
    subst hci
    have KE := KS (some ⟨bb, ob, none⟩) 0 (fun q => .inl (by simp))
    rw [Nat.sub_self] at KE
    exact (uv_end r bb ob L.length (L.length + n) u n e rfl hn hE.len hjN W hb KE).mono fun _ _ H => fin H
  · exact (uv_mid r bb ob cb L.length i (i + n) u n e rfl hn hi hE.len hE.cap hE.cm hjN hci W hb (KS _ _ fun q => .inr ⟨bb, ob + i, rfl, (byt_drop hcW i).drewN q⟩)).mono fun _ _ H => fin H
set_option maxRecDepth 8000 in
theorem signed_any : RdP 52 uvR (fun u => .int .i64 (zagS (u : Int))) (· < 18446744073709551616) (fun _ => True) := by
  intro w0 W r ab cb L i err hE hb hi hp
  have K := uvarint_any w0 W r ab cb L i err hE hb hi hp
  clear hE hb
  go_enter Try.func52, Try.ntmps52
  go_wp2_with fail
  refine K.mono ?_
  clear K
  rintro e w1 ⟨u, j, err', rfl, hu, _, H⟩
  have K2 := fun W => zag_any (u : Int) (by omega) (by omega) W
  obtain ⟨z, HZ⟩ : ∃ z, Hid (zagS (u : Int) = z) := ⟨_, rfl⟩
  rw [HZ.out] at K2
  go_wp2_with fail
  refine (K2 _).mono ?_
  clear K2
  rintro e w2 ⟨rfl, rfl⟩
  go_wp2
  go_ret
  exact ⟨u, j, err', ret_int HZ.out.symm, hu, fun _ => trivial, H.out⟩
/-- A byte that must be 0 or 1. -/
def boR : Rdr Nat := byR.bind fun x => if 1 < x then .no 3 else .ret x
theorem st_bind {α β : Type} {f : Rdr α} {g : α → Rdr β} {L : List Nat} {i j k : Nat} {err e1 e2 : Int} {x : α} {y : β} (h : St f L i err j e1 x) (h2 : St (g x) L j e1 k e2 y) : St (f.bind g) L i err k e2 y := by
  rcases h with ⟨a, b, c⟩ | ⟨a, ⟨b, c, d⟩ | ⟨e, b, c, d⟩⟩
  · subst b c
    rcases h2 with ⟨_, b2, c2⟩ | ⟨a2, _⟩
    · exact .inl ⟨a, b2, c2⟩
    · exact absurd a2 a
  · subst c
    rcases h2 with ⟨a2, _⟩ | ⟨_, ⟨b2, c2, d2⟩ | ⟨e, b2, c2, d2⟩⟩
    · exact absurd rfl a2
    · exact .inr ⟨a, .inl ⟨by rw [bind_ok b]; exact b2, c2, by omega⟩⟩
    · exact .inr ⟨a, .inr ⟨e, by rw [bind_ok b]; exact b2, c2, d2⟩⟩
  · subst c
    rcases h2 with ⟨_, b2, c2⟩ | ⟨a2, _⟩
    · exact .inr ⟨a, .inr ⟨e, bind_no b, c2, d⟩⟩
    · exfalso; omega
theorem st_ret {α : Type} (x : α) (L : List Nat) (i : Nat) (err : Int) : St (Rdr.ret x) L i err i err x := by
  by_cases h : err = 0
  · exact .inr ⟨h, .inl ⟨rfl, h, Nat.le_refl _⟩⟩
  · exact .inl ⟨h, rfl, rfl⟩
theorem st_no {α : Type} (e : Nat) (he : e ≠ 0) (x : α) (L : List Nat) (i : Nat) (err : Int) : St (Rdr.no e) L i err i (if err ≠ 0 then err else (e : Int)) x := by
  by_cases h : err = 0
  · exact .inr ⟨h, .inr ⟨e, rfl, by rw [if_neg (by simpa using h)], he⟩⟩
  · exact .inl ⟨h, rfl, by rw [if_pos h]⟩
set_option maxRecDepth 8000 in
theorem truth_any : RdC 51 boR (fun x => .int .i64 (x : Int)) (· < 256) (fun _ => True) := by
  intro w0 W r ab cb L i err hE hb hi
  have K := next_any w0 W r ab cb L i err hE hb hi
  clear hE hb
  go_enter Try.func51, Try.ntmps51
  go_wp2_with fail
  refine K.mono ?_
  clear K
  rintro e w1 ⟨x, j, err', rfl, hx, _, H⟩
  by_cases h1 : 1 < x
  · have K2 := fail_any r ab cb L.length j H.out.1.le err' 3 w1 H.out.1.blk
    obtain ⟨E, HEE⟩ : ∃ E, Hid ((if err' ≠ 0 then err' else 3) = E) := ⟨_, rfl⟩
    rw [HEE.out] at K2
    have hgt : decide ((1 : Int) < (x : Int)) = true := by simp; omega
    have HS : Hid (St boR L i err j E x) := by
      refine st_bind H.out.2 ?_
      rw [if_pos h1, ← HEE.out]
      exact st_no 3 (by decide) x L j err'
    go_wp2_with fail
    refine K2.mono ?_
    clear K2
    rintro e w2 ⟨rfl, H2⟩
    have HR : Hid (Ro r ab cb L.length W w2 j E) := H.out.1.trans H2.out
    clear H H2
    go_wp2
    go_ret
    exact ⟨x, j, E, rfl, hx, fun _ => trivial, HR.out, HS.out⟩
  · have hgt : decide ((1 : Int) < (x : Int)) = false := by simp; omega
    have HS : Hid (St boR L i err j err' x) := by
      refine st_bind H.out.2 ?_
      rw [if_neg h1]
      exact st_ret x L j err'
    go_wp2
    go_ret
    exact ⟨x, j, err', rfl, hx, fun _ => trivial, H.out.1, HS.out⟩
set_option maxRecDepth 8000 in
theorem length_any : RdP 59 lenR (fun x => .int .i64 (x : Int)) (· ≤ 65536) (· = 0) := by
  intro w0 W r ab cb L i err hE hb hi hp
  have K := uvarint_any w0 W r ab cb L i err hE hb hi hp
  clear hE hb
  go_enter Try.func59, Try.ntmps59
  go_wp2_with fail
  refine K.mono ?_
  clear K
  rintro e w1 ⟨x, j, err', rfl, hx, hx0, H⟩
  have HX0 : Hid (err' ≠ 0 → x = 0) := hx0
  clear hx0
  by_cases h1 : 65536 < x
  · have K2 := fail_any r ab cb L.length j H.out.1.le err' 3 w1 H.out.1.blk
    obtain ⟨E, HEE⟩ : ∃ E, Hid ((if err' ≠ 0 then err' else 3) = E) := ⟨_, rfl⟩
    rw [HEE.out] at K2
    have hgt : decide ((65536 : Int) < (x : Int)) = true := by simp; omega
    have HS : Hid (St lenR L i err j E 0) := by
      refine st_bind H.out.2 ?_
      rw [if_pos h1, ← HEE.out]
      exact st_no 3 (by decide) 0 L j err'
    go_wp2_with fail
    refine K2.mono ?_
    clear K2
    rintro e w2 ⟨rfl, H2⟩
    have HR : Hid (Ro r ab cb L.length W w2 j E) := H.out.1.trans H2.out
    clear H H2
    go_wp2
    go_ret
    exact ⟨0, j, E, rfl, by decide, fun _ => rfl, HR.out, HS.out⟩
  · have hgt : decide ((65536 : Int) < (x : Int)) = false := by simp; omega
    have HS : Hid (St lenR L i err j err' x) := by
      refine st_bind H.out.2 ?_
      rw [if_neg h1]
      exact st_ret x L j err'
    have hx2 : x ≤ 65536 := by omega
    go_wp2
    go_ret
    exact ⟨x, j, err', rfl, hx2, HX0.out, H.out.1, HS.out⟩
end Go.Proofs.Ythmnjamnaibcgaa
namespace Go.Proofs.Ythmnjamnaibcgaa
open Go.RowKit Math
set_option linter.unusedVariables false
theorem strOf (l : List Nat) (h : Oct l) : strOfNums (l.map fun n : Nat => (n : Int)) = ofB l := by
  unfold strOfNums ofB
  congr 2
  rw [List.map_map]
  apply List.map_congr_left
  intro x hx
  have := h x hx
  simp
set_option maxRecDepth 8000 in
theorem text_any : RdP 54 txR (fun s => .string s) (fun s => s.size ≤ 65536) (fun _ => True) := by
  intro w0 W r ab cb L i err hE hb hi hp
  have K := length_any w0 W r ab cb L i err hE hb hi hp
  have HE : Hid (En w0 W r ab cb L) := hE
  have hlen := hE.len
  clear hE hb
  go_enter Try.func54, Try.ntmps54
  go_wp2_with fail
  refine K.mono ?_
  clear K
  rintro e w1 ⟨n, j, e1, rfl, hn, _, H⟩
  have hjl := H.out.1.le
  by_cases hno : e1 ≠ 0 ∨ L.length < j + n
  · have K2 := take_no r ab cb L.length j n H.out.1.le hlen e1 hno w1 H.out.1.blk
    obtain ⟨E, HEE⟩ : ∃ E, Hid ((if e1 ≠ 0 then e1 else 2) = E) := ⟨_, rfl⟩
    rw [HEE.out] at K2
    have HS : Hid (St txR L i err j E em) := by
      refine st_bind H.out.2 ?_
      by_cases he : e1 = 0
      · right
        refine ⟨he, .inr ⟨2, ?_, ?_, by decide⟩⟩
        · have : takeR n (L.drop j) = .error 2 := by
            unfold takeR
            rw [if_pos (by rw [List.length_drop]; omega)]
          exact bind_no this
        · rw [← HEE.out, if_neg (by simpa using he)]; rfl
      · left
        exact ⟨he, rfl, by rw [← HEE.out, if_pos he]⟩
    have hcv : ∀ W, (convert 29 9 (.slice none 0 0)).run Try.prog W = .ok (.string ⟨#[]⟩) W := fun W => run_convert_bytes_nil W 29 5 Try.underlying29 Try.underlying5 0 0 9 Try.underlying9
    go_wp2_with fail
    refine K2.mono ?_
    clear K2
    rintro e w2 ⟨rfl, H2⟩
    have HR : Hid (Ro r ab cb L.length W w2 j E) := H.out.1.trans H2.out
    clear H H2 HE
    go_wp2
    go_ret
    exact ⟨em, j, E, rfl, by decide, fun _ => trivial, HR.out, HS.out⟩
  have he1 : e1 = 0 := by omega
  subst he1
  have hjn : j + n ≤ L.length := by omega
  by_cases hL0 : L.length = 0
  · exfalso
    have : err = 0 := by
      rcases H.out.2 with ⟨a, _, c⟩ | ⟨a, _⟩
      · exact absurd c.symm a
      · exact a
    have := hp this
    omega
  obtain ⟨bb, ob, rfl, hc⟩ := HE.out.ptr (by omega)
  have K2 := take_ok r bb ob cb L.length j n (j + n) rfl hjn hlen HE.out.cap HE.out.cm w1 H.out.1.blk
  have HO : Hid (Oct ((L.drop j).take n)) := fun x hx => HE.out.oct x (List.mem_of_mem_drop (List.mem_of_mem_take hx))
  have hl2 : ((L.drop j).take n).length = n := by rw [List.length_take, List.length_drop]; omega
  have HS : Hid (St txR L i err (j + n) 0 (ofB ((L.drop j).take n))) := by
    refine st_bind H.out.2 (.inr ⟨rfl, .inl ⟨?_, rfl, by omega⟩⟩)
    have : takeR n (L.drop j) = .ok ((L.drop j).take n, (L.drop j).drop n) := by
      unfold takeR
      rw [if_neg (by rw [List.length_drop]; omega)]
    rw [bind_ok this, List.drop_drop]
    rfl
  have hsz : (ofB ((L.drop j).take n)).size ≤ 65536 := by rw [ofB_size, hl2]; exact hn
  clear hc
  go_wp2_with fail
  refine K2.mono ?_
  clear K2
  rintro e w2 ⟨oo, c, rfl, H2⟩
  have HR : Hid (Ro r (some ⟨bb, ob, none⟩) cb L.length W w2 (j + n) 0) := H.out.1.trans H2.out.1
  have hcv : (convert 29 9 (.slice (some ⟨bb, oo, none⟩) n c)).run Try.prog w2 = .ok (.string (ofB ((L.drop j).take n))) w2 := by
    rw [← strOf _ HO.out]
    refine run_convert_bytes_arg w2 29 5 Try.underlying29 Try.underlying5 bb oo n c _ (by rw [List.length_map]; exact hl2) (fun k hk => ?_) 9 Try.underlying9
    have ho := H2.out.2 (by omega)
    subst ho
    have := (HE.out.ro HR.out).cell (i := j + k) (by omega)
    rw [Nat.add_assoc, this]
    simp [List.getD_eq_getElem?_getD, List.getElem?_drop, hk]
    cases h : L[j + k]? <;> simp
  generalize ofB ((L.drop j).take n) = s at *
  clear H H2 HE HO
  go_wp2
  go_ret
  exact ⟨s, j + n, 0, rfl, hsz, fun _ => trivial, HR.out, HS.out⟩
end Go.Proofs.Ythmnjamnaibcgaa
