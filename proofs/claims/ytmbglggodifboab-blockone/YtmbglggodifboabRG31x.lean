/-
  codec's reader: next, uvarint, signed, truth, length. · codec's reader: uvarint, signed, truth, length.
-/
import Derived.Test.YtmbglggodifboabRG30x
namespace Go.Proofs.Ytmbglggodifboab
open Go.RowKit Math
set_option linter.unusedVariables false
/-- What a reader reads. -/
structure En (w0 W : World) (r : Nat) (ab : Option Addr) (cb : Nat) (L : List Nat) : Prop where
  byt : Byt w0 ab L
  oct : Oct L
  bl : Below w0.heap.size w0 W
  lt : w0.heap.size ≤ r
  len : L.length ≤ 1000000
  cap : L.length ≤ cb
  cm : cb ≤ 9223372036854775807
  nil : ab = none → cb = 0
theorem En.ro {w0 W w' : World} {r : Nat} {ab : Option Addr} {cb : Nat} {L : List Nat} {i : Nat} {err : Int} (h : En w0 W r ab cb L) (k : Ro r ab cb L.length W w' i err) : En w0 w' r ab cb L :=
  ⟨h.byt, h.oct, h.bl.grown k.gr h.bl.size (fun x e => by injection e with e; have := h.lt; omega), h.lt, h.len, h.cap, h.cm, h.nil⟩
theorem En.below {w0 W w' : World} {r : Nat} {ab : Option Addr} {cb : Nat} {L : List Nat} (h : En w0 W r ab cb L) (k : Below W.heap.size W w') : En w0 w' r ab cb L :=
  ⟨h.byt, h.oct, h.bl.trans (k.mono h.bl.size), h.lt, h.len, h.cap, h.cm, h.nil⟩
theorem En.ptr {w0 W : World} {r : Nat} {ab : Option Addr} {cb : Nat} {L : List Nat} (h : En w0 W r ab cb L) (hL : 0 < L.length) : ∃ bb ob, ab = some ⟨bb, ob, none⟩ ∧ Cells w0 bb ob L := by
  rcases h.byt with e | ⟨bb, ob, e, hc⟩
  · rw [e] at hL; simp at hL
  · exact ⟨bb, ob, e, hc⟩
theorem En.cell {w0 W : World} {r : Nat} {bb ob cb : Nat} {L : List Nat} (h : En w0 W r (some ⟨bb, ob, none⟩) cb L) {i : Nat} (hi : i < L.length) : W.cell? ⟨bb, ob + i, none⟩ = some (.int .u8 ((L.getD i 0 : Nat) : Int)) := by
  rcases h.byt with e | ⟨b, o, e, hc⟩
  · rw [e] at hi; simp at hi
  · simp only [Option.some.injEq, Addr.mk.injEq, and_true] at e
    obtain ⟨rfl, rfl⟩ := e
    have := hc i hi
    rw [← this]
    exact h.bl.cell (p := ⟨bb, ob + i, none⟩) (cell_lt this)
/-- One step of a reader: behind an error nothing is done. -/
def St {α : Type} (f : Rdr α) (L : List Nat) (i : Nat) (err : Int) (j : Nat) (err' : Int) (x : α) : Prop :=
  (err ≠ 0 ∧ j = i ∧ err' = err) ∨ (err = 0 ∧ ((f (L.drop i) = .ok (x, L.drop j) ∧ err' = 0 ∧ i ≤ j) ∨ ∃ e : Nat, f (L.drop i) = .error e ∧ err' = (e : Int) ∧ e ≠ 0))
def RdC {α : Type} (F : Nat) (f : Rdr α) (val : α → Value) (P Z : α → Prop) : Prop := ∀ (w0 W : World) (r : Nat) (ab : Option Addr) (cb : Nat) (L : List Nat) (i : Nat) (err : Int), En w0 W r ab cb L → Blk W r 120 [.slice ab L.length cb, .int .i64 (i : Int), .int .i64 err] → i ≤ L.length →
  Calls Try.prog F #[.pointer (some ⟨r, 0, none⟩)] W fun e w' => ∃ x j err', e = .returned (val x) ∧ P x ∧ (err' ≠ 0 → Z x) ∧ Hid (Ro r ab cb L.length W w' j err' ∧ St f L i err j err' x)
set_option maxRecDepth 8000 in
theorem next_any : RdC 66 byR (fun x => .int .i64 (x : Int)) (· < 256) (· = 0) := by
  intro w0 W r ab cb L i err hE hb hi
  have hlen := hE.len
  have hcap := hE.cap
  have hcm := hE.cm
  by_cases hno : err ≠ 0 ∨ L.length < i + 1
  · have K := take_no r ab cb L.length i 1 hi hE.len err hno W hb
    obtain ⟨E, HEE⟩ : ∃ E, Hid ((if err ≠ 0 then err else 2) = E) := ⟨_, rfl⟩
    rw [HEE.out] at K
    have HS : Hid (St byR L i err i E 0) := by
      by_cases he : err = 0
      · right
        refine ⟨he, .inr ⟨2, ?_, ?_, by decide⟩⟩
        · rw [List.drop_of_length_le (by omega)]; rfl
        · rw [← HEE.out, if_neg (by simpa using he)]; rfl
      · left
        exact ⟨he, rfl, by rw [← HEE.out, if_pos he]⟩
    clear hb hE
    go_enter Try.func66, Try.ntmps66
    go_wp2_with fail
    refine K.mono ?_
    clear K
    rintro e w1 ⟨rfl, H1⟩
    go_wp2
    go_ret
    exact ⟨0, i, E, rfl, by decide, fun _ => rfl, H1.out, HS.out⟩
  have herr : err = 0 := by omega
  subst herr
  have hlt : i < L.length := by omega
  obtain ⟨bb, ob, rfl, hc⟩ := hE.ptr (by omega)
  have K := take_ok r bb ob cb L.length i 1 (i + 1) rfl (by omega) hE.len hE.cap hE.cm W hb
  have HE : Hid (En w0 W r (some ⟨bb, ob, none⟩) cb L) := hE
  have hx : L.getD i 0 < 256 := oct_get hE.oct i
  have HS : Hid (St byR L i 0 (i + 1) 0 (L.getD i 0)) := .inr ⟨rfl, .inl ⟨by rw [drop_get L i hlt]; rfl, rfl, by omega⟩⟩
  clear hb hc hE
  go_enter Try.func66, Try.ntmps66
  go_wp2_with fail
  refine K.mono ?_
  clear K
  rintro e w1 ⟨oo, c, rfl, H1⟩
  have ha := H1.out.2 (by omega)
  subst ha
  have HR : Hid (Ro r (some ⟨bb, ob, none⟩) cb L.length W w1 (i + 1) 0) := H1.out.1
  have cx : w1.cell? ⟨bb, ob + i, none⟩ = some (.int .u8 ((L.getD i 0 : Nat) : Int)) := (HE.out.ro HR.out).cell hlt
  generalize L.getD i 0 = x at *
  clear H1 HE
  go_wp2
  go_ret
  exact ⟨x, i + 1, 0, rfl, hx, fun h => absurd rfl h, HR.out, HS.out⟩
theorem ruv_bad : ∀ (l : List Nat) (k v : Nat), (ruv l k v).2.2 ≠ 0 → (ruv l k v).1 = 0 ∧ (ruv l k v).2.1 = 0
  | [], k, v, h => ⟨rfl, rfl⟩
  | x :: l, k, v, h => by
    unfold ruv at h ⊢
    split
    · exact ⟨rfl, rfl⟩
    · next h1 =>
      rw [if_neg h1] at h
      split
      · next h2 =>
        rw [if_pos h2] at h
        exact ruv_bad l _ _ h
      · next h2 =>
        rw [if_neg h2] at h
        split
        · exact ⟨rfl, rfl⟩
        · next h3 =>
          rw [if_neg h3] at h
          exact absurd rfl h
theorem ruv_good {l : List Nat} (ho : Oct l) (h : (ruv l 0 0).2.2 = 0) : (ruv l 0 0).1 < 18446744073709551616 ∧ (ruv l 0 0).2.1 ≤ l.length ∧ (ruv l 0 0).2.1 ≤ 10 ∧ 0 < (ruv l 0 0).2.1 := by
  obtain ⟨q, r, e1, e2, e3, _, e5⟩ := ruv_inv l 0 0 (ruv l 0 0).1 (ruv l 0 0).2.1 ho (by decide) (by decide) (by
    generalize ruv l 0 0 = t at *
    obtain ⟨a, b, c⟩ := t
    simp only at h
    rw [h])
  have e3 : (ruv l 0 0).1 = q := by simpa using e3
  refine ⟨e5, ?_, ?_, ?_⟩
  · rw [e2, Nat.zero_add]
    conv => rhs; rw [e1]
    simp
  · rw [e2, Nat.zero_add]
    exact uv_ten q (by omega)
  · rw [e2, Nat.zero_add]
    exact uv_pos q
end Go.Proofs.Ytmbglggodifboab
namespace Go.Proofs.Ytmbglggodifboab
open Go.RowKit Math
set_option linter.unusedVariables false
set_option maxRecDepth 8000 in
theorem uv_err (r : Nat) (ab : Option Addr) (cb N i : Nat) (err : Int) (he : err ≠ 0) (W : World) (hb : Blk W r 120 [.slice ab N cb, .int .i64 (i : Int), .int .i64 err]) :
    Calls Try.prog 69 #[.pointer (some ⟨r, 0, none⟩)] W fun e w' => e = .returned (.int .u64 0) ∧ w' = W := by
  have c2 : W.cell? ⟨r, 2, none⟩ = some (.int .i64 err) := hb.cell 2
  have hne : (err != 0) = true := by simpa using he
  clear hb
  go_enter Try.func69, Try.ntmps69
  go_wp2
  go_ret
  exact ⟨rfl, rfl⟩
set_option maxRecDepth 8000 in
theorem uv_end (r : Nat) (bb ob N j u n e : Nat) (hj : N + n = j) (hn : n ≤ 10) (hN : N ≤ 1000000) (hjN : j ≤ N) (W : World) (hb : Blk W r 120 [.slice (some ⟨bb, ob, none⟩) N N, .int .i64 (N : Int), .int .i64 0])
    (KS : Hid (∀ q, Calls Try.prog 36 #[.slice (some ⟨bb, ob, none⟩) 0 0] (W.drewN q) fun e' w' => e' = .returned (.tuple #[.int .u64 (u : Int), .int .i64 (n : Int), .int .i64 (e : Int)]) ∧ w' = W.drewN q)) :
    Calls Try.prog 69 #[.pointer (some ⟨r, 0, none⟩)] W fun e' w' => e' = .returned (.int .u64 (u : Int)) ∧ Hid (Ro r (some ⟨bb, ob, none⟩) N N W w' j (e : Int)) := by
  have c0 : W.cell? ⟨r, 0, none⟩ = some (.slice (some ⟨bb, ob, none⟩) N N) := hb.cell 0
  have c1 : W.cell? ⟨r, 1, none⟩ = some (.int .i64 (N : Int)) := hb.cell 1
  have c2 : W.cell? ⟨r, 2, none⟩ = some (.int .i64 0) := hb.cell 2
  have HB : Hid (Blk W r 120 [.slice (some ⟨bb, ob, none⟩) N N, .int .i64 (N : Int), .int .i64 0]) := hb
  have hin : (N : Int) + (n : Int) = (j : Int) := by omega
  clear hb hj
  go_enter Try.func69, Try.ntmps69
  go_wp2
  go_quiet (exact Calls.quiet_of_same (KS.out _))
  clear KS
  have HB2 : Hid (Blk (W.drewN nq) r 120 [.slice (some ⟨bb, ob, none⟩) N N, .int .i64 (N : Int), .int .i64 0]) := HB.out.drewN nq
  have HG2 : Hid (W.grownBy (W.drewN nq) (some r)) := grown_dq W nq _
  generalize W.drewN nq = W2 at *
  have K := fail_any r (some ⟨bb, ob, none⟩) N N N (Nat.le_refl _) 0 (e : Int) W2 HB2.out
  simp only [ne_eq, not_true_eq_false, if_false] at K
  clear c0 c1 c2 HB
  go_wp2_with fail
  refine K.mono ?_
  clear K
  rintro e' w3 ⟨rfl, H3⟩
  have HB3 : Hid (Blk w3 r 120 [.slice (some ⟨bb, ob, none⟩) N N, .int .i64 (N : Int), .int .i64 (e : Int)]) := H3.out.blk
  have HG3 : Hid (W.grownBy w3 (some r)) := HG2.out.trans H3.out.gr
  have d1 : w3.cell? ⟨r, 1, none⟩ = some (.int .i64 (N : Int)) := HB3.out.cell 1
  clear H3 HB2 HG2
  go_wp2_with (refine st_one rfl 3 (.tmp 35) (.tmp 33) rfl r 1 120 _ (.int .i64 (j : Int)) rfl rfl rfl rfl (by simp) HB3.out s3 ?_)
  intro w4 b4 g4
  have HR : Hid (Ro r (some ⟨bb, ob, none⟩) N N W w4 j (e : Int)) := ⟨b4, hjN, HG3.out.trans g4⟩
  clear b4 g4 HB3 HG3 d1
  go_wp2
  go_ret
  exact ⟨rfl, HR.out⟩
set_option maxRecDepth 8000 in
theorem uv_mid (r : Nat) (bb ob cb N i j u n e : Nat) (hj : i + n = j) (hn : n ≤ 10) (hi : i ≤ N) (hN : N ≤ 1000000) (hcb : N ≤ cb) (hcm : cb ≤ 9223372036854775807) (hjN : j ≤ N) (hci : ¬ cb = i) (W : World) (hb : Blk W r 120 [.slice (some ⟨bb, ob, none⟩) N cb, .int .i64 (i : Int), .int .i64 0])
    (KS : Hid (∀ q, Calls Try.prog 36 #[.slice (some ⟨bb, ob + i, none⟩) (N - i) (cb - i)] (W.drewN q) fun e' w' => e' = .returned (.tuple #[.int .u64 (u : Int), .int .i64 (n : Int), .int .i64 (e : Int)]) ∧ w' = W.drewN q)) :
    Calls Try.prog 69 #[.pointer (some ⟨r, 0, none⟩)] W fun e' w' => e' = .returned (.int .u64 (u : Int)) ∧ Hid (Ro r (some ⟨bb, ob, none⟩) cb N W w' j (e : Int)) := by
  have c0 : W.cell? ⟨r, 0, none⟩ = some (.slice (some ⟨bb, ob, none⟩) N cb) := hb.cell 0
  have c1 : W.cell? ⟨r, 1, none⟩ = some (.int .i64 (i : Int)) := hb.cell 1
  have c2 : W.cell? ⟨r, 2, none⟩ = some (.int .i64 0) := hb.cell 2
  have HB : Hid (Blk W r 120 [.slice (some ⟨bb, ob, none⟩) N cb, .int .i64 (i : Int), .int .i64 0]) := hb
  have hin : (i : Int) + (n : Int) = (j : Int) := by omega
  have hiN : (i : Int) ≤ (N : Int) := by omega
  clear hb hj
  go_enter Try.func69, Try.ntmps69
  go_wp2
  go_quiet (exact Calls.quiet_of_same (KS.out _))
  clear KS
  have HB2 : Hid (Blk (W.drewN nq) r 120 [.slice (some ⟨bb, ob, none⟩) N cb, .int .i64 (i : Int), .int .i64 0]) := HB.out.drewN nq
  have HG2 : Hid (W.grownBy (W.drewN nq) (some r)) := grown_dq W nq _
  generalize W.drewN nq = W2 at *
  have K := fail_any r (some ⟨bb, ob, none⟩) cb N i hi 0 (e : Int) W2 HB2.out
  simp only [ne_eq, not_true_eq_false, if_false] at K
  clear c0 c1 c2 HB
  go_wp2_with fail
  refine K.mono ?_
  clear K
  rintro e' w3 ⟨rfl, H3⟩
  have HB3 : Hid (Blk w3 r 120 [.slice (some ⟨bb, ob, none⟩) N cb, .int .i64 (i : Int), .int .i64 (e : Int)]) := H3.out.blk
  have HG3 : Hid (W.grownBy w3 (some r)) := HG2.out.trans H3.out.gr
  have d1 : w3.cell? ⟨r, 1, none⟩ = some (.int .i64 (i : Int)) := HB3.out.cell 1
  clear H3 HB2 HG2
  go_wp2_with (refine st_one rfl 3 (.tmp 35) (.tmp 33) rfl r 1 120 _ (.int .i64 (j : Int)) rfl rfl rfl rfl (by simp) HB3.out s3 ?_)
  intro w4 b4 g4
  have HR : Hid (Ro r (some ⟨bb, ob, none⟩) cb N W w4 j (e : Int)) := ⟨b4, hjN, HG3.out.trans g4⟩
  clear b4 g4 HB3 HG3 d1
  go_wp2
  go_ret
  exact ⟨rfl, HR.out⟩
end Go.Proofs.Ytmbglggodifboab
