/-
  Chapter 17's laws: rows of tokens are held against each other; what is known. · LexPlaces: places rise, within the text. · LexBlanks: blanks and remarks between words change no word.
-/
import Derived.Test.YtpfiejmhnkcjbaaGreatDoorFG19x
namespace Go.Proofs.YtpfiejmhnkcjbaaGreatDoor
open Go.RowKit Lx
set_option linter.unusedVariables false
set_option linter.unusedSimpArgs false
/-- A row of tokens that may be read. -/
def TkS (w : World) (v : Value) (L : List Tk) : Prop := ∃ a c, v = .slice a L.length c ∧ (L = [] ∨ ∃ b, a = some ⟨b, 0, none⟩ ∧ b < w.heap.size ∧ w.rangeAt b 0 (tkC L))
theorem TkR.tks {B : Nat} {w : World} {v : Value} {L : List Tk} (h : TkR B w v L) : TkS w v L := by
  rcases h with ⟨h1, ⟨rfl, h0⟩ | ⟨g, cap, cur, rfl, hg, hh, hle, hm, h5, h6⟩⟩
  · exact ⟨none, 0, by rw [h0], .inl (List.eq_nil_of_length_eq_zero h0)⟩
  · refine ⟨_, cap, rfl, .inr ⟨g, rfl, (Array.getElem?_eq_some_iff.1 hh).1, ?_⟩⟩
    intro j u hj
    rw [Nat.zero_add, cell_of_row w g j cur _ (0, 0) hh, ← Array.getElem?_toList]
    rw [← h6] at hj
    rw [List.getElem?_take] at hj
    split at hj
    · exact hj
    · cases hj
theorem TkS.below {w w' : World} {v : Value} {L : List Tk} (h : TkS w v L) (g : Below w.heap.size w w') : TkS w' v L := by
  obtain ⟨a, c, e, h | ⟨b, e2, hb, hr⟩⟩ := h
  · exact ⟨a, c, e, .inl h⟩
  · refine ⟨a, c, e, .inr ⟨b, e2, Nat.lt_of_lt_of_le hb g.size, fun j u hj => ?_⟩⟩
    have := hr j u hj
    unfold World.cell? at this ⊢
    simp only at this ⊢
    rw [g.block b hb]
    exact this
theorem tkC_at {L : List Tk} : ∀ {j : Nat} {x : Tk}, L[j]? = some x → ∀ i u, (tk1 x)[i]? = some u → (tkC L)[j * 3 + i]? = some u := by
  induction L with
  | nil => intro j x h; simp at h
  | cons y L ih =>
    intro j x h i u hu
    have h3 : (tk1 y).length = 3 := rfl
    show (tk1 y ++ tkC L)[j * 3 + i]? = some u
    cases j with
    | zero =>
      simp at h
      subst h
      have hi : i < (tk1 y).length := (List.getElem?_eq_some_iff.1 hu).1
      rw [Nat.zero_mul, Nat.zero_add, List.getElem?_append_left hi]
      exact hu
    | succ j =>
      rw [List.getElem?_append_right (by omega), h3, show (j + 1) * 3 + i - 3 = j * 3 + i by omega]
      exact ih (by simpa using h) i u hu
theorem tk_range {w : World} {b : Nat} {L : List Tk} (h : w.rangeAt b 0 (tkC L)) {j : Nat} {x : Tk} (hx : L[j]? = some x) : w.rangeAt b (j * 3) (tk1 x) := fun i u hu => by
  have := h (j * 3 + i) u (tkC_at hx i u hu)
  rwa [Nat.zero_add] at this
theorem lx_ixt {C : World → Prop} {a : Act} {o : Oper} {K : Act → Prop} (x y : Operand) (ho : o.op = .indexAddr 22 x y) (b n c k : Nat) (hx : a.eval x = .slice (some ⟨b, 0, none⟩) n c) (hy : a.eval y = .int .i64 (k : Int)) (hk1 : k < n)
    (hk : K (a.put o.dst (.pointer (some ⟨b, k * 3, none⟩)))) : o.quiet Tryz.prog a C K :=
  ⟨_, fun w hw => by
    unfold Oper.quietAt execOp
    have h1 : ¬ ((k : Int) < 0) := by omega
    have h2 : ¬ ((n : Int) ≤ (k : Int)) := by omega
    simp only [ho, hx, hy]
    go_simp, hk⟩
set_option maxRecDepth 8000 in
set_option maxHeartbeats 2000000 in
theorem tokens_any (L : List Tk) (hL : L.length ≤ 100000) (v u : Value) (w : World) (hv : TkS w v L) (hu : TkS w u L) : Calls Tryz.prog 11 #[v, u] w fun e w' => e = .returned (.bool true) ∧ Hid (Below w.heap.size w w') := by
  obtain ⟨a, c, rfl, HA⟩ := hv
  obtain ⟨a2, c2, rfl, HA2⟩ := hu
  have HA : Hid _ := HA
  have HA2 : Hid _ := HA2
  go_enter Tryz.func11, Tryz.ntmps11
  go_wp2
  go_loopw [5] (fun iv wr => ∃ k : Nat, k ≤ L.length ∧ iv = .int .i64 (k : Int) ∧ Hid (Below w.heap.size w wr)) (fun iv _ => L.length - (intOf iv).toNat)
  case atStart => exact ⟨0, Nat.zero_le _, rfl, Below.refl _ _⟩
  case round =>
    obtain ⟨k, hk, rfl, HB⟩ := hrel
    by_cases hlt : k < L.length
    · have x1 : (k : Int) < (L.length : Int) := by omega
      obtain ⟨x, hx⟩ : ∃ x, L[k]? = some x := ⟨_, List.getElem?_eq_getElem hlt⟩
      rcases HA.out with e | ⟨b, rfl, hb, hr⟩
      · rw [e] at hlt; simp at hlt
      rcases HA2.out with e | ⟨b2, rfl, hb2, hr2⟩
      · rw [e] at hlt; simp at hlt
      have HR : Hid (w.rangeAt b (k * 3) (tk1 x)) := tk_range hr hx
      have HR2 : Hid (w.rangeAt b2 (k * 3) (tk1 x)) := tk_range hr2 hx
      obtain ⟨C, hC⟩ : ∃ C : World → Prop, C = fun W => Below w.heap.size w W := ⟨_, rfl⟩
      have C0 : Hid (C { wr with drawn := wr.drawn + 1 }) := by rw [hC]; exact Below.drew HB.out
      have CO : Hid (∀ W, C W → Below w.heap.size w W) := fun W h => by rw [hC] at h; exact h
      have hCp : ∀ p : Prop, (∀ W, C W → p) ↔ p := fun p => ⟨fun h => h _ C0.out, fun h _ _ => h⟩
      have F1 : Hid (∀ W, C W → W.rangeAt b (k * 3) (tk1 x)) := fun W h j u hj => by
        rw [hC] at h
        have := HR.out j u hj
        unfold World.cell? at this ⊢
        simp only at this ⊢
        rw [h.block b hb]
        exact this
      have F2 : Hid (∀ W, C W → W.rangeAt b2 (k * 3) (tk1 x)) := fun W h j u hj => by
        rw [hC] at h
        have := HR2.out j u hj
        unfold World.cell? at this ⊢
        simp only at this ⊢
        rw [h.block b2 hb2]
        exact this
      clear hC hr hr2 HR HR2 hb hb2 hx
      obtain ⟨xk, xt, xp⟩ := x
      go_wp2_with fail
      refine wp_region_quiet (C := C) (by kernel_rfl) (by kernel_rfl) C0.out ?_
      change wpQuiet _ _ _ _ (_ :: _ :: _ :: _ :: _ :: _ :: _ :: _ :: _ :: []) _
      repeat (first
        | go_big_quiet_skip
        | (go_big_quiet_want
           first
           | (refine lx_ixt (.tmp 17) (.tmp 18) rfl b L.length c k rfl rfl hlt ?_
              simp only [Act.put, List.setIfInBounds_toArray, List.set_cons_zero, List.set_cons_succ]
              go_big_quiet_on)
           | (refine lx_ixt (.tmp 21) (.tmp 22) rfl b2 L.length c2 k rfl rfl hlt ?_
              simp only [Act.put, List.setIfInBounds_toArray, List.set_cons_zero, List.set_cons_succ]
              go_big_quiet_on)
           | (refine lx_load 32 (.tmp 19) rfl b (k * 3) rfl [.int .i64 (xk : Int), .string (ofB xt), .int .i64 (xp : Int)] _ F1.out Tryz.underlying32 rfl sTk ?_
              simp only [Act.put, List.setIfInBounds_toArray, List.set_cons_zero, List.set_cons_succ]
              go_big_quiet_on)
           | (refine lx_load 32 (.tmp 23) rfl b2 (k * 3) rfl [.int .i64 (xk : Int), .string (ofB xt), .int .i64 (xp : Int)] _ F2.out Tryz.underlying32 rfl sTk ?_
              simp only [Act.put, List.setIfInBounds_toArray, List.set_cons_zero, List.set_cons_succ]
              go_big_quiet_on)
           | (go_big_quiet_op
              go_big_quiet_on)))
      refine wpQuiet_nil ?_
      intro w9 h9
      have HB9 : Hid (Below w.heap.size w w9) := CO.out _ h9
      clear h9 hCp C0 F1 F2 CO
      go_wp2
      go_roundw
      case rel => exact ⟨k + 1, by omega, by go_num, HB9.out⟩
      case measure => simp [intOf]; omega
    · have x1 : ¬ (k : Int) < (L.length : Int) := by omega
      go_wp2
      go_ret
      exact ⟨rfl, HB.out⟩
def knT : List Tk := [(2, [115, 101, 108, 101, 99, 116], 0), (1, [120], 7), (6, [46], 8), (1, [97], 9), (8, [], 15)]
theorem known_lex : lexR (fun _ => false) (fun _ => false) [83, 101, 108, 101, 99, 116, 32, 120, 46, 97, 32, 45, 45, 32, 121] 0 = (knT, none) := by decide +kernel
set_option maxRecDepth 8000 in
set_option maxHeartbeats 2000000 in
theorem known_any (w : World) : Calls Tryz.prog 12 #[] w fun e w' => e = .returned (.bool true) ∧ Hid (Below w.heap.size w w') := by
  have KL := lex_any (fun _ => false) (fun _ => false) ⟨#[83, 101, 108, 101, 99, 116, 32, 120, 46, 97, 32, 45, 45, 32, 121]⟩ (by decide) w (fun h => absurd h (by decide +kernel)) (fun h => absurd h (by decide +kernel))
  have hb : bts (⟨#[83, 101, 108, 101, 99, 116, 32, 120, 46, 97, 32, 45, 45, 32, 121]⟩ : ByteArray) = [83, 101, 108, 101, 99, 116, 32, 120, 46, 97, 32, 45, 45, 32, 121] := rfl
  rw [hb] at KL
  clear hb
  go_enter Tryz.func12, Tryz.ntmps12
  go_wp2_with fail
  refine KL.mono ?_
  rintro e w1 ⟨hA, q⟩
  unfold LexA at hA
  rw [known_lex] at hA
  obtain ⟨v, rfl, hR⟩ := hA
  have HR : Hid (TkS w1 v knT) := TkR.tks hR
  have HB : Hid (Below w.heap.size w w1) := q.out
  clear q hR KL
  go_wp2_with (go_at_call 11; refine (tokens_any knT (by decide) v _ _ (HR.out.below ((Below.refl _ _).alloc (Nat.le_refl _) _)) ?_).mono ?_)
  · refine ⟨_, 5, rfl, .inr ⟨w1.heap.size, rfl, by simp, ?_⟩⟩
    intro j u hj
    rw [Nat.zero_add, cell_of_row _ w1.heap.size j _ 32 (0, 0) (heap_alloc_new w1 _)]
    rw [← hj]
    rw [← Array.getElem?_toList]
    rfl
  rintro e w2 ⟨rfl, q⟩
  have HB2 : Hid (Below w.heap.size w w2) := (HB.out.alloc HB.out.size _).trans (q.out.mono (Nat.le_trans HB.out.size (by simp)))
  clear q HB HR
  go_wp2
  go_ret
  exact ⟨rfl, HB2.out⟩
end Go.Proofs.YtpfiejmhnkcjbaaGreatDoor
namespace Go.Proofs.YtpfiejmhnkcjbaaGreatDoor
open Go.RowKit Lx
set_option linter.unusedVariables false
set_option linter.unusedSimpArgs false
end Go.Proofs.YtpfiejmhnkcjbaaGreatDoor
namespace Go.Proofs.YtpfiejmhnkcjbaaGreatDoor
open Go.RowKit Lx
set_option linter.unusedVariables false
set_option linter.unusedSimpArgs false
theorem TxP.mono {tx : List Nat → Bool} {w0 w : World} (h : TxP tx w0) (g : Below w0.heap.size w0 w) : TxP tx w := fun x hx h39 W hW => h x hx h39 W (g.trans (hW.mono g.size))
theorem NuP.mono {nu : List Nat → Bool} {w0 w : World} (h : NuP nu w0) (g : Below w0.heap.size w0 w) : NuP nu w := fun x hx W hW => h x hx W (g.trans (hW.mono g.size))
theorem lexA_ok {w : World} {tx nu : List Nat → Bool} {r : List Nat} {e : Ending} {w' : World} (h : LexA w tx nu r e w') (hp : (lexR tx nu r 0).2 = none) : ∃ v, e = .returned (.tuple #[v, .int .i64 0, .int .i64 0]) ∧ TkS w' v (lexR tx nu r 0).1 := by
  unfold LexA at h
  rw [hp] at h
  obtain ⟨v, e, hR⟩ := h
  exact ⟨v, e, TkR.tks hR⟩
/-- A row that is not empty. -/
theorem TkS.row {w : World} {v : Value} {L : List Tk} (h : TkS w v L) (hne : L ≠ []) : ∃ b c, v = .slice (some ⟨b, 0, none⟩) L.length c ∧ b < w.heap.size ∧ w.rangeAt b 0 (tkC L) := by
  obtain ⟨a, c, e, h | ⟨b, e2, hb, hr⟩⟩ := h
  · exact absurd h hne
  · exact ⟨b, c, by rw [e, e2], hb, hr⟩
end Go.Proofs.YtpfiejmhnkcjbaaGreatDoor
