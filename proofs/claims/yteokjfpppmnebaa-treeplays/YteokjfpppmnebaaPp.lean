/-
  shaped; scripts of steps; heavy.
-/
import Derived.Test.YteokjfpppmnebaaPo
namespace Go.Proofs.Yteokjfpppmnebaa
open Go.RowKit
set_option linter.unusedVariables false
set_option linter.unusedSimpArgs false
theorem lenO_any (g : Nat) (T : Option (Nat × B)) (w : World) (h : TreeO w g T) : Calls Try.prog 16 #[.pointer (some ⟨g, 0, none⟩)] w fun e w' => e = .returned (.int .i64 ((entO T).length : Int)) ∧ w' = w := by
  cases T with
  | none => exact len_any g none 0 0 w h
  | some x => exact len_any g _ _ _ w (TreeM.tree h)
theorem TreeO.below {w w' : World} {g : Nat} {T : Option (Nat × B)} (h : TreeO w g T) (b : Below w.heap.size w w') : TreeO w' g T := by
  cases T with
  | none => exact Blk.below h b (Blk.lt h)
  | some x => exact TreeM.upd h (Upd.of_below [] b) (by simp) (by simp)
set_option maxRecDepth 8000 in
set_option maxHeartbeats 1000000 in
theorem shaped_any (g : Nat) (T : Option (Nat × B)) (w : World) (h : TreeO w g T) (hn : (entO T).length < 100000000) : Calls Try.prog 18 #[.pointer (some ⟨g, 0, none⟩)] w fun e w' => e = .returned (.bool true) ∧ Hid (Below w.heap.size w w') := by
  have K := shape_any g T w h hn
  have HO : Hid (∀ W, Below w.heap.size w W → TreeO W g T) := fun W b => h.below b
  obtain ⟨n, Hn⟩ : ∃ n, Hid ((entO T).length = n) := ⟨_, rfl⟩
  rw [Hn.out] at K hn
  have HL : Hid (∀ W, Below w.heap.size w W → Calls Try.prog 16 #[.pointer (some ⟨g, 0, none⟩)] W fun e w' => e = .returned (.int .i64 (n : Int)) ∧ w' = W) := fun W b => by rw [← Hn.out]; exact lenO_any g T W (HO.out W b)
  clear h HO Hn
  go_enter Try.func18, Try.ntmps18
  go_wp2_with fail
  refine K.mono ?_
  clear K
  rintro e w1 ⟨d, c, rfl, H⟩
  obtain ⟨hB, f1, f2, f3, f4, f5⟩ := H.out
  have HB : Hid (Below w.heap.size w w1) := hB
  have HF : Hid (d ≠ 0 → 2 ^ (d - 1) ≤ n) := f1
  have KL := HL.out w1 hB
  have HG : Hid ((0 < d ↔ 0 < n) ∧ (0 < c ↔ 0 < n)) := ⟨f3, f4⟩
  have h2 : (c : Int) ≤ (n : Int) := by omega
  clear H hB f1 f3 f4 HL
  go_wp2_with fail
  refine KL.mono ?_
  rintro e w2 ⟨rfl, hw⟩
  have hw' := hw.symm
  subst hw'
  clear hw
  have HKL : Hid (Calls Try.prog 16 #[.pointer (some ⟨g, 0, none⟩)] w1 fun e w' => e = .returned (.int .i64 (n : Int)) ∧ w' = w1) := KL
  clear KL
  go_wp2_with fail
  go_loopw [5, 6] (fun i x wr => ∃ k : Nat, k ≤ n ∧ i = .int .i64 (k : Int) ∧ Hid (x = .int .i64 ((n / 2 ^ k : Nat) : Int)) ∧ wr = w1) (fun _ x _ => (intOf x).toNat)
  case atStart => exact ⟨0, by omega, rfl, (by show _ = _; simp), rfl⟩
  case round =>
    obtain ⟨k, hk, rfl, hx, rfl⟩ := hrel
    obtain ⟨q, Hq⟩ : ∃ q, Hid (n / 2 ^ k = q) := ⟨_, rfl⟩
    rw [Hq.out] at hx
    obtain rfl := hx.out
    clear hx
    by_cases hq : 0 < q
    · have hq' : (0 : Int) < (q : Int) := by omega
      have hk2 : k + 1 ≤ n := by
        have h1 : k < 2 ^ k := Nat.lt_two_pow_self
        have h2 : 2 ^ k ≤ n := by
          rcases Nat.lt_or_ge n (2 ^ k) with h | h
          · have := Nat.div_eq_of_lt h; have := Hq.out; omega
          · exact h
        omega
      obtain ⟨q2, Hq2⟩ : ∃ q2, Hid (q / 2 = q2) := ⟨_, rfl⟩
      have HQ2 : Hid (n / 2 ^ (k + 1) = q2) := by show _ = _; rw [Nat.pow_succ, ← Nat.div_div_eq_div_mul, Hq.out, Hq2.out]
      have hqb : q ≤ n := by rw [← Hq.out]; exact Nat.div_le_self _ _
      have e2 : wrap64 ((q : Int) / 2) = (q2 : Int) := by rw [← Hq2.out]; exact wrap_small (by omega) (by omega)
      have HQI : Hid ((q : Int) / 2 = (q2 : Int)) := by show _ = _; rw [← Hq2.out]; omega
      have HLT : Hid (q2 < q) := by show _ < _; rw [← Hq2.out]; omega
      clear Hq Hq2
      go_wp2
      go_roundw
      case rel => exact ⟨k + 1, hk2, by go_num, (by rw [HQ2.out]; show _ = _; first | rw [HQI.out] | rw [e2]), trivial⟩
      case measure => have := HLT.out; simp [intOf, e2]; omega
    · have hq' : ¬ (0 : Int) < (q : Int) := by omega
      have hdk : (d : Int) ≤ (k : Int) := by
        have h0 : n / 2 ^ k = 0 := by have := Hq.out; omega
        have h1 : n < 2 ^ k := by
          rcases Nat.lt_or_ge n (2 ^ k) with h | h
          · exact h
          · have := Nat.div_pos h (Nat.two_pow_pos k); omega
        rcases Nat.eq_zero_or_pos d with hd | hd
        · omega
        · have h3 := HF.out (by omega)
          have h4 : 2 ^ (d - 1) < 2 ^ k := by omega
          have h5 := (Nat.pow_lt_pow_iff_right (by decide : 1 < 2)).1 h4
          omega
      have K := HKL.out
      clear Hq HF HKL
      rcases Nat.eq_zero_or_pos n with h0 | h0
      · obtain rfl : d = 0 := by have := HG.out; omega
        obtain rfl : c = 0 := by have := HG.out; omega
        subst h0
        clear HG
        go_wp2_with (go_at_call 16; refine K.mono ?_; rintro e w' ⟨rfl, rfl⟩)
        go_ret
        exact ⟨rfl, HB.out⟩
      · have p1 : 0 < d := by have := HG.out; omega
        have p2 : 0 < c := by have := HG.out; omega
        clear HG
        go_wp2_with (go_at_call 16; refine K.mono ?_; rintro e w' ⟨rfl, rfl⟩)
        go_ret
        exact ⟨rfl, HB.out⟩
/-! ### scripts -/
structure Stp where
  kind : Int
  n : Int
  key : ByteArray
  to : ByteArray
def stC (s : Stp) : List Value := [.int .i64 s.kind, .int .i64 s.n, .string s.key, .string s.to]
/-- A script in memory. -/
def Scr (w : World) (a : Option Addr) (l : List Stp) : Prop := l = [] ∨ ∃ b off, a = some ⟨b, off, none⟩ ∧ ∀ i s, l[i]? = some s → w.rangeAt b (off + i * 4) (stC s)
theorem Scr.below {w w' : World} {a : Option Addr} {l : List Stp} (h : Scr w a l) (g : Below w.heap.size w w') : Scr w' a l := by
  rcases h with h | ⟨b, off, e, h⟩
  · exact .inl h
  · exact .inr ⟨b, off, e, fun i s hs j v hj => by
      have h1 := h i s hs j v hj
      exact (g.cell (p := ⟨b, off + i * 4 + j, none⟩) (cell_lt h1)).trans h1⟩
theorem Scr.at {w : World} {a : Option Addr} {l : List Stp} (h : Scr w a l) {i : Nat} {s : Stp} (hs : l[i]? = some s) : ∃ b off, a = some ⟨b, off, none⟩ ∧ w.rangeAt b (off + i * 4) (stC s) := by
  rcases h with h | ⟨b, off, e, h⟩
  · rw [h] at hs; cases hs
  · exact ⟨b, off, e, h i s hs⟩
#print axioms shaped_any
end Go.Proofs.Yteokjfpppmnebaa
