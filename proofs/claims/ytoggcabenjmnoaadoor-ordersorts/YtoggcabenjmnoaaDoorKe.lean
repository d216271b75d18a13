/-
  order's appendNumber.
-/
import Derived.Test.YtoggcabenjmnoaaDoorKd
namespace Go.Proofs.YtoggcabenjmnoaaDoor
open Go.RowKit Math
set_option linter.unusedVariables false
set_option linter.unusedSimpArgs false
theorem posB_oct (m : Nat) (s : Int) (hm2 : m < 10000000000000000000) (hs0 : 0 ≤ s) (hs1 : s ≤ 18) : Oct (posB m s) := by
  intro x hx
  have hl := dgs_len 20 m
  unfold posB at hx
  rcases List.mem_cons.1 hx with rfl | hx
  · omega
  rcases List.mem_append.1 hx with hx | hx
  · obtain ⟨z, hz, rfl⟩ := List.mem_map.1 hx
    have := dgs_lt 20 m z (trz_mem hz)
    omega
  · obtain rfl := List.mem_singleton.1 hx
    omega
theorem posB_len (m : Nat) (s : Int) : (posB m s).length ≤ 22 := by
  have h1 := dgs_len 20 m
  have h2 := trz_len (dgs 20 m)
  unfold posB
  simp
  omega
theorem posB_pos (m : Nat) (s : Int) : 0 < (posB m s).length := by unfold posB; simp
theorem getD_right (l m : List Nat) (k : Nat) : (l ++ m).getD (l.length + k) 0 = m.getD k 0 := by
  rw [List.getD_eq_getElem?_getD, List.getD_eq_getElem?_getD, List.getElem?_append_right (by omega)]
  simp
theorem numB_zero (s : Int) : numB 0 s = [128] := rfl
theorem numB_pos (m : Nat) (s : Int) (h : 0 < m) : numB (m : Int) s = posB m s := by
  unfold numB
  rw [if_neg (by omega), if_neg (by omega)]
  simp
theorem numB_neg (m : Nat) (s : Int) (h : 0 < m) : numB (-(m : Int)) s = turnB (posB m s) := by
  unfold numB
  rw [if_neg (by omega), if_pos (by omega)]
  simp
def box6 (k n s : Int) (t : ByteArray) (na : Option Addr) (nl nc : Nat) (ka : Option Addr) (kl kc : Nat) : List Value := [.int .i64 k, .int .i64 n, .int .i64 s, .string t, .slice na nl nc, .slice ka kl kc]
set_option maxRecDepth 8000 in
theorem kNum_zero (k s : Int) (t : ByteArray) (na : Option Addr) (nl nc : Nat) (ka : Option Addr) (kl kc : Nat) (v : Value) (l : List Nat) (B : Nat) (W : World) (ho : Own W B v l) (hB : B ≤ W.heap.size) (hl : l.length ≤ 800000000) :
    Calls Tryd.prog 22 #[v, .agg #[.int .i64 k, .int .i64 0, .int .i64 s, .string t, .slice na nl nc, .slice ka kl kc]] W fun e w' => ∃ v', e = .returned v' ∧ Ap B W w' v v' (l ++ [128]) := by
  obtain ⟨W1, HW1⟩ : ∃ W1, Hid (W.alloc (.cells #[.int .i64 k, .int .i64 0, .int .i64 s, .string t, .slice na nl nc, .slice ka kl kc] 34) = W1) := ⟨_, rfl⟩
  have HB1 : Hid (Below W.heap.size W W1) := by rw [← HW1.out]; exact (Below.refl _ _).alloc (Nat.le_refl _) _
  have HO1 : Hid (Own W1 B v l) := by rw [← HW1.out]; exact ho.alloc _
  have hz1 : W1.heap.size = W.heap.size + 1 := by have := HW1.out; subst this; simp
  clear ho
  go_enter Tryd.func22, Tryd.ntmps22
  go_wp2_with (at_builtin; go_must (generalize hWW : World.alloc W _ = W9; obtain rfl : W1 = W9 := (by rw [← hWW, ← HW1.out]); clear hWW HW1; refine ap_bytes rfl (.tmp 10) (.tmp 11) rfl B v l rfl (HO1.out.alloc _) _ _ _ [128] rfl rfl (by have := byt_lit W1 [128]; rw [hz1] at this; exact this) (by simp) (by simp; omega) (by simp; omega) ?_))
  intro v1 w1 A1
  have HA : Hid (Ap B W w1 v v1 (l ++ [128])) := Ap.after HB1.out (Ap.after ((Below.refl _ _).alloc (Nat.le_refl _) _) A1)
  clear A1
  go_wp2
  go_ret
  exact ⟨v1, rfl, HA.out⟩
set_option maxRecDepth 8000 in
theorem kNum_pos (k s : Int) (m : Nat) (t : ByteArray) (na : Option Addr) (nl nc : Nat) (ka : Option Addr) (kl kc : Nat) (v : Value) (l : List Nat) (B : Nat) (W : World) (ho : Own W B v l) (hB : B ≤ W.heap.size) (hl : l.length ≤ 800000000) (hm : 0 < m) (hm2 : m < 9223372036854775808) (hs0 : 0 ≤ s) (hs1 : s ≤ 18) :
    Calls Tryd.prog 22 #[v, .agg #[.int .i64 k, .int .i64 (m : Int), .int .i64 s, .string t, .slice na nl nc, .slice ka kl kc]] W fun e w' => ∃ v', e = .returned v' ∧ Ap B W w' v v' (l ++ posB m s) := by
  obtain ⟨W1, HW1⟩ : ∃ W1, Hid (W.alloc (.cells #[.int .i64 k, .int .i64 (m : Int), .int .i64 s, .string t, .slice na nl nc, .slice ka kl kc] 34) = W1) := ⟨_, rfl⟩
  have HX : Hid (Blk W1 W.heap.size 34 (box6 k m s t na nl nc ka kl kc)) := by rw [← HW1.out]; exact blk_new W 34 (box6 k m s t na nl nc ka kl kc)
  have HB1 : Hid (Below W.heap.size W W1) := by rw [← HW1.out]; exact (Below.refl _ _).alloc (Nat.le_refl _) _
  have HO1 : Hid (Own W1 B v l) := by rw [← HW1.out]; exact ho.alloc _
  have hz1 : W1.heap.size = W.heap.size + 1 := by have := HW1.out; subst this; simp
  have HN : Hid (v.ownBlock ≠ some W.heap.size) := ho.ne
  have K := kAb v l m s B W1 HO1.out (by omega) hl hm (by omega) hs0 hs1
  obtain ⟨ax, c, rfl, _⟩ := ho.byt
  have h0 : ((m : Int) == 0) = false := beq_eq_false_iff_ne.2 (by omega)
  clear ho
  go_enter Tryd.func22, Tryd.ntmps22
  go_wp2_with fail
  generalize hWW : World.alloc W _ = W9
  obtain rfl : W1 = W9 := by rw [← hWW, ← HW1.out]
  clear hWW HW1
  refine K.mono ?_
  rintro e w1 ⟨v1, rfl, A1⟩
  have HA : Hid (Ap B W w1 (.slice ax l.length c) v1 (l ++ posB m s)) := Ap.after HB1.out A1
  have c1 : w1.cell? ⟨W.heap.size, 1, none⟩ = some (.int .i64 (m : Int)) := (A1.blk HX.out HN.out).cell 1
  clear A1 K
  go_wp2
  go_ret
  exact ⟨v1, rfl, HA.out⟩
set_option maxRecDepth 8000 in
theorem kNum_neg (k s : Int) (m : Nat) (t : ByteArray) (na : Option Addr) (nl nc : Nat) (ka : Option Addr) (kl kc : Nat) (v : Value) (l : List Nat) (B : Nat) (W : World) (ho : Own W B v l) (hB : B ≤ W.heap.size) (hl : l.length ≤ 800000000) (hm : 0 < m) (hm2 : m ≤ 9223372036854775808) (hs0 : 0 ≤ s) (hs1 : s ≤ 18) :
    Calls Tryd.prog 22 #[v, .agg #[.int .i64 k, .int .i64 (-(m : Int)), .int .i64 s, .string t, .slice na nl nc, .slice ka kl kc]] W fun e w' => ∃ v', e = .returned v' ∧ Ap B W w' v v' (l ++ turnB (posB m s)) := by
  obtain ⟨W1, HW1⟩ : ∃ W1, Hid (W.alloc (.cells #[.int .i64 k, .int .i64 (-(m : Int)), .int .i64 s, .string t, .slice na nl nc, .slice ka kl kc] 34) = W1) := ⟨_, rfl⟩
  have HX : Hid (Blk W1 W.heap.size 34 (box6 k (-(m : Int)) s t na nl nc ka kl kc)) := by rw [← HW1.out]; exact blk_new W 34 (box6 k (-(m : Int)) s t na nl nc ka kl kc)
  have HB1 : Hid (Below W.heap.size W W1) := by rw [← HW1.out]; exact (Below.refl _ _).alloc (Nat.le_refl _) _
  have HO1 : Hid (Own W1 B v l) := by rw [← HW1.out]; exact ho.alloc _
  have hz1 : W1.heap.size = W.heap.size + 1 := by have := HW1.out; subst this; simp
  have HN : Hid (v.ownBlock ≠ some W.heap.size) := ho.ne
  have K := kAb v l m s B W1 HO1.out (by omega) hl hm (by omega) hs0 hs1
  obtain ⟨ax, c, rfl, _⟩ := ho.byt
  have h0 : ((-(m : Int)) == 0) = false := beq_eq_false_iff_ne.2 (by omega)
  have h1 : decide (-(m : Int) < 0) = true := decide_eq_true (by omega)
  have hwrap : IntKind.u64.wrap (-IntKind.u64.wrap (-(m : Int))) = (m : Int) := by
    have e : ∀ x, IntKind.u64.wrap x = x % 18446744073709551616 := fun _ => rfl
    rw [e, e]
    omega
  have hpl := posB_len m s
  have hpp := posB_pos m s
  have HPo : Hid (Oct (posB m s)) := posB_oct m s (by omega) hs0 hs1
  generalize posB m s = P at *
  clear ho
  go_enter Tryd.func22, Tryd.ntmps22
  go_wp2_with fail
  generalize hWW : World.alloc W _ = W9
  obtain rfl : W1 = W9 := by rw [← hWW, ← HW1.out]
  clear hWW HW1 hwrap
  refine K.mono ?_
  rintro e w1 ⟨v1, rfl, A1⟩
  have HA : Hid (Ap B W w1 (.slice ax l.length c) v1 (l ++ P)) := Ap.after HB1.out A1
  have HX1 : Hid (Blk w1 W.heap.size 34 (box6 k (-(m : Int)) s t na nl nc ka kl kc)) := A1.blk HX.out HN.out
  have c1 : w1.cell? ⟨W.heap.size, 1, none⟩ = some (.int .i64 (-(m : Int))) := HX1.out.cell 1
  obtain ⟨g, cp, rfl, _, _, hlc, hcm, _⟩ := A1.own.form (by rw [List.length_append]; omega)
  unfold maxLen at hcm
  have KT := turn_any g l.length cp B (l ++ P) w1 A1.own (fun j => by rw [getD_right]; exact oct_get HPo.out j) (by rw [List.length_append]; omega) (by rw [List.length_append]; omega) hcm hlc (cp - l.length)
  rw [List.length_append, Nat.add_sub_cancel_left, trn_end] at KT
  rw [List.length_append] at hlc
  have hne : ¬ (cp = l.length) := by omega
  have hlp : (l ++ P).length = l.length + P.length := List.length_append
  clear A1 K
  have HA' : Hid (Ap B W w1 (.slice ax l.length c) (.slice (some ⟨g, 0, none⟩) (l.length + P.length) cp) (l ++ P)) := by rw [← hlp]; exact HA.out
  clear HA hlp
  go_wp2_with fail
  refine KT.mono ?_
  rintro e w2 ⟨rfl, H2⟩
  have HF : Hid (Ap B W w2 (.slice ax l.length c) (.slice (some ⟨g, 0, none⟩) (l.length + P.length) cp) (l ++ turnB P)) := HA'.out.trans ⟨H2.out.1, H2.out.2, fun b hb => .inl hb⟩
  clear KT H2 HA' c1
  go_wp2
  go_ret
  exact ⟨_, rfl, HF.out⟩
theorem kNum (k n s : Int) (t : ByteArray) (na : Option Addr) (nl nc : Nat) (ka : Option Addr) (kl kc : Nat) (v : Value) (l : List Nat) (B : Nat) (W : World) (ho : Own W B v l) (hB : B ≤ W.heap.size) (hl : l.length ≤ 800000000) (n0 : -9223372036854775808 ≤ n) (n1 : n < 9223372036854775808) (hs0 : 0 ≤ s) (hs1 : s ≤ 18) :
    Calls Tryd.prog 22 #[v, .agg #[.int .i64 k, .int .i64 n, .int .i64 s, .string t, .slice na nl nc, .slice ka kl kc]] W fun e w' => ∃ v', e = .returned v' ∧ Ap B W w' v v' (l ++ numB n s) := by
  rcases Int.lt_trichotomy n 0 with h | rfl | h
  · obtain ⟨m, rfl⟩ : ∃ m : Nat, n = -(m : Int) := ⟨n.natAbs, by omega⟩
    rw [numB_neg m s (by omega)]
    exact kNum_neg k s m t na nl nc ka kl kc v l B W ho hB hl (by omega) (by omega) hs0 hs1
  · rw [numB_zero]
    exact kNum_zero k s t na nl nc ka kl kc v l B W ho hB hl
  · obtain ⟨m, rfl⟩ : ∃ m : Nat, n = (m : Int) := ⟨n.natAbs, by omega⟩
    rw [numB_pos m s (by omega)]
    exact kNum_pos k s m t na nl nc ka kl kc v l B W ho hB hl (by omega) (by omega) hs0 hs1
end Go.Proofs.YtoggcabenjmnoaaDoor
