/-
  The document's own key, kind by kind.
-/
import Derived.Test.YtmlfhplhiedfjaaGreatDoorOG45x
import Derived.Test.YtmlfhplhiedfjaaGreatDoorOKf
namespace Go.Proofs.YtmlfhplhiedfjaaGreatDoor
open Go.RowKit Math
set_option linter.unusedVariables false
set_option linter.unusedSimpArgs false
set_option maxRecDepth 8000 in
set_option maxHeartbeats 1000000 in
theorem rk_1 (n s : Int) (t : ByteArray) (na : Option Addr) (nl nc : Nat) (ka : Option Addr) (kl kc : Nat) (v : Value) (l : List Nat) (hl : l.length ≤ 600000000) (B : Nat) (W : World) (ho : Own W B v l) (hB : B ≤ W.heap.size) :
    Calls Tryz.prog 95 #[v, .agg #[.int .i64 1, .int .i64 n, .int .i64 s, .string t, .slice na nl nc, .slice ka kl kc]] W fun e w' => ∃ v', e = .returned v' ∧ Ap B W w' v v' (l ++ [16]) := by
  obtain ⟨W1, HW1⟩ : ∃ W1, Hid (W.alloc (.cells #[.int .i64 1, .int .i64 n, .int .i64 s, .string t, .slice na nl nc, .slice ka kl kc] 38) = W1) := ⟨_, rfl⟩
  have HX : Hid (Blk W1 W.heap.size 38 [.int .i64 1, .int .i64 n, .int .i64 s, .string t, .slice na nl nc, .slice ka kl kc]) := by rw [← HW1.out]; exact blk_new W 38 [.int .i64 1, .int .i64 n, .int .i64 s, .string t, .slice na nl nc, .slice ka kl kc]
  have HO1 : Hid (Own W1 B v l) := by rw [← HW1.out]; exact ho.alloc _
  have hz1 : W1.heap.size = W.heap.size + 1 := by have := HW1.out; subst this; simp
  have HB1 : Hid (Below W.heap.size W W1) := by rw [← HW1.out]; exact (Below.refl _ _).alloc (Nat.le_refl _) _
  have HN : Hid (v.ownBlock ≠ some W.heap.size) := ho.ne
  clear ho
  go_enter Tryz.func95, Tryz.ntmps95
  go_wp2_with (at_builtin; go_must (generalize hWW : World.alloc W _ = W9; obtain rfl : W1 = W9 := (by rw [← hWW, ← HW1.out]); clear hWW HW1; refine ap_bytes rfl (.tmp 11) (.tmp 12) rfl B v l rfl (HO1.out.alloc _) _ _ _ [16] rfl rfl (by have := byt_lit W1 [16]; rw [hz1] at this; exact this) (by simp) (by simp; omega) (by simp; omega) ?_))
  intro v1 w1 A1
  have HA : Hid (Ap B W w1 v v1 (l ++ [16])) := Ap.after HB1.out (Ap.after ((Below.refl _ _).alloc (Nat.le_refl _) _) A1)
  clear A1
  go_wp2
  go_ret
  exact ⟨v1, rfl, HA.out⟩
set_option maxRecDepth 8000 in
set_option maxHeartbeats 1000000 in
theorem rk_2 (s : Int) (t : ByteArray) (na : Option Addr) (nl nc : Nat) (ka : Option Addr) (kl kc : Nat) (v : Value) (l : List Nat) (hl : l.length ≤ 600000000) (q : Nat) (hq : q < 256) (B : Nat) (W : World) (ho : Own W B v l) (hB : B ≤ W.heap.size) :
    Calls Tryz.prog 95 #[v, .agg #[.int .i64 2, .int .i64 (q : Int), .int .i64 s, .string t, .slice na nl nc, .slice ka kl kc]] W fun e w' => ∃ v', e = .returned v' ∧ Ap B W w' v v' (l ++ [32, q]) := by
  obtain ⟨W1, HW1⟩ : ∃ W1, Hid (W.alloc (.cells #[.int .i64 2, .int .i64 (q : Int), .int .i64 s, .string t, .slice na nl nc, .slice ka kl kc] 38) = W1) := ⟨_, rfl⟩
  have HX : Hid (Blk W1 W.heap.size 38 [.int .i64 2, .int .i64 (q : Int), .int .i64 s, .string t, .slice na nl nc, .slice ka kl kc]) := by rw [← HW1.out]; exact blk_new W 38 [.int .i64 2, .int .i64 (q : Int), .int .i64 s, .string t, .slice na nl nc, .slice ka kl kc]
  have HO1 : Hid (Own W1 B v l) := by rw [← HW1.out]; exact ho.alloc _
  have hz1 : W1.heap.size = W.heap.size + 1 := by have := HW1.out; subst this; simp
  have HB1 : Hid (Below W.heap.size W W1) := by rw [← HW1.out]; exact (Below.refl _ _).alloc (Nat.le_refl _) _
  have HN : Hid (v.ownBlock ≠ some W.heap.size) := ho.ne
  clear ho
  go_enter Tryz.func95, Tryz.ntmps95
  go_wp2_with (at_builtin; go_must (generalize hWW : World.alloc W _ = W9; obtain rfl : W1 = W9 := (by rw [← hWW, ← HW1.out]); clear hWW HW1; refine ap_bytes rfl (.tmp 16) (.tmp 20) rfl B v l rfl (HO1.out.alloc _) _ _ _ [32, q] rfl rfl (by have := byt_lit W1 [32, q]; rw [hz1] at this; exact this) (by simp) (by simp; omega) (by simp; omega) ?_))
  intro v1 w1 A1
  have HA : Hid (Ap B W w1 v v1 (l ++ [32, q])) := Ap.after HB1.out (Ap.after ((Below.refl _ _).alloc (Nat.le_refl _) _) A1)
  clear A1
  go_wp2
  go_ret
  exact ⟨v1, rfl, HA.out⟩
set_option maxRecDepth 8000 in
set_option maxHeartbeats 1000000 in
theorem rk_3 (n s : Int) (t : ByteArray) (na : Option Addr) (nl nc : Nat) (ka : Option Addr) (kl kc : Nat) (v : Value) (l : List Nat) (hl : l.length ≤ 600000000) (n0 : -9223372036854775808 ≤ n) (n1 : n < 9223372036854775808) (hs0 : 0 ≤ s) (hs1 : s ≤ 18) (B : Nat) (W : World) (ho : Own W B v l) (hB : B ≤ W.heap.size) :
    Calls Tryz.prog 95 #[v, .agg #[.int .i64 3, .int .i64 n, .int .i64 s, .string t, .slice na nl nc, .slice ka kl kc]] W fun e w' => ∃ v', e = .returned v' ∧ Ap B W w' v v' (l ++ 48 :: numB n s) := by
  obtain ⟨W1, HW1⟩ : ∃ W1, Hid (W.alloc (.cells #[.int .i64 3, .int .i64 n, .int .i64 s, .string t, .slice na nl nc, .slice ka kl kc] 38) = W1) := ⟨_, rfl⟩
  have HX : Hid (Blk W1 W.heap.size 38 [.int .i64 3, .int .i64 n, .int .i64 s, .string t, .slice na nl nc, .slice ka kl kc]) := by rw [← HW1.out]; exact blk_new W 38 [.int .i64 3, .int .i64 n, .int .i64 s, .string t, .slice na nl nc, .slice ka kl kc]
  have HO1 : Hid (Own W1 B v l) := by rw [← HW1.out]; exact ho.alloc _
  have hz1 : W1.heap.size = W.heap.size + 1 := by have := HW1.out; subst this; simp
  have HB1 : Hid (Below W.heap.size W W1) := by rw [← HW1.out]; exact (Below.refl _ _).alloc (Nat.le_refl _) _
  have HN : Hid (v.ownBlock ≠ some W.heap.size) := ho.ne
  clear ho
  go_enter Tryz.func95, Tryz.ntmps95
  go_wp2
  generalize hWW : World.alloc W _ = W9
  obtain rfl : W1 = W9 := by rw [← hWW, ← HW1.out]
  clear hWW HW1
  obtain ⟨C, hC⟩ : ∃ C : World → Prop, C = fun W' => Blk W' W.heap.size 38 [.int .i64 3, .int .i64 n, .int .i64 s, .string t, .slice na nl nc, .slice ka kl kc] := ⟨_, rfl⟩
  have Q0 : Hid (∀ W', C W' → W'.cell? ⟨W.heap.size, 0, none⟩ = some (.int .i64 3)) := fun W' h => by rw [hC] at h; exact h.cell 0
  have Q1 : Hid (∀ W', C W' → W'.cell? ⟨W.heap.size, 1, none⟩ = some (.int .i64 n)) := fun W' h => by rw [hC] at h; exact h.cell 1
  have Q2 : Hid (∀ W', C W' → W'.cell? ⟨W.heap.size, 2, none⟩ = some (.int .i64 s)) := fun W' h => by rw [hC] at h; exact h.cell 2
  have Q3 : Hid (∀ W', C W' → W'.cell? ⟨W.heap.size, 3, none⟩ = some (.string t)) := fun W' h => by rw [hC] at h; exact h.cell 3
  have Q4 : Hid (∀ W', C W' → W'.cell? ⟨W.heap.size, 4, none⟩ = some (.slice na nl nc)) := fun W' h => by rw [hC] at h; exact h.cell 4
  have Q5 : Hid (∀ W', C W' → W'.cell? ⟨W.heap.size, 5, none⟩ = some (.slice ka kl kc)) := fun W' h => by rw [hC] at h; exact h.cell 5
  have CA : Hid (∀ W' W'' v v' l', C W' → Ap B W' W'' v v' l' → v.ownBlock ≠ some W.heap.size → C W'') := fun W' W'' v v' l' h A hne => by rw [hC] at h ⊢; exact A.blk h hne
  have CL : Hid (∀ W' o, C W' → C (W'.alloc o)) := fun W' o h => by rw [hC] at h ⊢; exact h.alloc o
  have CB : Hid (∀ W' W'', C W' → Below W'.heap.size W' W'' → C W'') := fun W' W'' h hb => by rw [hC] at h ⊢; exact h.below hb h.lt
  have C0 : Hid (C { W1 with drawn := W1.drawn + 1 }) := by rw [hC]; exact HX.out
  have D0 : Hid (Below W1.heap.size W1 { W1 with drawn := W1.drawn + 1 }) := Below.drew (Below.refl _ _)
  have HO2 : Hid (Own { W1 with drawn := W1.drawn + 1 } B v l) := HO1.out.below D0.out
  have hsz : ({ W1 with drawn := W1.drawn + 1 } : World).heap.size = W1.heap.size := rfl
  clear hC HX
  refine region_calm C 6 (by kernel_rfl) ?_
  generalize ({ W1 with drawn := W1.drawn + 1 } : World) = v0 at *
  have hCp : ∀ p : Prop, (∀ W, C W → p) ↔ p := fun p => ⟨fun h => h _ C0.out, fun h _ _ => h⟩
  refine seg 5 [0, 3] rfl (by kernel_rfl) whole_blind C0.out (by kernel_rfl) ?_
  change wpQuiet _ _ _ _ (_ :: _ :: []) _
  repeat (first
    | go_big_quiet_skip
    | (go_big_quiet_want
       first
       | (refine q_six (.tmp 3) rfl W.heap.size rfl _ _ _ _ _ _ Q0.out Q1.out Q2.out Q3.out Q4.out Q5.out ?_
          simp only [Act.put, List.setIfInBounds_toArray, List.set_cons_zero, List.set_cons_succ]
          go_big_quiet_on)
       | (go_big_quiet_op
          go_big_quiet_on)))
  refine wpQuiet_nil ?_
  refine lone_do (i := 1) 4 rfl (by kernel_rfl) rfl (by rfl) ?_
  intro K hK
  refine oper_byteC 48 rfl ?_
  refine hK _ _ (CL.out _ _ C0.out) ?_
  simp only [Act.put, List.setIfInBounds_toArray, List.set_cons_zero, List.set_cons_succ]
  refine lone_do (i := 2) 3 rfl (by kernel_rfl) rfl (by rfl) ?_
  intro K hK
  refine oper_apb (.tmp 25) (.tmp 26) rfl B v l rfl (HO2.out.alloc _) _ _ _ [48] rfl rfl (byt_lit v0 [48]) (by simp) (by simp; omega) (by simp; omega) ?_
  intro v1 w1 A1
  have HA1 : Hid (Ap B W w1 v v1 (l ++ [48])) := Ap.after (HB1.out.trans (D0.out.mono HB1.out.size)) (Ap.after ((Below.refl _ _).alloc (Nat.le_refl _) _) A1)
  have hc1 : C w1 := CA.out _ _ _ _ _ (CL.out _ _ C0.out) A1 HN.out
  have hsA := A1.gr.size
  simp only [World.size_alloc] at hsA
  have HNE : Hid (v1.ownBlock ≠ some W.heap.size) := fun e => by
    rcases A1.ob _ e with h | h
    · exact HN.out h
    · simp at h
      omega
  clear A1
  refine hK _ _ hc1 ?_
  simp only [Act.put, List.setIfInBounds_toArray, List.set_cons_zero, List.set_cons_succ]
  refine lone_do (i := 4) 2 rfl (by kernel_rfl) rfl (by rfl) ?_
  intro K hK
  refine oper_call 131 #[.tmp 28] #[38] rfl #[.agg #[.int .i64 3, .int .i64 n, .int .i64 s, .string t, .slice na nl nc, .slice ka kl kc]] (by rw [List.map_toArray]; rfl) (enters Tryz.func131 (by kernel_rfl) rfl) (fun v' w' => Own w' w1.heap.size v' (numB n s) ∧ Below w1.heap.size w1 w') (rNum 3 n s t na nl nc ka kl kc w1 n0 n1 hs0 hs1) ?_
  rintro v2 w2 ⟨o2, b2⟩
  obtain ⟨ax, cx, rfl, hby, hnil, _⟩ := o2.byt
  have hc2 : C w2 := CB.out _ _ hc1 b2
  have hs2 := b2.size
  have HO3 : Hid (Own w2 B v1 (l ++ [48])) := HA1.out.own.below b2
  have HB2 : Hid (Below w1.heap.size w1 w2) := b2
  clear o2 b2
  refine hK _ _ hc2 ?_
  simp only [Act.put, List.setIfInBounds_toArray, List.set_cons_zero, List.set_cons_succ]
  refine lone_do (i := 5) 1 rfl (by kernel_rfl) rfl (by rfl) ?_
  intro K hK
  refine oper_apb (.tmp 27) (.tmp 29) rfl B v1 (l ++ [48]) rfl HO3.out ax _ cx (numB n s) rfl rfl hby hnil (by have := numB_len n s; simp only [List.length_append, List.length_singleton]; omega) (by omega) ?_
  intro v9 w9 A9
  have XA : Ap B W w9 v v9 (l ++ 48 :: numB n s) := by
    have := HA1.out.trans (Ap.after HB2.out A9)
    simpa using this
  have HA9 : Hid _ := XA
  have hc9 : C w9 := CA.out _ _ _ _ _ hc2 A9 HNE.out
  clear XA A9
  refine hK _ _ hc9 ?_
  simp only [Act.put, List.setIfInBounds_toArray, List.set_cons_zero, List.set_cons_succ]
  refine lone_calm (i := 6) 0 rfl (by kernel_rfl) rfl rfl hc9 ?_
  have hCq : ∀ p : Prop, (∀ W, C W → p) ↔ p := fun p => ⟨fun h => h _ hc9, fun h _ _ => h⟩
  go_big_quiet_want
  go_big_quiet_op
  go_big_quiet_on
  refine wpQuiet_nil ?_
  refine anyC_done (by kernel_rfl) ⟨rfl, ?_⟩
  clear hc9 hCq hCp
  go_wp2
  go_ret
  exact ⟨v9, rfl, HA9.out⟩
set_option maxRecDepth 8000 in
set_option maxHeartbeats 1000000 in
theorem rk_4 (n s : Int) (t : ByteArray) (na : Option Addr) (nl nc : Nat) (ka : Option Addr) (kl kc : Nat) (v : Value) (l : List Nat) (hl : l.length ≤ 600000000) (n0 : -9223372036854775808 ≤ n) (n1 : n < 9223372036854775808) (hs0 : 0 ≤ s) (hs1 : s ≤ 18) (B : Nat) (W : World) (ho : Own W B v l) (hB : B ≤ W.heap.size) :
    Calls Tryz.prog 95 #[v, .agg #[.int .i64 4, .int .i64 n, .int .i64 s, .string t, .slice na nl nc, .slice ka kl kc]] W fun e w' => ∃ v', e = .returned v' ∧ Ap B W w' v v' (l ++ 48 :: numB n s) := by
  obtain ⟨W1, HW1⟩ : ∃ W1, Hid (W.alloc (.cells #[.int .i64 4, .int .i64 n, .int .i64 s, .string t, .slice na nl nc, .slice ka kl kc] 38) = W1) := ⟨_, rfl⟩
  have HX : Hid (Blk W1 W.heap.size 38 [.int .i64 4, .int .i64 n, .int .i64 s, .string t, .slice na nl nc, .slice ka kl kc]) := by rw [← HW1.out]; exact blk_new W 38 [.int .i64 4, .int .i64 n, .int .i64 s, .string t, .slice na nl nc, .slice ka kl kc]
  have HO1 : Hid (Own W1 B v l) := by rw [← HW1.out]; exact ho.alloc _
  have hz1 : W1.heap.size = W.heap.size + 1 := by have := HW1.out; subst this; simp
  have HB1 : Hid (Below W.heap.size W W1) := by rw [← HW1.out]; exact (Below.refl _ _).alloc (Nat.le_refl _) _
  have HN : Hid (v.ownBlock ≠ some W.heap.size) := ho.ne
  clear ho
  go_enter Tryz.func95, Tryz.ntmps95
  go_wp2
  generalize hWW : World.alloc W _ = W9
  obtain rfl : W1 = W9 := by rw [← hWW, ← HW1.out]
  clear hWW HW1
  obtain ⟨C, hC⟩ : ∃ C : World → Prop, C = fun W' => Blk W' W.heap.size 38 [.int .i64 4, .int .i64 n, .int .i64 s, .string t, .slice na nl nc, .slice ka kl kc] := ⟨_, rfl⟩
  have Q0 : Hid (∀ W', C W' → W'.cell? ⟨W.heap.size, 0, none⟩ = some (.int .i64 4)) := fun W' h => by rw [hC] at h; exact h.cell 0
  have Q1 : Hid (∀ W', C W' → W'.cell? ⟨W.heap.size, 1, none⟩ = some (.int .i64 n)) := fun W' h => by rw [hC] at h; exact h.cell 1
  have Q2 : Hid (∀ W', C W' → W'.cell? ⟨W.heap.size, 2, none⟩ = some (.int .i64 s)) := fun W' h => by rw [hC] at h; exact h.cell 2
  have Q3 : Hid (∀ W', C W' → W'.cell? ⟨W.heap.size, 3, none⟩ = some (.string t)) := fun W' h => by rw [hC] at h; exact h.cell 3
  have Q4 : Hid (∀ W', C W' → W'.cell? ⟨W.heap.size, 4, none⟩ = some (.slice na nl nc)) := fun W' h => by rw [hC] at h; exact h.cell 4
  have Q5 : Hid (∀ W', C W' → W'.cell? ⟨W.heap.size, 5, none⟩ = some (.slice ka kl kc)) := fun W' h => by rw [hC] at h; exact h.cell 5
  have CA : Hid (∀ W' W'' v v' l', C W' → Ap B W' W'' v v' l' → v.ownBlock ≠ some W.heap.size → C W'') := fun W' W'' v v' l' h A hne => by rw [hC] at h ⊢; exact A.blk h hne
  have CL : Hid (∀ W' o, C W' → C (W'.alloc o)) := fun W' o h => by rw [hC] at h ⊢; exact h.alloc o
  have CB : Hid (∀ W' W'', C W' → Below W'.heap.size W' W'' → C W'') := fun W' W'' h hb => by rw [hC] at h ⊢; exact h.below hb h.lt
  have C0 : Hid (C { W1 with drawn := W1.drawn + 1 }) := by rw [hC]; exact HX.out
  have D0 : Hid (Below W1.heap.size W1 { W1 with drawn := W1.drawn + 1 }) := Below.drew (Below.refl _ _)
  have HO2 : Hid (Own { W1 with drawn := W1.drawn + 1 } B v l) := HO1.out.below D0.out
  have hsz : ({ W1 with drawn := W1.drawn + 1 } : World).heap.size = W1.heap.size := rfl
  clear hC HX
  refine region_calm C 6 (by kernel_rfl) ?_
  generalize ({ W1 with drawn := W1.drawn + 1 } : World) = v0 at *
  have hCp : ∀ p : Prop, (∀ W, C W → p) ↔ p := fun p => ⟨fun h => h _ C0.out, fun h _ _ => h⟩
  refine seg 5 [0, 3] rfl (by kernel_rfl) whole_blind C0.out (by kernel_rfl) ?_
  change wpQuiet _ _ _ _ (_ :: _ :: []) _
  repeat (first
    | go_big_quiet_skip
    | (go_big_quiet_want
       first
       | (refine q_six (.tmp 3) rfl W.heap.size rfl _ _ _ _ _ _ Q0.out Q1.out Q2.out Q3.out Q4.out Q5.out ?_
          simp only [Act.put, List.setIfInBounds_toArray, List.set_cons_zero, List.set_cons_succ]
          go_big_quiet_on)
       | (go_big_quiet_op
          go_big_quiet_on)))
  refine wpQuiet_nil ?_
  refine lone_do (i := 1) 4 rfl (by kernel_rfl) rfl (by rfl) ?_
  intro K hK
  refine oper_byteC 48 rfl ?_
  refine hK _ _ (CL.out _ _ C0.out) ?_
  simp only [Act.put, List.setIfInBounds_toArray, List.set_cons_zero, List.set_cons_succ]
  refine lone_do (i := 2) 3 rfl (by kernel_rfl) rfl (by rfl) ?_
  intro K hK
  refine oper_apb (.tmp 25) (.tmp 26) rfl B v l rfl (HO2.out.alloc _) _ _ _ [48] rfl rfl (byt_lit v0 [48]) (by simp) (by simp; omega) (by simp; omega) ?_
  intro v1 w1 A1
  have HA1 : Hid (Ap B W w1 v v1 (l ++ [48])) := Ap.after (HB1.out.trans (D0.out.mono HB1.out.size)) (Ap.after ((Below.refl _ _).alloc (Nat.le_refl _) _) A1)
  have hc1 : C w1 := CA.out _ _ _ _ _ (CL.out _ _ C0.out) A1 HN.out
  have hsA := A1.gr.size
  simp only [World.size_alloc] at hsA
  have HNE : Hid (v1.ownBlock ≠ some W.heap.size) := fun e => by
    rcases A1.ob _ e with h | h
    · exact HN.out h
    · simp at h
      omega
  clear A1
  refine hK _ _ hc1 ?_
  simp only [Act.put, List.setIfInBounds_toArray, List.set_cons_zero, List.set_cons_succ]
  refine lone_do (i := 4) 2 rfl (by kernel_rfl) rfl (by rfl) ?_
  intro K hK
  refine oper_call 131 #[.tmp 28] #[38] rfl #[.agg #[.int .i64 4, .int .i64 n, .int .i64 s, .string t, .slice na nl nc, .slice ka kl kc]] (by rw [List.map_toArray]; rfl) (enters Tryz.func131 (by kernel_rfl) rfl) (fun v' w' => Own w' w1.heap.size v' (numB n s) ∧ Below w1.heap.size w1 w') (rNum 4 n s t na nl nc ka kl kc w1 n0 n1 hs0 hs1) ?_
  rintro v2 w2 ⟨o2, b2⟩
  obtain ⟨ax, cx, rfl, hby, hnil, _⟩ := o2.byt
  have hc2 : C w2 := CB.out _ _ hc1 b2
  have hs2 := b2.size
  have HO3 : Hid (Own w2 B v1 (l ++ [48])) := HA1.out.own.below b2
  have HB2 : Hid (Below w1.heap.size w1 w2) := b2
  clear o2 b2
  refine hK _ _ hc2 ?_
  simp only [Act.put, List.setIfInBounds_toArray, List.set_cons_zero, List.set_cons_succ]
  refine lone_do (i := 5) 1 rfl (by kernel_rfl) rfl (by rfl) ?_
  intro K hK
  refine oper_apb (.tmp 27) (.tmp 29) rfl B v1 (l ++ [48]) rfl HO3.out ax _ cx (numB n s) rfl rfl hby hnil (by have := numB_len n s; simp only [List.length_append, List.length_singleton]; omega) (by omega) ?_
  intro v9 w9 A9
  have XA : Ap B W w9 v v9 (l ++ 48 :: numB n s) := by
    have := HA1.out.trans (Ap.after HB2.out A9)
    simpa using this
  have HA9 : Hid _ := XA
  have hc9 : C w9 := CA.out _ _ _ _ _ hc2 A9 HNE.out
  clear XA A9
  refine hK _ _ hc9 ?_
  simp only [Act.put, List.setIfInBounds_toArray, List.set_cons_zero, List.set_cons_succ]
  refine lone_calm (i := 6) 0 rfl (by kernel_rfl) rfl rfl hc9 ?_
  have hCq : ∀ p : Prop, (∀ W, C W → p) ↔ p := fun p => ⟨fun h => h _ hc9, fun h _ _ => h⟩
  go_big_quiet_want
  go_big_quiet_op
  go_big_quiet_on
  refine wpQuiet_nil ?_
  refine anyC_done (by kernel_rfl) ⟨rfl, ?_⟩
  clear hc9 hCq hCp
  go_wp2
  go_ret
  exact ⟨v9, rfl, HA9.out⟩
set_option maxRecDepth 8000 in
set_option maxHeartbeats 1000000 in
theorem rk_5 (s : Int) (t : ByteArray) (na : Option Addr) (nl nc : Nat) (ka : Option Addr) (kl kc : Nat) (v : Value) (l : List Nat) (hl : l.length ≤ 600000000) (q : Nat) (hq : q ≤ 9007199254740992) (B : Nat) (W : World) (ho : Own W B v l) (hB : B ≤ W.heap.size) :
    Calls Tryz.prog 95 #[v, .agg #[.int .i64 5, .int .i64 (q : Int), .int .i64 s, .string t, .slice na nl nc, .slice ka kl kc]] W fun e w' => ∃ v', e = .returned v' ∧ Ap B W w' v v' (l ++ 64 :: hf q 8) := by
  obtain ⟨W1, HW1⟩ : ∃ W1, Hid (W.alloc (.cells #[.int .i64 5, .int .i64 (q : Int), .int .i64 s, .string t, .slice na nl nc, .slice ka kl kc] 38) = W1) := ⟨_, rfl⟩
  have HX : Hid (Blk W1 W.heap.size 38 [.int .i64 5, .int .i64 (q : Int), .int .i64 s, .string t, .slice na nl nc, .slice ka kl kc]) := by rw [← HW1.out]; exact blk_new W 38 [.int .i64 5, .int .i64 (q : Int), .int .i64 s, .string t, .slice na nl nc, .slice ka kl kc]
  have HO1 : Hid (Own W1 B v l) := by rw [← HW1.out]; exact ho.alloc _
  have hz1 : W1.heap.size = W.heap.size + 1 := by have := HW1.out; subst this; simp
  have HB1 : Hid (Below W.heap.size W W1) := by rw [← HW1.out]; exact (Below.refl _ _).alloc (Nat.le_refl _) _
  have HN : Hid (v.ownBlock ≠ some W.heap.size) := ho.ne
  clear ho
  go_enter Tryz.func95, Tryz.ntmps95
  go_wp2
  generalize hWW : World.alloc W _ = W9
  obtain rfl : W1 = W9 := by rw [← hWW, ← HW1.out]
  clear hWW HW1
  obtain ⟨C, hC⟩ : ∃ C : World → Prop, C = fun W' => Blk W' W.heap.size 38 [.int .i64 5, .int .i64 (q : Int), .int .i64 s, .string t, .slice na nl nc, .slice ka kl kc] := ⟨_, rfl⟩
  have Q1 : Hid (∀ W', C W' → W'.cell? ⟨W.heap.size, 1, none⟩ = some (.int .i64 (q : Int))) := fun W' h => by rw [hC] at h; exact h.cell 1
  have CA : Hid (∀ W' W'' v v' l', C W' → Ap B W' W'' v v' l' → v.ownBlock ≠ some W.heap.size → C W'') := fun W' W'' v v' l' h A hne => by rw [hC] at h ⊢; exact A.blk h hne
  have CL : Hid (∀ W' o, C W' → C (W'.alloc o)) := fun W' o h => by rw [hC] at h ⊢; exact h.alloc o
  have CB : Hid (∀ W' W'', C W' → Below W'.heap.size W' W'' → C W'') := fun W' W'' h hb => by rw [hC] at h ⊢; exact h.below hb h.lt
  have C0 : Hid (C { W1 with drawn := W1.drawn + 1 }) := by rw [hC]; exact HX.out
  have D0 : Hid (Below W1.heap.size W1 { W1 with drawn := W1.drawn + 1 }) := Below.drew (Below.refl _ _)
  have HO2 : Hid (Own { W1 with drawn := W1.drawn + 1 } B v l) := HO1.out.below D0.out
  have hsz : ({ W1 with drawn := W1.drawn + 1 } : World).heap.size = W1.heap.size := rfl
  clear hC HX
  refine region_calm C 8 (by kernel_rfl) ?_
  generalize ({ W1 with drawn := W1.drawn + 1 } : World) = v0 at *
  have hCp : ∀ p : Prop, (∀ W, C W → p) ↔ p := fun p => ⟨fun h => h _ C0.out, fun h _ _ => h⟩
  refine seg 5 [0, 3, 4, 5] rfl (by kernel_rfl) whole_blind C0.out (by kernel_rfl) ?_
  change wpQuiet _ _ _ _ (_ :: _ :: _ :: _ :: []) _
  repeat (first
    | go_big_quiet_skip
    | (go_big_quiet_want
       first
       | (refine q_one 3 (.inl rfl) (.tmp 36) rfl W.heap.size 1 rfl _ Q1.out ?_
          simp only [Act.put, List.setIfInBounds_toArray, List.set_cons_zero, List.set_cons_succ]
          go_big_quiet_on)
       | (go_big_quiet_op
          go_big_quiet_on)))
  refine wpQuiet_nil ?_
  refine lone_do (i := 1) 4 rfl (by kernel_rfl) rfl (by rfl) ?_
  intro K hK
  refine oper_byteC 64 rfl ?_
  refine hK _ _ (CL.out _ _ C0.out) ?_
  simp only [Act.put, List.setIfInBounds_toArray, List.set_cons_zero, List.set_cons_succ]
  refine lone_do (i := 2) 3 rfl (by kernel_rfl) rfl (by rfl) ?_
  intro K hK
  refine oper_apb (.tmp 33) (.tmp 34) rfl B v l rfl (HO2.out.alloc _) _ _ _ [64] rfl rfl (byt_lit v0 [64]) (by simp) (by simp; omega) (by simp; omega) ?_
  intro v1 w1 A1
  have HA1 : Hid (Ap B W w1 v v1 (l ++ [64])) := Ap.after (HB1.out.trans (D0.out.mono HB1.out.size)) (Ap.after ((Below.refl _ _).alloc (Nat.le_refl _) _) A1)
  have hc1 : C w1 := CA.out _ _ _ _ _ (CL.out _ _ C0.out) A1 HN.out
  have hsA := A1.gr.size
  simp only [World.size_alloc] at hsA
  have HNE : Hid (v1.ownBlock ≠ some W.heap.size) := fun e => by
    rcases A1.ob _ e with h | h
    · exact HN.out h
    · simp at h
      omega
  clear A1
  refine hK _ _ hc1 ?_
  simp only [Act.put, List.setIfInBounds_toArray, List.set_cons_zero, List.set_cons_succ]
  refine lone_do (i := 6) 2 rfl (by kernel_rfl) rfl (by rfl) ?_
  intro K hK
  refine oper_call 132 #[.tmp 38] #[82] rfl #[.int .u64 (q : Int)] (by rw [List.map_toArray]; rfl) (enters Tryz.func132 (by kernel_rfl) rfl) (fun v' w' => Own w' w1.heap.size v' (hf q 8) ∧ Below w1.heap.size w1 w') ((bigr_any q (by omega) w1).mono fun e w' ⟨g, c, h1, h2, h3⟩ => ⟨_, h1, h2, h3⟩) ?_
  rintro v2 w2 ⟨o2, b2⟩
  obtain ⟨ax, cx, rfl, hby, hnil, _⟩ := o2.byt
  have hc2 : C w2 := CB.out _ _ hc1 b2
  have hs2 := b2.size
  have HO3 : Hid (Own w2 B v1 (l ++ [64])) := HA1.out.own.below b2
  have HB2 : Hid (Below w1.heap.size w1 w2) := b2
  clear o2 b2
  refine hK _ _ hc2 ?_
  simp only [Act.put, List.setIfInBounds_toArray, List.set_cons_zero, List.set_cons_succ]
  refine lone_do (i := 7) 1 rfl (by kernel_rfl) rfl (by rfl) ?_
  intro K hK
  refine oper_apb (.tmp 35) (.tmp 39) rfl B v1 (l ++ [64]) rfl HO3.out ax _ cx (hf q 8) rfl rfl hby hnil (by rw [hf_length]; simp only [List.length_append, List.length_singleton]; omega) (by omega) ?_
  intro v9 w9 A9
  have XA : Ap B W w9 v v9 (l ++ 64 :: hf q 8) := by
    have := HA1.out.trans (Ap.after HB2.out A9)
    simpa using this
  have HA9 : Hid _ := XA
  have hc9 : C w9 := CA.out _ _ _ _ _ hc2 A9 HNE.out
  clear XA A9
  refine hK _ _ hc9 ?_
  simp only [Act.put, List.setIfInBounds_toArray, List.set_cons_zero, List.set_cons_succ]
  refine lone_calm (i := 8) 0 rfl (by kernel_rfl) rfl rfl hc9 ?_
  have hCq : ∀ p : Prop, (∀ W, C W → p) ↔ p := fun p => ⟨fun h => h _ hc9, fun h _ _ => h⟩
  go_big_quiet_want
  go_big_quiet_op
  go_big_quiet_on
  refine wpQuiet_nil ?_
  refine anyC_done (by kernel_rfl) ⟨rfl, ?_⟩
  clear hc9 hCq hCp
  go_wp2
  go_ret
  exact ⟨v9, rfl, HA9.out⟩
set_option maxRecDepth 8000 in
set_option maxHeartbeats 1000000 in
theorem rk_6 (n s : Int) (t : ByteArray) (na : Option Addr) (nl nc : Nat) (ka : Option Addr) (kl kc : Nat) (v : Value) (l : List Nat) (hl : l.length ≤ 600000000) (ht : t.size ≤ 16384) (B : Nat) (W : World) (ho : Own W B v l) (hB : B ≤ W.heap.size) :
    Calls Tryz.prog 95 #[v, .agg #[.int .i64 6, .int .i64 n, .int .i64 s, .string t, .slice na nl nc, .slice ka kl kc]] W fun e w' => ∃ v', e = .returned v' ∧ Ap B W w' v v' (l ++ 80 :: txK t) := by
  obtain ⟨W1, HW1⟩ : ∃ W1, Hid (W.alloc (.cells #[.int .i64 6, .int .i64 n, .int .i64 s, .string t, .slice na nl nc, .slice ka kl kc] 38) = W1) := ⟨_, rfl⟩
  have HX : Hid (Blk W1 W.heap.size 38 [.int .i64 6, .int .i64 n, .int .i64 s, .string t, .slice na nl nc, .slice ka kl kc]) := by rw [← HW1.out]; exact blk_new W 38 [.int .i64 6, .int .i64 n, .int .i64 s, .string t, .slice na nl nc, .slice ka kl kc]
  have HO1 : Hid (Own W1 B v l) := by rw [← HW1.out]; exact ho.alloc _
  have hz1 : W1.heap.size = W.heap.size + 1 := by have := HW1.out; subst this; simp
  have HB1 : Hid (Below W.heap.size W W1) := by rw [← HW1.out]; exact (Below.refl _ _).alloc (Nat.le_refl _) _
  have HN : Hid (v.ownBlock ≠ some W.heap.size) := ho.ne
  clear ho
  go_enter Tryz.func95, Tryz.ntmps95
  go_wp2
  generalize hWW : World.alloc W _ = W9
  obtain rfl : W1 = W9 := by rw [← hWW, ← HW1.out]
  clear hWW HW1
  obtain ⟨C, hC⟩ : ∃ C : World → Prop, C = fun W' => Blk W' W.heap.size 38 [.int .i64 6, .int .i64 n, .int .i64 s, .string t, .slice na nl nc, .slice ka kl kc] := ⟨_, rfl⟩
  have Q3 : Hid (∀ W', C W' → W'.cell? ⟨W.heap.size, 3, none⟩ = some (.string t)) := fun W' h => by rw [hC] at h; exact h.cell 3
  have CA : Hid (∀ W' W'' v v' l', C W' → Ap B W' W'' v v' l' → v.ownBlock ≠ some W.heap.size → C W'') := fun W' W'' v v' l' h A hne => by rw [hC] at h ⊢; exact A.blk h hne
  have CL : Hid (∀ W' o, C W' → C (W'.alloc o)) := fun W' o h => by rw [hC] at h ⊢; exact h.alloc o
  have CB : Hid (∀ W' W'', C W' → Below W'.heap.size W' W'' → C W'') := fun W' W'' h hb => by rw [hC] at h ⊢; exact h.below hb h.lt
  have C0 : Hid (C { W1 with drawn := W1.drawn + 1 }) := by rw [hC]; exact HX.out
  have D0 : Hid (Below W1.heap.size W1 { W1 with drawn := W1.drawn + 1 }) := Below.drew (Below.refl _ _)
  have HO2 : Hid (Own { W1 with drawn := W1.drawn + 1 } B v l) := HO1.out.below D0.out
  have hsz : ({ W1 with drawn := W1.drawn + 1 } : World).heap.size = W1.heap.size := rfl
  clear hC HX
  refine region_calm C 6 (by kernel_rfl) ?_
  generalize ({ W1 with drawn := W1.drawn + 1 } : World) = v0 at *
  have hCp : ∀ p : Prop, (∀ W, C W → p) ↔ p := fun p => ⟨fun h => h _ C0.out, fun h _ _ => h⟩
  refine seg 4 [0, 3, 4] rfl (by kernel_rfl) whole_blind C0.out (by kernel_rfl) ?_
  change wpQuiet _ _ _ _ (_ :: _ :: _ :: []) _
  repeat (first
    | go_big_quiet_skip
    | (go_big_quiet_want
       first
       | (refine q_one 9 (.inr (.inl rfl)) (.tmp 46) rfl W.heap.size 3 rfl _ Q3.out ?_
          simp only [Act.put, List.setIfInBounds_toArray, List.set_cons_zero, List.set_cons_succ]
          go_big_quiet_on)
       | (go_big_quiet_op
          go_big_quiet_on)))
  refine wpQuiet_nil ?_
  refine lone_do (i := 1) 3 rfl (by kernel_rfl) rfl (by rfl) ?_
  intro K hK
  refine oper_byteC 80 rfl ?_
  refine hK _ _ (CL.out _ _ C0.out) ?_
  simp only [Act.put, List.setIfInBounds_toArray, List.set_cons_zero, List.set_cons_succ]
  refine lone_do (i := 2) 2 rfl (by kernel_rfl) rfl (by rfl) ?_
  intro K hK
  refine oper_apb (.tmp 43) (.tmp 44) rfl B v l rfl (HO2.out.alloc _) _ _ _ [80] rfl rfl (byt_lit v0 [80]) (by simp) (by simp; omega) (by simp; omega) ?_
  intro v1 w1 A1
  have HA1 : Hid (Ap B W w1 v v1 (l ++ [80])) := Ap.after (HB1.out.trans (D0.out.mono HB1.out.size)) (Ap.after ((Below.refl _ _).alloc (Nat.le_refl _) _) A1)
  have hc1 : C w1 := CA.out _ _ _ _ _ (CL.out _ _ C0.out) A1 HN.out
  have hsA := A1.gr.size
  simp only [World.size_alloc] at hsA
  have HNE : Hid (v1.ownBlock ≠ some W.heap.size) := fun e => by
    rcases A1.ob _ e with h | h
    · exact HN.out h
    · simp at h
      omega
  clear A1
  refine hK _ _ hc1 ?_
  simp only [Act.put, List.setIfInBounds_toArray, List.set_cons_zero, List.set_cons_succ]
  refine lone_do (i := 5) 1 rfl (by kernel_rfl) rfl (by rfl) ?_
  intro K hK
  refine oper_call 133 #[.tmp 45, .tmp 47] #[52, 9] rfl #[v1, .string t] (by rw [List.map_toArray]; rfl) (enters Tryz.func133 (by kernel_rfl) rfl) (fun v' w' => Ap B w1 w' v1 v' (l ++ [80] ++ txK t)) (rTx v1 (l ++ [80]) t B w1 HA1.out.own (by omega) (by omega) (by simp; omega)) ?_
  intro v9 w9 A9
  have XA : Ap B W w9 v v9 (l ++ 80 :: txK t) := by
    have := HA1.out.trans A9
    simpa using this
  have HA9 : Hid _ := XA
  have hc9 : C w9 := CA.out _ _ _ _ _ hc1 A9 HNE.out
  clear XA A9
  refine hK _ _ hc9 ?_
  simp only [Act.put, List.setIfInBounds_toArray, List.set_cons_zero, List.set_cons_succ]
  refine lone_calm (i := 6) 0 rfl (by kernel_rfl) rfl rfl hc9 ?_
  have hCq : ∀ p : Prop, (∀ W, C W → p) ↔ p := fun p => ⟨fun h => h _ hc9, fun h _ _ => h⟩
  go_big_quiet_want
  go_big_quiet_op
  go_big_quiet_on
  refine wpQuiet_nil ?_
  refine anyC_done (by kernel_rfl) ⟨rfl, ?_⟩
  clear hc9 hCq hCp
  go_wp2
  go_ret
  exact ⟨v9, rfl, HA9.out⟩
set_option maxRecDepth 8000 in
set_option maxHeartbeats 1000000 in
theorem rk_7 (n s : Int) (t : ByteArray) (na : Option Addr) (nl nc : Nat) (ka : Option Addr) (kl kc : Nat) (v : Value) (l : List Nat) (hl : l.length ≤ 600000000) (ht : t.size ≤ 16384) (B : Nat) (W : World) (ho : Own W B v l) (hB : B ≤ W.heap.size) :
    Calls Tryz.prog 95 #[v, .agg #[.int .i64 7, .int .i64 n, .int .i64 s, .string t, .slice na nl nc, .slice ka kl kc]] W fun e w' => ∃ v', e = .returned v' ∧ Ap B W w' v v' (l ++ 96 :: txK t) := by
  obtain ⟨W1, HW1⟩ : ∃ W1, Hid (W.alloc (.cells #[.int .i64 7, .int .i64 n, .int .i64 s, .string t, .slice na nl nc, .slice ka kl kc] 38) = W1) := ⟨_, rfl⟩
  have HX : Hid (Blk W1 W.heap.size 38 [.int .i64 7, .int .i64 n, .int .i64 s, .string t, .slice na nl nc, .slice ka kl kc]) := by rw [← HW1.out]; exact blk_new W 38 [.int .i64 7, .int .i64 n, .int .i64 s, .string t, .slice na nl nc, .slice ka kl kc]
  have HO1 : Hid (Own W1 B v l) := by rw [← HW1.out]; exact ho.alloc _
  have hz1 : W1.heap.size = W.heap.size + 1 := by have := HW1.out; subst this; simp
  have HB1 : Hid (Below W.heap.size W W1) := by rw [← HW1.out]; exact (Below.refl _ _).alloc (Nat.le_refl _) _
  have HN : Hid (v.ownBlock ≠ some W.heap.size) := ho.ne
  clear ho
  go_enter Tryz.func95, Tryz.ntmps95
  go_wp2
  generalize hWW : World.alloc W _ = W9
  obtain rfl : W1 = W9 := by rw [← hWW, ← HW1.out]
  clear hWW HW1
  obtain ⟨C, hC⟩ : ∃ C : World → Prop, C = fun W' => Blk W' W.heap.size 38 [.int .i64 7, .int .i64 n, .int .i64 s, .string t, .slice na nl nc, .slice ka kl kc] := ⟨_, rfl⟩
  have Q3 : Hid (∀ W', C W' → W'.cell? ⟨W.heap.size, 3, none⟩ = some (.string t)) := fun W' h => by rw [hC] at h; exact h.cell 3
  have CA : Hid (∀ W' W'' v v' l', C W' → Ap B W' W'' v v' l' → v.ownBlock ≠ some W.heap.size → C W'') := fun W' W'' v v' l' h A hne => by rw [hC] at h ⊢; exact A.blk h hne
  have CL : Hid (∀ W' o, C W' → C (W'.alloc o)) := fun W' o h => by rw [hC] at h ⊢; exact h.alloc o
  have CB : Hid (∀ W' W'', C W' → Below W'.heap.size W' W'' → C W'') := fun W' W'' h hb => by rw [hC] at h ⊢; exact h.below hb h.lt
  have C0 : Hid (C { W1 with drawn := W1.drawn + 1 }) := by rw [hC]; exact HX.out
  have D0 : Hid (Below W1.heap.size W1 { W1 with drawn := W1.drawn + 1 }) := Below.drew (Below.refl _ _)
  have HO2 : Hid (Own { W1 with drawn := W1.drawn + 1 } B v l) := HO1.out.below D0.out
  have hsz : ({ W1 with drawn := W1.drawn + 1 } : World).heap.size = W1.heap.size := rfl
  clear hC HX
  refine region_calm C 6 (by kernel_rfl) ?_
  generalize ({ W1 with drawn := W1.drawn + 1 } : World) = v0 at *
  have hCp : ∀ p : Prop, (∀ W, C W → p) ↔ p := fun p => ⟨fun h => h _ C0.out, fun h _ _ => h⟩
  refine seg 4 [0, 3, 4] rfl (by kernel_rfl) whole_blind C0.out (by kernel_rfl) ?_
  change wpQuiet _ _ _ _ (_ :: _ :: _ :: []) _
  repeat (first
    | go_big_quiet_skip
    | (go_big_quiet_want
       first
       | (refine q_one 9 (.inr (.inl rfl)) (.tmp 54) rfl W.heap.size 3 rfl _ Q3.out ?_
          simp only [Act.put, List.setIfInBounds_toArray, List.set_cons_zero, List.set_cons_succ]
          go_big_quiet_on)
       | (go_big_quiet_op
          go_big_quiet_on)))
  refine wpQuiet_nil ?_
  refine lone_do (i := 1) 3 rfl (by kernel_rfl) rfl (by rfl) ?_
  intro K hK
  refine oper_byteC 96 rfl ?_
  refine hK _ _ (CL.out _ _ C0.out) ?_
  simp only [Act.put, List.setIfInBounds_toArray, List.set_cons_zero, List.set_cons_succ]
  refine lone_do (i := 2) 2 rfl (by kernel_rfl) rfl (by rfl) ?_
  intro K hK
  refine oper_apb (.tmp 51) (.tmp 52) rfl B v l rfl (HO2.out.alloc _) _ _ _ [96] rfl rfl (byt_lit v0 [96]) (by simp) (by simp; omega) (by simp; omega) ?_
  intro v1 w1 A1
  have HA1 : Hid (Ap B W w1 v v1 (l ++ [96])) := Ap.after (HB1.out.trans (D0.out.mono HB1.out.size)) (Ap.after ((Below.refl _ _).alloc (Nat.le_refl _) _) A1)
  have hc1 : C w1 := CA.out _ _ _ _ _ (CL.out _ _ C0.out) A1 HN.out
  have hsA := A1.gr.size
  simp only [World.size_alloc] at hsA
  have HNE : Hid (v1.ownBlock ≠ some W.heap.size) := fun e => by
    rcases A1.ob _ e with h | h
    · exact HN.out h
    · simp at h
      omega
  clear A1
  refine hK _ _ hc1 ?_
  simp only [Act.put, List.setIfInBounds_toArray, List.set_cons_zero, List.set_cons_succ]
  refine lone_do (i := 5) 1 rfl (by kernel_rfl) rfl (by rfl) ?_
  intro K hK
  refine oper_call 133 #[.tmp 53, .tmp 55] #[52, 9] rfl #[v1, .string t] (by rw [List.map_toArray]; rfl) (enters Tryz.func133 (by kernel_rfl) rfl) (fun v' w' => Ap B w1 w' v1 v' (l ++ [96] ++ txK t)) (rTx v1 (l ++ [96]) t B w1 HA1.out.own (by omega) (by omega) (by simp; omega)) ?_
  intro v9 w9 A9
  have XA : Ap B W w9 v v9 (l ++ 96 :: txK t) := by
    have := HA1.out.trans A9
    simpa using this
  have HA9 : Hid _ := XA
  have hc9 : C w9 := CA.out _ _ _ _ _ hc1 A9 HNE.out
  clear XA A9
  refine hK _ _ hc9 ?_
  simp only [Act.put, List.setIfInBounds_toArray, List.set_cons_zero, List.set_cons_succ]
  refine lone_calm (i := 6) 0 rfl (by kernel_rfl) rfl rfl hc9 ?_
  have hCq : ∀ p : Prop, (∀ W, C W → p) ↔ p := fun p => ⟨fun h => h _ hc9, fun h _ _ => h⟩
  go_big_quiet_want
  go_big_quiet_op
  go_big_quiet_on
  refine wpQuiet_nil ?_
  refine anyC_done (by kernel_rfl) ⟨rfl, ?_⟩
  clear hc9 hCq hCp
  go_wp2
  go_ret
  exact ⟨v9, rfl, HA9.out⟩
end Go.Proofs.YtmlfhplhiedfjaaGreatDoor
