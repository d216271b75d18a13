import Derived.Test.YtpfiejmhnkcjbaaGreatDoorHG39x
import Derived.Test.YtpfiejmhnkcjbaaGreatDoorHG33x
namespace Go.Proofs.YtpfiejmhnkcjbaaGreatDoor
set_option maxHeartbeats 1000000
set_option maxRecDepth 8000
open Go.RowKit Math
set_option linter.unusedVariables false
set_option linter.unusedSimpArgs false
theorem rb_1 (n : Int) (s : Int) (t : ByteArray) (na : Option Addr) (nl nc : Nat) (ka : Option Addr) (kl kc : Nat) (v : Value) (l : List Nat) (hl : l.length <= 700000000) (B : Nat) (W : World) (ho : Own W B v l) (hB : B <= W.heap.size) :
 Calls Tryz.prog 114 #[v, .agg #[.int .i64 1, .int .i64 n, .int .i64 s, .string t, .slice na nl nc, .slice ka kl kc]] W fun e w' => ∃ v' l', e = .returned v' /\ Hid (Ap B W w' v v' l' /\ Wr l ([1]) l') := by
 obtain ⟨W1, HW1⟩ : ∃ W1, Hid (W.alloc (.cells #[.int .i64 1, .int .i64 n, .int .i64 s, .string t, .slice na nl nc, .slice ka kl kc] 41) = W1) := ⟨_, rfl⟩
 have HX : Hid (Blk W1 W.heap.size 41 [.int .i64 1, .int .i64 n, .int .i64 s, .string t, .slice na nl nc, .slice ka kl kc]) := by rw [<- HW1.out]; exact blk_new W 41 [.int .i64 1, .int .i64 n, .int .i64 s, .string t, .slice na nl nc, .slice ka kl kc]
 have HO1 : Hid (Own W1 B v l) := by rw [<- HW1.out]; exact ho.alloc _
 have hz1 : W1.heap.size = W.heap.size + 1 := by have := HW1.out; subst this; simp
 have HB1 : Hid (Below W.heap.size W W1) := by rw [<- HW1.out]; exact (Below.refl _ _).alloc (Nat.le_refl _) _
 have HN : Hid (v.ownBlock ≠ some W.heap.size) := ho.ne
 have c0 : W1.cell? ⟨W.heap.size, 0, none⟩ = some (.int .i64 1) := HX.out.cell 0
 clear ho
 go_enter Tryz.func114, Tryz.ntmps114
 go_wp2_with (at_builtin; go_must (generalize hWW : World.alloc W _ = W9; obtain rfl : W1 = W9 := (by rw [<- hWW, <- HW1.out]); clear hWW HW1; refine ap_bytes rfl (.tmp 6) (.tmp 10) rfl B v l rfl (HO1.out.alloc _) _ _ _ [1] rfl rfl (byt_at W1 [1] _ hz1) (by simp) (by simp; omega) (by simp; omega) ?_))
 intro v1 w1 A1
 have HA : Hid (Ap B W1 w1 v v1 (l ++ [1])) := Ap.after ((Below.refl _ _).alloc (Nat.le_refl _) _) A1
 clear A1 c0
 have hb1 : B <= w1.heap.size := by have := HA.out.gr.size; omega
 have HX1 : Hid (Blk w1 W.heap.size 41 [.int .i64 1, .int .i64 n, .int .i64 s, .string t, .slice na nl nc, .slice ka kl kc]) := HA.out.blk HX.out HN.out
 have HNE : Hid (v1.ownBlock ≠ some W.heap.size) := fun e => by
  rcases HA.out.ob _ e with h | h
  . exact HN.out h
  . omega
 have HAW : Hid (Ap B W w1 v v1 (l ++ [1])) := Ap.after HB1.out HA.out
 clear HA HX HO1 HB1 hz1
 have c0 : w1.cell? ⟨W.heap.size, 0, none⟩ = some (.int .i64 1) := HX1.out.cell 0
 have HF : Hid (Ap B W w1 v v1 (l ++ [1]) /\ Wr l ([1]) (l ++ [1])) := ⟨HAW.out, Wr.all _ _⟩
 clear HX1 HAW
 go_wp2
 go_ret
 exact ⟨_, _, rfl, HF.out⟩
theorem rb_2 (s : Int) (t : ByteArray) (na : Option Addr) (nl nc : Nat) (ka : Option Addr) (kl kc : Nat) (v : Value) (l : List Nat) (hl : l.length <= 700000000) (q : Nat) (hq : q < 256) (B : Nat) (W : World) (ho : Own W B v l) (hB : B <= W.heap.size) :
 Calls Tryz.prog 114 #[v, .agg #[.int .i64 2, .int .i64 (q : Int), .int .i64 s, .string t, .slice na nl nc, .slice ka kl kc]] W fun e w' => ∃ v' l', e = .returned v' /\ Hid (Ap B W w' v v' l' /\ Wr l ([2, q]) l') := by
 obtain ⟨W1, HW1⟩ : ∃ W1, Hid (W.alloc (.cells #[.int .i64 2, .int .i64 (q : Int), .int .i64 s, .string t, .slice na nl nc, .slice ka kl kc] 41) = W1) := ⟨_, rfl⟩
 have HX : Hid (Blk W1 W.heap.size 41 [.int .i64 2, .int .i64 (q : Int), .int .i64 s, .string t, .slice na nl nc, .slice ka kl kc]) := by rw [<- HW1.out]; exact blk_new W 41 [.int .i64 2, .int .i64 (q : Int), .int .i64 s, .string t, .slice na nl nc, .slice ka kl kc]
 have HO1 : Hid (Own W1 B v l) := by rw [<- HW1.out]; exact ho.alloc _
 have hz1 : W1.heap.size = W.heap.size + 1 := by have := HW1.out; subst this; simp
 have HB1 : Hid (Below W.heap.size W W1) := by rw [<- HW1.out]; exact (Below.refl _ _).alloc (Nat.le_refl _) _
 have HN : Hid (v.ownBlock ≠ some W.heap.size) := ho.ne
 have c0 : W1.cell? ⟨W.heap.size, 0, none⟩ = some (.int .i64 2) := HX.out.cell 0
 clear ho
 go_enter Tryz.func114, Tryz.ntmps114
 go_wp2_with (at_builtin; go_must (generalize hWW : World.alloc W _ = W9; obtain rfl : W1 = W9 := (by rw [<- hWW, <- HW1.out]); clear hWW HW1; refine ap_bytes rfl (.tmp 6) (.tmp 10) rfl B v l rfl (HO1.out.alloc _) _ _ _ [2] rfl rfl (byt_at W1 [2] _ hz1) (by simp) (by simp; omega) (by simp; omega) ?_))
 intro v1 w1 A1
 have HA : Hid (Ap B W1 w1 v v1 (l ++ [2])) := Ap.after ((Below.refl _ _).alloc (Nat.le_refl _) _) A1
 clear A1 c0
 have hb1 : B <= w1.heap.size := by have := HA.out.gr.size; omega
 have HX1 : Hid (Blk w1 W.heap.size 41 [.int .i64 2, .int .i64 (q : Int), .int .i64 s, .string t, .slice na nl nc, .slice ka kl kc]) := HA.out.blk HX.out HN.out
 have HNE : Hid (v1.ownBlock ≠ some W.heap.size) := fun e => by
  rcases HA.out.ob _ e with h | h
  . exact HN.out h
  . omega
 have HAW : Hid (Ap B W w1 v v1 (l ++ [2])) := Ap.after HB1.out HA.out
 clear HA HX HO1 HB1 hz1
 have c0 : w1.cell? ⟨W.heap.size, 0, none⟩ = some (.int .i64 2) := HX1.out.cell 0
 have c1 : w1.cell? ⟨W.heap.size, 1, none⟩ = some (.int .i64 (q : Int)) := HX1.out.cell 1
 go_wp2_with (at_builtin; go_must (refine ap_bytes rfl (.tmp 16) (.tmp 20) rfl B v1 (l ++ [2]) rfl (HAW.out.own.alloc _) _ _ _ [q] rfl rfl (byt_lit w1 [q]) (by simp) (by simp; omega) (by simp; omega) ?_))
 intro v2 w2 A2
 have XA2 : Ap B W w2 v v2 (l ++ [2, q]) := by
  have := HAW.out.trans (Ap.after ((Below.refl _ _).alloc (Nat.le_refl _) _) A2)
  simpa using this
 have HA2 : Hid _ := XA2
 clear XA2 A2 c0 c1
 have HF : Hid (Ap B W w2 v v2 (l ++ [2, q]) /\ Wr l ([2, q]) (l ++ [2, q])) := ⟨HA2.out, Wr.all _ _⟩
 clear HX1 HAW HA2
 go_wp2
 go_ret
 exact ⟨_, _, rfl, HF.out⟩
theorem rb_3 (n : Int) (s : Int) (t : ByteArray) (na : Option Addr) (nl nc : Nat) (ka : Option Addr) (kl kc : Nat) (v : Value) (l : List Nat) (hl : l.length <= 700000000) (n0 : -9223372036854775808 <= n) (n1 : n < 9223372036854775808) (B : Nat) (W : World) (ho : Own W B v l) (hB : B <= W.heap.size) :
 Calls Tryz.prog 114 #[v, .agg #[.int .i64 3, .int .i64 n, .int .i64 s, .string t, .slice na nl nc, .slice ka kl kc]] W fun e w' => ∃ v' l', e = .returned v' /\ Hid (Ap B W w' v v' l' /\ Wr l (3 :: uv (zigS n).toNat) l') := by
 obtain ⟨W1, HW1⟩ : ∃ W1, Hid (W.alloc (.cells #[.int .i64 3, .int .i64 n, .int .i64 s, .string t, .slice na nl nc, .slice ka kl kc] 41) = W1) := ⟨_, rfl⟩
 have HX : Hid (Blk W1 W.heap.size 41 [.int .i64 3, .int .i64 n, .int .i64 s, .string t, .slice na nl nc, .slice ka kl kc]) := by rw [<- HW1.out]; exact blk_new W 41 [.int .i64 3, .int .i64 n, .int .i64 s, .string t, .slice na nl nc, .slice ka kl kc]
 have HO1 : Hid (Own W1 B v l) := by rw [<- HW1.out]; exact ho.alloc _
 have hz1 : W1.heap.size = W.heap.size + 1 := by have := HW1.out; subst this; simp
 have HB1 : Hid (Below W.heap.size W W1) := by rw [<- HW1.out]; exact (Below.refl _ _).alloc (Nat.le_refl _) _
 have HN : Hid (v.ownBlock ≠ some W.heap.size) := ho.ne
 have c0 : W1.cell? ⟨W.heap.size, 0, none⟩ = some (.int .i64 3) := HX.out.cell 0
 clear ho
 have K1 := fun W => zigrN n n0 n1 W
 have z := (zig_nat n n0 n1).1
 generalize (zigS n).toNat = u at *
 go_enter Tryz.func114, Tryz.ntmps114
 go_wp2_with (at_builtin; go_must (generalize hWW : World.alloc W _ = W9; obtain rfl : W1 = W9 := (by rw [<- hWW, <- HW1.out]); clear hWW HW1; refine ap_bytes rfl (.tmp 6) (.tmp 10) rfl B v l rfl (HO1.out.alloc _) _ _ _ [3] rfl rfl (byt_at W1 [3] _ hz1) (by simp) (by simp; omega) (by simp; omega) ?_))
 intro v1 w1 A1
 have HA : Hid (Ap B W1 w1 v v1 (l ++ [3])) := Ap.after ((Below.refl _ _).alloc (Nat.le_refl _) _) A1
 clear A1 c0
 have hb1 : B <= w1.heap.size := by have := HA.out.gr.size; omega
 have HX1 : Hid (Blk w1 W.heap.size 41 [.int .i64 3, .int .i64 n, .int .i64 s, .string t, .slice na nl nc, .slice ka kl kc]) := HA.out.blk HX.out HN.out
 have HNE : Hid (v1.ownBlock ≠ some W.heap.size) := fun e => by
  rcases HA.out.ob _ e with h | h
  . exact HN.out h
  . omega
 have HAW : Hid (Ap B W w1 v v1 (l ++ [3])) := Ap.after HB1.out HA.out
 clear HA HX HO1 HB1 hz1
 have c0 : w1.cell? ⟨W.heap.size, 0, none⟩ = some (.int .i64 3) := HX1.out.cell 0
 have c1 : w1.cell? ⟨W.heap.size, 1, none⟩ = some (.int .i64 n) := HX1.out.cell 1
 have K2 := uvr_any u z w1
 have h10 := uv_ten u z
 go_wp2_with fail
 refine (K1 _).mono ?_
 rintro e w2 ⟨rfl, hw⟩
 have hw' := hw.symm
 subst hw'
 clear hw K1
 go_wp2_with fail
 refine K2.mono ?_
 rintro e w3 ⟨r, rfl, o3, b3⟩
 obtain ⟨ax, cx, rfl, hby, hnil, _⟩ := o3.byt
 have hs3 := b3.size
 have HB3 : Hid (Below w1.heap.size w1 w3) := b3
 have HY : Hid (Byt w3 ax (uv u)) := hby
 have HO3 : Hid (Own w3 B v1 (l ++ [3])) := HAW.out.own.below b3
 clear o3 b3 K2 hby
 go_wp2_with (at_builtin; go_must (refine ap_bytes rfl (.tmp 24) (.tmp 28) rfl B v1 (l ++ [3]) rfl HO3.out ax _ cx (uv u) rfl rfl HY.out hnil (by simp; omega) (by omega) ?_))
 intro v4 w4 A4
 have XA4 : Ap B W w4 v v4 (l ++ 3 :: uv u) := by
  have := HAW.out.trans (Ap.after HB3.out A4)
  simpa using this
 have HA4 : Hid _ := XA4
 have HX4 : Hid (Blk w4 W.heap.size 41 [.int .i64 3, .int .i64 n, .int .i64 s, .string t, .slice na nl nc, .slice ka kl kc]) := A4.blk (HX1.out.below HB3.out HX1.out.lt) HNE.out
 have hb4 : B <= w4.heap.size := by have := A4.gr.size; omega
 clear XA4 A4 c0 c1 HY HO3 HB3
 have HF : Hid (Ap B W w4 v v4 (l ++ 3 :: uv u) /\ Wr l (3 :: uv u) (l ++ 3 :: uv u)) := ⟨HA4.out, Wr.all _ _⟩
 clear HX1 HAW HA4
 go_wp2
 go_ret
 exact ⟨_, _, rfl, HF.out⟩
theorem rb_4 (n : Int) (t : ByteArray) (na : Option Addr) (nl nc : Nat) (ka : Option Addr) (kl kc : Nat) (v : Value) (l : List Nat) (hl : l.length <= 700000000) (n0 : -9223372036854775808 <= n) (n1 : n < 9223372036854775808) (q : Nat) (hq : q < 256) (B : Nat) (W : World) (ho : Own W B v l) (hB : B <= W.heap.size) :
 Calls Tryz.prog 114 #[v, .agg #[.int .i64 4, .int .i64 n, .int .i64 (q : Int), .string t, .slice na nl nc, .slice ka kl kc]] W fun e w' => ∃ v' l', e = .returned v' /\ Hid (Ap B W w' v v' l' /\ Wr l (4 :: (uv (zigS n).toNat ++ [q])) l') := by
 obtain ⟨W1, HW1⟩ : ∃ W1, Hid (W.alloc (.cells #[.int .i64 4, .int .i64 n, .int .i64 (q : Int), .string t, .slice na nl nc, .slice ka kl kc] 41) = W1) := ⟨_, rfl⟩
 have HX : Hid (Blk W1 W.heap.size 41 [.int .i64 4, .int .i64 n, .int .i64 (q : Int), .string t, .slice na nl nc, .slice ka kl kc]) := by rw [<- HW1.out]; exact blk_new W 41 [.int .i64 4, .int .i64 n, .int .i64 (q : Int), .string t, .slice na nl nc, .slice ka kl kc]
 have HO1 : Hid (Own W1 B v l) := by rw [<- HW1.out]; exact ho.alloc _
 have hz1 : W1.heap.size = W.heap.size + 1 := by have := HW1.out; subst this; simp
 have HB1 : Hid (Below W.heap.size W W1) := by rw [<- HW1.out]; exact (Below.refl _ _).alloc (Nat.le_refl _) _
 have HN : Hid (v.ownBlock ≠ some W.heap.size) := ho.ne
 have c0 : W1.cell? ⟨W.heap.size, 0, none⟩ = some (.int .i64 4) := HX.out.cell 0
 clear ho
 have K1 := fun W => zigrN n n0 n1 W
 have z := (zig_nat n n0 n1).1
 generalize (zigS n).toNat = u at *
 go_enter Tryz.func114, Tryz.ntmps114
 go_wp2_with (at_builtin; go_must (generalize hWW : World.alloc W _ = W9; obtain rfl : W1 = W9 := (by rw [<- hWW, <- HW1.out]); clear hWW HW1; refine ap_bytes rfl (.tmp 6) (.tmp 10) rfl B v l rfl (HO1.out.alloc _) _ _ _ [4] rfl rfl (byt_at W1 [4] _ hz1) (by simp) (by simp; omega) (by simp; omega) ?_))
 intro v1 w1 A1
 have HA : Hid (Ap B W1 w1 v v1 (l ++ [4])) := Ap.after ((Below.refl _ _).alloc (Nat.le_refl _) _) A1
 clear A1 c0
 have hb1 : B <= w1.heap.size := by have := HA.out.gr.size; omega
 have HX1 : Hid (Blk w1 W.heap.size 41 [.int .i64 4, .int .i64 n, .int .i64 (q : Int), .string t, .slice na nl nc, .slice ka kl kc]) := HA.out.blk HX.out HN.out
 have HNE : Hid (v1.ownBlock ≠ some W.heap.size) := fun e => by
  rcases HA.out.ob _ e with h | h
  . exact HN.out h
  . omega
 have HAW : Hid (Ap B W w1 v v1 (l ++ [4])) := Ap.after HB1.out HA.out
 clear HA HX HO1 HB1 hz1
 have c0 : w1.cell? ⟨W.heap.size, 0, none⟩ = some (.int .i64 4) := HX1.out.cell 0
 have c1 : w1.cell? ⟨W.heap.size, 1, none⟩ = some (.int .i64 n) := HX1.out.cell 1
 have K2 := uvr_any u z w1
 have h10 := uv_ten u z
 go_wp2_with fail
 refine (K1 _).mono ?_
 rintro e w2 ⟨rfl, hw⟩
 have hw' := hw.symm
 subst hw'
 clear hw K1
 go_wp2_with fail
 refine K2.mono ?_
 rintro e w3 ⟨r, rfl, o3, b3⟩
 obtain ⟨ax, cx, rfl, hby, hnil, _⟩ := o3.byt
 have hs3 := b3.size
 have HB3 : Hid (Below w1.heap.size w1 w3) := b3
 have HY : Hid (Byt w3 ax (uv u)) := hby
 have HO3 : Hid (Own w3 B v1 (l ++ [4])) := HAW.out.own.below b3
 clear o3 b3 K2 hby
 go_wp2_with (at_builtin; go_must (refine ap_bytes rfl (.tmp 32) (.tmp 36) rfl B v1 (l ++ [4]) rfl HO3.out ax _ cx (uv u) rfl rfl HY.out hnil (by simp; omega) (by omega) ?_))
 intro v4 w4 A4
 have XA4 : Ap B W w4 v v4 (l ++ 4 :: uv u) := by
  have := HAW.out.trans (Ap.after HB3.out A4)
  simpa using this
 have HA4 : Hid _ := XA4
 have HX4 : Hid (Blk w4 W.heap.size 41 [.int .i64 4, .int .i64 n, .int .i64 (q : Int), .string t, .slice na nl nc, .slice ka kl kc]) := A4.blk (HX1.out.below HB3.out HX1.out.lt) HNE.out
 have hb4 : B <= w4.heap.size := by have := A4.gr.size; omega
 clear XA4 A4 c0 c1 HY HO3 HB3
 have c0 : w4.cell? ⟨W.heap.size, 0, none⟩ = some (.int .i64 4) := HX4.out.cell 0
 have c2 : w4.cell? ⟨W.heap.size, 2, none⟩ = some (.int .i64 (q : Int)) := HX4.out.cell 2
 go_wp2_with (at_builtin; go_must (refine ap_bytes rfl (.tmp 38) (.tmp 42) rfl B v4 (l ++ 4 :: uv u) rfl (HA4.out.own.alloc _) _ _ _ [q] rfl rfl (byt_lit w4 [q]) (by simp) (by simp; omega) (by simp; omega) ?_))
 intro v5 w5 A5
 have XA5 : Ap B W w5 v v5 (l ++ 4 :: (uv u ++ [q])) := by
  have := HA4.out.trans (Ap.after ((Below.refl _ _).alloc (Nat.le_refl _) _) A5)
  simpa using this
 have HA5 : Hid _ := XA5
 clear XA5 A5 c0 c2
 have HF : Hid (Ap B W w5 v v5 (l ++ 4 :: (uv u ++ [q])) /\ Wr l (4 :: (uv u ++ [q])) (l ++ 4 :: (uv u ++ [q]))) := ⟨HA5.out, Wr.all _ _⟩
 clear HX1 HAW HA4 HA5
 go_wp2
 go_ret
 exact ⟨_, _, rfl, HF.out⟩
theorem rb_5 (s : Int) (t : ByteArray) (na : Option Addr) (nl nc : Nat) (ka : Option Addr) (kl kc : Nat) (v : Value) (l : List Nat) (hl : l.length <= 700000000) (q : Nat) (hq : q <= 9007199254740992) (B : Nat) (W : World) (ho : Own W B v l) (hB : B <= W.heap.size) :
 Calls Tryz.prog 114 #[v, .agg #[.int .i64 5, .int .i64 (q : Int), .int .i64 s, .string t, .slice na nl nc, .slice ka kl kc]] W fun e w' => ∃ v' l', e = .returned v' /\ Hid (Ap B W w' v v' l' /\ Wr l (5 :: uv q) l') := by
 obtain ⟨W1, HW1⟩ : ∃ W1, Hid (W.alloc (.cells #[.int .i64 5, .int .i64 (q : Int), .int .i64 s, .string t, .slice na nl nc, .slice ka kl kc] 41) = W1) := ⟨_, rfl⟩
 have HX : Hid (Blk W1 W.heap.size 41 [.int .i64 5, .int .i64 (q : Int), .int .i64 s, .string t, .slice na nl nc, .slice ka kl kc]) := by rw [<- HW1.out]; exact blk_new W 41 [.int .i64 5, .int .i64 (q : Int), .int .i64 s, .string t, .slice na nl nc, .slice ka kl kc]
 have HO1 : Hid (Own W1 B v l) := by rw [<- HW1.out]; exact ho.alloc _
 have hz1 : W1.heap.size = W.heap.size + 1 := by have := HW1.out; subst this; simp
 have HB1 : Hid (Below W.heap.size W W1) := by rw [<- HW1.out]; exact (Below.refl _ _).alloc (Nat.le_refl _) _
 have HN : Hid (v.ownBlock ≠ some W.heap.size) := ho.ne
 have c0 : W1.cell? ⟨W.heap.size, 0, none⟩ = some (.int .i64 5) := HX.out.cell 0
 clear ho
 go_enter Tryz.func114, Tryz.ntmps114
 go_wp2_with (at_builtin; go_must (generalize hWW : World.alloc W _ = W9; obtain rfl : W1 = W9 := (by rw [<- hWW, <- HW1.out]); clear hWW HW1; refine ap_bytes rfl (.tmp 6) (.tmp 10) rfl B v l rfl (HO1.out.alloc _) _ _ _ [5] rfl rfl (byt_at W1 [5] _ hz1) (by simp) (by simp; omega) (by simp; omega) ?_))
 intro v1 w1 A1
 have HA : Hid (Ap B W1 w1 v v1 (l ++ [5])) := Ap.after ((Below.refl _ _).alloc (Nat.le_refl _) _) A1
 clear A1 c0
 have hb1 : B <= w1.heap.size := by have := HA.out.gr.size; omega
 have HX1 : Hid (Blk w1 W.heap.size 41 [.int .i64 5, .int .i64 (q : Int), .int .i64 s, .string t, .slice na nl nc, .slice ka kl kc]) := HA.out.blk HX.out HN.out
 have HNE : Hid (v1.ownBlock ≠ some W.heap.size) := fun e => by
  rcases HA.out.ob _ e with h | h
  . exact HN.out h
  . omega
 have HAW : Hid (Ap B W w1 v v1 (l ++ [5])) := Ap.after HB1.out HA.out
 clear HA HX HO1 HB1 hz1
 have c0 : w1.cell? ⟨W.heap.size, 0, none⟩ = some (.int .i64 5) := HX1.out.cell 0
 have c1 : w1.cell? ⟨W.heap.size, 1, none⟩ = some (.int .i64 (q : Int)) := HX1.out.cell 1
 have K2 := uvr_any q (by omega) w1
 have h10 := uv_ten q (by omega)
 go_wp2_with fail
 refine K2.mono ?_
 rintro e w3 ⟨r, rfl, o3, b3⟩
 obtain ⟨ax, cx, rfl, hby, hnil, _⟩ := o3.byt
 have hs3 := b3.size
 have HB3 : Hid (Below w1.heap.size w1 w3) := b3
 have HY : Hid (Byt w3 ax (uv q)) := hby
 have HO3 : Hid (Own w3 B v1 (l ++ [5])) := HAW.out.own.below b3
 clear o3 b3 K2 hby
 go_wp2_with (at_builtin; go_must (refine ap_bytes rfl (.tmp 46) (.tmp 50) rfl B v1 (l ++ [5]) rfl HO3.out ax _ cx (uv q) rfl rfl HY.out hnil (by simp; omega) (by omega) ?_))
 intro v4 w4 A4
 have XA4 : Ap B W w4 v v4 (l ++ 5 :: uv q) := by
  have := HAW.out.trans (Ap.after HB3.out A4)
  simpa using this
 have HA4 : Hid _ := XA4
 clear XA4 A4 c0 c1 HY HO3 HB3
 have HF : Hid (Ap B W w4 v v4 (l ++ 5 :: uv q) /\ Wr l (5 :: uv q) (l ++ 5 :: uv q)) := ⟨HA4.out, Wr.all _ _⟩
 clear HX1 HAW HA4
 go_wp2
 go_ret
 exact ⟨_, _, rfl, HF.out⟩
theorem rb_6 (n : Int) (s : Int) (t : ByteArray) (na : Option Addr) (nl nc : Nat) (ka : Option Addr) (kl kc : Nat) (v : Value) (l : List Nat) (hl : l.length <= 700000000) (ht : t.size <= 16384) (B : Nat) (W : World) (ho : Own W B v l) (hB : B <= W.heap.size) :
 Calls Tryz.prog 114 #[v, .agg #[.int .i64 6, .int .i64 n, .int .i64 s, .string t, .slice na nl nc, .slice ka kl kc]] W fun e w' => ∃ v' l', e = .returned v' /\ Hid (Ap B W w' v v' l' /\ Wr l (6 :: txB t) l') := by
 obtain ⟨W1, HW1⟩ : ∃ W1, Hid (W.alloc (.cells #[.int .i64 6, .int .i64 n, .int .i64 s, .string t, .slice na nl nc, .slice ka kl kc] 41) = W1) := ⟨_, rfl⟩
 have HX : Hid (Blk W1 W.heap.size 41 [.int .i64 6, .int .i64 n, .int .i64 s, .string t, .slice na nl nc, .slice ka kl kc]) := by rw [<- HW1.out]; exact blk_new W 41 [.int .i64 6, .int .i64 n, .int .i64 s, .string t, .slice na nl nc, .slice ka kl kc]
 have HO1 : Hid (Own W1 B v l) := by rw [<- HW1.out]; exact ho.alloc _
 have hz1 : W1.heap.size = W.heap.size + 1 := by have := HW1.out; subst this; simp
 have HB1 : Hid (Below W.heap.size W W1) := by rw [<- HW1.out]; exact (Below.refl _ _).alloc (Nat.le_refl _) _
 have HN : Hid (v.ownBlock ≠ some W.heap.size) := ho.ne
 have c0 : W1.cell? ⟨W.heap.size, 0, none⟩ = some (.int .i64 6) := HX.out.cell 0
 clear ho
 go_enter Tryz.func114, Tryz.ntmps114
 go_wp2_with (at_builtin; go_must (generalize hWW : World.alloc W _ = W9; obtain rfl : W1 = W9 := (by rw [<- hWW, <- HW1.out]); clear hWW HW1; refine ap_bytes rfl (.tmp 6) (.tmp 10) rfl B v l rfl (HO1.out.alloc _) _ _ _ [6] rfl rfl (byt_at W1 [6] _ hz1) (by simp) (by simp; omega) (by simp; omega) ?_))
 intro v1 w1 A1
 have HA : Hid (Ap B W1 w1 v v1 (l ++ [6])) := Ap.after ((Below.refl _ _).alloc (Nat.le_refl _) _) A1
 clear A1 c0
 have hb1 : B <= w1.heap.size := by have := HA.out.gr.size; omega
 have HX1 : Hid (Blk w1 W.heap.size 41 [.int .i64 6, .int .i64 n, .int .i64 s, .string t, .slice na nl nc, .slice ka kl kc]) := HA.out.blk HX.out HN.out
 have HNE : Hid (v1.ownBlock ≠ some W.heap.size) := fun e => by
  rcases HA.out.ob _ e with h | h
  . exact HN.out h
  . omega
 have HAW : Hid (Ap B W w1 v v1 (l ++ [6])) := Ap.after HB1.out HA.out
 clear HA HX HO1 HB1 hz1
 have c0 : w1.cell? ⟨W.heap.size, 0, none⟩ = some (.int .i64 6) := HX1.out.cell 0
 have c3 : w1.cell? ⟨W.heap.size, 3, none⟩ = some (.string t) := HX1.out.cell 3
 have K2 := rpTx v1 (l ++ [6]) t B w1 HAW.out.own hb1 (by simp; omega)
 go_wp2_with fail
 refine K2.mono ?_
 rintro e w3 ⟨v3, rfl, A3⟩
 have XA3 : Ap B W w3 v v3 (l ++ 6 :: txB t) := by
  have := HAW.out.trans A3
  simpa using this
 have HA3 : Hid _ := XA3
 clear XA3 A3 c0 c3 K2
 have HF : Hid (Ap B W w3 v v3 (l ++ 6 :: txB t) /\ Wr l (6 :: txB t) (l ++ 6 :: txB t)) := ⟨HA3.out, Wr.all _ _⟩
 clear HX1 HAW HA3
 go_wp2
 go_ret
 exact ⟨_, _, rfl, HF.out⟩
theorem rb_7 (n : Int) (s : Int) (t : ByteArray) (na : Option Addr) (nl nc : Nat) (ka : Option Addr) (kl kc : Nat) (v : Value) (l : List Nat) (hl : l.length <= 700000000) (ht : t.size <= 16384) (B : Nat) (W : World) (ho : Own W B v l) (hB : B <= W.heap.size) :
 Calls Tryz.prog 114 #[v, .agg #[.int .i64 7, .int .i64 n, .int .i64 s, .string t, .slice na nl nc, .slice ka kl kc]] W fun e w' => ∃ v' l', e = .returned v' /\ Hid (Ap B W w' v v' l' /\ Wr l (7 :: txB t) l') := by
 obtain ⟨W1, HW1⟩ : ∃ W1, Hid (W.alloc (.cells #[.int .i64 7, .int .i64 n, .int .i64 s, .string t, .slice na nl nc, .slice ka kl kc] 41) = W1) := ⟨_, rfl⟩
 have HX : Hid (Blk W1 W.heap.size 41 [.int .i64 7, .int .i64 n, .int .i64 s, .string t, .slice na nl nc, .slice ka kl kc]) := by rw [<- HW1.out]; exact blk_new W 41 [.int .i64 7, .int .i64 n, .int .i64 s, .string t, .slice na nl nc, .slice ka kl kc]
 have HO1 : Hid (Own W1 B v l) := by rw [<- HW1.out]; exact ho.alloc _
 have hz1 : W1.heap.size = W.heap.size + 1 := by have := HW1.out; subst this; simp
 have HB1 : Hid (Below W.heap.size W W1) := by rw [<- HW1.out]; exact (Below.refl _ _).alloc (Nat.le_refl _) _
 have HN : Hid (v.ownBlock ≠ some W.heap.size) := ho.ne
 have c0 : W1.cell? ⟨W.heap.size, 0, none⟩ = some (.int .i64 7) := HX.out.cell 0
 clear ho
 go_enter Tryz.func114, Tryz.ntmps114
 go_wp2_with (at_builtin; go_must (generalize hWW : World.alloc W _ = W9; obtain rfl : W1 = W9 := (by rw [<- hWW, <- HW1.out]); clear hWW HW1; refine ap_bytes rfl (.tmp 6) (.tmp 10) rfl B v l rfl (HO1.out.alloc _) _ _ _ [7] rfl rfl (byt_at W1 [7] _ hz1) (by simp) (by simp; omega) (by simp; omega) ?_))
 intro v1 w1 A1
 have HA : Hid (Ap B W1 w1 v v1 (l ++ [7])) := Ap.after ((Below.refl _ _).alloc (Nat.le_refl _) _) A1
 clear A1 c0
 have hb1 : B <= w1.heap.size := by have := HA.out.gr.size; omega
 have HX1 : Hid (Blk w1 W.heap.size 41 [.int .i64 7, .int .i64 n, .int .i64 s, .string t, .slice na nl nc, .slice ka kl kc]) := HA.out.blk HX.out HN.out
 have HNE : Hid (v1.ownBlock ≠ some W.heap.size) := fun e => by
  rcases HA.out.ob _ e with h | h
  . exact HN.out h
  . omega
 have HAW : Hid (Ap B W w1 v v1 (l ++ [7])) := Ap.after HB1.out HA.out
 clear HA HX HO1 HB1 hz1
 have c0 : w1.cell? ⟨W.heap.size, 0, none⟩ = some (.int .i64 7) := HX1.out.cell 0
 have c3 : w1.cell? ⟨W.heap.size, 3, none⟩ = some (.string t) := HX1.out.cell 3
 have K2 := rpTx v1 (l ++ [7]) t B w1 HAW.out.own hb1 (by simp; omega)
 go_wp2_with fail
 refine K2.mono ?_
 rintro e w3 ⟨v3, rfl, A3⟩
 have XA3 : Ap B W w3 v v3 (l ++ 7 :: txB t) := by
  have := HAW.out.trans A3
  simpa using this
 have HA3 : Hid _ := XA3
 clear XA3 A3 c0 c3 K2
 have HF : Hid (Ap B W w3 v v3 (l ++ 7 :: txB t) /\ Wr l (7 :: txB t) (l ++ 7 :: txB t)) := ⟨HA3.out, Wr.all _ _⟩
 clear HX1 HAW HA3
 go_wp2
 go_ret
 exact ⟨_, _, rfl, HF.out⟩
end Go.Proofs.YtpfiejmhnkcjbaaGreatDoor
