import Derived.Test.YtpfiejmhnkcjbaaGreatDoorHG4x
namespace Go.Proofs.YtpfiejmhnkcjbaaGreatDoor
set_option maxRecDepth 8000
open Go.RowKit Math
set_option linter.unusedVariables false
structure Wr (l x l' : List Nat) : Prop where
 le : l.length <= l'.length
 up : l'.length <= l.length + x.length
 out : l' = l ++ x ∨ 65536 < l'.length
theorem Wr.all (l x : List Nat) : Wr l x (l ++ x) := ⟨by simp, by simp, .inl rfl⟩
theorem Wr.trans {l x l1 y l2 : List Nat} (h : Wr l x l1) (k : Wr l1 y l2) : Wr l (x ++ y) l2 := by
 have a := h.le; have b := h.up; have c := k.le; have d := k.up
 refine ⟨by omega, by rw [List.length_append]; omega, ?_⟩
 rcases k.out with rfl | h2
 . rcases h.out with rfl | h1
   . exact .inl (List.append_assoc _ _ _)
   . exact .inr (by omega)
 . exact .inr h2
theorem byt_at (w : World) (l : List Nat) (b : Nat) (hb : w.heap.size = b) : Byt (w.alloc (.cells (vals l).toArray 5)) (some ⟨b, 0, none⟩) l := by
 subst hb
 exact byt_lit w l
theorem av_long (k n s : Int) (t : ByteArray) (na : Option Addr) (nl nc : Nat) (ka : Option Addr) (kl kc : Nat) (ax : Option Addr) (c : Nat) (l : List Nat) (hl : 65536 < l.length) (W : World) :
 Calls Tryz.prog 138 #[.slice ax l.length c, .agg #[.int .i64 k, .int .i64 n, .int .i64 s, .string t, .slice na nl nc, .slice ka kl kc]] W fun e w' => e = .returned (.slice ax l.length c) /\ Below W.heap.size W w' := by
 have h1 : decide ((65536 : Int) < (l.length : Int)) = true := by simp; omega
 go_enter Tryz.func138, Tryz.ntmps138
 go_wp2
 go_ret
 exact ⟨rfl, (Below.refl _ _).alloc (Nat.le_refl _) _⟩
theorem av_1 (n s : Int) (t : ByteArray) (na : Option Addr) (nl nc : Nat) (ka : Option Addr) (kl kc : Nat) (ax : Option Addr) (c : Nat) (l : List Nat) (hl : l.length <= 65536) (B : Nat) (W : World) (ho : Own W B (.slice ax l.length c) l) (hB : B <= W.heap.size) :
 Calls Tryz.prog 138 #[.slice ax l.length c, .agg #[.int .i64 1, .int .i64 n, .int .i64 s, .string t, .slice na nl nc, .slice ka kl kc]] W fun e w' => ∃ v', e = .returned v' /\ Ap B W w' (.slice ax l.length c) v' (l ++ [1]) := by
 have h1 : decide ((65536 : Int) < (l.length : Int)) = false := by simp; omega
 have hb0 : Below W.heap.size W (W.alloc (.cells #[.int .i64 1, .int .i64 n, .int .i64 s, .string t, .slice na nl nc, .slice ka kl kc] 41)) := (Below.refl _ _).alloc (Nat.le_refl _) _
 have HO : Hid (Own (W.alloc (.cells #[.int .i64 1, .int .i64 n, .int .i64 s, .string t, .slice na nl nc, .slice ka kl kc] 41)) B (.slice ax l.length c) l) := ho.alloc _
 have HX : Hid (Blk (W.alloc (.cells #[.int .i64 1, .int .i64 n, .int .i64 s, .string t, .slice na nl nc, .slice ka kl kc] 41)) W.heap.size 41 [.int .i64 1, .int .i64 n, .int .i64 s, .string t, .slice na nl nc, .slice ka kl kc]) := blk_new W 41 [.int .i64 1, .int .i64 n, .int .i64 s, .string t, .slice na nl nc, .slice ka kl kc]
 have HN : Hid ((Value.slice ax l.length c).ownBlock ≠ some W.heap.size) := ho.ne
 have HB0 : Hid (Below W.heap.size W (W.alloc (.cells #[.int .i64 1, .int .i64 n, .int .i64 s, .string t, .slice na nl nc, .slice ka kl kc] 41))) := hb0
 have hz : B <= (W.alloc (.cells #[.int .i64 1, .int .i64 n, .int .i64 s, .string t, .slice na nl nc, .slice ka kl kc] 41)).heap.size := by simp; omega
 have HZ : Hid ((W.alloc (.cells #[.int .i64 1, .int .i64 n, .int .i64 s, .string t, .slice na nl nc, .slice ka kl kc] 41)).heap.size = W.heap.size + 1) := by show _ = _; simp
 clear ho hb0
 go_enter Tryz.func138, Tryz.ntmps138
 go_wp2_with (at_builtin; go_must (generalize hWW : World.alloc W _ = W1 at *; refine ap_bytes rfl (.tmp 9) (.tmp 13) rfl B _ l rfl (HO.out.alloc _) _ _ _ [1] rfl rfl (byt_at W1 [1] _ HZ.out) (by simp) (by simp; omega) (by simp; omega) ?_))
 intro v1 w1 A1
 have HA : Hid (Ap B W1 w1 (.slice ax l.length c) v1 (l ++ [1])) := Ap.after ((Below.refl _ _).alloc (Nat.le_refl _) _) A1
 clear A1
 have hb1 : B <= w1.heap.size := Nat.le_trans hz HA.out.gr.size
 have HX1 : Hid (Blk w1 W.heap.size 41 [.int .i64 1, .int .i64 n, .int .i64 s, .string t, .slice na nl nc, .slice ka kl kc]) := HA.out.blk HX.out HN.out
 have HNE : Hid (v1.ownBlock ≠ some W.heap.size) := fun e => by
  rcases HA.out.ob _ e with h | h
  . exact HN.out h
  . rw [HZ.out] at h
    omega
 have HAW : Hid (Ap B W w1 (.slice ax l.length c) v1 (l ++ [1])) := Ap.after HB0.out HA.out
 clear HA HX HO HB0 hWW hz
 have c0 : w1.cell? ⟨W.heap.size, 0, none⟩ = some (.int .i64 1) := HX1.out.cell 0
 go_wp2
 go_ret
 exact ⟨v1, rfl, HAW.out⟩
theorem av_2 (n s : Int) (t : ByteArray) (na : Option Addr) (nl nc : Nat) (ka : Option Addr) (kl kc : Nat) (ax : Option Addr) (c : Nat) (l : List Nat) (hl : l.length <= 65536) (q : Nat) (hq : q < 256) (hn : n = (q : Int)) (B : Nat) (W : World) (ho : Own W B (.slice ax l.length c) l) (hB : B <= W.heap.size) :
 Calls Tryz.prog 138 #[.slice ax l.length c, .agg #[.int .i64 2, .int .i64 n, .int .i64 s, .string t, .slice na nl nc, .slice ka kl kc]] W fun e w' => ∃ v', e = .returned v' /\ Ap B W w' (.slice ax l.length c) v' (l ++ [2, q]) := by
 subst hn
 have h1 : decide ((65536 : Int) < (l.length : Int)) = false := by simp; omega
 have hb0 : Below W.heap.size W (W.alloc (.cells #[.int .i64 2, .int .i64 (q : Int), .int .i64 s, .string t, .slice na nl nc, .slice ka kl kc] 41)) := (Below.refl _ _).alloc (Nat.le_refl _) _
 have HO : Hid (Own (W.alloc (.cells #[.int .i64 2, .int .i64 (q : Int), .int .i64 s, .string t, .slice na nl nc, .slice ka kl kc] 41)) B (.slice ax l.length c) l) := ho.alloc _
 have HX : Hid (Blk (W.alloc (.cells #[.int .i64 2, .int .i64 (q : Int), .int .i64 s, .string t, .slice na nl nc, .slice ka kl kc] 41)) W.heap.size 41 [.int .i64 2, .int .i64 (q : Int), .int .i64 s, .string t, .slice na nl nc, .slice ka kl kc]) := blk_new W 41 [.int .i64 2, .int .i64 (q : Int), .int .i64 s, .string t, .slice na nl nc, .slice ka kl kc]
 have HN : Hid ((Value.slice ax l.length c).ownBlock ≠ some W.heap.size) := ho.ne
 have HB0 : Hid (Below W.heap.size W (W.alloc (.cells #[.int .i64 2, .int .i64 (q : Int), .int .i64 s, .string t, .slice na nl nc, .slice ka kl kc] 41))) := hb0
 have hz : B <= (W.alloc (.cells #[.int .i64 2, .int .i64 (q : Int), .int .i64 s, .string t, .slice na nl nc, .slice ka kl kc] 41)).heap.size := by simp; omega
 have HZ : Hid ((W.alloc (.cells #[.int .i64 2, .int .i64 (q : Int), .int .i64 s, .string t, .slice na nl nc, .slice ka kl kc] 41)).heap.size = W.heap.size + 1) := by show _ = _; simp
 clear ho hb0
 go_enter Tryz.func138, Tryz.ntmps138
 go_wp2_with (at_builtin; go_must (generalize hWW : World.alloc W _ = W1 at *; refine ap_bytes rfl (.tmp 9) (.tmp 13) rfl B _ l rfl (HO.out.alloc _) _ _ _ [2] rfl rfl (byt_at W1 [2] _ HZ.out) (by simp) (by simp; omega) (by simp; omega) ?_))
 intro v1 w1 A1
 have HA : Hid (Ap B W1 w1 (.slice ax l.length c) v1 (l ++ [2])) := Ap.after ((Below.refl _ _).alloc (Nat.le_refl _) _) A1
 clear A1
 have hb1 : B <= w1.heap.size := Nat.le_trans hz HA.out.gr.size
 have HX1 : Hid (Blk w1 W.heap.size 41 [.int .i64 2, .int .i64 (q : Int), .int .i64 s, .string t, .slice na nl nc, .slice ka kl kc]) := HA.out.blk HX.out HN.out
 have HNE : Hid (v1.ownBlock ≠ some W.heap.size) := fun e => by
  rcases HA.out.ob _ e with h | h
  . exact HN.out h
  . rw [HZ.out] at h
    omega
 have HAW : Hid (Ap B W w1 (.slice ax l.length c) v1 (l ++ [2])) := Ap.after HB0.out HA.out
 clear HA HX HO HB0 hWW hz
 have c0 : w1.cell? ⟨W.heap.size, 0, none⟩ = some (.int .i64 2) := HX1.out.cell 0
 have c1 : w1.cell? ⟨W.heap.size, 1, none⟩ = some (.int .i64 (q : Int)) := HX1.out.cell 1
 go_wp2_with (at_builtin; go_must (refine ap_bytes rfl (.tmp 19) (.tmp 23) rfl B v1 (l ++ [2]) rfl (HAW.out.own.alloc _) _ _ _ [q] rfl rfl (byt_lit w1 [q]) (by simp) (by simp; omega) (by simp; omega) ?_))
 intro v2 w2 A2
 have XA2 : Ap B W w2 (.slice ax l.length c) v2 (l ++ [2, q]) := by
  have := HAW.out.trans (Ap.after ((Below.refl _ _).alloc (Nat.le_refl _) _) A2)
  simpa using this
 have HA2 : Hid _ := XA2
 clear XA2
 clear A2
 go_wp2
 go_ret
 exact ⟨v2, rfl, HA2.out⟩
theorem av_3 (n s : Int) (t : ByteArray) (na : Option Addr) (nl nc : Nat) (ka : Option Addr) (kl kc : Nat) (ax : Option Addr) (c : Nat) (l : List Nat) (hl : l.length <= 65536) (n0 : -9223372036854775808 <= n) (n1 : n < 9223372036854775808) (B : Nat) (W : World) (ho : Own W B (.slice ax l.length c) l) (hB : B <= W.heap.size) :
 Calls Tryz.prog 138 #[.slice ax l.length c, .agg #[.int .i64 3, .int .i64 n, .int .i64 s, .string t, .slice na nl nc, .slice ka kl kc]] W fun e w' => ∃ v', e = .returned v' /\ Ap B W w' (.slice ax l.length c) v' (l ++ 3 :: uv (zigS n).toNat) := by
 have h1 : decide ((65536 : Int) < (l.length : Int)) = false := by simp; omega
 have hb0 : Below W.heap.size W (W.alloc (.cells #[.int .i64 3, .int .i64 n, .int .i64 s, .string t, .slice na nl nc, .slice ka kl kc] 41)) := (Below.refl _ _).alloc (Nat.le_refl _) _
 have HO : Hid (Own (W.alloc (.cells #[.int .i64 3, .int .i64 n, .int .i64 s, .string t, .slice na nl nc, .slice ka kl kc] 41)) B (.slice ax l.length c) l) := ho.alloc _
 have HX : Hid (Blk (W.alloc (.cells #[.int .i64 3, .int .i64 n, .int .i64 s, .string t, .slice na nl nc, .slice ka kl kc] 41)) W.heap.size 41 [.int .i64 3, .int .i64 n, .int .i64 s, .string t, .slice na nl nc, .slice ka kl kc]) := blk_new W 41 [.int .i64 3, .int .i64 n, .int .i64 s, .string t, .slice na nl nc, .slice ka kl kc]
 have HN : Hid ((Value.slice ax l.length c).ownBlock ≠ some W.heap.size) := ho.ne
 have HB0 : Hid (Below W.heap.size W (W.alloc (.cells #[.int .i64 3, .int .i64 n, .int .i64 s, .string t, .slice na nl nc, .slice ka kl kc] 41))) := hb0
 have hz : B <= (W.alloc (.cells #[.int .i64 3, .int .i64 n, .int .i64 s, .string t, .slice na nl nc, .slice ka kl kc] 41)).heap.size := by simp; omega
 have HZ : Hid ((W.alloc (.cells #[.int .i64 3, .int .i64 n, .int .i64 s, .string t, .slice na nl nc, .slice ka kl kc] 41)).heap.size = W.heap.size + 1) := by show _ = _; simp
 clear ho hb0
 go_enter Tryz.func138, Tryz.ntmps138
 go_wp2_with (at_builtin; go_must (generalize hWW : World.alloc W _ = W1 at *; refine ap_bytes rfl (.tmp 9) (.tmp 13) rfl B _ l rfl (HO.out.alloc _) _ _ _ [3] rfl rfl (byt_at W1 [3] _ HZ.out) (by simp) (by simp; omega) (by simp; omega) ?_))
 intro v1 w1 A1
 have HA : Hid (Ap B W1 w1 (.slice ax l.length c) v1 (l ++ [3])) := Ap.after ((Below.refl _ _).alloc (Nat.le_refl _) _) A1
 clear A1
 have hb1 : B <= w1.heap.size := Nat.le_trans hz HA.out.gr.size
 have HX1 : Hid (Blk w1 W.heap.size 41 [.int .i64 3, .int .i64 n, .int .i64 s, .string t, .slice na nl nc, .slice ka kl kc]) := HA.out.blk HX.out HN.out
 have HNE : Hid (v1.ownBlock ≠ some W.heap.size) := fun e => by
  rcases HA.out.ob _ e with h | h
  . exact HN.out h
  . rw [HZ.out] at h
    omega
 have HAW : Hid (Ap B W w1 (.slice ax l.length c) v1 (l ++ [3])) := Ap.after HB0.out HA.out
 clear HA HX HO HB0 hWW hz
 have c0 : w1.cell? ⟨W.heap.size, 0, none⟩ = some (.int .i64 3) := HX1.out.cell 0
 have c1 : w1.cell? ⟨W.heap.size, 1, none⟩ = some (.int .i64 n) := HX1.out.cell 1
 have K := apInt v1 (l ++ [3]) n n0 n1 B w1 HAW.out.own hb1 (by simp; omega)
 go_wp2_with fail
 refine K.mono ?_
 clear K
 rintro e w2 ⟨v2, rfl, A2⟩
 have XA2 : Ap B W w2 (.slice ax l.length c) v2 (l ++ 3 :: uv (zigS n).toNat) := by
  have := HAW.out.trans A2
  simpa using this
 have HA2 : Hid _ := XA2
 clear XA2
 clear A2
 go_wp2
 go_ret
 exact ⟨v2, rfl, HA2.out⟩
theorem av_5 (n s : Int) (t : ByteArray) (na : Option Addr) (nl nc : Nat) (ka : Option Addr) (kl kc : Nat) (ax : Option Addr) (c : Nat) (l : List Nat) (hl : l.length <= 65536) (q : Nat) (hq : q <= 9007199254740992) (hn : n = (q : Int)) (B : Nat) (W : World) (ho : Own W B (.slice ax l.length c) l) (hB : B <= W.heap.size) :
 Calls Tryz.prog 138 #[.slice ax l.length c, .agg #[.int .i64 5, .int .i64 n, .int .i64 s, .string t, .slice na nl nc, .slice ka kl kc]] W fun e w' => ∃ v', e = .returned v' /\ Ap B W w' (.slice ax l.length c) v' (l ++ 5 :: uv q) := by
 subst hn
 have h1 : decide ((65536 : Int) < (l.length : Int)) = false := by simp; omega
 have hb0 : Below W.heap.size W (W.alloc (.cells #[.int .i64 5, .int .i64 (q : Int), .int .i64 s, .string t, .slice na nl nc, .slice ka kl kc] 41)) := (Below.refl _ _).alloc (Nat.le_refl _) _
 have HO : Hid (Own (W.alloc (.cells #[.int .i64 5, .int .i64 (q : Int), .int .i64 s, .string t, .slice na nl nc, .slice ka kl kc] 41)) B (.slice ax l.length c) l) := ho.alloc _
 have HX : Hid (Blk (W.alloc (.cells #[.int .i64 5, .int .i64 (q : Int), .int .i64 s, .string t, .slice na nl nc, .slice ka kl kc] 41)) W.heap.size 41 [.int .i64 5, .int .i64 (q : Int), .int .i64 s, .string t, .slice na nl nc, .slice ka kl kc]) := blk_new W 41 [.int .i64 5, .int .i64 (q : Int), .int .i64 s, .string t, .slice na nl nc, .slice ka kl kc]
 have HN : Hid ((Value.slice ax l.length c).ownBlock ≠ some W.heap.size) := ho.ne
 have HB0 : Hid (Below W.heap.size W (W.alloc (.cells #[.int .i64 5, .int .i64 (q : Int), .int .i64 s, .string t, .slice na nl nc, .slice ka kl kc] 41))) := hb0
 have hz : B <= (W.alloc (.cells #[.int .i64 5, .int .i64 (q : Int), .int .i64 s, .string t, .slice na nl nc, .slice ka kl kc] 41)).heap.size := by simp; omega
 have HZ : Hid ((W.alloc (.cells #[.int .i64 5, .int .i64 (q : Int), .int .i64 s, .string t, .slice na nl nc, .slice ka kl kc] 41)).heap.size = W.heap.size + 1) := by show _ = _; simp
 clear ho hb0
 go_enter Tryz.func138, Tryz.ntmps138
 go_wp2_with (at_builtin; go_must (generalize hWW : World.alloc W _ = W1 at *; refine ap_bytes rfl (.tmp 9) (.tmp 13) rfl B _ l rfl (HO.out.alloc _) _ _ _ [5] rfl rfl (byt_at W1 [5] _ HZ.out) (by simp) (by simp; omega) (by simp; omega) ?_))
 intro v1 w1 A1
 have HA : Hid (Ap B W1 w1 (.slice ax l.length c) v1 (l ++ [5])) := Ap.after ((Below.refl _ _).alloc (Nat.le_refl _) _) A1
 clear A1
 have hb1 : B <= w1.heap.size := Nat.le_trans hz HA.out.gr.size
 have HX1 : Hid (Blk w1 W.heap.size 41 [.int .i64 5, .int .i64 (q : Int), .int .i64 s, .string t, .slice na nl nc, .slice ka kl kc]) := HA.out.blk HX.out HN.out
 have HNE : Hid (v1.ownBlock ≠ some W.heap.size) := fun e => by
  rcases HA.out.ob _ e with h | h
  . exact HN.out h
  . rw [HZ.out] at h
    omega
 have HAW : Hid (Ap B W w1 (.slice ax l.length c) v1 (l ++ [5])) := Ap.after HB0.out HA.out
 clear HA HX HO HB0 hWW hz
 have c0 : w1.cell? ⟨W.heap.size, 0, none⟩ = some (.int .i64 5) := HX1.out.cell 0
 have c1 : w1.cell? ⟨W.heap.size, 1, none⟩ = some (.int .i64 (q : Int)) := HX1.out.cell 1
 have K := apUv v1 (l ++ [5]) q (by omega) B w1 HAW.out.own hb1 (by simp; omega)
 go_wp2_with fail
 refine K.mono ?_
 clear K
 rintro e w2 ⟨v2, rfl, A2⟩
 have XA2 : Ap B W w2 (.slice ax l.length c) v2 (l ++ 5 :: uv q) := by
  have := HAW.out.trans A2
  simpa using this
 have HA2 : Hid _ := XA2
 clear XA2
 clear A2
 go_wp2
 go_ret
 exact ⟨v2, rfl, HA2.out⟩
theorem av_6 (n s : Int) (t : ByteArray) (na : Option Addr) (nl nc : Nat) (ka : Option Addr) (kl kc : Nat) (ax : Option Addr) (c : Nat) (l : List Nat) (hl : l.length <= 65536) (ht : t.size <= 16384) (B : Nat) (W : World) (ho : Own W B (.slice ax l.length c) l) (hB : B <= W.heap.size) :
 Calls Tryz.prog 138 #[.slice ax l.length c, .agg #[.int .i64 6, .int .i64 n, .int .i64 s, .string t, .slice na nl nc, .slice ka kl kc]] W fun e w' => ∃ v', e = .returned v' /\ Ap B W w' (.slice ax l.length c) v' (l ++ 6 :: txB t) := by
 have h1 : decide ((65536 : Int) < (l.length : Int)) = false := by simp; omega
 have hb0 : Below W.heap.size W (W.alloc (.cells #[.int .i64 6, .int .i64 n, .int .i64 s, .string t, .slice na nl nc, .slice ka kl kc] 41)) := (Below.refl _ _).alloc (Nat.le_refl _) _
 have HO : Hid (Own (W.alloc (.cells #[.int .i64 6, .int .i64 n, .int .i64 s, .string t, .slice na nl nc, .slice ka kl kc] 41)) B (.slice ax l.length c) l) := ho.alloc _
 have HX : Hid (Blk (W.alloc (.cells #[.int .i64 6, .int .i64 n, .int .i64 s, .string t, .slice na nl nc, .slice ka kl kc] 41)) W.heap.size 41 [.int .i64 6, .int .i64 n, .int .i64 s, .string t, .slice na nl nc, .slice ka kl kc]) := blk_new W 41 [.int .i64 6, .int .i64 n, .int .i64 s, .string t, .slice na nl nc, .slice ka kl kc]
 have HN : Hid ((Value.slice ax l.length c).ownBlock ≠ some W.heap.size) := ho.ne
 have HB0 : Hid (Below W.heap.size W (W.alloc (.cells #[.int .i64 6, .int .i64 n, .int .i64 s, .string t, .slice na nl nc, .slice ka kl kc] 41))) := hb0
 have hz : B <= (W.alloc (.cells #[.int .i64 6, .int .i64 n, .int .i64 s, .string t, .slice na nl nc, .slice ka kl kc] 41)).heap.size := by simp; omega
 have HZ : Hid ((W.alloc (.cells #[.int .i64 6, .int .i64 n, .int .i64 s, .string t, .slice na nl nc, .slice ka kl kc] 41)).heap.size = W.heap.size + 1) := by show _ = _; simp
 clear ho hb0
 go_enter Tryz.func138, Tryz.ntmps138
 go_wp2_with (at_builtin; go_must (generalize hWW : World.alloc W _ = W1 at *; refine ap_bytes rfl (.tmp 9) (.tmp 13) rfl B _ l rfl (HO.out.alloc _) _ _ _ [6] rfl rfl (byt_at W1 [6] _ HZ.out) (by simp) (by simp; omega) (by simp; omega) ?_))
 intro v1 w1 A1
 have HA : Hid (Ap B W1 w1 (.slice ax l.length c) v1 (l ++ [6])) := Ap.after ((Below.refl _ _).alloc (Nat.le_refl _) _) A1
 clear A1
 have hb1 : B <= w1.heap.size := Nat.le_trans hz HA.out.gr.size
 have HX1 : Hid (Blk w1 W.heap.size 41 [.int .i64 6, .int .i64 n, .int .i64 s, .string t, .slice na nl nc, .slice ka kl kc]) := HA.out.blk HX.out HN.out
 have HNE : Hid (v1.ownBlock ≠ some W.heap.size) := fun e => by
  rcases HA.out.ob _ e with h | h
  . exact HN.out h
  . rw [HZ.out] at h
    omega
 have HAW : Hid (Ap B W w1 (.slice ax l.length c) v1 (l ++ [6])) := Ap.after HB0.out HA.out
 clear HA HX HO HB0 hWW hz
 have c0 : w1.cell? ⟨W.heap.size, 0, none⟩ = some (.int .i64 6) := HX1.out.cell 0
 have c3 : w1.cell? ⟨W.heap.size, 3, none⟩ = some (.string t) := HX1.out.cell 3
 have K := apTx v1 (l ++ [6]) t B w1 HAW.out.own hb1 (by simp; omega)
 go_wp2_with fail
 refine K.mono ?_
 clear K
 rintro e w2 ⟨v2, rfl, A2⟩
 have XA2 : Ap B W w2 (.slice ax l.length c) v2 (l ++ 6 :: txB t) := by
  have := HAW.out.trans A2
  simpa using this
 have HA2 : Hid _ := XA2
 clear XA2
 clear A2
 go_wp2
 go_ret
 exact ⟨v2, rfl, HA2.out⟩
theorem av_7 (n s : Int) (t : ByteArray) (na : Option Addr) (nl nc : Nat) (ka : Option Addr) (kl kc : Nat) (ax : Option Addr) (c : Nat) (l : List Nat) (hl : l.length <= 65536) (ht : t.size <= 16384) (B : Nat) (W : World) (ho : Own W B (.slice ax l.length c) l) (hB : B <= W.heap.size) :
 Calls Tryz.prog 138 #[.slice ax l.length c, .agg #[.int .i64 7, .int .i64 n, .int .i64 s, .string t, .slice na nl nc, .slice ka kl kc]] W fun e w' => ∃ v', e = .returned v' /\ Ap B W w' (.slice ax l.length c) v' (l ++ 7 :: txB t) := by
 have h1 : decide ((65536 : Int) < (l.length : Int)) = false := by simp; omega
 have hb0 : Below W.heap.size W (W.alloc (.cells #[.int .i64 7, .int .i64 n, .int .i64 s, .string t, .slice na nl nc, .slice ka kl kc] 41)) := (Below.refl _ _).alloc (Nat.le_refl _) _
 have HO : Hid (Own (W.alloc (.cells #[.int .i64 7, .int .i64 n, .int .i64 s, .string t, .slice na nl nc, .slice ka kl kc] 41)) B (.slice ax l.length c) l) := ho.alloc _
 have HX : Hid (Blk (W.alloc (.cells #[.int .i64 7, .int .i64 n, .int .i64 s, .string t, .slice na nl nc, .slice ka kl kc] 41)) W.heap.size 41 [.int .i64 7, .int .i64 n, .int .i64 s, .string t, .slice na nl nc, .slice ka kl kc]) := blk_new W 41 [.int .i64 7, .int .i64 n, .int .i64 s, .string t, .slice na nl nc, .slice ka kl kc]
 have HN : Hid ((Value.slice ax l.length c).ownBlock ≠ some W.heap.size) := ho.ne
 have HB0 : Hid (Below W.heap.size W (W.alloc (.cells #[.int .i64 7, .int .i64 n, .int .i64 s, .string t, .slice na nl nc, .slice ka kl kc] 41))) := hb0
 have hz : B <= (W.alloc (.cells #[.int .i64 7, .int .i64 n, .int .i64 s, .string t, .slice na nl nc, .slice ka kl kc] 41)).heap.size := by simp; omega
 have HZ : Hid ((W.alloc (.cells #[.int .i64 7, .int .i64 n, .int .i64 s, .string t, .slice na nl nc, .slice ka kl kc] 41)).heap.size = W.heap.size + 1) := by show _ = _; simp
 clear ho hb0
 go_enter Tryz.func138, Tryz.ntmps138
 go_wp2_with (at_builtin; go_must (generalize hWW : World.alloc W _ = W1 at *; refine ap_bytes rfl (.tmp 9) (.tmp 13) rfl B _ l rfl (HO.out.alloc _) _ _ _ [7] rfl rfl (byt_at W1 [7] _ HZ.out) (by simp) (by simp; omega) (by simp; omega) ?_))
 intro v1 w1 A1
 have HA : Hid (Ap B W1 w1 (.slice ax l.length c) v1 (l ++ [7])) := Ap.after ((Below.refl _ _).alloc (Nat.le_refl _) _) A1
 clear A1
 have hb1 : B <= w1.heap.size := Nat.le_trans hz HA.out.gr.size
 have HX1 : Hid (Blk w1 W.heap.size 41 [.int .i64 7, .int .i64 n, .int .i64 s, .string t, .slice na nl nc, .slice ka kl kc]) := HA.out.blk HX.out HN.out
 have HNE : Hid (v1.ownBlock ≠ some W.heap.size) := fun e => by
  rcases HA.out.ob _ e with h | h
  . exact HN.out h
  . rw [HZ.out] at h
    omega
 have HAW : Hid (Ap B W w1 (.slice ax l.length c) v1 (l ++ [7])) := Ap.after HB0.out HA.out
 clear HA HX HO HB0 hWW hz
 have c0 : w1.cell? ⟨W.heap.size, 0, none⟩ = some (.int .i64 7) := HX1.out.cell 0
 have c3 : w1.cell? ⟨W.heap.size, 3, none⟩ = some (.string t) := HX1.out.cell 3
 have K := apTx v1 (l ++ [7]) t B w1 HAW.out.own hb1 (by simp; omega)
 go_wp2_with fail
 refine K.mono ?_
 clear K
 rintro e w2 ⟨v2, rfl, A2⟩
 have XA2 : Ap B W w2 (.slice ax l.length c) v2 (l ++ 7 :: txB t) := by
  have := HAW.out.trans A2
  simpa using this
 have HA2 : Hid _ := XA2
 clear XA2
 clear A2
 go_wp2
 go_ret
 exact ⟨v2, rfl, HA2.out⟩
end Go.Proofs.YtpfiejmhnkcjbaaGreatDoor
