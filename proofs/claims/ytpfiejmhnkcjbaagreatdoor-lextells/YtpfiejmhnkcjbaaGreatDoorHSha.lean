import Derived.Test.YtpfiejmhnkcjbaaGreatDoorHG35x
import Derived.Test.YtpfiejmhnkcjbaaGreatDoorHWz
import Derived.Test.YtpfiejmhnkcjbaaGreatDoorHG28x
import Derived.Test.YtpfiejmhnkcjbaaGreatDoorHG25x
namespace Go.Proofs.YtpfiejmhnkcjbaaGreatDoor
set_option maxHeartbeats 2000000
set_option maxRecDepth 8000
open Go.RowKit Math
set_option linter.unusedVariables false
set_option linter.unusedSimpArgs false
theorem ofB_app (l m : List Nat) : ofB l ++ ofB m = ofB (l ++ m) := by
 unfold ofB
 apply ByteArray.ext
 simp [ByteArray.data_append]
theorem q_sidx {C : World -> Prop} {a : Act} {o : Oper} {K : Act -> Prop} (x y : Operand) (ho : o.op = .index 9 x y) (s : ByteArray) (k c : Nat) (hi : ∀ w, (Instr.index 9 (.string s) (.int .i64 (k : Int))).run Tryz.prog w = .ok (.int .u8 (c : Int)) w) (hx : a.eval x = .string s) (hy : a.eval y = .int .i64 (k : Int)) (hk : K (a.put o.dst (.int .u8 (c : Int)))) : o.quiet Tryz.prog a C K :=
 ⟨_, fun w _ => by
   have h2 := hi w
   unfold Oper.quietAt execOp
   simp only [ho, hx, hy]
   go_simp, hk⟩
theorem q_add {C : World -> Prop} {a : Act} {o : Oper} {K : Act -> Prop} (x y : Operand) (ho : o.op = .binOp .add 9 x y 9) (A B : ByteArray) (h : A.size + B.size <= 9223372036854775807) (hx : a.eval x = .string A) (hy : a.eval y = .string B) (hk : K (a.put o.dst (.string (A ++ B)))) : o.quiet Tryz.prog a C K :=
 ⟨_, fun w _ => by
   have hi : ¬ 9223372036854775807 < A.size + B.size := by omega
   unfold Oper.quietAt execOp
   simp only [ho, hx, hy]
   go_simp, hk⟩
theorem sh1 (n s : Int) (t : ByteArray) (ns : List ByteArray) (f : Fo) (na : Option Addr) (nc : Nat) (ka : Option Addr) (kc : Nat) (W : World) :
 Calls Tryz.prog 91 #[.agg #[.int .i64 1, .int .i64 n, .int .i64 s, .string t, .slice na ns.length nc, .slice ka f.list.length kc]] W fun e w' => e = .returned (.string (ofB (prV (⟨1, n, s, t, ns⟩, f)))) /\ Below W.heap.size W w' := by
 rw [show ofB (prV (⟨1, n, s, t, ns⟩, f)) = ⟨#[110, 117, 108, 108]⟩ from rfl]
 obtain ⟨W1, HW1⟩ : ∃ W1, Hid (W.alloc (.cells #[.int .i64 1, .int .i64 n, .int .i64 s, .string t, .slice na ns.length nc, .slice ka f.list.length kc] 41) = W1) := ⟨_, rfl⟩
 have HB1 : Hid (Below W.heap.size W W1) := by rw [<- HW1.out]; exact (Below.refl _ _).alloc (Nat.le_refl _) _
 have HX1 : Hid (Blk W1 W.heap.size 41 [.int .i64 1, .int .i64 n, .int .i64 s, .string t, .slice na ns.length nc, .slice ka f.list.length kc]) := by rw [<- HW1.out]; exact blk_new W 41 [.int .i64 1, .int .i64 n, .int .i64 s, .string t, .slice na ns.length nc, .slice ka f.list.length kc]
 have c0 : W1.cell? ⟨W.heap.size, 0, none⟩ = some (.int .i64 1) := HX1.out.cell 0
 have c1 : W1.cell? ⟨W.heap.size, 1, none⟩ = some (.int .i64 n) := HX1.out.cell 1
 have c2 : W1.cell? ⟨W.heap.size, 2, none⟩ = some (.int .i64 s) := HX1.out.cell 2
 have c3 : W1.cell? ⟨W.heap.size, 3, none⟩ = some (.string t) := HX1.out.cell 3
 have c4 : W1.cell? ⟨W.heap.size, 4, none⟩ = some (.slice na ns.length nc) := HX1.out.cell 4
 have c5 : W1.cell? ⟨W.heap.size, 5, none⟩ = some (.slice ka f.list.length kc) := HX1.out.cell 5
 go_enter Tryz.func91, Tryz.ntmps91
 go_wp2
 go_ret
 exact ⟨rfl, (Below.refl _ _).alloc (Nat.le_refl _) _⟩
theorem sh2 (n s : Int) (t : ByteArray) (ns : List ByteArray) (f : Fo) (na : Option Addr) (nc : Nat) (ka : Option Addr) (kc : Nat) (W : World) :
 Calls Tryz.prog 91 #[.agg #[.int .i64 2, .int .i64 n, .int .i64 s, .string t, .slice na ns.length nc, .slice ka f.list.length kc]] W fun e w' => e = .returned (.string (ofB (prV (⟨2, n, s, t, ns⟩, f)))) /\ Below W.heap.size W w' := by
 obtain ⟨W1, HW1⟩ : ∃ W1, Hid (W.alloc (.cells #[.int .i64 2, .int .i64 n, .int .i64 s, .string t, .slice na ns.length nc, .slice ka f.list.length kc] 41) = W1) := ⟨_, rfl⟩
 have HB1 : Hid (Below W.heap.size W W1) := by rw [<- HW1.out]; exact (Below.refl _ _).alloc (Nat.le_refl _) _
 have HX1 : Hid (Blk W1 W.heap.size 41 [.int .i64 2, .int .i64 n, .int .i64 s, .string t, .slice na ns.length nc, .slice ka f.list.length kc]) := by rw [<- HW1.out]; exact blk_new W 41 [.int .i64 2, .int .i64 n, .int .i64 s, .string t, .slice na ns.length nc, .slice ka f.list.length kc]
 have c0 : W1.cell? ⟨W.heap.size, 0, none⟩ = some (.int .i64 2) := HX1.out.cell 0
 have c1 : W1.cell? ⟨W.heap.size, 1, none⟩ = some (.int .i64 n) := HX1.out.cell 1
 have c2 : W1.cell? ⟨W.heap.size, 2, none⟩ = some (.int .i64 s) := HX1.out.cell 2
 have c3 : W1.cell? ⟨W.heap.size, 3, none⟩ = some (.string t) := HX1.out.cell 3
 have c4 : W1.cell? ⟨W.heap.size, 4, none⟩ = some (.slice na ns.length nc) := HX1.out.cell 4
 have c5 : W1.cell? ⟨W.heap.size, 5, none⟩ = some (.slice ka f.list.length kc) := HX1.out.cell 5
 by_cases hn : n = 1
 . subst hn
   rw [show ofB (prV (⟨2, 1, s, t, ns⟩, f)) = ⟨#[116, 114, 117, 101]⟩ from rfl]
   go_enter Tryz.func91, Tryz.ntmps91
   go_wp2
   go_ret
   exact ⟨rfl, (Below.refl _ _).alloc (Nat.le_refl _) _⟩
 . have hnb : (n == 1) = false := by simpa using hn
   rw [show ofB (prV (⟨2, n, s, t, ns⟩, f)) = ⟨#[102, 97, 108, 115, 101]⟩ by unfold prV pH; simp [hn]; rfl]
   go_enter Tryz.func91, Tryz.ntmps91
   go_wp2
   go_ret
   exact ⟨rfl, (Below.refl _ _).alloc (Nat.le_refl _) _⟩
theorem sh3 (n s : Int) (t : ByteArray) (ns : List ByteArray) (f : Fo) (hn : Num9 ⟨3, n, s, t, ns⟩) (hf : f = .nil) (hi : D6.isNum 3 n ((s.toNat : Nat) : Int) ⟨#[]⟩ 0 0 = true) (na : Option Addr) (nc : Nat) (ka : Option Addr) (kc : Nat) (W : World) :
 Calls Tryz.prog 91 #[.agg #[.int .i64 3, .int .i64 n, .int .i64 s, .string t, .slice na ns.length nc, .slice ka f.list.length kc]] W fun e w' => e = .returned (.string (ofB (prV (⟨3, n, s, t, ns⟩, f)))) /\ Below W.heap.size W w' := by
 obtain rfl : t = ⟨#[]⟩ := hn.t
 obtain rfl : ns = [] := hn.ns
 obtain rfl : f = .nil := hf
 obtain ⟨q, rfl⟩ : ∃ q : Nat, s = (q : Int) := ⟨s.toNat, by have : 0 <= s := hn.s0; omega⟩
 obtain ⟨W1, HW1⟩ : ∃ W1, Hid (W.alloc (.cells #[.int .i64 3, .int .i64 n, .int .i64 (q : Int), .string ⟨#[]⟩, .slice na 0 nc, .slice ka 0 kc] 41) = W1) := ⟨_, rfl⟩
 have HB1 : Hid (Below W.heap.size W W1) := by rw [<- HW1.out]; exact (Below.refl _ _).alloc (Nat.le_refl _) _
 have HX1 : Hid (Blk W1 W.heap.size 41 [.int .i64 3, .int .i64 n, .int .i64 (q : Int), .string ⟨#[]⟩, .slice na 0 nc, .slice ka 0 kc]) := by rw [<- HW1.out]; exact blk_new W 41 [.int .i64 3, .int .i64 n, .int .i64 (q : Int), .string ⟨#[]⟩, .slice na 0 nc, .slice ka 0 kc]
 have c0 : W1.cell? ⟨W.heap.size, 0, none⟩ = some (.int .i64 3) := HX1.out.cell 0
 have c1 : W1.cell? ⟨W.heap.size, 1, none⟩ = some (.int .i64 n) := HX1.out.cell 1
 have c2 : W1.cell? ⟨W.heap.size, 2, none⟩ = some (.int .i64 (q : Int)) := HX1.out.cell 2
 have c3 : W1.cell? ⟨W.heap.size, 3, none⟩ = some (.string ⟨#[]⟩) := HX1.out.cell 3
 have c4 : W1.cell? ⟨W.heap.size, 4, none⟩ = some (.slice na 0 nc) := HX1.out.cell 4
 have c5 : W1.cell? ⟨W.heap.size, 5, none⟩ = some (.slice ka 0 kc) := HX1.out.cell 5
 rw [show ofB (prV (⟨3, n, (q : Int), ⟨#[]⟩, []⟩, .nil)) = D6.txt n q (dcB n.natAbs) by
  have e : bts (D6.txt n q (dcB n.natAbs)) = pN n q := rfl
  have e2 : prV (⟨3, n, (q : Int), ⟨#[]⟩, []⟩, .nil) = pN n q := by unfold prV pH; simp
  rw [e2, <- e, ofB_bts]]
 have K0 := D6.rText_num 3 n q (by simpa using hi) ⟨hn.nu.n0, hn.nu.n1⟩ na nc ka kc W1
 rw [show (⟨(Lib.decDigits n.natAbs).toArray⟩ : ByteArray) = dcB n.natAbs from rfl] at K0
 clear hn hi
 generalize D6.txt n q (dcB n.natAbs) = T at *
 go_enter Tryz.func91, Tryz.ntmps91
 go_wp2_with fail
 generalize hWW : World.alloc W _ = W9
 obtain rfl : W1 = W9 := by rw [<- hWW, <- HW1.out] <;> rfl
 clear hWW HW1
 refine K0.mono ?_
 rintro e w9 ⟨rfl, g9⟩
 have HB9 : Hid (Below W.heap.size W w9) := HB1.out.trans (Below.mono g9 HB1.out.size)
 clear K0 g9 c0 c1 c2 c3 c4 c5 HX1
 go_wp2
 go_ret
 exact ⟨rfl, HB9.out⟩
theorem sh4 (n s : Int) (t : ByteArray) (ns : List ByteArray) (f : Fo) (hn : Num9 ⟨4, n, s, t, ns⟩) (hf : f = .nil) (hi : D6.isNum 4 n ((s.toNat : Nat) : Int) ⟨#[]⟩ 0 0 = true) (na : Option Addr) (nc : Nat) (ka : Option Addr) (kc : Nat) (W : World) :
 Calls Tryz.prog 91 #[.agg #[.int .i64 4, .int .i64 n, .int .i64 s, .string t, .slice na ns.length nc, .slice ka f.list.length kc]] W fun e w' => e = .returned (.string (ofB (prV (⟨4, n, s, t, ns⟩, f)))) /\ Below W.heap.size W w' := by
 obtain rfl : t = ⟨#[]⟩ := hn.t
 obtain rfl : ns = [] := hn.ns
 obtain rfl : f = .nil := hf
 obtain ⟨q, rfl⟩ : ∃ q : Nat, s = (q : Int) := ⟨s.toNat, by have : 0 <= s := hn.s0; omega⟩
 obtain ⟨W1, HW1⟩ : ∃ W1, Hid (W.alloc (.cells #[.int .i64 4, .int .i64 n, .int .i64 (q : Int), .string ⟨#[]⟩, .slice na 0 nc, .slice ka 0 kc] 41) = W1) := ⟨_, rfl⟩
 have HB1 : Hid (Below W.heap.size W W1) := by rw [<- HW1.out]; exact (Below.refl _ _).alloc (Nat.le_refl _) _
 have HX1 : Hid (Blk W1 W.heap.size 41 [.int .i64 4, .int .i64 n, .int .i64 (q : Int), .string ⟨#[]⟩, .slice na 0 nc, .slice ka 0 kc]) := by rw [<- HW1.out]; exact blk_new W 41 [.int .i64 4, .int .i64 n, .int .i64 (q : Int), .string ⟨#[]⟩, .slice na 0 nc, .slice ka 0 kc]
 have c0 : W1.cell? ⟨W.heap.size, 0, none⟩ = some (.int .i64 4) := HX1.out.cell 0
 have c1 : W1.cell? ⟨W.heap.size, 1, none⟩ = some (.int .i64 n) := HX1.out.cell 1
 have c2 : W1.cell? ⟨W.heap.size, 2, none⟩ = some (.int .i64 (q : Int)) := HX1.out.cell 2
 have c3 : W1.cell? ⟨W.heap.size, 3, none⟩ = some (.string ⟨#[]⟩) := HX1.out.cell 3
 have c4 : W1.cell? ⟨W.heap.size, 4, none⟩ = some (.slice na 0 nc) := HX1.out.cell 4
 have c5 : W1.cell? ⟨W.heap.size, 5, none⟩ = some (.slice ka 0 kc) := HX1.out.cell 5
 rw [show ofB (prV (⟨4, n, (q : Int), ⟨#[]⟩, []⟩, .nil)) = D6.txt n q (dcB n.natAbs) by
  have e : bts (D6.txt n q (dcB n.natAbs)) = pN n q := rfl
  have e2 : prV (⟨4, n, (q : Int), ⟨#[]⟩, []⟩, .nil) = pN n q := by unfold prV pH; simp
  rw [e2, <- e, ofB_bts]]
 have K0 := D6.rText_num 4 n q (by simpa using hi) ⟨hn.nu.n0, hn.nu.n1⟩ na nc ka kc W1
 rw [show (⟨(Lib.decDigits n.natAbs).toArray⟩ : ByteArray) = dcB n.natAbs from rfl] at K0
 clear hn hi
 generalize D6.txt n q (dcB n.natAbs) = T at *
 go_enter Tryz.func91, Tryz.ntmps91
 go_wp2_with fail
 generalize hWW : World.alloc W _ = W9
 obtain rfl : W1 = W9 := by rw [<- hWW, <- HW1.out] <;> rfl
 clear hWW HW1
 refine K0.mono ?_
 rintro e w9 ⟨rfl, g9⟩
 have HB9 : Hid (Below W.heap.size W w9) := HB1.out.trans (Below.mono g9 HB1.out.size)
 clear K0 g9 c0 c1 c2 c3 c4 c5 HX1
 go_wp2
 go_ret
 exact ⟨rfl, HB9.out⟩
theorem sh5 (n s : Int) (t : ByteArray) (ns : List ByteArray) (f : Fo) (h0 : 0 <= n) (h1 : n <= 9007199254740992) (na : Option Addr) (nc : Nat) (ka : Option Addr) (kc : Nat) (W : World) :
 Calls Tryz.prog 91 #[.agg #[.int .i64 5, .int .i64 n, .int .i64 s, .string t, .slice na ns.length nc, .slice ka f.list.length kc]] W fun e w' => e = .returned (.string (ofB (prV (⟨5, n, s, t, ns⟩, f)))) /\ Below W.heap.size W w' := by
 obtain ⟨q, rfl⟩ : ∃ q : Nat, n = (q : Int) := ⟨n.toNat, by omega⟩
 obtain ⟨W1, HW1⟩ : ∃ W1, Hid (W.alloc (.cells #[.int .i64 5, .int .i64 (q : Int), .int .i64 s, .string t, .slice na ns.length nc, .slice ka f.list.length kc] 41) = W1) := ⟨_, rfl⟩
 have HB1 : Hid (Below W.heap.size W W1) := by rw [<- HW1.out]; exact (Below.refl _ _).alloc (Nat.le_refl _) _
 have HX1 : Hid (Blk W1 W.heap.size 41 [.int .i64 5, .int .i64 (q : Int), .int .i64 s, .string t, .slice na ns.length nc, .slice ka f.list.length kc]) := by rw [<- HW1.out]; exact blk_new W 41 [.int .i64 5, .int .i64 (q : Int), .int .i64 s, .string t, .slice na ns.length nc, .slice ka f.list.length kc]
 have c0 : W1.cell? ⟨W.heap.size, 0, none⟩ = some (.int .i64 5) := HX1.out.cell 0
 have c1 : W1.cell? ⟨W.heap.size, 1, none⟩ = some (.int .i64 (q : Int)) := HX1.out.cell 1
 have c2 : W1.cell? ⟨W.heap.size, 2, none⟩ = some (.int .i64 s) := HX1.out.cell 2
 have c3 : W1.cell? ⟨W.heap.size, 3, none⟩ = some (.string t) := HX1.out.cell 3
 have c4 : W1.cell? ⟨W.heap.size, 4, none⟩ = some (.slice na ns.length nc) := HX1.out.cell 4
 have c5 : W1.cell? ⟨W.heap.size, 5, none⟩ = some (.slice ka f.list.length kc) := HX1.out.cell 5
 rw [show ofB (prV (⟨5, (q : Int), s, t, ns⟩, f)) = ⟨#[64]⟩ ++ dcB q by
  have e2 : prV (⟨5, (q : Int), s, t, ns⟩, f) = [64] ++ bts (dcB q) := rfl
  rw [e2, <- ofB_app, ofB_bts]
  rfl]
 have K0 := D6.decR q (by omega) W1
 have hsz : ¬ 9223372036854775807 < 1 + (dcB q).size := by
  have : (dcB q).size <= 20 := (D6.dig_size q (by omega)).2
  omega
 rw [show (⟨(Lib.decDigits q).toArray⟩ : ByteArray) = dcB q from rfl] at K0
 generalize dcB q = T at *
 go_enter Tryz.func91, Tryz.ntmps91
 go_wp2_with fail
 generalize hWW : World.alloc W _ = W9
 obtain rfl : W1 = W9 := by rw [<- hWW, <- HW1.out] <;> rfl
 clear hWW HW1
 refine K0.mono ?_
 rintro e w9 ⟨rfl, g9⟩
 have HB9 : Hid (Below W.heap.size W w9) := HB1.out.trans (Below.mono g9 HB1.out.size)
 clear K0 g9 c0 c1 c2 c3 c4 c5 HX1
 go_wp2
 go_ret
 exact ⟨rfl, HB9.out⟩
theorem sh6 (n s : Int) (t : ByteArray) (ns : List ByteArray) (f : Fo) (hts : t.size <= 20000) (na : Option Addr) (nc : Nat) (ka : Option Addr) (kc : Nat) (W : World) :
 Calls Tryz.prog 91 #[.agg #[.int .i64 6, .int .i64 n, .int .i64 s, .string t, .slice na ns.length nc, .slice ka f.list.length kc]] W fun e w' => e = .returned (.string (ofB (prV (⟨6, n, s, t, ns⟩, f)))) /\ Below W.heap.size W w' := by
 obtain ⟨W1, HW1⟩ : ∃ W1, Hid (W.alloc (.cells #[.int .i64 6, .int .i64 n, .int .i64 s, .string t, .slice na ns.length nc, .slice ka f.list.length kc] 41) = W1) := ⟨_, rfl⟩
 have HB1 : Hid (Below W.heap.size W W1) := by rw [<- HW1.out]; exact (Below.refl _ _).alloc (Nat.le_refl _) _
 have HX1 : Hid (Blk W1 W.heap.size 41 [.int .i64 6, .int .i64 n, .int .i64 s, .string t, .slice na ns.length nc, .slice ka f.list.length kc]) := by rw [<- HW1.out]; exact blk_new W 41 [.int .i64 6, .int .i64 n, .int .i64 s, .string t, .slice na ns.length nc, .slice ka f.list.length kc]
 have c0 : W1.cell? ⟨W.heap.size, 0, none⟩ = some (.int .i64 6) := HX1.out.cell 0
 have c1 : W1.cell? ⟨W.heap.size, 1, none⟩ = some (.int .i64 n) := HX1.out.cell 1
 have c2 : W1.cell? ⟨W.heap.size, 2, none⟩ = some (.int .i64 s) := HX1.out.cell 2
 have c3 : W1.cell? ⟨W.heap.size, 3, none⟩ = some (.string t) := HX1.out.cell 3
 have c4 : W1.cell? ⟨W.heap.size, 4, none⟩ = some (.slice na ns.length nc) := HX1.out.cell 4
 have c5 : W1.cell? ⟨W.heap.size, 5, none⟩ = some (.slice ka f.list.length kc) := HX1.out.cell 5
 have K0 := quote9 t (by omega) W1
 rw [show prV (⟨6, n, s, t, ns⟩, f) = pQ t from rfl]
 generalize ofB (pQ t) = T at *
 go_enter Tryz.func91, Tryz.ntmps91
 go_wp2_with fail
 generalize hWW : World.alloc W _ = W9
 obtain rfl : W1 = W9 := by rw [<- hWW, <- HW1.out] <;> rfl
 clear hWW HW1
 refine K0.mono ?_
 rintro e w9 ⟨rfl, g9⟩
 have HB9 : Hid (Below W.heap.size W w9) := HB1.out.trans (Below.mono g9 HB1.out.size)
 clear K0 g9 c0 c1 c2 c3 c4 c5 HX1
 go_wp2
 go_ret
 exact ⟨rfl, HB9.out⟩
theorem sh7 (n s : Int) (t : ByteArray) (ns : List ByteArray) (f : Fo) (hts : t.size <= 20000) (na : Option Addr) (nc : Nat) (ka : Option Addr) (kc : Nat) (W : World) :
 Calls Tryz.prog 91 #[.agg #[.int .i64 7, .int .i64 n, .int .i64 s, .string t, .slice na ns.length nc, .slice ka f.list.length kc]] W fun e w' => e = .returned (.string (ofB (prV (⟨7, n, s, t, ns⟩, f)))) /\ Below W.heap.size W w' := by
 obtain ⟨W1, HW1⟩ : ∃ W1, Hid (W.alloc (.cells #[.int .i64 7, .int .i64 n, .int .i64 s, .string t, .slice na ns.length nc, .slice ka f.list.length kc] 41) = W1) := ⟨_, rfl⟩
 have HB1 : Hid (Below W.heap.size W W1) := by rw [<- HW1.out]; exact (Below.refl _ _).alloc (Nat.le_refl _) _
 have HX1 : Hid (Blk W1 W.heap.size 41 [.int .i64 7, .int .i64 n, .int .i64 s, .string t, .slice na ns.length nc, .slice ka f.list.length kc]) := by rw [<- HW1.out]; exact blk_new W 41 [.int .i64 7, .int .i64 n, .int .i64 s, .string t, .slice na ns.length nc, .slice ka f.list.length kc]
 have c0 : W1.cell? ⟨W.heap.size, 0, none⟩ = some (.int .i64 7) := HX1.out.cell 0
 have c1 : W1.cell? ⟨W.heap.size, 1, none⟩ = some (.int .i64 n) := HX1.out.cell 1
 have c2 : W1.cell? ⟨W.heap.size, 2, none⟩ = some (.int .i64 s) := HX1.out.cell 2
 have c3 : W1.cell? ⟨W.heap.size, 3, none⟩ = some (.string t) := HX1.out.cell 3
 have c4 : W1.cell? ⟨W.heap.size, 4, none⟩ = some (.slice na ns.length nc) := HX1.out.cell 4
 have c5 : W1.cell? ⟨W.heap.size, 5, none⟩ = some (.slice ka f.list.length kc) := HX1.out.cell 5
 rw [show prV (⟨7, n, s, t, ns⟩, f) = pB t from rfl]
 have hz1 : W1.heap.size = W.heap.size + 1 := by rw [<- HW1.out]; simp
 have HI0 : Hid (Own (W1.alloc (.cells #[.int .u8 ((35 : Nat) : Int)] 5)) W1.heap.size (.slice (some ⟨W1.heap.size, 0, none⟩) 1 1) (35 :: pY ((bts t).take 0)) /\ Below W1.heap.size W1 (W1.alloc (.cells #[.int .u8 ((35 : Nat) : Int)] 5))) := ⟨own_single W1 35 _ (Nat.le_refl _), (Below.refl _ _).alloc (Nat.le_refl _) _⟩
 go_enter Tryz.func91, Tryz.ntmps91
 go_wp2
 have e1 : W.alloc (.cells #[.int .i64 7, .int .i64 n, .int .i64 s, .string t, .slice na ns.length nc, .slice ka f.list.length kc] 41) = W1 := HW1.out
 have e2 : (some ⟨W.heap.size + 1, 0, none⟩ : Option Addr) = some ⟨W1.heap.size, 0, none⟩ := by rw [hz1]
 rw [e1, e2]
 clear e1 e2 HW1 c0 c1 c2 c3 c4 c5
 go_loopw [5, 6] (fun b i wr => ∃ (k : Nat), k <= t.size /\ i = .int .i64 (k : Int) /\ Hid (Own wr W1.heap.size b (35 :: pY ((bts t).take k)) /\ Below W1.heap.size W1 wr)) (fun _ i _ => t.size - (intOf i).toNat)
 case atStart => exact ⟨0, by omega, rfl, HI0.out⟩
 case round =>
  clear HI0
  obtain ⟨k, hk, rfl, HI⟩ := hrel
  have hlen : (35 :: pY ((bts t).take k)).length <= 800000001 := by
   have := pY_len ((bts t).take k)
   rw [List.length_take, bts_len] at this
   rw [List.length_cons]
   omega
  have hsz := HI.out.2.size
  have c3 : wr.cell? ⟨W.heap.size, 3, none⟩ = some (.string t) := (HX1.out.below HI.out.2 HX1.out.lt).cell 3
  by_cases hk2 : k < t.size
  case neg =>
   have HL : Hid (35 :: pY ((bts t).take k) = pB t) := by
    show _ = _
    rw [List.take_of_length_le (by rw [bts_len]; omega)]
    rfl
   have HB : Hid (Below W.heap.size W wr) := HB1.out.trans (HI.out.2.mono HB1.out.size)
   have HO := HI.out.1
   rw [HL.out] at HO
   obtain ⟨a, c, rfl, hb, hn, _⟩ := HO.byt
   have hcv := conv_byt9 hb (pB_pln t).oct hn
   clear hb hn HL HI hlen HO
   generalize (pB t).length = m at *
   go_wp2
   go_ret
   exact ⟨rfl, HB.out⟩
  have hx := bts_oct t ((bts t).getD k 0) (by rw [List.getD_eq_getElem?_getD, List.getElem?_eq_getElem (by rw [bts_len]; exact hk2)]; exact List.getElem_mem _)
  have HN : Hid (pY ((bts t).take (k + 1)) = pY ((bts t).take k) ++ pX ((bts t).getD k 0)) := pY_next (by rw [bts_len]; exact hk2)
  have hidx : Hid (∀ w, (Instr.index 9 (.string t) (.int .i64 (k : Int))).run Tryz.prog w = .ok (.int .u8 (((bts t).getD k 0 : Nat) : Int)) w) := idx9 t k hk2
  generalize (bts t).getD k 0 = x at *
  obtain ⟨L, hL⟩ : ∃ L, 35 :: pY ((bts t).take k) = L := ⟨_, rfl⟩
  rw [hL] at hlen
  have HS : Hid (∀ v3 w2 w3, Below wr.heap.size wr w2 -> Ap W1.heap.size w2 w3 u5 v3 (L ++ pX x) -> Own w3 W1.heap.size v3 (35 :: pY ((bts t).take (k + 1))) /\ Below W1.heap.size W1 w3) := fun v3 w2 w3 hb A => by
   have h1 := HI.out.1
   rw [hL] at h1
   refine ⟨?_, A.below (h1.below hb) (HI.out.2.trans (hb.mono HI.out.2.size)) (by have := hb.size; omega) (Nat.le_refl _)⟩
   rw [HN.out, <- List.cons_append, hL]
   exact A.own
  have HO : Hid (Own wr W1.heap.size u5 L) := by rw [<- hL]; exact HI.out.1
  have HE : Hid (pX x = [hxd (x / 16), hxd (x % 16)]) := rfl
  obtain ⟨C, hC⟩ : ∃ C : World -> Prop, C = fun w' => Blk w' W.heap.size 41 [.int .i64 7, .int .i64 n, .int .i64 s, .string t, .slice na ns.length nc, .slice ka f.list.length kc] := ⟨_, rfl⟩
  have Q3 : Hid (∀ w', C w' -> w'.cell? ⟨W.heap.size, 3, none⟩ = some (.string t)) := fun w' h => by rw [hC] at h; exact h.cell 3
  have D0 : Hid (Below wr.heap.size wr { wr with drawn := wr.drawn + 1 }) := Below.drew (Below.refl _ _)
  have C0 : Hid (C { wr with drawn := wr.drawn + 1 }) := by rw [hC]; exact (HX1.out.below HI.out.2 HX1.out.lt).below D0.out (by have := HX1.out.lt; omega)
  have CL : Hid (∀ w' o, C w' -> C (w'.alloc o)) := fun w' o h => by rw [hC] at h ⊢; exact h.alloc o
  have CA : Hid (∀ w' w'' v' l', C w' -> Ap W1.heap.size w' w'' u5 v' l' -> C w'') := fun w' w'' v' l' h A => by
   rw [hC] at h ⊢
   refine A.blk h fun e => ?_
   have := (World.ownsRow.lt HO.out _ e).1
   omega
  have HOv : Hid (Own { wr with drawn := wr.drawn + 1 } W1.heap.size u5 L) := HO.out.below D0.out
  clear hC HI HN hL
  go_wp2
  clear c3
  refine region_calm C 15 (by kernel_rfl) ?_
  have hCp : ∀ p : Prop, (∀ W, C W -> p) ↔ p := fun p => ⟨fun h => h _ C0.out, fun h _ _ => h⟩
  have hsz2 : W1.heap.size <= ({ wr with drawn := wr.drawn + 1 } : World).heap.size := hsz
  generalize ({ wr with drawn := wr.drawn + 1 } : World) = y0 at *
  refine seg 3 [0, 1, 2, 3, 4, 5, 6, 7, 8, 9, 10, 11, 12] rfl (by kernel_rfl) whole_blind C0.out (by kernel_rfl) ?_
  change wpQuiet _ _ _ _ (_ :: _ :: _ :: _ :: _ :: _ :: _ :: _ :: _ :: _ :: _ :: _ :: _ :: []) _
  repeat (first
   | go_big_quiet_skip
   | (go_big_quiet_want
      first
      | (refine q_one 9 (.inr (.inl rfl)) (.tmp 52) rfl W.heap.size 3 rfl _ Q3.out ?_
         simp only [Act.put, List.setIfInBounds_toArray, List.set_cons_zero, List.set_cons_succ]
         go_big_quiet_on)
      | (refine q_one 9 (.inr (.inl rfl)) (.tmp 58) rfl W.heap.size 3 rfl _ Q3.out ?_
         simp only [Act.put, List.setIfInBounds_toArray, List.set_cons_zero, List.set_cons_succ]
         go_big_quiet_on)
      | (refine q_sidx (.tmp 53) (.tmp 54) rfl t k x hidx.out rfl rfl ?_
         simp only [Act.put, List.setIfInBounds_toArray, List.set_cons_zero, List.set_cons_succ]
         go_big_quiet_on)
      | (refine q_sidx (.tmp 59) (.tmp 60) rfl t k x hidx.out rfl rfl ?_
         simp only [Act.put, List.setIfInBounds_toArray, List.set_cons_zero, List.set_cons_succ]
         go_big_quiet_on)
      | (refine q_hex (.tmp 56) rfl (x / 16) (by omega) _ rfl (by omega) ?_
         simp only [Act.put, List.setIfInBounds_toArray, List.set_cons_zero, List.set_cons_succ]
         go_big_quiet_on)
      | (refine q_hex (.tmp 62) rfl (x % 16) (by omega) _ rfl (by omega) ?_
         simp only [Act.put, List.setIfInBounds_toArray, List.set_cons_zero, List.set_cons_succ]
         go_big_quiet_on)
      | (go_big_quiet_op
         go_big_quiet_on)))
  refine wpQuiet_nil ?_
  refine lone_do (i := 13) 2 rfl (by kernel_rfl) rfl (by rfl) ?_
  intro K hK
  refine oper_duo 57 63 rfl (hxd (x / 16)) (hxd (x % 16)) rfl rfl ?_
  refine hK _ _ (CL.out _ _ C0.out) ?_
  simp only [Act.put, List.setIfInBounds_toArray, List.set_cons_zero, List.set_cons_succ]
  refine lone_do (i := 14) 1 rfl (by kernel_rfl) rfl (by rfl) ?_
  intro K hK
  refine oper_apb (.tmp 51) (.tmp 64) rfl W1.heap.size u5 L rfl (HOv.out.alloc _) _ _ _ [hxd (x / 16), hxd (x % 16)] rfl rfl (byt_lit y0 [hxd (x / 16), hxd (x % 16)]) (by simp) (by simp; omega) (by simp; omega) ?_
  intro v1 w1 A1
  have HI2 : Hid (Own w1 W1.heap.size v1 (35 :: pY ((bts t).take (k + 1))) /\ Below W1.heap.size W1 w1) := HS.out v1 _ w1 (D0.out.alloc D0.out.size _) (by rw [HE.out]; exact A1)
  have hc1 : C w1 := CA.out _ _ _ _ (CL.out _ _ C0.out) A1
  clear A1
  refine hK _ _ hc1 ?_
  simp only [Act.put, List.setIfInBounds_toArray, List.set_cons_zero, List.set_cons_succ]
  have hCq : ∀ p : Prop, (∀ W, C W -> p) ↔ p := fun p => ⟨fun h => h _ hc1, fun h _ _ => h⟩
  refine lone_calm (i := 15) 0 rfl (by kernel_rfl) rfl rfl hc1 ?_
  go_big_quiet_want
  go_big_quiet_op
  go_big_quiet_on
  refine wpQuiet_nil ?_
  refine anyC_done (by kernel_rfl) ⟨rfl, ?_⟩
  clear HS HO HE hCp hCq D0 HOv C0 CL CA Q3 hc1
  go_wp2
  go_roundw
  case rel => exact ⟨k + 1, by omega, by go_num, HI2.out⟩
  case measure => simp [intOf]; omega
end Go.Proofs.YtpfiejmhnkcjbaaGreatDoor
