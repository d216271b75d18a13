import Derived.Test.YtpfiejmhnkcjbaaGreatDoorHWy
import Derived.Test.YtpfiejmhnkcjbaaGreatDoorHG29x
namespace Go.Proofs.YtpfiejmhnkcjbaaGreatDoor
set_option maxHeartbeats 2000000
set_option maxRecDepth 8000
open Go.RowKit Math
set_option linter.unusedVariables false
set_option linter.unusedSimpArgs false
theorem itoa9 (n : Int) (h0 : 0 <= n) (h1 : n <= 9007199254740992) (w : World) (ht : D6.Ptab w) : Calls Tryz.prog 141 #[.int .i64 n] w fun e w' => e = .returned (.string (dcB n.toNat)) /\ Below w.heap.size w w' := by
 have K : Calls Tryz.prog 141 _ _ _ := Any.strconv_Itoa Tryz.laysM171 n (by omega) (by omega) w ht
 refine K.mono ?_
 rintro e w' ⟨rfl, k, os, rfl⟩
 refine ⟨?_, Lib.below_grow _ w (Nat.le_refl _) k os⟩
 unfold Lib.itoa dcB
 rw [if_neg (by omega)]
theorem ptab_below {w w' : World} (h : D6.Ptab w) (g : Below w.heap.size w w') : D6.Ptab w' := h.grow g
theorem own3 {h : Hd} {kl : Nat} (ho : own h kl = 0) (hk : h.k = 3 ∨ h.k = 4) : D6.isNum h.k h.n ((h.s.toNat : Nat) : Int) ⟨#[]⟩ 0 0 = true := by
 have hf := (own_fine ho).1
 have a2 := (form9 hf).2.2.1
 unfold formed at hf
 rcases hk with hk | hk
 . have := a2 (by omega)
   rw [this, hk]
   simp [D6.isNum]
 . simp [hk] at hf
   obtain ⟨⟨⟨_, h1⟩, h2⟩, h3⟩ := hf
   rw [hk, show ((h.s.toNat : Nat) : Int) = h.s by omega]
   simp [D6.isNum, h1, h2, h3]
theorem wv1 (n s : Int) (t : ByteArray) (ns : List ByteArray) (f : Fo) (na : Option Addr) (nc : Nat) (ka : Option Addr) (kc b B : Nat) (v : Value) (l : List Nat) (w0 W : World) (hv : Vl w0 (⟨1, n, s, t, ns⟩, f) na nc ka kc) (hb : Below w0.heap.size w0 W) (hB0 : w0.heap.size <= B) (ht : D6.Ptab w0) (h : Bs b B W v l) (hl : l.length + (prV (⟨1, n, s, t, ns⟩, f)).length <= 700000000) :
 Calls Tryz.prog 111 #[.pointer (some ⟨b, 0, none⟩), .agg #[.int .i64 1, .int .i64 n, .int .i64 s, .string t, .slice na ns.length nc, .slice ka f.list.length kc]] W fun e w' => ∃ v', e = .returned (.tuple #[]) /\ Hid (Bw b B W w' v v' (l ++ prV (⟨1, n, s, t, ns⟩, f))) := by
 obtain ⟨W1, HW1⟩ : ∃ W1, Hid (W.alloc (.cells #[.int .i64 1, .int .i64 n, .int .i64 s, .string t, .slice na ns.length nc, .slice ka f.list.length kc] 41) = W1) := ⟨_, rfl⟩
 have HB1 : Hid (Below W.heap.size W W1) := by rw [<- HW1.out]; exact (Below.refl _ _).alloc (Nat.le_refl _) _
 have HX1 : Hid (Blk W1 W.heap.size 41 [.int .i64 1, .int .i64 n, .int .i64 s, .string t, .slice na ns.length nc, .slice ka f.list.length kc]) := by rw [<- HW1.out]; exact blk_new W 41 [.int .i64 1, .int .i64 n, .int .i64 s, .string t, .slice na ns.length nc, .slice ka f.list.length kc]
 have HS1 : Hid (Bs b B W1 v l) := h.below HB1.out
 have HP : Hid (D6.Ptab W1) := ptab_below ht (hb.trans (HB1.out.mono hb.size))
 have c0 : W1.cell? ⟨W.heap.size, 0, none⟩ = some (.int .i64 1) := HX1.out.cell 0
 have c1 : W1.cell? ⟨W.heap.size, 1, none⟩ = some (.int .i64 n) := HX1.out.cell 1
 have c2 : W1.cell? ⟨W.heap.size, 2, none⟩ = some (.int .i64 s) := HX1.out.cell 2
 have c3 : W1.cell? ⟨W.heap.size, 3, none⟩ = some (.string t) := HX1.out.cell 3
 have c4 : W1.cell? ⟨W.heap.size, 4, none⟩ = some (.slice na ns.length nc) := HX1.out.cell 4
 have c5 : W1.cell? ⟨W.heap.size, 5, none⟩ = some (.slice ka f.list.length kc) := HX1.out.cell 5
 have K := wrs9 ⟨#[110, 117, 108, 108]⟩ HS1.out (by show l.length + 4 <= _; omega)
 clear h hv hb ht hl
 go_enter Tryz.func111, Tryz.ntmps111
 go_wp2_with fail
 generalize hWW : World.alloc W _ = W9
 obtain rfl : W1 = W9 := by rw [<- hWW, <- HW1.out] <;> rfl
 clear hWW HW1
 refine K.mono ?_
 rintro e w2 ⟨v1, rfl, H1⟩
 have HF : Hid (Bw b B W w2 v v1 (l ++ prV (⟨1, n, s, t, ns⟩, f))) := by
  have := Bw.after HB1.out (H1.out)
  show Bw _ _ _ _ _ _ _
  exact this
 clear K H1 c0 c1 c2 c3 c4 c5 HS1 HX1 HP
 go_wp2
 go_end0
 exact ⟨v1, rfl, HF.out⟩
theorem wv2 (n s : Int) (t : ByteArray) (ns : List ByteArray) (f : Fo) (na : Option Addr) (nc : Nat) (ka : Option Addr) (kc b B : Nat) (v : Value) (l : List Nat) (w0 W : World) (hv : Vl w0 (⟨2, n, s, t, ns⟩, f) na nc ka kc) (hb : Below w0.heap.size w0 W) (hB0 : w0.heap.size <= B) (ht : D6.Ptab w0) (h : Bs b B W v l) (hl : l.length + (prV (⟨2, n, s, t, ns⟩, f)).length <= 700000000) :
 Calls Tryz.prog 111 #[.pointer (some ⟨b, 0, none⟩), .agg #[.int .i64 2, .int .i64 n, .int .i64 s, .string t, .slice na ns.length nc, .slice ka f.list.length kc]] W fun e w' => ∃ v', e = .returned (.tuple #[]) /\ Hid (Bw b B W w' v v' (l ++ prV (⟨2, n, s, t, ns⟩, f))) := by
 obtain ⟨W1, HW1⟩ : ∃ W1, Hid (W.alloc (.cells #[.int .i64 2, .int .i64 n, .int .i64 s, .string t, .slice na ns.length nc, .slice ka f.list.length kc] 41) = W1) := ⟨_, rfl⟩
 have HB1 : Hid (Below W.heap.size W W1) := by rw [<- HW1.out]; exact (Below.refl _ _).alloc (Nat.le_refl _) _
 have HX1 : Hid (Blk W1 W.heap.size 41 [.int .i64 2, .int .i64 n, .int .i64 s, .string t, .slice na ns.length nc, .slice ka f.list.length kc]) := by rw [<- HW1.out]; exact blk_new W 41 [.int .i64 2, .int .i64 n, .int .i64 s, .string t, .slice na ns.length nc, .slice ka f.list.length kc]
 have HS1 : Hid (Bs b B W1 v l) := h.below HB1.out
 have HP : Hid (D6.Ptab W1) := ptab_below ht (hb.trans (HB1.out.mono hb.size))
 have c0 : W1.cell? ⟨W.heap.size, 0, none⟩ = some (.int .i64 2) := HX1.out.cell 0
 have c1 : W1.cell? ⟨W.heap.size, 1, none⟩ = some (.int .i64 n) := HX1.out.cell 1
 have c2 : W1.cell? ⟨W.heap.size, 2, none⟩ = some (.int .i64 s) := HX1.out.cell 2
 have c3 : W1.cell? ⟨W.heap.size, 3, none⟩ = some (.string t) := HX1.out.cell 3
 have c4 : W1.cell? ⟨W.heap.size, 4, none⟩ = some (.slice na ns.length nc) := HX1.out.cell 4
 have c5 : W1.cell? ⟨W.heap.size, 5, none⟩ = some (.slice ka f.list.length kc) := HX1.out.cell 5
 have K0 := tw_any n W1
 obtain ⟨T, hT⟩ : ∃ T : ByteArray, (if n = 1 then ⟨#[116, 114, 117, 101]⟩ else ⟨#[102, 97, 108, 115, 101]⟩) = T := ⟨_, rfl⟩
 have HT : Hid (bts T = prV (⟨2, n, s, t, ns⟩, f) /\ T.size <= 5) := by
  show _ /\ _
  rw [<- hT]
  unfold prV pH
  by_cases h1 : n = 1
  . simp only [h1, if_true]; exact ⟨rfl, by decide⟩
  . simp only [h1, if_false]; exact ⟨rfl, by decide⟩
 rw [hT] at K0
 clear hT
 have K := wrs9 T HS1.out (by have := HT.out.2; omega)
 clear h hv hb ht hl
 go_enter Tryz.func111, Tryz.ntmps111
 go_wp2_with fail
 generalize hWW : World.alloc W _ = W9
 obtain rfl : W1 = W9 := by rw [<- hWW, <- HW1.out] <;> rfl
 clear hWW HW1
 refine K0.mono ?_
 rintro e w9 ⟨rfl, rfl⟩
 go_wp2_with fail
 refine K.mono ?_
 rintro e w2 ⟨v1, rfl, H1⟩
 have HF : Hid (Bw b B W w2 v v1 (l ++ prV (⟨2, n, s, t, ns⟩, f))) := by
  have := Bw.after HB1.out (H1.out)
  show Bw _ _ _ _ _ _ _
  rw [HT.out.1] at this
  exact this
 clear K K0 H1 c0 c1 c2 c3 c4 c5 HT HS1 HX1 HP
 go_wp2
 go_end0
 exact ⟨v1, rfl, HF.out⟩
theorem wv3 (n s : Int) (t : ByteArray) (ns : List ByteArray) (f : Fo) (hn : Num9 ⟨3, n, s, t, ns⟩) (hf : f = .nil) (hi : D6.isNum 3 n ((s.toNat : Nat) : Int) ⟨#[]⟩ 0 0 = true) (na : Option Addr) (nc : Nat) (ka : Option Addr) (kc b B : Nat) (v : Value) (l : List Nat) (w0 W : World) (hv : Vl w0 (⟨3, n, s, t, ns⟩, f) na nc ka kc) (hb : Below w0.heap.size w0 W) (hB0 : w0.heap.size <= B) (ht : D6.Ptab w0) (h : Bs b B W v l) (hl : l.length + (prV (⟨3, n, s, t, ns⟩, f)).length <= 700000000) :
 Calls Tryz.prog 111 #[.pointer (some ⟨b, 0, none⟩), .agg #[.int .i64 3, .int .i64 n, .int .i64 s, .string t, .slice na ns.length nc, .slice ka f.list.length kc]] W fun e w' => ∃ v', e = .returned (.tuple #[]) /\ Hid (Bw b B W w' v v' (l ++ prV (⟨3, n, s, t, ns⟩, f))) := by
 obtain rfl : t = ⟨#[]⟩ := hn.t
 obtain rfl : ns = [] := hn.ns
 obtain rfl : f = .nil := hf
 obtain ⟨q, rfl⟩ : ∃ q : Nat, s = (q : Int) := ⟨s.toNat, by have : 0 <= s := hn.s0; omega⟩
 obtain ⟨W1, HW1⟩ : ∃ W1, Hid (W.alloc (.cells #[.int .i64 3, .int .i64 n, .int .i64 (q : Int), .string ⟨#[]⟩, .slice na 0 nc, .slice ka 0 kc] 41) = W1) := ⟨_, rfl⟩
 have HB1 : Hid (Below W.heap.size W W1) := by rw [<- HW1.out]; exact (Below.refl _ _).alloc (Nat.le_refl _) _
 have HX1 : Hid (Blk W1 W.heap.size 41 [.int .i64 3, .int .i64 n, .int .i64 (q : Int), .string ⟨#[]⟩, .slice na 0 nc, .slice ka 0 kc]) := by rw [<- HW1.out]; exact blk_new W 41 [.int .i64 3, .int .i64 n, .int .i64 (q : Int), .string ⟨#[]⟩, .slice na 0 nc, .slice ka 0 kc]
 have HS1 : Hid (Bs b B W1 v l) := h.below HB1.out
 have HP : Hid (D6.Ptab W1) := ptab_below ht (hb.trans (HB1.out.mono hb.size))
 have c0 : W1.cell? ⟨W.heap.size, 0, none⟩ = some (.int .i64 3) := HX1.out.cell 0
 have c1 : W1.cell? ⟨W.heap.size, 1, none⟩ = some (.int .i64 n) := HX1.out.cell 1
 have c2 : W1.cell? ⟨W.heap.size, 2, none⟩ = some (.int .i64 (q : Int)) := HX1.out.cell 2
 have c3 : W1.cell? ⟨W.heap.size, 3, none⟩ = some (.string ⟨#[]⟩) := HX1.out.cell 3
 have c4 : W1.cell? ⟨W.heap.size, 4, none⟩ = some (.slice na 0 nc) := HX1.out.cell 4
 have c5 : W1.cell? ⟨W.heap.size, 5, none⟩ = some (.slice ka 0 kc) := HX1.out.cell 5
 have HT : Hid (bts (D6.txt n q (dcB n.natAbs)) = prV (⟨3, n, (q : Int), ⟨#[]⟩, []⟩, .nil) /\ (D6.txt n q (dcB n.natAbs)).size <= 41) := by
  show _ /\ _
  have e : bts (D6.txt n q (dcB n.natAbs)) = pN n q := rfl
  refine ⟨by rw [e]; unfold prV pH; simp, ?_⟩
  have := pN_len n q (by have := hn.nu; simpa using this)
  rw [<- e, bts_len] at this
  exact this
 have K0 := D6.dText_num 3 n q (by simpa using hi) ⟨hn.nu.n0, hn.nu.n1⟩ na nc ka kc W1 HP.out
 rw [show (⟨(Lib.decDigits n.natAbs).toArray⟩ : ByteArray) = dcB n.natAbs from rfl] at K0
 clear h hv hb ht hn hi
 generalize D6.txt n q (dcB n.natAbs) = T at *
 go_enter Tryz.func111, Tryz.ntmps111
 go_wp2_with fail
 generalize hWW : World.alloc W _ = W9
 obtain rfl : W1 = W9 := by rw [<- hWW, <- HW1.out] <;> rfl
 clear hWW HW1
 refine K0.mono ?_
 rintro e w9 ⟨rfl, g9⟩
 have HB9 : Hid (Below W1.heap.size W1 w9) := g9
 have K := wrs9 T (HS1.out.below HB9.out) (by have := HT.out.2; omega)
 clear K0 g9 c0 c1 c2 c3 c4 c5
 go_wp2_with fail
 refine K.mono ?_
 rintro e w2 ⟨v1, rfl, H1⟩
 have HF : Hid (Bw b B W w2 v v1 (l ++ prV (⟨3, n, (q : Int), ⟨#[]⟩, []⟩, .nil))) := by
  have := Bw.after HB1.out (Bw.after HB9.out H1.out)
  show Bw _ _ _ _ _ _ _
  rw [HT.out.1] at this
  exact this
 clear K H1 HS1 HX1 HP HT HB9
 go_wp2
 go_end0
 exact ⟨v1, rfl, HF.out⟩
theorem wv4 (n s : Int) (t : ByteArray) (ns : List ByteArray) (f : Fo) (hn : Num9 ⟨4, n, s, t, ns⟩) (hf : f = .nil) (hi : D6.isNum 4 n ((s.toNat : Nat) : Int) ⟨#[]⟩ 0 0 = true) (na : Option Addr) (nc : Nat) (ka : Option Addr) (kc b B : Nat) (v : Value) (l : List Nat) (w0 W : World) (hv : Vl w0 (⟨4, n, s, t, ns⟩, f) na nc ka kc) (hb : Below w0.heap.size w0 W) (hB0 : w0.heap.size <= B) (ht : D6.Ptab w0) (h : Bs b B W v l) (hl : l.length + (prV (⟨4, n, s, t, ns⟩, f)).length <= 700000000) :
 Calls Tryz.prog 111 #[.pointer (some ⟨b, 0, none⟩), .agg #[.int .i64 4, .int .i64 n, .int .i64 s, .string t, .slice na ns.length nc, .slice ka f.list.length kc]] W fun e w' => ∃ v', e = .returned (.tuple #[]) /\ Hid (Bw b B W w' v v' (l ++ prV (⟨4, n, s, t, ns⟩, f))) := by
 obtain rfl : t = ⟨#[]⟩ := hn.t
 obtain rfl : ns = [] := hn.ns
 obtain rfl : f = .nil := hf
 obtain ⟨q, rfl⟩ : ∃ q : Nat, s = (q : Int) := ⟨s.toNat, by have : 0 <= s := hn.s0; omega⟩
 obtain ⟨W1, HW1⟩ : ∃ W1, Hid (W.alloc (.cells #[.int .i64 4, .int .i64 n, .int .i64 (q : Int), .string ⟨#[]⟩, .slice na 0 nc, .slice ka 0 kc] 41) = W1) := ⟨_, rfl⟩
 have HB1 : Hid (Below W.heap.size W W1) := by rw [<- HW1.out]; exact (Below.refl _ _).alloc (Nat.le_refl _) _
 have HX1 : Hid (Blk W1 W.heap.size 41 [.int .i64 4, .int .i64 n, .int .i64 (q : Int), .string ⟨#[]⟩, .slice na 0 nc, .slice ka 0 kc]) := by rw [<- HW1.out]; exact blk_new W 41 [.int .i64 4, .int .i64 n, .int .i64 (q : Int), .string ⟨#[]⟩, .slice na 0 nc, .slice ka 0 kc]
 have HS1 : Hid (Bs b B W1 v l) := h.below HB1.out
 have HP : Hid (D6.Ptab W1) := ptab_below ht (hb.trans (HB1.out.mono hb.size))
 have c0 : W1.cell? ⟨W.heap.size, 0, none⟩ = some (.int .i64 4) := HX1.out.cell 0
 have c1 : W1.cell? ⟨W.heap.size, 1, none⟩ = some (.int .i64 n) := HX1.out.cell 1
 have c2 : W1.cell? ⟨W.heap.size, 2, none⟩ = some (.int .i64 (q : Int)) := HX1.out.cell 2
 have c3 : W1.cell? ⟨W.heap.size, 3, none⟩ = some (.string ⟨#[]⟩) := HX1.out.cell 3
 have c4 : W1.cell? ⟨W.heap.size, 4, none⟩ = some (.slice na 0 nc) := HX1.out.cell 4
 have c5 : W1.cell? ⟨W.heap.size, 5, none⟩ = some (.slice ka 0 kc) := HX1.out.cell 5
 have HT : Hid (bts (D6.txt n q (dcB n.natAbs)) = prV (⟨4, n, (q : Int), ⟨#[]⟩, []⟩, .nil) /\ (D6.txt n q (dcB n.natAbs)).size <= 41) := by
  show _ /\ _
  have e : bts (D6.txt n q (dcB n.natAbs)) = pN n q := rfl
  refine ⟨by rw [e]; unfold prV pH; simp, ?_⟩
  have := pN_len n q (by have := hn.nu; simpa using this)
  rw [<- e, bts_len] at this
  exact this
 have K0 := D6.dText_num 4 n q (by simpa using hi) ⟨hn.nu.n0, hn.nu.n1⟩ na nc ka kc W1 HP.out
 rw [show (⟨(Lib.decDigits n.natAbs).toArray⟩ : ByteArray) = dcB n.natAbs from rfl] at K0
 clear h hv hb ht hn hi
 generalize D6.txt n q (dcB n.natAbs) = T at *
 go_enter Tryz.func111, Tryz.ntmps111
 go_wp2_with fail
 generalize hWW : World.alloc W _ = W9
 obtain rfl : W1 = W9 := by rw [<- hWW, <- HW1.out] <;> rfl
 clear hWW HW1
 refine K0.mono ?_
 rintro e w9 ⟨rfl, g9⟩
 have HB9 : Hid (Below W1.heap.size W1 w9) := g9
 have K := wrs9 T (HS1.out.below HB9.out) (by have := HT.out.2; omega)
 clear K0 g9 c0 c1 c2 c3 c4 c5
 go_wp2_with fail
 refine K.mono ?_
 rintro e w2 ⟨v1, rfl, H1⟩
 have HF : Hid (Bw b B W w2 v v1 (l ++ prV (⟨4, n, (q : Int), ⟨#[]⟩, []⟩, .nil))) := by
  have := Bw.after HB1.out (Bw.after HB9.out H1.out)
  show Bw _ _ _ _ _ _ _
  rw [HT.out.1] at this
  exact this
 clear K H1 HS1 HX1 HP HT HB9
 go_wp2
 go_end0
 exact ⟨v1, rfl, HF.out⟩
theorem wv5 (n s : Int) (t : ByteArray) (ns : List ByteArray) (f : Fo) (h0 : 0 <= n) (h1 : n <= 9007199254740992) (na : Option Addr) (nc : Nat) (ka : Option Addr) (kc b B : Nat) (v : Value) (l : List Nat) (w0 W : World) (hv : Vl w0 (⟨5, n, s, t, ns⟩, f) na nc ka kc) (hb : Below w0.heap.size w0 W) (hB0 : w0.heap.size <= B) (ht : D6.Ptab w0) (h : Bs b B W v l) (hl : l.length + (prV (⟨5, n, s, t, ns⟩, f)).length <= 700000000) :
 Calls Tryz.prog 111 #[.pointer (some ⟨b, 0, none⟩), .agg #[.int .i64 5, .int .i64 n, .int .i64 s, .string t, .slice na ns.length nc, .slice ka f.list.length kc]] W fun e w' => ∃ v', e = .returned (.tuple #[]) /\ Hid (Bw b B W w' v v' (l ++ prV (⟨5, n, s, t, ns⟩, f))) := by
 obtain ⟨W1, HW1⟩ : ∃ W1, Hid (W.alloc (.cells #[.int .i64 5, .int .i64 n, .int .i64 s, .string t, .slice na ns.length nc, .slice ka f.list.length kc] 41) = W1) := ⟨_, rfl⟩
 have HB1 : Hid (Below W.heap.size W W1) := by rw [<- HW1.out]; exact (Below.refl _ _).alloc (Nat.le_refl _) _
 have HX1 : Hid (Blk W1 W.heap.size 41 [.int .i64 5, .int .i64 n, .int .i64 s, .string t, .slice na ns.length nc, .slice ka f.list.length kc]) := by rw [<- HW1.out]; exact blk_new W 41 [.int .i64 5, .int .i64 n, .int .i64 s, .string t, .slice na ns.length nc, .slice ka f.list.length kc]
 have HS1 : Hid (Bs b B W1 v l) := h.below HB1.out
 have HP : Hid (D6.Ptab W1) := ptab_below ht (hb.trans (HB1.out.mono hb.size))
 have c0 : W1.cell? ⟨W.heap.size, 0, none⟩ = some (.int .i64 5) := HX1.out.cell 0
 have c1 : W1.cell? ⟨W.heap.size, 1, none⟩ = some (.int .i64 n) := HX1.out.cell 1
 have c2 : W1.cell? ⟨W.heap.size, 2, none⟩ = some (.int .i64 s) := HX1.out.cell 2
 have c3 : W1.cell? ⟨W.heap.size, 3, none⟩ = some (.string t) := HX1.out.cell 3
 have c4 : W1.cell? ⟨W.heap.size, 4, none⟩ = some (.slice na ns.length nc) := HX1.out.cell 4
 have c5 : W1.cell? ⟨W.heap.size, 5, none⟩ = some (.slice ka f.list.length kc) := HX1.out.cell 5
 have hgb : W.heap.size ≠ b := by have := h.lt; omega
 have hvb : v.ownBlock ≠ some W.heap.size := fun e => by have := (World.ownsRow.lt h.own _ e).2; omega
 have hll : l.length <= 700000000 := by omega
 have HT : Hid (64 :: bts (dcB n.toNat) = prV (⟨5, n, s, t, ns⟩, f) /\ (dcB n.toNat).size <= 20) := by
  show _ /\ _
  refine ⟨rfl, ?_⟩
  have := (D6.dig_size n.toNat (by omega)).2
  exact this
 have K := wrs9 ⟨#[64]⟩ HS1.out (by show l.length + 1 <= _; omega)
 have KI : Hid (∀ w, Below W1.heap.size W1 w -> Calls Tryz.prog 141 #[.int .i64 n] w fun e w' => e = .returned (.string (dcB n.toNat)) /\ Below w.heap.size w w') := fun w g => itoa9 n h0 h1 w (ptab_below HP.out g)
 have HBb : Hid (w0.heap.size <= B) := hB0
 have HBt : Hid (Below w0.heap.size w0 W1 /\ D6.Ptab w0) := ⟨hb.trans (HB1.out.mono hb.size), ht⟩
 have KJ : Hid (∀ w, Below w0.heap.size w0 w -> Calls Tryz.prog 141 #[.int .i64 n] w fun e w' => e = .returned (.string (dcB n.toNat)) /\ Below w.heap.size w w') := fun w g => itoa9 n h0 h1 w (ptab_below HBt.out.2 g)
 clear h hv hb ht hl KI
 generalize dcB n.toNat = T at *
 go_enter Tryz.func111, Tryz.ntmps111
 go_wp2_with fail
 generalize hWW : World.alloc W _ = W9
 obtain rfl : W1 = W9 := by rw [<- hWW, <- HW1.out] <;> rfl
 clear hWW HW1
 refine K.mono ?_
 rintro e w2 ⟨v1, rfl, H1⟩
 have HX2 : Hid (Blk w2 W.heap.size 41 [.int .i64 5, .int .i64 n, .int .i64 s, .string t, .slice na ns.length nc, .slice ka f.list.length kc]) := (Xb.mk HX1.out (by have := HS1.out.lt; have := H1.out.bs.lt; have := HB1.out.size; exact hgb) hvb : Xb b W.heap.size W1 v 41 _).step H1.out |>.blk
 have d1 : w2.cell? ⟨W.heap.size, 1, none⟩ = some (.int .i64 n) := HX2.out.cell 1
 have K2 := KJ.out w2 (H1.out.down HS1.out HBt.out.1 HBb.out)
 clear K c0 c1 c2 c3 c4 c5 KJ HBt
 go_wp2_with fail
 refine K2.mono ?_
 rintro e w3 ⟨rfl, g3⟩
 have HB3 : Hid (Below w2.heap.size w2 w3) := g3
 have K3 := wrs9 T (H1.out.bs.below HB3.out) (by have := HT.out.2; rw [List.length_append]; show _ + 1 + _ <= _; have := hll; omega)
 clear K2 g3 d1
 go_wp2_with fail
 refine K3.mono ?_
 rintro e w4 ⟨v2, rfl, H4⟩
 have HF : Hid (Bw b B W w4 v v2 (l ++ prV (⟨5, n, s, t, ns⟩, f))) := by
  have := Bw.after HB1.out (H1.out.trans (Bw.after HB3.out H4.out))
  show Bw _ _ _ _ _ _ _
  rw [<- HT.out.1]
  rw [List.append_assoc] at this
  exact this
 clear K3 H1 H4 HS1 HX1 HX2 HP HT HB3
 go_wp2
 go_end0
 exact ⟨v2, rfl, HF.out⟩
theorem wv6 (n s : Int) (t : ByteArray) (ns : List ByteArray) (f : Fo) (hts : t.size <= 20000) (na : Option Addr) (nc : Nat) (ka : Option Addr) (kc b B : Nat) (v : Value) (l : List Nat) (w0 W : World) (hv : Vl w0 (⟨6, n, s, t, ns⟩, f) na nc ka kc) (hb : Below w0.heap.size w0 W) (hB0 : w0.heap.size <= B) (ht : D6.Ptab w0) (h : Bs b B W v l) (hl : l.length + (prV (⟨6, n, s, t, ns⟩, f)).length <= 700000000) :
 Calls Tryz.prog 111 #[.pointer (some ⟨b, 0, none⟩), .agg #[.int .i64 6, .int .i64 n, .int .i64 s, .string t, .slice na ns.length nc, .slice ka f.list.length kc]] W fun e w' => ∃ v', e = .returned (.tuple #[]) /\ Hid (Bw b B W w' v v' (l ++ prV (⟨6, n, s, t, ns⟩, f))) := by
 obtain ⟨W1, HW1⟩ : ∃ W1, Hid (W.alloc (.cells #[.int .i64 6, .int .i64 n, .int .i64 s, .string t, .slice na ns.length nc, .slice ka f.list.length kc] 41) = W1) := ⟨_, rfl⟩
 have HB1 : Hid (Below W.heap.size W W1) := by rw [<- HW1.out]; exact (Below.refl _ _).alloc (Nat.le_refl _) _
 have HX1 : Hid (Blk W1 W.heap.size 41 [.int .i64 6, .int .i64 n, .int .i64 s, .string t, .slice na ns.length nc, .slice ka f.list.length kc]) := by rw [<- HW1.out]; exact blk_new W 41 [.int .i64 6, .int .i64 n, .int .i64 s, .string t, .slice na ns.length nc, .slice ka f.list.length kc]
 have HS1 : Hid (Bs b B W1 v l) := h.below HB1.out
 have HP : Hid (D6.Ptab W1) := ptab_below ht (hb.trans (HB1.out.mono hb.size))
 have c0 : W1.cell? ⟨W.heap.size, 0, none⟩ = some (.int .i64 6) := HX1.out.cell 0
 have c1 : W1.cell? ⟨W.heap.size, 1, none⟩ = some (.int .i64 n) := HX1.out.cell 1
 have c2 : W1.cell? ⟨W.heap.size, 2, none⟩ = some (.int .i64 s) := HX1.out.cell 2
 have c3 : W1.cell? ⟨W.heap.size, 3, none⟩ = some (.string t) := HX1.out.cell 3
 have c4 : W1.cell? ⟨W.heap.size, 4, none⟩ = some (.slice na ns.length nc) := HX1.out.cell 4
 have c5 : W1.cell? ⟨W.heap.size, 5, none⟩ = some (.slice ka f.list.length kc) := HX1.out.cell 5
 have K := wtext9 t HS1.out (by have : (prV (⟨6, n, s, t, ns⟩, f)).length = _ := rfl; omega)
 clear h hv hb ht hl
 go_enter Tryz.func111, Tryz.ntmps111
 go_wp2_with fail
 generalize hWW : World.alloc W _ = W9
 obtain rfl : W1 = W9 := by rw [<- hWW, <- HW1.out] <;> rfl
 clear hWW HW1
 refine K.mono ?_
 rintro e w2 ⟨v1, rfl, H1⟩
 have HF : Hid (Bw b B W w2 v v1 (l ++ prV (⟨6, n, s, t, ns⟩, f))) := by
  have := Bw.after HB1.out (H1.out)
  show Bw _ _ _ _ _ _ _
  exact this
 clear K H1 c0 c1 c2 c3 c4 c5 HS1 HX1 HP
 go_wp2
 go_end0
 exact ⟨v1, rfl, HF.out⟩
theorem wv7 (n s : Int) (t : ByteArray) (ns : List ByteArray) (f : Fo) (hts : t.size <= 20000) (na : Option Addr) (nc : Nat) (ka : Option Addr) (kc b B : Nat) (v : Value) (l : List Nat) (w0 W : World) (hv : Vl w0 (⟨7, n, s, t, ns⟩, f) na nc ka kc) (hb : Below w0.heap.size w0 W) (hB0 : w0.heap.size <= B) (ht : D6.Ptab w0) (h : Bs b B W v l) (hl : l.length + (prV (⟨7, n, s, t, ns⟩, f)).length <= 700000000) :
 Calls Tryz.prog 111 #[.pointer (some ⟨b, 0, none⟩), .agg #[.int .i64 7, .int .i64 n, .int .i64 s, .string t, .slice na ns.length nc, .slice ka f.list.length kc]] W fun e w' => ∃ v', e = .returned (.tuple #[]) /\ Hid (Bw b B W w' v v' (l ++ prV (⟨7, n, s, t, ns⟩, f))) := by
 obtain ⟨W1, HW1⟩ : ∃ W1, Hid (W.alloc (.cells #[.int .i64 7, .int .i64 n, .int .i64 s, .string t, .slice na ns.length nc, .slice ka f.list.length kc] 41) = W1) := ⟨_, rfl⟩
 have HB1 : Hid (Below W.heap.size W W1) := by rw [<- HW1.out]; exact (Below.refl _ _).alloc (Nat.le_refl _) _
 have HX1 : Hid (Blk W1 W.heap.size 41 [.int .i64 7, .int .i64 n, .int .i64 s, .string t, .slice na ns.length nc, .slice ka f.list.length kc]) := by rw [<- HW1.out]; exact blk_new W 41 [.int .i64 7, .int .i64 n, .int .i64 s, .string t, .slice na ns.length nc, .slice ka f.list.length kc]
 have HS1 : Hid (Bs b B W1 v l) := h.below HB1.out
 have HP : Hid (D6.Ptab W1) := ptab_below ht (hb.trans (HB1.out.mono hb.size))
 have c0 : W1.cell? ⟨W.heap.size, 0, none⟩ = some (.int .i64 7) := HX1.out.cell 0
 have c1 : W1.cell? ⟨W.heap.size, 1, none⟩ = some (.int .i64 n) := HX1.out.cell 1
 have c2 : W1.cell? ⟨W.heap.size, 2, none⟩ = some (.int .i64 s) := HX1.out.cell 2
 have c3 : W1.cell? ⟨W.heap.size, 3, none⟩ = some (.string t) := HX1.out.cell 3
 have c4 : W1.cell? ⟨W.heap.size, 4, none⟩ = some (.slice na ns.length nc) := HX1.out.cell 4
 have c5 : W1.cell? ⟨W.heap.size, 5, none⟩ = some (.slice ka f.list.length kc) := HX1.out.cell 5
 have K := wblob9 t HS1.out (by have : (prV (⟨7, n, s, t, ns⟩, f)).length = _ := rfl; omega)
 clear h hv hb ht hl
 go_enter Tryz.func111, Tryz.ntmps111
 go_wp2_with fail
 generalize hWW : World.alloc W _ = W9
 obtain rfl : W1 = W9 := by rw [<- hWW, <- HW1.out] <;> rfl
 clear hWW HW1
 refine K.mono ?_
 rintro e w2 ⟨v1, rfl, H1⟩
 have HF : Hid (Bw b B W w2 v v1 (l ++ prV (⟨7, n, s, t, ns⟩, f))) := by
  have := Bw.after HB1.out (H1.out)
  show Bw _ _ _ _ _ _ _
  exact this
 clear K H1 c0 c1 c2 c3 c4 c5 HS1 HX1 HP
 go_wp2
 go_end0
 exact ⟨v1, rfl, HF.out⟩
theorem wv8 (n s : Int) (t : ByteArray) (ns : List ByteArray) (f : Fo) (hkl : f.list.length <= 200) (ih : ∀ q ∈ f.list, WvC q) (na : Option Addr) (nc : Nat) (ka : Option Addr) (kc b B : Nat) (v : Value) (l : List Nat) (w0 W : World) (hv : Vl w0 (⟨8, n, s, t, ns⟩, f) na nc ka kc) (hb : Below w0.heap.size w0 W) (hB0 : w0.heap.size <= B) (ht : D6.Ptab w0) (h : Bs b B W v l) (hl : l.length + (prV (⟨8, n, s, t, ns⟩, f)).length <= 700000000) :
 Calls Tryz.prog 111 #[.pointer (some ⟨b, 0, none⟩), .agg #[.int .i64 8, .int .i64 n, .int .i64 s, .string t, .slice na ns.length nc, .slice ka f.list.length kc]] W fun e w' => ∃ v', e = .returned (.tuple #[]) /\ Hid (Bw b B W w' v v' (l ++ prV (⟨8, n, s, t, ns⟩, f))) := by
 obtain ⟨W1, HW1⟩ : ∃ W1, Hid (W.alloc (.cells #[.int .i64 8, .int .i64 n, .int .i64 s, .string t, .slice na ns.length nc, .slice ka f.list.length kc] 41) = W1) := ⟨_, rfl⟩
 have HB1 : Hid (Below W.heap.size W W1) := by rw [<- HW1.out]; exact (Below.refl _ _).alloc (Nat.le_refl _) _
 have HX1 : Hid (Blk W1 W.heap.size 41 [.int .i64 8, .int .i64 n, .int .i64 s, .string t, .slice na ns.length nc, .slice ka f.list.length kc]) := by rw [<- HW1.out]; exact blk_new W 41 [.int .i64 8, .int .i64 n, .int .i64 s, .string t, .slice na ns.length nc, .slice ka f.list.length kc]
 have HS1 : Hid (Bs b B W1 v l) := h.below HB1.out
 have HP : Hid (D6.Ptab W1) := ptab_below ht (hb.trans (HB1.out.mono hb.size))
 have c0 : W1.cell? ⟨W.heap.size, 0, none⟩ = some (.int .i64 8) := HX1.out.cell 0
 have c1 : W1.cell? ⟨W.heap.size, 1, none⟩ = some (.int .i64 n) := HX1.out.cell 1
 have c2 : W1.cell? ⟨W.heap.size, 2, none⟩ = some (.int .i64 s) := HX1.out.cell 2
 have c3 : W1.cell? ⟨W.heap.size, 3, none⟩ = some (.string t) := HX1.out.cell 3
 have c4 : W1.cell? ⟨W.heap.size, 4, none⟩ = some (.slice na ns.length nc) := HX1.out.cell 4
 have c5 : W1.cell? ⟨W.heap.size, 5, none⟩ = some (.slice ka f.list.length kc) := HX1.out.cell 5
 have hlp : l.length + (prF f false ns true).length + 2 <= 700000000 := by
  have e : prV (⟨8, n, s, t, ns⟩, f) = 91 :: (prF f false ns true ++ [93]) := rfl
  rw [e] at hl
  simp only [List.length_cons, List.length_append, List.length_nil] at hl
  omega
 have K := wk8 (⟨8, n, s, t, ns⟩, f) hkl ih na nc ka kc b B v l w0 W1 hv (hb.trans (HB1.out.mono hb.size)) hB0 ht HS1.out hlp
 clear h hv hb ht hl hlp ih
 go_enter Tryz.func111, Tryz.ntmps111
 go_wp2_with fail
 generalize hWW : World.alloc W _ = W9
 obtain rfl : W1 = W9 := by rw [<- hWW, <- HW1.out] <;> rfl
 clear hWW HW1
 refine K.mono ?_
 rintro e w2 ⟨v1, rfl, H1⟩
 have HF : Hid (Bw b B W w2 v v1 (l ++ prV (⟨8, n, s, t, ns⟩, f))) := by
  have := Bw.after HB1.out (H1.out)
  show Bw _ _ _ _ _ _ _
  exact this
 clear K H1 c0 c1 c2 c3 c4 c5 HS1 HX1 HP
 go_wp2
 go_end0
 exact ⟨v1, rfl, HF.out⟩
theorem wv9 (n s : Int) (t : ByteArray) (ns : List ByteArray) (f : Fo) (hkl : f.list.length <= 200) (hn : ns.length = f.list.length) (hn2 : ∀ x ∈ ns, x.size <= 40) (ih : ∀ q ∈ f.list, WvC q) (na : Option Addr) (nc : Nat) (ka : Option Addr) (kc b B : Nat) (v : Value) (l : List Nat) (w0 W : World) (hv : Vl w0 (⟨9, n, s, t, ns⟩, f) na nc ka kc) (hb : Below w0.heap.size w0 W) (hB0 : w0.heap.size <= B) (ht : D6.Ptab w0) (h : Bs b B W v l) (hl : l.length + (prV (⟨9, n, s, t, ns⟩, f)).length <= 700000000) :
 Calls Tryz.prog 111 #[.pointer (some ⟨b, 0, none⟩), .agg #[.int .i64 9, .int .i64 n, .int .i64 s, .string t, .slice na ns.length nc, .slice ka f.list.length kc]] W fun e w' => ∃ v', e = .returned (.tuple #[]) /\ Hid (Bw b B W w' v v' (l ++ prV (⟨9, n, s, t, ns⟩, f))) := by
 obtain ⟨W1, HW1⟩ : ∃ W1, Hid (W.alloc (.cells #[.int .i64 9, .int .i64 n, .int .i64 s, .string t, .slice na ns.length nc, .slice ka f.list.length kc] 41) = W1) := ⟨_, rfl⟩
 have HB1 : Hid (Below W.heap.size W W1) := by rw [<- HW1.out]; exact (Below.refl _ _).alloc (Nat.le_refl _) _
 have HX1 : Hid (Blk W1 W.heap.size 41 [.int .i64 9, .int .i64 n, .int .i64 s, .string t, .slice na ns.length nc, .slice ka f.list.length kc]) := by rw [<- HW1.out]; exact blk_new W 41 [.int .i64 9, .int .i64 n, .int .i64 s, .string t, .slice na ns.length nc, .slice ka f.list.length kc]
 have HS1 : Hid (Bs b B W1 v l) := h.below HB1.out
 have HP : Hid (D6.Ptab W1) := ptab_below ht (hb.trans (HB1.out.mono hb.size))
 have c0 : W1.cell? ⟨W.heap.size, 0, none⟩ = some (.int .i64 9) := HX1.out.cell 0
 have c1 : W1.cell? ⟨W.heap.size, 1, none⟩ = some (.int .i64 n) := HX1.out.cell 1
 have c2 : W1.cell? ⟨W.heap.size, 2, none⟩ = some (.int .i64 s) := HX1.out.cell 2
 have c3 : W1.cell? ⟨W.heap.size, 3, none⟩ = some (.string t) := HX1.out.cell 3
 have c4 : W1.cell? ⟨W.heap.size, 4, none⟩ = some (.slice na ns.length nc) := HX1.out.cell 4
 have c5 : W1.cell? ⟨W.heap.size, 5, none⟩ = some (.slice ka f.list.length kc) := HX1.out.cell 5
 have hlp : l.length + (prF f true ns true).length + 2 <= 700000000 := by
  have e : prV (⟨9, n, s, t, ns⟩, f) = 123 :: (prF f true ns true ++ [125]) := rfl
  rw [e] at hl
  simp only [List.length_cons, List.length_append, List.length_nil] at hl
  omega
 have K := wk9 (⟨9, n, s, t, ns⟩, f) hkl hn hn2 ih na nc ka kc b B v l w0 W1 hv (hb.trans (HB1.out.mono hb.size)) hB0 ht HS1.out hlp
 clear h hv hb ht hl hlp ih hn hn2
 go_enter Tryz.func111, Tryz.ntmps111
 go_wp2_with fail
 generalize hWW : World.alloc W _ = W9
 obtain rfl : W1 = W9 := by rw [<- hWW, <- HW1.out] <;> rfl
 clear hWW HW1
 refine K.mono ?_
 rintro e w2 ⟨v1, rfl, H1⟩
 have HF : Hid (Bw b B W w2 v v1 (l ++ prV (⟨9, n, s, t, ns⟩, f))) := by
  have := Bw.after HB1.out (H1.out)
  show Bw _ _ _ _ _ _ _
  exact this
 clear K H1 c0 c1 c2 c3 c4 c5 HS1 HX1 HP
 go_wp2
 go_end0
 exact ⟨v1, rfl, HF.out⟩
theorem wv_step (p : Vt) (hw : WfV p) (hc : chk0V p = 0) (ih : ∀ q ∈ p.2.list, WvC q) : WvC p := by
 obtain ⟨ho, hck⟩ := own_of0 hc
 have fn := own_fine ho
 obtain ⟨hk, a1, a2, a3, a4, a5⟩ := form9 fn.1
 obtain ⟨⟨k, n, s, t, ns⟩, f⟩ := p
 simp only at hk a1 a2 a3 a4 a5
 intro na nc ka kc b B v l w0 W hv hb hB0 ht h hl
 rcases hk with rfl | rfl | rfl | rfl | rfl | rfl | rfl | rfl | rfl
 . exact wv1 n s t ns f na nc ka kc b B v l w0 W hv hb hB0 ht h hl
 . exact wv2 n s t ns f na nc ka kc b B v l w0 W hv hb hB0 ht h hl
 . obtain ⟨n1, n2, n3⟩ := num9 hw.1 ho (.inl rfl)
   have hs : s = 0 := a2 (by decide)
   subst hs
   exact wv3 n 0 t ns f ⟨n1, n2, rfl, a3 (by decide) (by decide), a4 (by decide)⟩ (nil9 (a5 (by decide) (by decide))) (own3 ho (.inl rfl)) na nc ka kc b B v l w0 W hv hb hB0 ht h hl
 . obtain ⟨n1, n2, n3⟩ := num9 hw.1 ho (.inr rfl)
   have hs : s ≠ 0 := fun e => by have := n3.1 e; simp at this
   exact wv4 n s t ns f ⟨n1, n2, (by unfold D6.kd; rw [if_neg (by simp only at n2 ⊢; omega)]), a3 (by decide) (by decide), a4 (by decide)⟩ (nil9 (a5 (by decide) (by decide))) (own3 ho (.inr rfl)) na nc ka kc b B v l w0 W hv hb hB0 ht h hl
 . have hn : 0 <= n /\ n <= 9007199254740992 := by
    have := fn.1
    unfold formed at this
    simp at this
    omega
   exact wv5 n s t ns f hn.1 hn.2 na nc ka kc b B v l w0 W hv hb hB0 ht h hl
 . exact wv6 n s t ns f (by have := fn.t; simp only at this; omega) na nc ka kc b B v l w0 W hv hb hB0 ht h hl
 . exact wv7 n s t ns f (by have := fn.t; simp only at this; omega) na nc ka kc b B v l w0 W hv hb hB0 ht h hl
 . exact wv8 n s t ns f fn.c ih na nc ka kc b B v l w0 W hv hb hB0 ht h hl
 . have hnm := names_len (fn.nm rfl)
   exact wv9 n s t ns f fn.c hnm.1 hnm.2 ih na nc ka kc b B v l w0 W hv hb hB0 ht h hl
theorem wv_any : ∀ (N : Nat) (p : Vt), wt p <= N -> WfV p -> chk0V p = 0 -> WvC p := by
 intro N
 induction N with
 | zero => intro p h; simp [wt] at h
 | succ N ih =>
   intro p hN hw hc
   exact wv_step p hw hc fun q hq => ih q (by have := wt_kid hq; omega) (hw.kid hq) (chk0_mem (own_of0 hc).2 hq)
end Go.Proofs.YtpfiejmhnkcjbaaGreatDoor
