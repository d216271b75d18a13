/-
  The walk of CodecEncodes.
-/
import Derived.Test.YthmnjamnaibcgaaVh
import Derived.Test.YthmnjamnaibcgaaSb
import Derived.Test.YthmnjamnaibcgaaXl
namespace Go.Proofs.Ythmnjamnaibcgaa
open Go.RowKit Math
set_option linter.unusedVariables false
set_option linter.unusedSimpArgs false
theorem wpList_want {P : Program} {ops : Array Oper} {rest : List Oper} {o : Oper} {a : Act} {w : World} {Q : Exit → Act → World → Prop} (hw : Region.wanted o (yielded ops a.tmps) = true)
    (h : ∀ K : Act → World → Prop, (∀ a w, wpList P ops Q rest a w → K a w) → o.wp P a w K Q) : wpList P ops Q (o :: rest) a w :=
  wpList_step fun K hK => by simp only [hw, if_true]; exact h K hK
theorem ld_allg {P : Program} {ops : Array Oper} {rest : List Oper} {o : Oper} {a : Act} {w : World} {Q : Exit → Act → World → Prop} (ty : TypeId) (x : Operand) (ho : o.op = .load ty x) (hw : Region.wanted o (yielded ops a.tmps) = true) (b : Nat) (t : TypeId) (m : List Value) (n : Nat) (e : TypeId)
    (hx : a.eval x = .pointer (some ⟨b, 0, none⟩)) (hb : Sh.Blk w b t m) (hu : P.underlying ty = some (.array n e)) (hi : (P.info? ty).map (·.size) = some m.length)
    (h : wpList P ops Q rest (a.put o.dst (.agg m.toArray)) w) : wpList P ops Q (o :: rest) a w :=
  wpList_want hw fun _ hK => wp_load_mid ty x ho b 0 hx m _ hb.all hu rfl hi (hK _ _ h)
set_option maxRecDepth 8000 in
set_option maxHeartbeats 2000000 in
theorem encodes_walk (p : Vt) (hp : WfV p) (na : Option Addr) (nc : Nat) (ka : Option Addr) (kc : Nat) (W : World) (hv : Vl W p na nc ka kc) :
    Calls Try.prog 3 #[.agg #[.int .i64 p.1.k, .int .i64 p.1.n, .int .i64 p.1.s, .string p.1.t, .slice na p.1.ns.length nc, .slice ka p.2.list.length kc]] W fun e w' => e = .returned (.bool true) ∧ Below W.heap.size W w' := by
  obtain ⟨W3, HW3⟩ : ∃ W3, Hid ((W.alloc (.cells #[.int .i64 p.1.k, .int .i64 p.1.n, .int .i64 p.1.s, .string p.1.t, .slice na p.1.ns.length nc, .slice ka p.2.list.length kc] 25)).alloc (.cells #[.int .i64 0] 3) = W3) := ⟨_, rfl⟩
  have HBW : Hid (Below W.heap.size W W3) := by rw [← HW3.out]; exact ((Below.refl _ _).alloc (Nat.le_refl _) _).alloc (by simp) _
  have HX : Hid (Blk W3 W.heap.size 25 (six p.1 na nc ka p.2.list.length kc)) := by rw [← HW3.out]; exact (blk_new W 25 (six p.1 na nc ka p.2.list.length kc)).alloc _
  have HZ : Hid (Blk W3 (W.heap.size + 1) 3 [.int .i64 ((0 : Nat) : Int)]) := by
    rw [← HW3.out]
    have h := blk_new (W.alloc (.cells #[.int .i64 p.1.k, .int .i64 p.1.n, .int .i64 p.1.s, .string p.1.t, .slice na p.1.ns.length nc, .slice ka p.2.list.length kc] 25)) 3 [.int .i64 0]
    rw [show (W.alloc (.cells #[.int .i64 p.1.k, .int .i64 p.1.n, .int .i64 p.1.s, .string p.1.t, .slice na p.1.ns.length nc, .slice ka p.2.list.length kc] 25)).heap.size = W.heap.size + 1 by simp] at h
    exact h
  have HV : Hid (Vl W p na nc ka kc) := hv
  have HWp : Hid (WfV p) := hp
  clear hv hp
  have KG := great_any _ p (Nat.le_refl _) HWp.out na nc ka kc (W.heap.size + 1) 0 W W3 HV.out HBW.out (by omega) HZ.out (by omega)
  have c0 : W3.cell? ⟨W.heap.size, 0, none⟩ = some (.int .i64 p.1.k) := HX.out.cell 0
  have c1 : W3.cell? ⟨W.heap.size, 1, none⟩ = some (.int .i64 p.1.n) := HX.out.cell 1
  have c2 : W3.cell? ⟨W.heap.size, 2, none⟩ = some (.int .i64 p.1.s) := HX.out.cell 2
  have c3 : W3.cell? ⟨W.heap.size, 3, none⟩ = some (.string p.1.t) := HX.out.cell 3
  have c4 : W3.cell? ⟨W.heap.size, 4, none⟩ = some (.slice na p.1.ns.length nc) := HX.out.cell 4
  have c5 : W3.cell? ⟨W.heap.size, 5, none⟩ = some (.slice ka p.2.list.length kc) := HX.out.cell 5
  go_enter Try.func3, Try.ntmps3
  go_wp2_with fail
  generalize hWW : World.alloc (World.alloc W _) _ = W9
  obtain rfl : W3 = W9 := by rw [← hWW, ← HW3.out]
  clear hWW HW3
  refine KG.mono ?_
  clear KG c0 c1 c2 c3 c4 c5
  rintro e w4 ⟨m4, rfl, H4⟩
  have HB4 : Hid (Below W.heap.size W w4) := HBW.out.grown H4.out.gr HBW.out.size (fun x e => by injection e with e; omega)
  have HX4 : Hid (Blk w4 W.heap.size 25 (six p.1 na nc ka p.2.list.length kc)) := HX.out.kept H4.out.gr (by intro c; injection c with c; omega)
  have HM4 : Hid (m4 ≤ 3000 → ws p ≤ m4) := fun h => by have := H4.out.ge h; omega
  clear H4 HX HZ HBW
  by_cases hg : 3000 < m4
  · have hgb : decide (3000 < m4) = true := by simp [hg]
    go_wp2
    go_ret
    exact ⟨rfl, HB4.out⟩
  have hgb : decide (3000 < m4) = false := by simp [hg]
  have hwp : ws p ≤ 100000 := by have := HM4.out (by omega); omega
  have KC := clone_any _ p (Nat.le_refl _) HWp.out hwp na nc ka kc w4 (HV.out.below HB4.out)
  have c0 : w4.cell? ⟨W.heap.size, 0, none⟩ = some (.int .i64 p.1.k) := HX4.out.cell 0
  have c1 : w4.cell? ⟨W.heap.size, 1, none⟩ = some (.int .i64 p.1.n) := HX4.out.cell 1
  have c2 : w4.cell? ⟨W.heap.size, 2, none⟩ = some (.int .i64 p.1.s) := HX4.out.cell 2
  have c3 : w4.cell? ⟨W.heap.size, 3, none⟩ = some (.string p.1.t) := HX4.out.cell 3
  have c4 : w4.cell? ⟨W.heap.size, 4, none⟩ = some (.slice na p.1.ns.length nc) := HX4.out.cell 4
  have c5 : w4.cell? ⟨W.heap.size, 5, none⟩ = some (.slice ka p.2.list.length kc) := HX4.out.cell 5
  clear HM4
  go_wp2_with fail
  refine KC.mono ?_
  clear KC c0 c1 c2 c3 c4 c5
  rintro e w5 ⟨nx, mx, kx, lx, rfl, H5⟩
  have HVx : Hid (Vl w5 p nx mx kx lx) := by obtain ⟨L, h, _⟩ := H5.out; exact h.vl
  have b5 : Below w4.heap.size w4 w5 := by obtain ⟨L, _, _, _, h⟩ := H5.out; exact h
  have HB5 : Hid (Below W.heap.size W w5) := HB4.out.trans (b5.mono HB4.out.size)
  have HX5 : Hid (Blk w5 W.heap.size 25 (six p.1 na nc ka p.2.list.length kc)) := HX4.out.below b5 HX4.out.lt
  clear H5 b5 HB4 HX4
  go_wp2_with (refine al_zero rfl 25 rfl zer z25 ?_)
  intro g6 w6 hg6 B6 gr6
  go_wp2_with (refine st_all rfl 25 (.tmp 4) (.tmp 16) rfl g6 25 zer (six p.1 nx mx kx p.2.list.length lx) rfl rfl B6 rfl s25 (six_one _ _ _ _ _ _) ?_)
  intro w7 B7 gr7
  have G7 : Below w5.heap.size w5 w7 := below_new gr6 hg6 gr7
  have HB7 : Hid (Below W.heap.size W w7) := HB5.out.trans (G7.mono HB5.out.size)
  have HX7 : Hid (Blk w7 W.heap.size 25 (six p.1 na nc ka p.2.list.length kc)) := HX5.out.below G7 HX5.out.lt
  have HY7 : Hid (Blk w7 g6 25 (six p.1 nx mx kx p.2.list.length lx)) := B7
  have HVx7 : Hid (Vl w7 p nx mx kx lx) := HVx.out.below G7
  have hg6W : W.heap.size ≤ g6 := Nat.le_trans HB5.out.size hg6
  clear B6 gr6 B7 gr7 G7 HB5 HX5 HVx hg6
  have KE := encode_any p HWp.out hwp nx mx kx lx w7 HVx7.out
  have c0 : w7.cell? ⟨g6, 0, none⟩ = some (.int .i64 p.1.k) := HY7.out.cell 0
  have c1 : w7.cell? ⟨g6, 1, none⟩ = some (.int .i64 p.1.n) := HY7.out.cell 1
  have c2 : w7.cell? ⟨g6, 2, none⟩ = some (.int .i64 p.1.s) := HY7.out.cell 2
  have c3 : w7.cell? ⟨g6, 3, none⟩ = some (.string p.1.t) := HY7.out.cell 3
  have c4 : w7.cell? ⟨g6, 4, none⟩ = some (.slice nx p.1.ns.length mx) := HY7.out.cell 4
  have c5 : w7.cell? ⟨g6, 5, none⟩ = some (.slice kx p.2.list.length lx) := HY7.out.cell 5
  go_wp2_with fail
  refine KE.mono ?_
  clear KE c0 c1 c2 c3 c4 c5
  rintro e w8 ⟨v8, rfl, H8⟩
  have b8 := H8.out.2
  have HB8 : Hid (Below W.heap.size W w8) := HB7.out.trans (b8.mono HB7.out.size)
  have HX8 : Hid (Blk w8 W.heap.size 25 (six p.1 na nc ka p.2.list.length kc)) := HX7.out.below b8 HX7.out.lt
  have HY8 : Hid (Blk w8 g6 25 (six p.1 nx mx kx p.2.list.length lx)) := HY7.out.below b8 HY7.out.lt
  have HVx8 : Hid (Vl w8 p nx mx kx lx) := HVx7.out.below b8
  obtain ⟨a8, k8, rfl, hb8, _, _, _⟩ := H8.out.1.byt
  have HR8 : Hid (Byt w8 a8 (encB p)) := hb8
  clear H8 b8 hb8 HB7 HX7 HY7 HVx7
  have KF := rencode_any p HWp.out hwp na nc ka kc w8 (HV.out.below HB8.out)
  have c0 : w8.cell? ⟨W.heap.size, 0, none⟩ = some (.int .i64 p.1.k) := HX8.out.cell 0
  have c1 : w8.cell? ⟨W.heap.size, 1, none⟩ = some (.int .i64 p.1.n) := HX8.out.cell 1
  have c2 : w8.cell? ⟨W.heap.size, 2, none⟩ = some (.int .i64 p.1.s) := HX8.out.cell 2
  have c3 : w8.cell? ⟨W.heap.size, 3, none⟩ = some (.string p.1.t) := HX8.out.cell 3
  have c4 : w8.cell? ⟨W.heap.size, 4, none⟩ = some (.slice na p.1.ns.length nc) := HX8.out.cell 4
  have c5 : w8.cell? ⟨W.heap.size, 5, none⟩ = some (.slice ka p.2.list.length kc) := HX8.out.cell 5
  go_wp2_with fail
  refine KF.mono ?_
  clear KF c0 c1 c2 c3 c4 c5
  rintro e w9 ⟨v9, rfl, H9⟩
  have b9 := H9.out.2
  have HB9 : Hid (Below W.heap.size W w9) := HB8.out.trans (b9.mono HB8.out.size)
  have HX9 : Hid (Blk w9 W.heap.size 25 (six p.1 na nc ka p.2.list.length kc)) := HX8.out.below b9 HX8.out.lt
  have HY9 : Hid (Blk w9 g6 25 (six p.1 nx mx kx p.2.list.length lx)) := HY8.out.below b9 HY8.out.lt
  have HVx9 : Hid (Vl w9 p nx mx kx lx) := HVx8.out.below b9
  have HR9 : Hid (Byt w9 a8 (encB p)) := HR8.out.below b9
  obtain ⟨a9, k9, rfl, hb9, _, _, _⟩ := H9.out.1.byt
  have HS9 : Hid (Byt w9 a9 (encB p)) := hb9
  clear H9 b9 hb9 HB8 HX8 HY8 HVx8 HR8
  have KH := Sh.hash_any p HWp.out hwp nx mx kx lx w9 HVx9.out
  have c0 : w9.cell? ⟨g6, 0, none⟩ = some (.int .i64 p.1.k) := HY9.out.cell 0
  have c1 : w9.cell? ⟨g6, 1, none⟩ = some (.int .i64 p.1.n) := HY9.out.cell 1
  have c2 : w9.cell? ⟨g6, 2, none⟩ = some (.int .i64 p.1.s) := HY9.out.cell 2
  have c3 : w9.cell? ⟨g6, 3, none⟩ = some (.string p.1.t) := HY9.out.cell 3
  have c4 : w9.cell? ⟨g6, 4, none⟩ = some (.slice nx p.1.ns.length mx) := HY9.out.cell 4
  have c5 : w9.cell? ⟨g6, 5, none⟩ = some (.slice kx p.2.list.length lx) := HY9.out.cell 5
  go_wp2_with fail
  refine KH.mono ?_
  clear KH c0 c1 c2 c3 c4 c5
  rintro e x1 ⟨rfl, d1⟩
  have IH : Hid ((Try.prog.info? 36).map (·.size) = some (Sh.nums .u8 (Sh.hshL p)).length) := by show _ = _; rw [Sh.nums_length, Sh.hsh_len]; exact Sh.s25
  have NH : Hid ((Sh.nums .u8 (Sh.hshL p)).length = (Sh.nums .u8 Sh.zr).length) := by show _ = _; rw [Sh.nums_length, Sh.nums_length, Sh.hsh_len]; rfl
  have HEq : ∀ w, (Op.equalIn 10000 36 (.agg (Sh.nums .u8 (Sh.hshL p)).toArray) (.agg (Sh.nums .u8 (Sh.hshL p)).toArray)).run Try.prog w = .ok true w := Sh.eql_same (Sh.hshL p) (Sh.hsh_len p)
  have KI : Hid (∀ w, Vl w p na nc ka kc → Calls Try.prog 9 #[.agg #[.int .i64 p.1.k, .int .i64 p.1.n, .int .i64 p.1.s, .string p.1.t, .slice na p.1.ns.length nc, .slice ka p.2.list.length kc]] w fun e w' => e = .returned (.tuple #[.agg (Sh.nums .u8 (Sh.hshL p)).toArray, .int .i64 (encE p)]) ∧ Below w.heap.size w w') := fun w h => Sh.rhash_any p HWp.out hwp na nc ka kc w h
  generalize Sh.hshL p = HL at *
  go_wp2_with (refine Sh.al_zero rfl 36 rfl (Sh.nums .u8 Sh.zr) Sh.z25 ?_)
  intro gh x2 hgh C2 cr2
  go_wp2_with (refine Sh.st_all rfl 36 (.tmp 9) (.tmp 30) rfl gh 36 (Sh.nums .u8 Sh.zr) (Sh.nums .u8 HL) rfl rfl C2 NH.out IH.out (Sh.nums_one _ _) ?_)
  intro x3 C3 cr3
  have G3 : Below w9.heap.size w9 x3 := d1.trans ((below_new cr2 hgh cr3).mono d1.size)
  have HBx3 : Hid (Below W.heap.size W x3) := HB9.out.trans (G3.mono HB9.out.size)
  have HXx3 : Hid (Blk x3 W.heap.size 25 (six p.1 na nc ka p.2.list.length kc)) := HX9.out.below G3 HX9.out.lt
  have HYx3 : Hid (Blk x3 g6 25 (six p.1 nx mx kx p.2.list.length lx)) := HY9.out.below G3 HY9.out.lt
  have HVxx3 : Hid (Vl x3 p nx mx kx lx) := HVx9.out.below G3
  have HRx3 : Hid (Byt x3 a8 (encB p)) := HR9.out.below G3
  have HSx3 : Hid (Byt x3 a9 (encB p)) := HS9.out.below G3
  have HHx3 : Hid (Sh.Blk x3 gh 36 (Sh.nums .u8 HL)) := C3
  clear C2 cr2 C3 cr3 G3 d1 hgh HB9 HX9 HY9 HVx9 HR9 HS9
  have KJ := KI.out x3 (HV.out.below HBx3.out)
  have c0 : x3.cell? ⟨W.heap.size, 0, none⟩ = some (.int .i64 p.1.k) := HXx3.out.cell 0
  have c1 : x3.cell? ⟨W.heap.size, 1, none⟩ = some (.int .i64 p.1.n) := HXx3.out.cell 1
  have c2 : x3.cell? ⟨W.heap.size, 2, none⟩ = some (.int .i64 p.1.s) := HXx3.out.cell 2
  have c3 : x3.cell? ⟨W.heap.size, 3, none⟩ = some (.string p.1.t) := HXx3.out.cell 3
  have c4 : x3.cell? ⟨W.heap.size, 4, none⟩ = some (.slice na p.1.ns.length nc) := HXx3.out.cell 4
  have c5 : x3.cell? ⟨W.heap.size, 5, none⟩ = some (.slice ka p.2.list.length kc) := HXx3.out.cell 5
  go_wp2_with fail
  refine KJ.mono ?_
  clear KJ KI c0 c1 c2 c3 c4 c5
  rintro e x4 ⟨rfl, d4⟩
  go_wp2_with (refine Sh.al_zero rfl 36 rfl (Sh.nums .u8 Sh.zr) Sh.z25 ?_)
  intro gi x5 hgi C5 cr5
  go_wp2_with (refine Sh.st_all rfl 36 (.tmp 11) (.tmp 35) rfl gi 36 (Sh.nums .u8 Sh.zr) (Sh.nums .u8 HL) rfl rfl C5 NH.out IH.out (Sh.nums_one _ _) ?_)
  intro x6 C6 cr6
  have G6 : Below x3.heap.size x3 x6 := d4.trans ((below_new cr5 hgi cr6).mono d4.size)
  have HB : Hid (Below W.heap.size W x6) := HBx3.out.trans (G6.mono HBx3.out.size)
  have HXx : Hid (Blk x6 W.heap.size 25 (six p.1 na nc ka p.2.list.length kc)) := HXx3.out.below G6 HXx3.out.lt
  have HYx : Hid (Blk x6 g6 25 (six p.1 nx mx kx p.2.list.length lx)) := HYx3.out.below G6 HYx3.out.lt
  have HVx : Hid (Vl x6 p nx mx kx lx) := HVxx3.out.below G6
  have HRx : Hid (Byt x6 a8 (encB p)) := HRx3.out.below G6
  have HSx : Hid (Byt x6 a9 (encB p)) := HSx3.out.below G6
  have HHx : Hid (Sh.Blk x6 gh 36 (Sh.nums .u8 HL)) := HHx3.out.below G6 HHx3.out.lt
  have HIx : Hid (Sh.Blk x6 gi 36 (Sh.nums .u8 HL)) := C6
  clear C5 cr5 C6 cr6 G6 d4 hgi HBx3 HXx3 HYx3 HVxx3 HRx3 HSx3 HHx3
  have hOc : Oct (encB p) ∧ (encB p).length ≤ 65536 := by
    by_cases h : encE p = 0
    · exact Sh.enc_of2 h
    · have : encB p = [] := by unfold encB; rw [if_neg h]
      rw [this]
      exact ⟨(fun x hx => by cases hx), by simp⟩
  have KS := same_any a8 a9 k8 k9 (encB p) (by omega) x6 HRx.out HSx.out hOc.1
  clear hOc
  generalize encE p = EE at *
  generalize encB p = BB at *
  go_wp2_with fail
  refine KS.mono ?_
  clear KS
  rintro e x7 ⟨rfl, q7, hx7⟩
  have B7 : Below x6.heap.size x6 x7 := by rw [hx7]; exact ⟨rfl, rfl, rfl, Nat.le_refl _, fun _ _ => rfl⟩
  have HB7 : Hid (Below W.heap.size W x7) := HB.out.trans (B7.mono HB.out.size)
  have HXx7 : Hid (Blk x7 W.heap.size 25 (six p.1 na nc ka p.2.list.length kc)) := HXx.out.below B7 HXx.out.lt
  have HYx7 : Hid (Blk x7 g6 25 (six p.1 nx mx kx p.2.list.length lx)) := HYx.out.below B7 HYx.out.lt
  have HVx7 : Hid (Vl x7 p nx mx kx lx) := HVx.out.below B7
  have HHx7 : Hid (Sh.Blk x7 gh 36 (Sh.nums .u8 HL)) := HHx.out.below B7 HHx.out.lt
  have HIx7 : Hid (Sh.Blk x7 gi 36 (Sh.nums .u8 HL)) := HIx.out.below B7 HIx.out.lt
  clear B7 hx7 HB HXx HYx HVx HHx HIx HRx HSx
  have KQ := equal_any _ p (Nat.le_refl _) HWp.out p HWp.out nx mx kx lx na nc ka kc x7 HVx7.out (HV.out.below HB7.out)
  have c0 : x7.cell? ⟨W.heap.size, 0, none⟩ = some (.int .i64 p.1.k) := HXx7.out.cell 0
  have c1 : x7.cell? ⟨W.heap.size, 1, none⟩ = some (.int .i64 p.1.n) := HXx7.out.cell 1
  have c2 : x7.cell? ⟨W.heap.size, 2, none⟩ = some (.int .i64 p.1.s) := HXx7.out.cell 2
  have c3 : x7.cell? ⟨W.heap.size, 3, none⟩ = some (.string p.1.t) := HXx7.out.cell 3
  have c4 : x7.cell? ⟨W.heap.size, 4, none⟩ = some (.slice na p.1.ns.length nc) := HXx7.out.cell 4
  have c5 : x7.cell? ⟨W.heap.size, 5, none⟩ = some (.slice ka p.2.list.length kc) := HXx7.out.cell 5
  have d0 : x7.cell? ⟨g6, 0, none⟩ = some (.int .i64 p.1.k) := HYx7.out.cell 0
  have d1 : x7.cell? ⟨g6, 1, none⟩ = some (.int .i64 p.1.n) := HYx7.out.cell 1
  have d2 : x7.cell? ⟨g6, 2, none⟩ = some (.int .i64 p.1.s) := HYx7.out.cell 2
  have d3 : x7.cell? ⟨g6, 3, none⟩ = some (.string p.1.t) := HYx7.out.cell 3
  have d4 : x7.cell? ⟨g6, 4, none⟩ = some (.slice nx p.1.ns.length mx) := HYx7.out.cell 4
  have d5 : x7.cell? ⟨g6, 5, none⟩ = some (.slice kx p.2.list.length lx) := HYx7.out.cell 5
  go_wp2_with (first | (refine ld_allg 36 (.tmp 9) rfl (by rfl) gh 36 (Sh.nums .u8 HL) 32 5 rfl HHx7.out Try.underlying36 IH.out ?_) | (refine ld_allg 36 (.tmp 11) rfl (by rfl) gi 36 (Sh.nums .u8 HL) 32 5 rfl HIx7.out Try.underlying36 IH.out ?_))
  refine KQ.mono ?_
  clear KQ c0 c1 c2 c3 c4 c5 d0 d1 d2 d3 d4 d5
  rintro e x8 ⟨t, rfl, H8⟩
  have ht : t = true := H8.out.1.2 (by first | rfl | trivial)
  subst ht
  have HB8 : Hid (Below W.heap.size W x8) := HB7.out.trans (H8.out.2.mono HB7.out.size)
  clear H8 HB7 HEq
  have KN := known_any x8
  go_wp2_with fail
  refine KN.mono ?_
  rintro e x9 ⟨rfl, H9⟩
  have HB9 : Hid (Below W.heap.size W x9) := HB8.out.trans (H9.out.mono HB8.out.size)
  clear KN H9 HB8
  go_wp2
  go_ret
  exact ⟨rfl, HB9.out⟩
end Go.Proofs.Ythmnjamnaibcgaa
