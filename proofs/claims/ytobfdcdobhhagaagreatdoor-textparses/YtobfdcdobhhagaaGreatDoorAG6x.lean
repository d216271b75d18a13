/-
   ·  ·  · 
-/
import Derived.Test.YtobfdcdobhhagaaGreatDoorAG5x
import Derived.Lib.ItoaMem
import Derived.Lib.Walk
import Derived.Lib.AppendIntMem
namespace Go.Proofs.YtobfdcdobhhagaaGreatDoor.D6
set_option maxRecDepth 8000
open Go.RowKit
set_option linter.unusedVariables false
theorem zR : (Tryz.prog.info? 134).map (fun i => i.zero.map (·.cells)) = some (some (List.toArray [.int .u64 0, .int .u64 0, .bool false])) := by kernel_rfl
theorem tenR (h l m h' l' : Nat) (b : Bool) (a : Wd h l m) (s : Wd h' l' (m / 10)) (r : Nat) (hr : m % 10 = r) (w : World) :
 Calls Tryz.prog 155 #[.agg #[.int .u64 (h : Int), .int .u64 (l : Int), .bool b]] w fun e w' => e = .returned (.tuple #[.agg #[.int .u64 (h' : Int), .int .u64 (l' : Int), .bool b], .int .u64 (r : Int)]) /\ Grow w w' := by
 obtain ⟨t1, t2, t3⟩ := tenth_split a
 have eh : h / 10 = h' := by have := s.eq; have := s.l1; omega
 have el : ((h % 10) * 18446744073709551616 + l) / 10 = l' := by have := s.eq; have := s.l1; omega
 obtain ⟨g, hg⟩ : ∃ g, h % 10 = g := ⟨_, rfl⟩
 have k := fun W => div_ten g l (by omega) a.l1 W
 rw [<- hg, el, t3, hr, hg] at k
 have HK : Hid (∀ W, Calls Tryz.prog 182 #[.int .u64 (g : Int), .int .u64 (l : Int), .int .u64 10] W fun e w' => e = .returned (.tuple #[.int .u64 (l' : Int), .int .u64 (r : Int)]) /\ Grow W w') := k
 have f1 : (h : Int) / 10 = (h' : Int) := by omega
 have f2 : (h : Int) % 10 = (g : Int) := by omega
 have hb : h < 18446744073709551616 := a.h1
 clear k t1 t2 t3 eh el hg a s hr
 go_enter Tryz.func155, Tryz.ntmps155
 go_wp2
 go_quiet (fail)
 go_wp2_with fail
 obtain ⟨w1, HG1, HB1⟩ : ∃ w1, Hid (Grow w w1 /\ Blk w1 w.heap.size 134 [.int .u64 (h : Int), .int .u64 (l : Int), .bool b] /\ Blk w1 (w.heap.size + 1) 134 [.int .u64 0, .int .u64 0, .bool false]) /\ ((w.alloc (Obj.cells #[.int .u64 (h : Int), .int .u64 (l : Int), .bool b] 134)).alloc (Obj.cells #[.int .u64 0, .int .u64 0, .bool false] 134)).drewN nq = w1 :=
  ⟨_, ⟨(((Grow.refl _).alloc _).alloc _).trans (grow_dq _ _), (Blk.alloc (blk_at rfl) _).grow (grow_dq _ _), (blk_at (by simp)).grow (grow_dq _ _)⟩, rfl⟩
 rw [HB1]
 refine (HK.out _).mono ?_
 rintro e w2 ⟨rfl, hg⟩
 have HB2 : Hid (Blk w2 (w.heap.size + 1) 134 [.int .u64 0, .int .u64 0, .bool false]) := HG1.out.2.2.grow hg
 have HG2 : Hid (Grow w w2) := HG1.out.1.trans hg
 have c2 : w2.cell? ⟨w.heap.size, 2, none⟩ = some (.bool b) := (HG1.out.2.1.grow hg).cell 2
 clear HB1 HG1 HK hg
 go_wp2_with (refine st_all rfl 134 (.tmp 2) (.tmp 24) rfl (w.heap.size + 1) 134 [.int .u64 0, .int .u64 0, .bool false] [.int .u64 (h' : Int), .int .u64 (l' : Int), .bool b] rfl rfl HB2.out rfl sR (ones rfl) ?_)
 intro w3 b3 g3
 have HB3 : Hid (Blk w3 (w.heap.size + 1) 134 [.int .u64 (h' : Int), .int .u64 (l' : Int), .bool b]) := b3
 have HG3 : Hid (Grow w w3) := Below.grown HG2.out g3 HG2.out.size (by intro k hk; injection hk with hk; omega)
 clear b3 g3 c2
 go_wp2
 exact bodyPost_ret (res_two rfl _ (w.heap.size + 1) 134 _ _ rfl HB3.out Tryz.underlying134 rfl sR) rfl ⟨rfl, HG3.out⟩
end Go.Proofs.YtobfdcdobhhagaaGreatDoor.D6
namespace Go.Proofs.YtobfdcdobhhagaaGreatDoor.D6
set_option maxHeartbeats 400000
set_option maxRecDepth 8000
open Go.RowKit
set_option linter.unusedVariables false
theorem st_pre {P : Program} {ops : Array Oper} {Q : Exit -> Act -> World -> Prop} {dst} {ty t : TypeId} {p} {af} {rest : List Oper} {a : Act} {w : World} (x y : Operand)
 (h : wpList P ops Q ({ dst := dst, op := .store ty x y, type := t, pos := p, after := af, guard := none } :: rest) a w) :
 wpList P ops Q ({ dst := dst, op := .store ty x y, type := t, pos := p, after := af, guard := none } :: rest) a w := h
theorem conv_pos (l : Nat) (hl : l <= 9223372036854775807) : wrap64 (l : Int) = (l : Int) := by
 unfold wrap64
 omega
theorem conv_less (l : Nat) (h0 : 0 < l) (hl : l <= 9223372036854775808) : -wrap64 ((l : Int) - 1) - 1 = -(l : Int) := by
 unfold wrap64
 omega
theorem leastR_zero (b : Bool) (s : Int) (w : World) :
 Calls Tryz.prog 122 #[.agg #[.int .u64 0, .int .u64 0, .bool b], .int .i64 s] w fun e w' => e = .returned (.tuple #[.agg #[.int .i64 3, .int .i64 0, .int .i64 0, .string ⟨#[]⟩, .slice none 0 0, .slice none 0 0], .int .i64 0]) /\ Grow w w' := by
 cases b
 all_goals
  go_enter Tryz.func122, Tryz.ntmps122
  go_wp2
  obtain ⟨w1, HW1⟩ : ∃ w1, w1 = w := ⟨_, rfl⟩
  go_loopw [1] (fun q wr => q = .int .i64 0 /\ Hid (∃ b, wr = ((w.alloc (Obj.cells #[.int .u64 0, .int .u64 0, .bool b] 134)).alloc (Obj.cells #[.int .i64 0, .int .i64 0, .int .i64 0, .string ⟨#[]⟩, .slice none 0 0, .slice none 0 0] 38)))) (fun _ _ => 0)
  case atStart => exact ⟨rfl, _, rfl⟩
  case round =>
   obtain ⟨rfl, HWr⟩ := hrel
   obtain ⟨b, hb⟩ := HWr.out
   have HX : Hid (Blk wr (w.heap.size + 1) 38 [.int .i64 0, .int .i64 0, .int .i64 0, .string ⟨#[]⟩, .slice none 0 0, .slice none 0 0] /\ Grow w wr) := by rw [hb]; exact ⟨blk_at (by simp), ((Grow.refl _).alloc _).alloc _⟩
   have yB : Blk wr w.heap.size 134 [.int .u64 0, .int .u64 0, .bool b] := by rw [hb]; exact Blk.alloc (blk_at rfl) _
   clear hb HWr HW1
   have y0 : wr.cell? ⟨w.heap.size, 0, none⟩ = some (.int .u64 0) := (yB).cell 0
   have y1 : wr.cell? ⟨w.heap.size, 1, none⟩ = some (.int .u64 0) := (yB).cell 1
   have y2 : wr.cell? ⟨w.heap.size, 2, none⟩ = some (.bool b) := (yB).cell 2
   clear yB
   obtain ⟨x, hx⟩ : ∃ x, IntKind.u64.wrap (-1) = x := ⟨_, rfl⟩
   obtain ⟨y, hy⟩ : ∃ y, wrap64 x = y := ⟨_, rfl⟩
   cases b
   all_goals
    go_wp2_with ((with_reducible refine st_pre (.tmp 4) (.tmp 72) ?_); refine st_all rfl 38 (.tmp 4) (.tmp 72) rfl (w.heap.size + 1) 38 [.int .i64 0, .int .i64 0, .int .i64 0, .string ⟨#[]⟩, .slice none 0 0, .slice none 0 0] [.int .i64 3, .int .i64 0, .int .i64 0, .string ⟨#[]⟩, .slice none 0 0, .slice none 0 0] rfl rfl HX.out.1 rfl sV (ones rfl) ?_)
    intro w9 b9 g9
    have HG9 : Hid (Grow w w9) := Below.grown HX.out.2 g9 HX.out.2.size (by intro e he; injection he with he; omega)
    have HB9 : Hid (Blk w9 (w.heap.size + 1) 38 [.int .i64 3, .int .i64 0, .int .i64 0, .string ⟨#[]⟩, .slice none 0 0, .slice none 0 0]) := b9
    clear b9 g9
    go_wp2
    exact bodyPost_ret (res_two rfl _ (w.heap.size + 1) 38 _ _ rfl HB9.out Tryz.underlying38 rfl sV) rfl ⟨rfl, HG9.out⟩
end Go.Proofs.YtobfdcdobhhagaaGreatDoor.D6
namespace Go.Proofs.YtobfdcdobhhagaaGreatDoor.D6
set_option maxRecDepth 20000
open Go.RowKit Go.Sort
set_option linter.unusedVariables false
def Ptab (w : World) : Prop := Lib.TabIs Tryz.prog w "internal/strconv.uint64pow10" .u64 Lib.pow10Tab
theorem smallU (i : Nat) (h : i < 100) (w : World) : Calls Tryz.prog 165 #[.int .i64 (i : Int)] w fun e w' => e = .returned (.string ⟨(Lib.decDigits i).toArray⟩) /\ w' = w := Any.internal_strconv_small Tryz.lays283 i h w
theorem digitsU (u : Nat) (h1 : 1 <= u) (h2 : u < 18446744073709551616) (w : World) (ht : Ptab w) : Calls Tryz.prog 166 #[.int .u64 (u : Int)] w fun e w' => e = .returned (.int .i64 (Lib.nDigits u : Int)) /\ w' = w := Any.internal_strconv_numDigits Tryz.laysM284 u h1 h2 w ht
theorem zeros_row (w : World) (T : TypeId) (nd : Nat) (hs : nd <= 24) : Holds (fun (b : UInt8) => Value.int .u8 (b.toNat : Int)) (w.alloc (.cells Lib.zeros24 T)) w.heap.size 0 (Array.replicate nd (0 : UInt8)) := fun j hj => by
 have hj' : j < nd := by simpa using hj
 refine ⟨?_, World.frozen?_alloc_new _ _ _ _⟩
 rw [Nat.zero_add, World.cell?_alloc_new, Lib.zeros24_at _ (by omega), getElem!_pos _ j hj]
 simp
theorem row_left (w : World) (o : Obj) (dk : Array UInt8) (k : Nat) : Grow w ((putRow (fun (b : UInt8) => Value.int .u8 (b.toNat : Int)) (w.alloc o) w.heap.size 0 dk).drewN k) := by
 rw [alloc_eq_grow]
 obtain ⟨os', _, e⟩ := putRow_grow_new (fun (b : UInt8) => Value.int .u8 (b.toNat : Int)) w #[o] w.heap.size 0 dk (Nat.le_refl _)
 rw [e]
 exact Lib.below_grow w.heap.size w (Nat.le_refl _) k os'
theorem fmtI (u : Nat) (hu : u < 18446744073709551616) (w : World) (ht : Ptab w) : Calls Tryz.prog 137 #[.int .u64 (u : Int), .int .i64 10] w fun e w' => e = .returned (.string ⟨(Lib.decDigits u).toArray⟩) /\ Grow w w' := by
 by_cases hs : u < 100
 . have K := Lib.hid (fun W => smallU u hs W)
   go_enter Tryz.func137, Tryz.ntmps137
   go_wp2_with fail
   refine (K.out _).mono ?_
   rintro e w' ⟨rfl, rfl⟩
   go_wp2
   go_ret
   exact ⟨rfl, Grow.refl _⟩
 . have hu1 : 1 <= u := by omega
   have hnd : Lib.nDigits u <= 20 := by have := Lib.numDigits_eq u hu1 hu; split at this <;> omega
   have hal : Tryz.prog.arrayLen 174 = 24 := by simp [Program.arrayLen, Tryz.underlying174]
   have hsl : ∀ W, (Instr.sliceAt 174 (.pointer (some ⟨w.heap.size, 0, none⟩)) none (some (.int .i64 (Lib.nDigits u : Int))) none).run Tryz.prog W = .ok (.slice (some ⟨w.heap.size, 0, none⟩) (Lib.nDigits u) 24) W := fun W => by
    rw [run_sliceAt_array_h W 174 ⟨w.heap.size, 0, none⟩ (by simp [Program.arrayLen, Program.elem, Tryz.underlying174]) .i64 (Lib.nDigits u : Int) (by omega) (by rw [hal]; omega)]
    go_simp
   have hH := zeros_row w 174 (Lib.nDigits u) (by omega)
   have hfmt : Calls Tryz.prog 167 _ _ _ := Any.internal_strconv_formatBase10 Tryz.lays285 w.heap.size 0 24 u (Array.replicate (Lib.nDigits u) 0) (w.alloc (.cells Lib.zeros24 174)) hH (by rw [Array.size_replicate]; exact Lib.lt_pow_nDigits u) hu (by rw [Array.size_replicate]; omega)
   rw [Array.size_replicate] at hfmt
   have HH := Lib.hid hH
   have K := Lib.hid (digitsU u hu1 hu _ (Lib.tabIs_alloc ht (.cells Lib.zeros24 174)))
   clear hH hal
   go_enter Tryz.func137, Tryz.ntmps137
   go_wp2_with fail
   refine (K.out).mono ?_
   rintro e w' ⟨rfl, rfl⟩
   go_wp2_with fail
   refine hfmt.mono ?_
   rintro e w' ⟨rfl, k, v', dk, rfl, hF⟩
   have hcv : (convert 52 9 (.slice (some ⟨w.heap.size, 0, none⟩) (Lib.nDigits u) 24)).run Tryz.prog ((putRow (fun (b : UInt8) => Value.int .u8 (b.toNat : Int)) (w.alloc (.cells Lib.zeros24 174)) w.heap.size 0 dk).drewN k) = .ok (.string ⟨(Lib.decDigits u).toArray⟩) ((putRow (fun (b : UInt8) => Value.int .u8 (b.toNat : Int)) (w.alloc (.cells Lib.zeros24 174)) w.heap.size 0 dk).drewN k) := by
    have h := run_convert_bytes_back (P := Tryz.prog) ((putRow (fun (b : UInt8) => Value.int .u8 (b.toNat : Int)) (w.alloc (.cells Lib.zeros24 174)) w.heap.size 0 dk).drewN k) 52 9 5 ⟨w.heap.size, 0, none⟩ 24 (Lib.decDigits u) Tryz.underlying52 Tryz.underlying5 Tryz.underlying9 (fun j hj => by
     rw [Lib.row_is_numeral hF j hj, Lib.add_plain, World.cell?_drewN]
     exact cell?_putRow (fun (b : UInt8) => Value.int .u8 (b.toNat : Int)) _ w.heap.size 0 _ dk HH.out (by rw [hF.size, Array.size_replicate]) j (by rw [hF.size]; rw [Lib.decDigits_length] at hj; exact hj))
    rw [Lib.decDigits_length] at h
    exact h
   go_wp2
   go_ret
   exact ⟨rfl, row_left w _ dk k⟩
theorem fmtU (u : Nat) (hu : u < 18446744073709551616) (w : World) (ht : Ptab w) : Calls Tryz.prog 103 #[.int .u64 (u : Int), .int .i64 10] w fun e w' => e = .returned (.string ⟨(Lib.decDigits u).toArray⟩) /\ Grow w w' := by
 have K := Lib.hid (fmtI u hu w ht)
 go_enter Tryz.func103, Tryz.ntmps103
 go_wp2_with fail
 refine (K.out).mono ?_
 rintro e w' ⟨rfl, g⟩
 have G : Hid (Grow w w') := g
 clear g
 go_wp2
 go_ret
 exact ⟨rfl, G.out⟩
end Go.Proofs.YtobfdcdobhhagaaGreatDoor.D6
namespace Go.Proofs.YtobfdcdobhhagaaGreatDoor.D6
set_option maxRecDepth 8000
open Go.RowKit
set_option linter.unusedVariables false
theorem textG_i_p (k n : Int) (na : Option Addr) (nc : Nat) (ka : Option Addr) (kc : Nat) (A : Nat) (D : ByteArray)
 (K1 : Hid (∀ W, Calls Tryz.prog 101 #[.agg #[.int .i64 k, .int .i64 n, .int .i64 0, .string ⟨#[]⟩, .slice na 0 nc, .slice ka 0 kc]] W fun e w' => e = .returned (.bool true) /\ Grow W w'))
 (K2 : Hid (∀ W, Calls Tryz.prog 102 #[.int .i64 n, .int .i64 0] W fun e w' => e = .returned (.agg #[.bool false, .int .u64 0, .int .u64 (A : Int), .int .i64 0]) /\ Grow W w'))
 (w : World) (K3 : Hid (∀ W, Grow w W -> Calls Tryz.prog 103 #[.int .u64 (A : Int), .int .i64 10] W fun e w' => e = .returned (.string D) /\ Grow W w'))
 (hT : D.size <= 40) :
 Calls Tryz.prog 56 #[.agg #[.int .i64 k, .int .i64 n, .int .i64 0, .string ⟨#[]⟩, .slice na 0 nc, .slice ka 0 kc]] w fun e w' => e = .returned (.tuple #[.string D, .int .i64 0]) /\ Grow w w' := by
 go_enter Tryz.func56, Tryz.ntmps56
 go_wp2_with fail
 obtain ⟨w1, HW1⟩ : ∃ w1, (w.alloc (Obj.cells #[.int .i64 k, .int .i64 n, .int .i64 0, .string ⟨#[]⟩, .slice na 0 nc, .slice ka 0 kc] 38)) = w1 := ⟨_, rfl⟩
 obtain ⟨C, hC⟩ : ∃ C : World -> Prop, C = fun W => Grow w1 W := ⟨_, rfl⟩
 have GW : Hid (∀ W, C W -> Grow w W) := fun W hW => by rw [hC, <- HW1] at hW; exact Grow.trans ((Grow.refl _).alloc _) hW
 have B0 : Hid (∀ W, C W -> Blk W (w.heap.size) 38 [.int .i64 k, .int .i64 n, .int .i64 0, .string ⟨#[]⟩, .slice na 0 nc, .slice ka 0 kc]) := fun W hW => by rw [hC, <- HW1] at hW; exact Blk.grow (blk_at rfl) hW
 have CG : Hid (∀ W W', C W -> Grow W W' -> C W') := fun W W' h1 h2 => by rw [hC] at h1 ⊢; exact h1.trans h2
 have CW : Hid (C w1) := by rw [hC]; exact Grow.refl _
 rw [HW1]
 clear HW1 hC
 refine (K1.out _).mono ?_
 rintro e w2 ⟨rfl, g2⟩
 have HB : Hid (Blk w2 w.heap.size 38 [.int .i64 k, .int .i64 n, .int .i64 0, .string ⟨#[]⟩, .slice na 0 nc, .slice ka 0 kc] /\ Grow w w2) := ⟨(B0.out _ CW.out).grow g2, (GW.out _ CW.out).trans g2⟩
 clear B0 GW CG CW g2 K1
 have y0 : w2.cell? ⟨w.heap.size, 0, none⟩ = some (.int .i64 k) := (HB.out.1).cell 0
 have y1 : w2.cell? ⟨w.heap.size, 1, none⟩ = some (.int .i64 n) := (HB.out.1).cell 1
 have y2 : w2.cell? ⟨w.heap.size, 2, none⟩ = some (.int .i64 0) := (HB.out.1).cell 2
 have y3 : w2.cell? ⟨w.heap.size, 3, none⟩ = some (.string ⟨#[]⟩) := (HB.out.1).cell 3
 have y4 : w2.cell? ⟨w.heap.size, 4, none⟩ = some (.slice na 0 nc) := (HB.out.1).cell 4
 have y5 : w2.cell? ⟨w.heap.size, 5, none⟩ = some (.slice ka 0 kc) := (HB.out.1).cell 5
 go_wp2_with fail
 clear y0 y1 y2 y3 y4 y5
 refine (K2.out _).mono ?_
 rintro e w3 ⟨rfl, g3⟩
 have G3 : Hid (Grow w w3) := HB.out.2.trans g3
 clear HB g3 K2
 go_wp2_with (refine al_zero rfl 123 rfl [.bool false, .int .u64 0, .int .u64 0, .int .i64 0] zN ?_)
 intro b4 w4 s4 B4 g4
 go_wp2_with (refine st_all rfl 123 (.tmp 4) (.tmp 13) rfl b4 123 [.bool false, .int .u64 0, .int .u64 0, .int .i64 0] [.bool false, .int .u64 0, .int .u64 (A : Int), .int .i64 0] rfl rfl B4 rfl sN (ones rfl) ?_)
 intro w5 B5 g5
 have HC : Hid (Blk w5 b4 123 [.bool false, .int .u64 0, .int .u64 (A : Int), .int .i64 0] /\ Grow w w5) := by
  refine ⟨B5, ?_⟩
  have x1 := G3.out
  have x2 : Below w.heap.size w w4 := Below.grown x1 g4 x1.size (by intro e he; cases he)
  exact Below.grown x2 g5 x2.size (by intro e he; injection he with he; have := x1.size; omega)
 clear B5 g5 B4 g4 s4 G3
 have z0 : w5.cell? ⟨b4, 0, none⟩ = some (.bool false) := (HC.out.1).cell 0
 have z1 : w5.cell? ⟨b4, 1, none⟩ = some (.int .u64 0) := (HC.out.1).cell 1
 have z2 : w5.cell? ⟨b4, 2, none⟩ = some (.int .u64 (A : Int)) := (HC.out.1).cell 2
 have z3 : w5.cell? ⟨b4, 3, none⟩ = some (.int .i64 0) := (HC.out.1).cell 3
 go_wp2_with fail
 clear z0 z1 z2 z3
 refine (K3.out _ HC.out.2).mono ?_
 rintro e w6 ⟨rfl, g6⟩
 have HD : Hid (Blk w6 b4 123 [.bool false, .int .u64 0, .int .u64 (A : Int), .int .i64 0] /\ Grow w w6) := ⟨HC.out.1.grow g6, HC.out.2.trans g6⟩
 clear HC g6 K3
 have z0 : w6.cell? ⟨b4, 0, none⟩ = some (.bool false) := (HD.out.1).cell 0
 have z1 : w6.cell? ⟨b4, 1, none⟩ = some (.int .u64 0) := (HD.out.1).cell 1
 have z2 : w6.cell? ⟨b4, 2, none⟩ = some (.int .u64 (A : Int)) := (HD.out.1).cell 2
 have z3 : w6.cell? ⟨b4, 3, none⟩ = some (.int .i64 0) := (HD.out.1).cell 3
 have HE := HD
 clear HD
 go_wp2
 go_ret2
 exact ⟨rfl, HE.out.2⟩
theorem textG_i_n (k n : Int) (na : Option Addr) (nc : Nat) (ka : Option Addr) (kc : Nat) (A : Nat) (D : ByteArray)
 (K1 : Hid (∀ W, Calls Tryz.prog 101 #[.agg #[.int .i64 k, .int .i64 n, .int .i64 0, .string ⟨#[]⟩, .slice na 0 nc, .slice ka 0 kc]] W fun e w' => e = .returned (.bool true) /\ Grow W w'))
 (K2 : Hid (∀ W, Calls Tryz.prog 102 #[.int .i64 n, .int .i64 0] W fun e w' => e = .returned (.agg #[.bool true, .int .u64 0, .int .u64 (A : Int), .int .i64 0]) /\ Grow W w'))
 (w : World) (K3 : Hid (∀ W, Grow w W -> Calls Tryz.prog 103 #[.int .u64 (A : Int), .int .i64 10] W fun e w' => e = .returned (.string D) /\ Grow W w'))
 (hT : D.size <= 40) :
 Calls Tryz.prog 56 #[.agg #[.int .i64 k, .int .i64 n, .int .i64 0, .string ⟨#[]⟩, .slice na 0 nc, .slice ka 0 kc]] w fun e w' => e = .returned (.tuple #[.string (⟨#[45]⟩ ++ D), .int .i64 0]) /\ Grow w w' := by
 go_enter Tryz.func56, Tryz.ntmps56
 go_wp2_with fail
 obtain ⟨w1, HW1⟩ : ∃ w1, (w.alloc (Obj.cells #[.int .i64 k, .int .i64 n, .int .i64 0, .string ⟨#[]⟩, .slice na 0 nc, .slice ka 0 kc] 38)) = w1 := ⟨_, rfl⟩
 obtain ⟨C, hC⟩ : ∃ C : World -> Prop, C = fun W => Grow w1 W := ⟨_, rfl⟩
 have GW : Hid (∀ W, C W -> Grow w W) := fun W hW => by rw [hC, <- HW1] at hW; exact Grow.trans ((Grow.refl _).alloc _) hW
 have B0 : Hid (∀ W, C W -> Blk W (w.heap.size) 38 [.int .i64 k, .int .i64 n, .int .i64 0, .string ⟨#[]⟩, .slice na 0 nc, .slice ka 0 kc]) := fun W hW => by rw [hC, <- HW1] at hW; exact Blk.grow (blk_at rfl) hW
 have CG : Hid (∀ W W', C W -> Grow W W' -> C W') := fun W W' h1 h2 => by rw [hC] at h1 ⊢; exact h1.trans h2
 have CW : Hid (C w1) := by rw [hC]; exact Grow.refl _
 rw [HW1]
 clear HW1 hC
 refine (K1.out _).mono ?_
 rintro e w2 ⟨rfl, g2⟩
 have HB : Hid (Blk w2 w.heap.size 38 [.int .i64 k, .int .i64 n, .int .i64 0, .string ⟨#[]⟩, .slice na 0 nc, .slice ka 0 kc] /\ Grow w w2) := ⟨(B0.out _ CW.out).grow g2, (GW.out _ CW.out).trans g2⟩
 clear B0 GW CG CW g2 K1
 have y0 : w2.cell? ⟨w.heap.size, 0, none⟩ = some (.int .i64 k) := (HB.out.1).cell 0
 have y1 : w2.cell? ⟨w.heap.size, 1, none⟩ = some (.int .i64 n) := (HB.out.1).cell 1
 have y2 : w2.cell? ⟨w.heap.size, 2, none⟩ = some (.int .i64 0) := (HB.out.1).cell 2
 have y3 : w2.cell? ⟨w.heap.size, 3, none⟩ = some (.string ⟨#[]⟩) := (HB.out.1).cell 3
 have y4 : w2.cell? ⟨w.heap.size, 4, none⟩ = some (.slice na 0 nc) := (HB.out.1).cell 4
 have y5 : w2.cell? ⟨w.heap.size, 5, none⟩ = some (.slice ka 0 kc) := (HB.out.1).cell 5
 go_wp2_with fail
 clear y0 y1 y2 y3 y4 y5
 refine (K2.out _).mono ?_
 rintro e w3 ⟨rfl, g3⟩
 have G3 : Hid (Grow w w3) := HB.out.2.trans g3
 clear HB g3 K2
 go_wp2_with (refine al_zero rfl 123 rfl [.bool false, .int .u64 0, .int .u64 0, .int .i64 0] zN ?_)
 intro b4 w4 s4 B4 g4
 go_wp2_with (refine st_all rfl 123 (.tmp 4) (.tmp 13) rfl b4 123 [.bool false, .int .u64 0, .int .u64 0, .int .i64 0] [.bool true, .int .u64 0, .int .u64 (A : Int), .int .i64 0] rfl rfl B4 rfl sN (ones rfl) ?_)
 intro w5 B5 g5
 have HC : Hid (Blk w5 b4 123 [.bool true, .int .u64 0, .int .u64 (A : Int), .int .i64 0] /\ Grow w w5) := by
  refine ⟨B5, ?_⟩
  have x1 := G3.out
  have x2 : Below w.heap.size w w4 := Below.grown x1 g4 x1.size (by intro e he; cases he)
  exact Below.grown x2 g5 x2.size (by intro e he; injection he with he; have := x1.size; omega)
 clear B5 g5 B4 g4 s4 G3
 have z0 : w5.cell? ⟨b4, 0, none⟩ = some (.bool true) := (HC.out.1).cell 0
 have z1 : w5.cell? ⟨b4, 1, none⟩ = some (.int .u64 0) := (HC.out.1).cell 1
 have z2 : w5.cell? ⟨b4, 2, none⟩ = some (.int .u64 (A : Int)) := (HC.out.1).cell 2
 have z3 : w5.cell? ⟨b4, 3, none⟩ = some (.int .i64 0) := (HC.out.1).cell 3
 go_wp2_with fail
 clear z0 z1 z2 z3
 refine (K3.out _ HC.out.2).mono ?_
 rintro e w6 ⟨rfl, g6⟩
 have HD : Hid (Blk w6 b4 123 [.bool true, .int .u64 0, .int .u64 (A : Int), .int .i64 0] /\ Grow w w6) := ⟨HC.out.1.grow g6, HC.out.2.trans g6⟩
 clear HC g6 K3
 have z0 : w6.cell? ⟨b4, 0, none⟩ = some (.bool true) := (HD.out.1).cell 0
 have z1 : w6.cell? ⟨b4, 1, none⟩ = some (.int .u64 0) := (HD.out.1).cell 1
 have z2 : w6.cell? ⟨b4, 2, none⟩ = some (.int .u64 (A : Int)) := (HD.out.1).cell 2
 have z3 : w6.cell? ⟨b4, 3, none⟩ = some (.int .i64 0) := (HD.out.1).cell 3
 have HE := HD
 clear HD
 have hsz : ¬ 9223372036854775807 < 1 + D.size := by omega
 go_wp2
 go_ret2
 exact ⟨rfl, HE.out.2⟩
theorem textG_d_p (k n : Int) (s : Nat) (s0 : 0 < s) (na : Option Addr) (nc : Nat) (ka : Option Addr) (kc : Nat) (A : Nat) (D T : ByteArray)
 (K1 : Hid (∀ W, Calls Tryz.prog 101 #[.agg #[.int .i64 k, .int .i64 n, .int .i64 (s : Int), .string ⟨#[]⟩, .slice na 0 nc, .slice ka 0 kc]] W fun e w' => e = .returned (.bool true) /\ Grow W w'))
 (K2 : Hid (∀ W, Calls Tryz.prog 102 #[.int .i64 n, .int .i64 (s : Int)] W fun e w' => e = .returned (.agg #[.bool false, .int .u64 0, .int .u64 (A : Int), .int .i64 (s : Int)]) /\ Grow W w'))
 (w : World) (K3 : Hid (∀ W, Grow w W -> Calls Tryz.prog 103 #[.int .u64 (A : Int), .int .i64 10] W fun e w' => e = .returned (.string D) /\ Grow W w'))
 (K4 : Hid (∀ W, Calls Tryz.prog 104 #[.string D, .int .i64 (s : Int)] W fun e w' => e = .returned (.string T) /\ Grow W w'))
 (hT : T.size <= 40) :
 Calls Tryz.prog 56 #[.agg #[.int .i64 k, .int .i64 n, .int .i64 (s : Int), .string ⟨#[]⟩, .slice na 0 nc, .slice ka 0 kc]] w fun e w' => e = .returned (.tuple #[.string T, .int .i64 0]) /\ Grow w w' := by
 go_enter Tryz.func56, Tryz.ntmps56
 go_wp2_with fail
 obtain ⟨w1, HW1⟩ : ∃ w1, (w.alloc (Obj.cells #[.int .i64 k, .int .i64 n, .int .i64 (s : Int), .string ⟨#[]⟩, .slice na 0 nc, .slice ka 0 kc] 38)) = w1 := ⟨_, rfl⟩
 obtain ⟨C, hC⟩ : ∃ C : World -> Prop, C = fun W => Grow w1 W := ⟨_, rfl⟩
 have GW : Hid (∀ W, C W -> Grow w W) := fun W hW => by rw [hC, <- HW1] at hW; exact Grow.trans ((Grow.refl _).alloc _) hW
 have B0 : Hid (∀ W, C W -> Blk W (w.heap.size) 38 [.int .i64 k, .int .i64 n, .int .i64 (s : Int), .string ⟨#[]⟩, .slice na 0 nc, .slice ka 0 kc]) := fun W hW => by rw [hC, <- HW1] at hW; exact Blk.grow (blk_at rfl) hW
 have CG : Hid (∀ W W', C W -> Grow W W' -> C W') := fun W W' h1 h2 => by rw [hC] at h1 ⊢; exact h1.trans h2
 have CW : Hid (C w1) := by rw [hC]; exact Grow.refl _
 rw [HW1]
 clear HW1 hC
 refine (K1.out _).mono ?_
 rintro e w2 ⟨rfl, g2⟩
 have HB : Hid (Blk w2 w.heap.size 38 [.int .i64 k, .int .i64 n, .int .i64 (s : Int), .string ⟨#[]⟩, .slice na 0 nc, .slice ka 0 kc] /\ Grow w w2) := ⟨(B0.out _ CW.out).grow g2, (GW.out _ CW.out).trans g2⟩
 clear B0 GW CG CW g2 K1
 have y0 : w2.cell? ⟨w.heap.size, 0, none⟩ = some (.int .i64 k) := (HB.out.1).cell 0
 have y1 : w2.cell? ⟨w.heap.size, 1, none⟩ = some (.int .i64 n) := (HB.out.1).cell 1
 have y2 : w2.cell? ⟨w.heap.size, 2, none⟩ = some (.int .i64 (s : Int)) := (HB.out.1).cell 2
 have y3 : w2.cell? ⟨w.heap.size, 3, none⟩ = some (.string ⟨#[]⟩) := (HB.out.1).cell 3
 have y4 : w2.cell? ⟨w.heap.size, 4, none⟩ = some (.slice na 0 nc) := (HB.out.1).cell 4
 have y5 : w2.cell? ⟨w.heap.size, 5, none⟩ = some (.slice ka 0 kc) := (HB.out.1).cell 5
 go_wp2_with fail
 clear y0 y1 y2 y3 y4 y5
 refine (K2.out _).mono ?_
 rintro e w3 ⟨rfl, g3⟩
 have G3 : Hid (Grow w w3) := HB.out.2.trans g3
 clear HB g3 K2
 go_wp2_with (refine al_zero rfl 123 rfl [.bool false, .int .u64 0, .int .u64 0, .int .i64 0] zN ?_)
 intro b4 w4 s4 B4 g4
 go_wp2_with (refine st_all rfl 123 (.tmp 4) (.tmp 13) rfl b4 123 [.bool false, .int .u64 0, .int .u64 0, .int .i64 0] [.bool false, .int .u64 0, .int .u64 (A : Int), .int .i64 (s : Int)] rfl rfl B4 rfl sN (ones rfl) ?_)
 intro w5 B5 g5
 have HC : Hid (Blk w5 b4 123 [.bool false, .int .u64 0, .int .u64 (A : Int), .int .i64 (s : Int)] /\ Grow w w5) := by
  refine ⟨B5, ?_⟩
  have x1 := G3.out
  have x2 : Below w.heap.size w w4 := Below.grown x1 g4 x1.size (by intro e he; cases he)
  exact Below.grown x2 g5 x2.size (by intro e he; injection he with he; have := x1.size; omega)
 clear B5 g5 B4 g4 s4 G3
 have z0 : w5.cell? ⟨b4, 0, none⟩ = some (.bool false) := (HC.out.1).cell 0
 have z1 : w5.cell? ⟨b4, 1, none⟩ = some (.int .u64 0) := (HC.out.1).cell 1
 have z2 : w5.cell? ⟨b4, 2, none⟩ = some (.int .u64 (A : Int)) := (HC.out.1).cell 2
 have z3 : w5.cell? ⟨b4, 3, none⟩ = some (.int .i64 (s : Int)) := (HC.out.1).cell 3
 go_wp2_with fail
 clear z0 z1 z2 z3
 refine (K3.out _ HC.out.2).mono ?_
 rintro e w6 ⟨rfl, g6⟩
 have HD : Hid (Blk w6 b4 123 [.bool false, .int .u64 0, .int .u64 (A : Int), .int .i64 (s : Int)] /\ Grow w w6) := ⟨HC.out.1.grow g6, HC.out.2.trans g6⟩
 clear HC g6 K3
 have z0 : w6.cell? ⟨b4, 0, none⟩ = some (.bool false) := (HD.out.1).cell 0
 have z1 : w6.cell? ⟨b4, 1, none⟩ = some (.int .u64 0) := (HD.out.1).cell 1
 have z2 : w6.cell? ⟨b4, 2, none⟩ = some (.int .u64 (A : Int)) := (HD.out.1).cell 2
 have z3 : w6.cell? ⟨b4, 3, none⟩ = some (.int .i64 (s : Int)) := (HD.out.1).cell 3
 go_wp2_with fail
 clear z0 z1 z2 z3
 refine (K4.out _).mono ?_
 rintro e w7 ⟨rfl, g7⟩
 have HE : Hid (Blk w7 b4 123 [.bool false, .int .u64 0, .int .u64 (A : Int), .int .i64 (s : Int)] /\ Grow w w7) := ⟨HD.out.1.grow g7, HD.out.2.trans g7⟩
 clear HD g7 K4
 have z0 : w7.cell? ⟨b4, 0, none⟩ = some (.bool false) := (HE.out.1).cell 0
 have z1 : w7.cell? ⟨b4, 1, none⟩ = some (.int .u64 0) := (HE.out.1).cell 1
 have z2 : w7.cell? ⟨b4, 2, none⟩ = some (.int .u64 (A : Int)) := (HE.out.1).cell 2
 have z3 : w7.cell? ⟨b4, 3, none⟩ = some (.int .i64 (s : Int)) := (HE.out.1).cell 3
 go_wp2
 go_ret2
 exact ⟨rfl, HE.out.2⟩
theorem textG_d_n (k n : Int) (s : Nat) (s0 : 0 < s) (na : Option Addr) (nc : Nat) (ka : Option Addr) (kc : Nat) (A : Nat) (D T : ByteArray)
 (K1 : Hid (∀ W, Calls Tryz.prog 101 #[.agg #[.int .i64 k, .int .i64 n, .int .i64 (s : Int), .string ⟨#[]⟩, .slice na 0 nc, .slice ka 0 kc]] W fun e w' => e = .returned (.bool true) /\ Grow W w'))
 (K2 : Hid (∀ W, Calls Tryz.prog 102 #[.int .i64 n, .int .i64 (s : Int)] W fun e w' => e = .returned (.agg #[.bool true, .int .u64 0, .int .u64 (A : Int), .int .i64 (s : Int)]) /\ Grow W w'))
 (w : World) (K3 : Hid (∀ W, Grow w W -> Calls Tryz.prog 103 #[.int .u64 (A : Int), .int .i64 10] W fun e w' => e = .returned (.string D) /\ Grow W w'))
 (K4 : Hid (∀ W, Calls Tryz.prog 104 #[.string D, .int .i64 (s : Int)] W fun e w' => e = .returned (.string T) /\ Grow W w'))
 (hT : T.size <= 40) :
 Calls Tryz.prog 56 #[.agg #[.int .i64 k, .int .i64 n, .int .i64 (s : Int), .string ⟨#[]⟩, .slice na 0 nc, .slice ka 0 kc]] w fun e w' => e = .returned (.tuple #[.string (⟨#[45]⟩ ++ T), .int .i64 0]) /\ Grow w w' := by
 go_enter Tryz.func56, Tryz.ntmps56
 go_wp2_with fail
 obtain ⟨w1, HW1⟩ : ∃ w1, (w.alloc (Obj.cells #[.int .i64 k, .int .i64 n, .int .i64 (s : Int), .string ⟨#[]⟩, .slice na 0 nc, .slice ka 0 kc] 38)) = w1 := ⟨_, rfl⟩
 obtain ⟨C, hC⟩ : ∃ C : World -> Prop, C = fun W => Grow w1 W := ⟨_, rfl⟩
 have GW : Hid (∀ W, C W -> Grow w W) := fun W hW => by rw [hC, <- HW1] at hW; exact Grow.trans ((Grow.refl _).alloc _) hW
 have B0 : Hid (∀ W, C W -> Blk W (w.heap.size) 38 [.int .i64 k, .int .i64 n, .int .i64 (s : Int), .string ⟨#[]⟩, .slice na 0 nc, .slice ka 0 kc]) := fun W hW => by rw [hC, <- HW1] at hW; exact Blk.grow (blk_at rfl) hW
 have CG : Hid (∀ W W', C W -> Grow W W' -> C W') := fun W W' h1 h2 => by rw [hC] at h1 ⊢; exact h1.trans h2
 have CW : Hid (C w1) := by rw [hC]; exact Grow.refl _
 rw [HW1]
 clear HW1 hC
 refine (K1.out _).mono ?_
 rintro e w2 ⟨rfl, g2⟩
 have HB : Hid (Blk w2 w.heap.size 38 [.int .i64 k, .int .i64 n, .int .i64 (s : Int), .string ⟨#[]⟩, .slice na 0 nc, .slice ka 0 kc] /\ Grow w w2) := ⟨(B0.out _ CW.out).grow g2, (GW.out _ CW.out).trans g2⟩
 clear B0 GW CG CW g2 K1
 have y0 : w2.cell? ⟨w.heap.size, 0, none⟩ = some (.int .i64 k) := (HB.out.1).cell 0
 have y1 : w2.cell? ⟨w.heap.size, 1, none⟩ = some (.int .i64 n) := (HB.out.1).cell 1
 have y2 : w2.cell? ⟨w.heap.size, 2, none⟩ = some (.int .i64 (s : Int)) := (HB.out.1).cell 2
 have y3 : w2.cell? ⟨w.heap.size, 3, none⟩ = some (.string ⟨#[]⟩) := (HB.out.1).cell 3
 have y4 : w2.cell? ⟨w.heap.size, 4, none⟩ = some (.slice na 0 nc) := (HB.out.1).cell 4
 have y5 : w2.cell? ⟨w.heap.size, 5, none⟩ = some (.slice ka 0 kc) := (HB.out.1).cell 5
 go_wp2_with fail
 clear y0 y1 y2 y3 y4 y5
 refine (K2.out _).mono ?_
 rintro e w3 ⟨rfl, g3⟩
 have G3 : Hid (Grow w w3) := HB.out.2.trans g3
 clear HB g3 K2
 go_wp2_with (refine al_zero rfl 123 rfl [.bool false, .int .u64 0, .int .u64 0, .int .i64 0] zN ?_)
 intro b4 w4 s4 B4 g4
 go_wp2_with (refine st_all rfl 123 (.tmp 4) (.tmp 13) rfl b4 123 [.bool false, .int .u64 0, .int .u64 0, .int .i64 0] [.bool true, .int .u64 0, .int .u64 (A : Int), .int .i64 (s : Int)] rfl rfl B4 rfl sN (ones rfl) ?_)
 intro w5 B5 g5
 have HC : Hid (Blk w5 b4 123 [.bool true, .int .u64 0, .int .u64 (A : Int), .int .i64 (s : Int)] /\ Grow w w5) := by
  refine ⟨B5, ?_⟩
  have x1 := G3.out
  have x2 : Below w.heap.size w w4 := Below.grown x1 g4 x1.size (by intro e he; cases he)
  exact Below.grown x2 g5 x2.size (by intro e he; injection he with he; have := x1.size; omega)
 clear B5 g5 B4 g4 s4 G3
 have z0 : w5.cell? ⟨b4, 0, none⟩ = some (.bool true) := (HC.out.1).cell 0
 have z1 : w5.cell? ⟨b4, 1, none⟩ = some (.int .u64 0) := (HC.out.1).cell 1
 have z2 : w5.cell? ⟨b4, 2, none⟩ = some (.int .u64 (A : Int)) := (HC.out.1).cell 2
 have z3 : w5.cell? ⟨b4, 3, none⟩ = some (.int .i64 (s : Int)) := (HC.out.1).cell 3
 go_wp2_with fail
 clear z0 z1 z2 z3
 refine (K3.out _ HC.out.2).mono ?_
 rintro e w6 ⟨rfl, g6⟩
 have HD : Hid (Blk w6 b4 123 [.bool true, .int .u64 0, .int .u64 (A : Int), .int .i64 (s : Int)] /\ Grow w w6) := ⟨HC.out.1.grow g6, HC.out.2.trans g6⟩
 clear HC g6 K3
 have z0 : w6.cell? ⟨b4, 0, none⟩ = some (.bool true) := (HD.out.1).cell 0
 have z1 : w6.cell? ⟨b4, 1, none⟩ = some (.int .u64 0) := (HD.out.1).cell 1
 have z2 : w6.cell? ⟨b4, 2, none⟩ = some (.int .u64 (A : Int)) := (HD.out.1).cell 2
 have z3 : w6.cell? ⟨b4, 3, none⟩ = some (.int .i64 (s : Int)) := (HD.out.1).cell 3
 go_wp2_with fail
 clear z0 z1 z2 z3
 refine (K4.out _).mono ?_
 rintro e w7 ⟨rfl, g7⟩
 have HE : Hid (Blk w7 b4 123 [.bool true, .int .u64 0, .int .u64 (A : Int), .int .i64 (s : Int)] /\ Grow w w7) := ⟨HD.out.1.grow g7, HD.out.2.trans g7⟩
 clear HD g7 K4
 have z0 : w7.cell? ⟨b4, 0, none⟩ = some (.bool true) := (HE.out.1).cell 0
 have z1 : w7.cell? ⟨b4, 1, none⟩ = some (.int .u64 0) := (HE.out.1).cell 1
 have z2 : w7.cell? ⟨b4, 2, none⟩ = some (.int .u64 (A : Int)) := (HE.out.1).cell 2
 have z3 : w7.cell? ⟨b4, 3, none⟩ = some (.int .i64 (s : Int)) := (HE.out.1).cell 3
 have hsz : ¬ 9223372036854775807 < 1 + T.size := by omega
 go_wp2
 go_ret2
 exact ⟨rfl, HE.out.2⟩
theorem textG_num (k n : Int) (s : Nat) (hN : isNum k n s ⟨#[]⟩ 0 0 = true) (f : -9223372036854775808 <= n /\ n < 9223372036854775808) (na : Option Addr) (nc : Nat) (ka : Option Addr) (kc : Nat) (D : ByteArray) (h0 : 0 < D.size) (h1 : D.size <= 20)
 (w : World) (K3 : ∀ W, Grow w W -> Calls Tryz.prog 103 #[.int .u64 (n.natAbs : Int), .int .i64 10] W fun e w' => e = .returned (.string D) /\ Grow W w') :
 Calls Tryz.prog 56 #[.agg #[.int .i64 k, .int .i64 n, .int .i64 (s : Int), .string ⟨#[]⟩, .slice na 0 nc, .slice ka 0 kc]] w fun e w' => e = .returned (.tuple #[.string (txt n s D), .int .i64 0]) /\ Grow w w' := by
 have K1 : ∀ W, Calls Tryz.prog 101 #[.agg #[.int .i64 k, .int .i64 n, .int .i64 (s : Int), .string ⟨#[]⟩, .slice na 0 nc, .slice ka 0 kc]] W fun e w' => e = .returned (.bool true) /\ Grow W w' := fun W => by
  have := isNumber_any k n s ⟨#[]⟩ na 0 nc ka 0 kc W
  rw [hN] at this
  exact this
 have K2 := fun W => numberOf_any n s n.natAbs rfl (decide (n < 0)) rfl f.1 f.2 W
 have hs : s <= 18 := by
  obtain ⟨_, _, _, h⟩ := isNum_yes hN
  omega
 unfold txt
 by_cases hn : n < 0
 . rw [if_pos hn]
   rw [show decide (n < 0) = true by simp [hn]] at K2
   by_cases s0 : s = 0
   . subst s0
     exact textG_i_n k n na nc ka kc n.natAbs D K1 K2 w K3 (by omega)
   . rw [if_neg s0]
     exact textG_d_n k n s (by omega) na nc ka kc n.natAbs D _ K1 K2 w K3 (fun W => dotted_any D s h0 h1 (by omega) hs W) (dotN_size D s h0 h1 hs)
 . rw [if_neg hn]
   rw [show decide (n < 0) = false by simp [hn]] at K2
   by_cases s0 : s = 0
   . subst s0
     exact textG_i_p k n na nc ka kc n.natAbs D K1 K2 w K3 (by omega)
   . rw [if_neg s0]
     exact textG_d_p k n s (by omega) na nc ka kc n.natAbs D _ K1 K2 w K3 (fun W => dotted_any D s h0 h1 (by omega) hs W) (dotN_size D s h0 h1 hs)
theorem Ptab.grow {w w' : World} (h : Ptab w) (g : Grow w w') : Ptab w' := Lib.tabBelow_of_tabIs h w' g
theorem dig_size (u : Nat) (hu : u < 18446744073709551616) : 0 < (⟨(Lib.decDigits u).toArray⟩ : ByteArray).size /\ (⟨(Lib.decDigits u).toArray⟩ : ByteArray).size <= 20 := by
 have e : (⟨(Lib.decDigits u).toArray⟩ : ByteArray).size = (Lib.decDigits u).length := by simp [ByteArray.size]
 rw [e]
 by_cases h : u = 0
 . subst h
   rw [Lib.decDigits_one (by omega)]
   simp
 . rw [Lib.decDigits_length]
   have h3 := Lib.lt_pow_nDigits u
   have h4 : Lib.nDigits u ≠ 0 := by
    intro e
    rw [e] at h3
    simp at h3
    omega
   have := Lib.numDigits_eq u (by omega) hu
   split at this <;> omega
theorem dText_num (k n : Int) (s : Nat) (hN : isNum k n s ⟨#[]⟩ 0 0 = true) (f : -9223372036854775808 <= n /\ n < 9223372036854775808) (na : Option Addr) (nc : Nat) (ka : Option Addr) (kc : Nat) (w : World) (ht : Ptab w) :
 Calls Tryz.prog 56 #[.agg #[.int .i64 k, .int .i64 n, .int .i64 (s : Int), .string ⟨#[]⟩, .slice na 0 nc, .slice ka 0 kc]] w fun e w' => e = .returned (.tuple #[.string (txt n s ⟨(Lib.decDigits n.natAbs).toArray⟩), .int .i64 0]) /\ Grow w w' := by
 have q := dig_size n.natAbs (by omega)
 exact textG_num k n s hN f na nc ka kc _ q.1 q.2 w (fun W g => fmtU n.natAbs (by omega) W (ht.grow g))
end Go.Proofs.YtobfdcdobhhagaaGreatDoor.D6
