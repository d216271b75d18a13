/-
  How many bits a number has (mathematics), and how many of its last ones are nought: math/bits.TrailingZeros. · math/bits.Len64 of the library, laid at this program's numbers. · How many bits a number has: math/bits.Len. · The contracts of digest.Node and digest.Chain. · Halves: where one begins and ends, on which side it stands; the last whole one; the node of two roots; the document's own half. · merkle.half.join: the node of a half's root and that of what stands beside it; others: the halves beside a way. · merkle.half.others: the halves that stand beside a way. · merkle.Verify: whether hashes prove a leaf. · Regions that draw their order and make variables. · Maps by halves: keys, what a map of roots holds; and the roots of halves over lists.
-/
import Derived.Test.YtlefdnjokppibaaGreatDoorUG12x
import Derived.Test.YtlefdnjokppibaaGreatDoorUG31x
import Derived.Lib.ItoaNum
import Derived.Shelf.Spec.TrailingZeros
import Derived.Shelf.Strconv.Itoa0
import Derived.Test.YtlefdnjokppibaaGreatDoorProg
import Derived.Test.YtlefdnjokppibaaGreatDoorUG19x
import Derived.Test.YtlefdnjokppibaaGreatDoorUEd
import Derived.BigQuiet
import Derived.WalkSmall
import Derived.Maps.Own
import Derived.Maps.Views
import Derived.DeepKeys4
namespace Go.Proofs.YtlefdnjokppibaaGreatDoor.Mer
open Go.RowKit Sh
theorem bitLen_pow {x : Nat} (h0 : 0 < x) (h : x < 18446744073709551616) : ∃ k, Lib.bitLen x = k + 1 ∧ 2 ^ k ≤ x ∧ x < 2 ^ (k + 1) := by
  obtain ⟨a, b, c⟩ := Lib.bitLenAux_bounds 64 x h (by omega)
  exact ⟨Lib.bitLenAux 64 x - 1, by show Lib.bitLenAux 64 x = _; omega, b, by rw [show Lib.bitLenAux 64 x - 1 + 1 = Lib.bitLenAux 64 x by omega]; exact c⟩
theorem bitLen_of {x k : Nat} (h1 : 2 ^ k ≤ x) (h2 : x < 2 ^ (k + 1)) (h : x < 18446744073709551616) : Lib.bitLen x = k + 1 := by
  have := Mk.pow_pos2 k
  obtain ⟨j, e, a, b⟩ := bitLen_pow (x := x) (by omega) h
  rw [e]
  rcases Nat.lt_trichotomy j k with c | c | c
  · have := Nat.pow_le_pow_right (n := 2) (by decide) (show j + 1 ≤ k by omega); omega
  · rw [c]
  · have := Nat.pow_le_pow_right (n := 2) (by decide) (show k + 1 ≤ j by omega); omega
/-- the table of the last noughts, in its variable. -/
def Tb (w : World) : Prop := TabAt 1 Lib.deBruijn64tab w
theorem tb_lt {w : World} (h : Tb w) : 1 < w.heap.size := World.block_lt_of_cell? w _ (h 0 (by decide))
theorem Tb.grow {w w' : World} (h : Tb w) (g : Below w.heap.size w w') : Tb w' := fun j hj => (g.cell (p := ⟨1, j, none⟩) (tb_lt h)).trans (h j hj)
set_option maxHeartbeats 1000000 in
theorem tz64_any (x k idx : Nat) (w : World) (hx0 : ((x : Int) == 0) = false)
    (key : IntKind.u64.wrap (bits BinOp.and IntKind.u64 (x : Int) (IntKind.u64.wrap (-(x : Int))) * 285870213051353865) / 288230376151711744 = (idx : Int))
    (hi : idx < 64) (hk : k < 64) (hcell : w.cell? ⟨1, idx, none⟩ = some (.int .u8 k)) :
    Calls Tryz.prog 118 #[.int .u64 (x : Int)] w fun e w' => e = .returned (.int .i64 (k : Int)) ∧ w' = w := by
  go_enter Tryz.func118, Tryz.ntmps118
  go_wp2_with (simp only [key])
  go_ret
  exact ⟨rfl, rfl⟩
theorem odd_of (x : Nat) (h0 : 0 < x) (h : x < 18446744073709551616) : ∃ c u, x = (2 * u + 1) * 2 ^ c ∧ Lib.ctz 64 x = c ∧ c < 64 := by
  obtain ⟨m, a, b⟩ := Lib.ctzFrom_spec 64 x h0 h
  refine ⟨_, m, ?_, by unfold Lib.ctz; rw [if_neg (by omega)], b⟩
  rw [Nat.mul_comm]; exact a
theorem tz_any (x : Nat) (h0 : 0 < x) (hx : x < 18446744073709551616) (w : World) (hT : Tb w) :
    Calls Tryz.prog 98 #[.int .u64 (x : Int)] w fun e w' => e = .returned (.int .i64 (Lib.ctz 64 x : Int)) ∧ w' = w := by
  obtain ⟨hlow, hk⟩ := Lib.lowest_bit 64 x (by omega) hx
  obtain ⟨hi, htab⟩ := Lib.deBruijn64_at _ hk
  have hcell := hT _ hi
  rw [htab] at hcell
  have K := tz64_any x _ _ w (by simp; omega) (tz64_key x _ hx (by omega) hlow) hi hk hcell
  clear hlow hk hi htab hcell
  go_enter Tryz.func98, Tryz.ntmps98
  go_wp2_with fail
  refine K.mono ?_
  rintro e w' ⟨rfl, rfl⟩
  go_wp2
  go_ret
  exact ⟨rfl, rfl⟩
end Go.Proofs.YtlefdnjokppibaaGreatDoor.Mer
namespace Go.Proofs
open Go.Shelf
def Tryz.lays129_ren : Go.Shelf.Ren := ⟨fun | 129 => 120 | n => n, fun | 53 => 86 | 3 => 3 | 4 => 4 | 46 => 106 | 5 => 5 | 9 => 9 | n => n, fun | n => n⟩
theorem Tryz.lays129 : Go.Proofs.Lays.n129 Tryz.prog Tryz.lays129_ren := {
  mixed := by kernel_rfl
  f129 := Tryz.func120.trans (congrArg some (by kernel_rfl))
  t3 := Tryz.underlying3
  a3 := Tryz.isAgg3
  z3 := Tryz.sizeOf3
  v3 := Tryz.zeroValue3
  t4 := Tryz.underlying4
  a4 := Tryz.isAgg4
  z4 := Tryz.sizeOf4
  v4 := Tryz.zeroValue4
  t5 := Tryz.underlying5
  a5 := Tryz.isAgg5
  z5 := Tryz.sizeOf5
  v5 := Tryz.zeroValue5
  t9 := Tryz.underlying9
  a9 := Tryz.isAgg9
  z9 := Tryz.sizeOf9
  v9 := Tryz.zeroValue9
  t46 := Tryz.underlying106
  a46 := Tryz.isAgg106
  z46 := Tryz.sizeOf106
  v46 := Tryz.zeroValue106
  t53 := Tryz.underlying86
  a53 := Tryz.isAgg86
  z53 := Tryz.sizeOf86
  v53 := Tryz.zeroValue86 }
end Go.Proofs
namespace Go.Proofs.YtlefdnjokppibaaGreatDoor.Mer
open Go.RowKit Sh
theorem len64_any (x : Nat) (hx : x < 18446744073709551616) (w : World) :
    Calls Tryz.prog 120 #[.int .u64 (x : Int)] w fun e w' => e = .returned (.int .i64 (Lib.bitLen x : Int)) ∧ w' = w := by
  have := Any.bits_Len64 Tryz.lays129 (x : Int) w (by omega) (by omega)
  rw [Int.toNat_natCast] at this
  exact this
theorem len_any (x : Nat) (hx : x < 18446744073709551616) (w : World) :
    Calls Tryz.prog 100 #[.int .u64 (x : Int)] w fun e w' => e = .returned (.int .i64 (Lib.bitLen x : Int)) ∧ w' = w := by
  go_enter Tryz.func100, Tryz.ntmps100
  go_wp2_with fail
  refine (len64_any x hx w).mono ?_
  rintro e w' ⟨rfl, rfl⟩
  go_wp2
  go_ret
  exact ⟨rfl, rfl⟩
end Go.Proofs.YtlefdnjokppibaaGreatDoor.Mer
namespace Go.Proofs.YtlefdnjokppibaaGreatDoor.Sh
open Go.RowKit Mt
theorem blk_cells {w : World} {g : Nat} {t : TypeId} {l : List Nat} (h : Blk w g t (nums .u8 l)) : Cells w g 0 l := fun i hi => by rw [Nat.zero_add]; exact h.num i hi
set_option maxHeartbeats 1000000 in
set_option maxRecDepth 8000 in
theorem node_any (lh rh : List Nat) (hl : lh.length = 32) (hr : rh.length = 32) (hol : Hid (Oct lh)) (hor : Hid (Oct rh)) (w : World) :
    Calls Tryz.prog 47 #[.agg (nums .u8 lh).toArray, .agg (nums .u8 rh).toArray] w fun e w' => e = .returned (.agg (nums .u8 (D (1 :: (lh ++ rh)))).toArray) ∧ Below w.heap.size w w' := by
  go_enter Tryz.func47, Tryz.ntmps47
  go_wp2_with (refine al_box rfl 23 (.tmp 0) rfl (nums .u8 lh) rfl ?_)
  intro ga wa la BA GA
  have Z := (Below.refl w.heap.size w).grown GA (Nat.le_refl _) (by simp)
  clear GA
  go_wp2_with (refine al_box rfl 23 (.tmp 1) rfl (nums .u8 rh) rfl ?_)
  intro gb wb lb BB GB
  have BA := BA.kept GB (by simp)
  have Z := Z.grown GB Z.size (by simp)
  clear GB
  go_wp2_with (refine al_zero rfl 23 rfl _ z25 ?_)
  intro g1 w1 l1 B1 G1
  have BA := BA.kept G1 (by simp)
  have BB := BB.kept G1 (by simp)
  have hg1 : w.heap.size ≤ g1 := Nat.le_trans Z.size l1
  have Z := Z.grown G1 Z.size (by simp)
  clear G1
  go_wp2_with fail
  refine (begin_c [1] (some ⟨w1.heap.size, 0, none⟩) 1 (w1.alloc (.cells #[.int .u8 1] 5)) (byt_lit w1 [1]) (Nat.le_refl _) (fun x hx => by obtain rfl := List.mem_singleton.1 hx; decide) (by simp)).mono ?_; rintro e w2 ⟨c, HK, rfl, Z2⟩
  have BA := (BA.alloc _).below Z2 (BA.alloc _).lt
  have BB := (BB.alloc _).below Z2 (BB.alloc _).lt
  have B1 := (B1.alloc _).below Z2 (B1.alloc _).lt
  have Z := Z.alloc Z.size (.cells #[.int .u8 1] 5)
  have Z := Z.trans (Z2.mono Z.size)
  clear Z2
  go_wp2_with (refine al_zero rfl 102 rfl _ z45' ?_)
  intro g2 w3 l2 B2 G2
  have n12 : g1 ≠ g2 := by have := B1.lt; omega
  have na2 : ga ≠ g2 := by have := BA.lt; omega
  have nb2 : gb ≠ g2 := by have := BB.lt; omega
  have hg2 : w.heap.size ≤ g2 := Nat.le_trans Z.size l2
  have BA := BA.kept G2 (by simp)
  have BB := BB.kept G2 (by simp)
  have B1 := B1.kept G2 (by simp)
  have Z := Z.grown G2 Z.size (by simp)
  have I1 : Hid ((Tryz.prog.info? 102).map (·.size) = some c.length) := by show _ = _; rw [HK.out.2.1]; exact s45
  have N1 : Hid (c.length = (smc ⟨0, 0, 0, 0, 0, 0, 0, 0⟩ (List.replicate 64 0) 0).length) := by show _ = _; rw [HK.out.2.1, smc_len _ _ _ (by simp)]
  clear G2
  go_wp2_with (refine st_all rfl 102 (.tmp 5) (.tmp 7) rfl g2 102 _ c rfl rfl B2 N1.out I1.out HK.out.2.2 ?_)
  intro w4 B2 G3
  have BA := BA.kept G3 (fun e => na2 (Option.some.inj e))
  have BB := BB.kept G3 (fun e => nb2 (Option.some.inj e))
  have B1 := B1.kept G3 (fun e => n12 (Option.some.inj e))
  have Z := grown_below Z G3 Z.size hg2
  have HS : Hid (Sm w4 g2 [1]) := HK.out.1 _ _ B2
  have HA : Hid (Calls Tryz.prog 62 #[.pointer (some ⟨g2, 0, none⟩), .slice (some ⟨ga, 0, none⟩) 32 32] w4 fun e w' => e = .returned (.tuple #[]) ∧ Sm w' g2 (1 :: lh) ∧ w4.grownBy w' (some g2)) := by
    have := add_any g2 [1] lh (some ⟨ga, 0, none⟩) 32 w4 HS.out (.inr ⟨ga, 0, na2, rfl, blk_cells BA⟩) (by omega) hol.out (by simp; omega)
    rw [hl] at this; exact this
  clear B2 G3 I1 N1 HS HK
  go_wp2_with fail
  refine HA.out.mono ?_; rintro e w5 ⟨rfl, hs, G5⟩
  have HS : Hid (Sm w5 g2 (1 :: lh)) := hs
  have BB := BB.kept G5 (fun e => nb2 (Option.some.inj e))
  have B1 := B1.kept G5 (fun e => n12 (Option.some.inj e))
  have Z := grown_below Z G5 Z.size hg2
  have HA : Hid (Calls Tryz.prog 62 #[.pointer (some ⟨g2, 0, none⟩), .slice (some ⟨gb, 0, none⟩) 32 32] w5 fun e w' => e = .returned (.tuple #[]) ∧ Sm w' g2 (1 :: (lh ++ rh)) ∧ w5.grownBy w' (some g2)) := by
    have := add_any g2 (1 :: lh) rh (some ⟨gb, 0, none⟩) 32 w5 HS.out (.inr ⟨gb, 0, nb2, rfl, blk_cells BB⟩) (by omega) hor.out (by simp; omega)
    rw [hr] at this; exact this
  clear hs G5 HS
  go_wp2_with fail
  refine HA.out.mono ?_; rintro e w6 ⟨rfl, hs, G6⟩
  have HS : Hid (Sm w6 g2 (1 :: (lh ++ rh))) := hs
  have B1 := B1.kept G6 (fun e => n12 (Option.some.inj e))
  have Z := grown_below Z G6 Z.size hg2
  clear hs G6 HA
  go_wp2_with fail
  refine (end_any g2 (1 :: (lh ++ rh)) _ HS.out (by simp; omega)).mono ?_; rintro e w7 ⟨rfl, G7⟩
  have B1 := B1.kept G7 (fun e => n12 (Option.some.inj e))
  have Z := grown_below Z G7 Z.size hg2
  have ID : Hid ((Tryz.prog.info? 23).map (·.size) = some (nums .u8 (D (1 :: (lh ++ rh)))).length) := by show _ = _; rw [nums_length, D_len]; exact s25
  have ND : Hid ((nums .u8 (D (1 :: (lh ++ rh)))).length = (nums .u8 (List.replicate 32 0)).length) := by show _ = _; rw [nums_length, nums_length, D_len, List.length_replicate]
  clear G7 HS
  go_wp2_with (refine st_all rfl 23 (.tmp 4) (.tmp 12) rfl g1 23 (nums .u8 (List.replicate 32 0)) (nums .u8 (D (1 :: (lh ++ rh)))) rfl rfl B1 ND.out ID.out (nums_one _ _) ?_)
  intro we BE GE
  go_wp2
  (try simp only [Exit.inBlock, Exit.then])
  refine bodyPost_ret (res_row rfl _ g1 23 _ _ rfl BE Tryz.underlying23 rfl ID.out) rfl ⟨rfl, grown_below Z GE Z.size hg1⟩
end Go.Proofs.YtlefdnjokppibaaGreatDoor.Sh
namespace Go.Proofs.YtlefdnjokppibaaGreatDoor.Mer
open Go.RowKit Sh
theorem wrap_small {n : Nat} {x : Int} (e : x = (n : Int)) (h : n < 9223372036854775808) : wrap64 x = (n : Int) := by rw [e]; simp only [wrap64]; omega
theorem cast_shl (o l : Nat) : (o : Int) * 2 ^ l = ((o * 2 ^ l : Nat) : Int) := by rw [Int.natCast_mul, Int.natCast_pow]; rfl
theorem end_any' (l o : Nat) (hl : l ≤ 60) (h0 : o ≤ 1000000000000000) (ho : (o + 1) * 2 ^ l ≤ 1000000000000000) (w : World) :
    Calls Tryz.prog 101 #[.agg #[.int .i64 (l : Int), .int .i64 (o : Int)]] w fun e w' => e = .returned (.int .i64 (((o + 1) * 2 ^ l : Nat) : Int)) ∧ Below w.heap.size w w' := by
  have e : wrap64 (((o : Int) + 1) * 2 ^ l) = (((o + 1) * 2 ^ l : Nat) : Int) := wrap_small (cast_shl (o + 1) l) (by omega)
  go_enter Tryz.func101, Tryz.ntmps101
  go_wp2
  go_ret
  exact ⟨by rw [e]; rfl, (Below.refl _ _).alloc (Nat.le_refl _) _⟩
/-- the document's own half: the greatest power of two below n. -/
theorem half_any (n T P : Nat) (hP : Hid (P = 2 ^ T)) (h1 : 2 ^ T < n) (h2 : n ≤ 2 ^ (T + 1)) (hn : n ≤ 1099511627776) (w : World) :
    Calls Tryz.prog 46 #[.int .i64 (n : Int)] w fun e w' => e = .returned (.int .i64 (P : Int)) ∧ w' = w := by
  go_enter Tryz.func46, Tryz.ntmps46
  go_wp2
  go_loop [3] (fun x => ∃ j k : Nat, x = .int .i64 (k : Int) ∧ k = 2 ^ j ∧ j ≤ T ∧ k < n) (fun x => n - (intOf x).toNat)
  case atStart => exact ⟨0, 1, rfl, rfl, Nat.zero_le _, by have := Mk.pow_pos2 T; omega⟩
  case round =>
    obtain ⟨j, k, rfl, hk, hj, hlt⟩ := hrel
    have hk0 : 0 < k := by rw [hk]; exact Mk.pow_pos2 j
    by_cases hc : k < n - k
    · have hc1 : (k : Int) < (n : Int) - (k : Int) := by omega
      have hjT : Hid (j + 1 ≤ T ∧ 2 * k = 2 ^ (j + 1)) := by
        refine ⟨?_, by rw [hk, Nat.pow_succ, Nat.mul_comm]⟩
        refine Nat.lt_of_le_of_ne hj fun e => ?_
        rw [e] at hk
        rw [Nat.pow_succ] at h2
        omega
      clear hk
      go_wp2
      go_round
      case rel => exact ⟨j + 1, 2 * k, by simp, hjT.out.2, hjT.out.1, by omega⟩
      case measure => simp [intOf]; omega
    · have hc1 : ¬ (k : Int) < (n : Int) - (k : Int) := by omega
      have e : Hid (k = P) := by
        show k = P
        rw [hP.out]
        have : n ≤ 2 * k := by omega
        rcases Nat.lt_or_eq_of_le hj with h | h
        · have h3 := Nat.pow_le_pow_right (n := 2) (by decide) (show j + 1 ≤ T by omega)
          rw [Nat.pow_succ] at h3
          omega
        · rw [hk, h]
      clear hk h1 h2 hj
      go_wp2
      go_ret
      exact ⟨by rw [← e.out]; rfl, rfl⟩
end Go.Proofs.YtlefdnjokppibaaGreatDoor.Mer
namespace Go.Proofs.YtlefdnjokppibaaGreatDoor.Mer
open Go.RowKit Sh
def nd (a b : List Nat) : List Nat := Mt.D (1 :: (a ++ b))
def em : List Nat := Mt.D []
theorem D_hh (l : List Nat) : Hh (Mt.D l) := ⟨Mt.D_len l, by first | exact Mt.D_oct l | exact fun x hx => Mt.D_lt l x hx⟩
theorem nd_hh (a b : List Nat) : Hh (nd a b) := D_hh _
theorem em_hh : Hh em := D_hh _
theorem sH {h : List Nat} (hh : Hh h) : (Tryz.prog.info? 23).map (·.size) = some (nums .u8 h).length := by rw [nums_length, hh.1]; exact Sh.s25
end Go.Proofs.YtlefdnjokppibaaGreatDoor.Mer
namespace Go.Proofs.YtlefdnjokppibaaGreatDoor.Mer
open Go.RowKit Sh
section
variable {α : Type} {enc : α → List Value} {n : Nat} {w w' : World} {L : List α} {t : TypeId} {base : Nat} {v : Value}
theorem below_grown (g : Below w.heap.size w w') : w.grownBy w' none := ⟨g.os, g.tape, g.output, g.size, fun k hk _ => g.block k hk⟩
theorem OwE.grow (h : OwE enc t n w base v L) (g : Below w.heap.size w w') : OwE enc t n w' base v L := h.kept (below_grown g) (by intro k _; simp)
theorem OwE.alloc (h : OwE enc t n w base v L) (o : Obj) : OwE enc t n (w.alloc o) base v L := h.grow ((Below.refl _ _).alloc (Nat.le_refl _) o)
theorem owe_nil (enc : α → List Value) (t : TypeId) (n : Nat) (w : World) (base : Nat) : OwE enc t n w base (.slice none 0 0) [] := ⟨World.ownsRow_nil w base t n, by simp⟩
theorem es_lit (w : World) (t : TypeId) (x : α) : ES enc n (w.alloc (.cells (enc x).toArray t)) (some ⟨w.heap.size, 0, none⟩) [x] := by
  refine .inr ⟨_, _, rfl, fun i y hy => ?_⟩
  cases i with
  | succ i => simp at hy
  | zero =>
    simp at hy
    subst hy
    rw [Nat.zero_mul, Nat.zero_add]
    exact (Sh.blk_new w t (enc x)).all
theorem below_own {B : Nat} {w0 : World} (hb : Below B w0 w) (hB : B ≤ w.heap.size) (h : OwE enc t n w B v L) (hg : w.grownBy w' v.ownBlock) : Below B w0 w' :=
  Below.grown hb hg hB fun k hk => (h.1.lt k hk).1
end
section
variable {ops : Array Oper} {rest : List Oper} {o : Oper} {a : Act} {w : World} {Q : Exit → Act → World → Prop}
theorem app_wl {α : Type} {enc : α → List Value} {n : Nat} (hgd : o.guard = none) (s x : Operand) (t e : TypeId) (ho : o.op = .call { callee := .builtin .append, args := #[s, x], argTypes := #[t, t] }) (ht : Tryz.prog.underlying t = some (.slice e)) (z : List Value) (bytes : Nat)
    (hi : (Tryz.prog.info? e).map (fun i => (i.zero, i.size, i.bytes)) = some (some (.agg z.toArray), n, bytes)) (hz : z.length = n) (hn : 0 < n) (hb : bytes ≤ 1000) (base : Nat) (v : Value) (L M : List α) (hs : a.eval s = v) (hown : OwE enc e n w base v L) (ad : Option Addr) (cap : Nat) (hx : a.eval x = .slice ad M.length cap)
    (hM : ES enc n w ad M) (hnil : ad = none → cap = 0) (hMn : ∀ y ∈ M, (enc y).length = n ∧ ∀ u ∈ enc y, u.oneCell' = true) (hlen : L.length + M.length ≤ 100000000) (hbase : base ≤ w.heap.size)
    (h : ∀ v' w', OwE enc e n w' base v' (L ++ M) → w.grownBy w' v.ownBlock → wpList Tryz.prog ops Q rest (a.put o.dst v') w') : wpList Tryz.prog ops Q (o :: rest) a w :=
  wpList_plain hgd fun _ hK => app_wp s x t e ho ht z bytes hi hz hn hb base v L M hs hown ad cap hx hM hnil hMn hlen hbase fun v' w' h1 h2 => hK _ _ (h v' w' h1 h2)
end
end Go.Proofs.YtlefdnjokppibaaGreatDoor.Mer
namespace Go.Proofs.YtlefdnjokppibaaGreatDoor.Mer
open Go.RowKit Sh
end Go.Proofs.YtlefdnjokppibaaGreatDoor.Mer
namespace Go.Proofs.YtlefdnjokppibaaGreatDoor.Mer
open Go Go.RowKit Sh
section
variable {P : Program} {C : World → Prop} {z : Nat} {Q : Exit → Act → World → Prop}
theorem put_comm {a : Act} {i j : Tmp} (hij : i ≠ j) (u v : Value) : (a.put (some i) u).put (some j) v = (a.put (some j) v).put (some i) u := by
  simp only [Act.put]
  rw [Array.setIfInBounds_comm _ _ hij]
end
end Go.Proofs.YtlefdnjokppibaaGreatDoor.Mer
namespace Go.Proofs.YtlefdnjokppibaaGreatDoor.Mer
open Go Go.RowKit Go.Maps Sh
set_option maxRecDepth 8000
def kv (l o : Nat) : Value := .agg #[.int .i64 (l : Int), .int .i64 (o : Int)]
theorem laidOut : laidOutB Tryz.prog = true := by kernel_rfl
theorem half_row : (144 : TypeId) < Tryz.prog.types.size := of_decide_eq_true (by kernel_rfl)
theorem half_wide : (match Tryz.prog.underlying 144 with | some (.array _ _) | some (.struct _) => true | _ => false) = true := by rw [Tryz.underlying144]
theorem half_keyed : Keyed Tryz.prog 144 := Keyed.of_law (deep_law_laid laidOut (m := 2) (by omega) half_row (by kernel_rfl) half_wide)
theorem key_some (l o : Nat) (hl : l ≤ 1000000000000000) (ho : o ≤ 1000000000000000) : ∃ kl, keyOf Tryz.prog 144 (kv l o) = some kl := by
  have hk : Tryz.prog.keyType 144 = true := by kernel_rfl
  have hf : (kv l o).formed Tryz.prog 144 = true := by
    unfold kv Value.formed
    rw [Tryz.underlying144]
    simp only [List.size_toArray, List.length_cons, List.length_nil]
    kernel_rfl
  have h1 : ∀ (d n : Nat), n ≤ 1000000000000000 → Tryz.prog.keyLits (d + 1) 3 [.int .i64 (n : Int)] = some [.int .i64 (n : Int)] := fun d n hn => by
    unfold Program.keyLits
    simp only [Tryz.underlying3]
    exact if_pos ⟨trivial, by simp [Lit.wf, IntKind.min, IntKind.max, IntKind.signed, IntKind.bits]; omega⟩
  have hc : Tryz.prog.cellsOf 144 = 2 := by kernel_rfl
  have hc3 : Tryz.prog.cellsOf 3 = 1 := by kernel_rfl
  obtain ⟨d, hd⟩ : ∃ d, Tryz.prog.types.size = d + 1 := ⟨Tryz.prog.types.size - 1, (Nat.succ_pred_eq_of_pos (Nat.lt_of_le_of_lt (Nat.zero_le _) half_row)).symm⟩
  have h2 : Tryz.prog.keyLits (Tryz.prog.types.size + 1) 144 (kv l o).cells.toList = some [.int .i64 (l : Int), .int .i64 (o : Int)] := by
    rw [hd]
    unfold Program.keyLits
    simp only [Tryz.underlying144]
    show (if [Value.int .i64 (l : Int), .int .i64 (o : Int)].length = Tryz.prog.cellsOf 144 then _ else none) = _
    rw [if_pos (by rw [hc]; rfl)]
    simp only [hc3]
    simp [List.range_succ, kv, Value.cells, h1 d l hl, h1 d o ho]
  have h3 : keyOf Tryz.prog 144 (kv l o) = some (.string (keyBytes [.int .i64 (l : Int), .int .i64 (o : Int)])) := by
    unfold keyOf
    rw [Tryz.underlying144]
    simp only [hk, hf, Bool.and_self, if_true, h2, Option.map_some]
  exact ⟨_, h3⟩
theorem kv_inj {l o l' o' : Nat} (h : kv l o = kv l' o') : l = l' ∧ o = o' := by
  unfold kv at h
  simp at h
  omega
/-- how an element of the map reads. -/
def hR (v : Value) : Option (DataW Value × List MemPlace) := some (.held v, [])
def zv : Value := .agg (nums .u8 (List.replicate 32 0)).toArray
theorem zv_run (w : World) : (zeroValue 23).run Tryz.prog w = .ok zv w := Tryz.zeroValue23 w
/-- the map bears x at a half. -/
def Bears (D : DataW Value) (l o : Nat) (x : List Nat) : Prop := ∀ kl, keyOf Tryz.prog 144 (kv l o) = some kl → D.atKey kl (.held zv) = .held (.agg (nums .u8 x).toArray)
theorem Bears.look {D : DataW Value} {l o n mb : Nat} {x : List Nat} {w : World} (h : Bears D l o x) (hl : l ≤ 1000000000000000) (ho : o ≤ 1000000000000000) (hm : w.ownsMap Tryz.prog 144 hR mb n D) : (Instr.lookup 123 (.map (some mb)) (kv l o) false).run Tryz.prog w = .ok (.agg (nums .u8 x).toArray) w := by
  obtain ⟨kl, hk⟩ := key_some l o hl ho
  obtain ⟨v, ps, hrun, hv⟩ := hm.lookup half_keyed Tryz.underlying123 (zv_run w) (zd := .held zv) (zp := []) rfl hk
  rw [h kl hk] at hv
  have hv' : some (DataW.held v, ([] : List MemPlace)) = some (DataW.held (.agg (nums .u8 x).toArray), ps) := hv
  injection hv' with e
  injection e with e1 e2
  injection e1 with e1
  rw [hrun, e1]
theorem Bears.put_same {D : DataW Value} {l o : Nat} {x : List Nat} {kl : Lit} (hD : IsMap D) (hk : keyOf Tryz.prog 144 (kv l o) = some kl) : Bears (D.put kl (.held (.agg (nums .u8 x).toArray))) l o x := fun kl' hk' => by
  rw [hk] at hk'
  injection hk' with e
  subst e
  exact atKey_put_same hD (half_keyed.key hk) _ _
theorem Bears.put_other {D : DataW Value} {l o l' o' : Nat} {x : List Nat} {d : DataW Value} {kl : Lit} (h : Bears D l' o' x) (hk : keyOf Tryz.prog 144 (kv l o) = some kl) (hne : ¬ (l' = l ∧ o' = o)) : Bears (D.put kl d) l' o' x := fun kl' hk' => by
  rw [atKey_put_other]
  · exact h kl' hk'
  · rintro rfl
    exact hne (kv_inj (half_keyed.inj hk' hk))
theorem isMap_put {D : DataW Value} {kl : Lit} {d : DataW Value} (h : IsMap D) : IsMap (D.put kl d) := by
  obtain ⟨es, rfl⟩ := h
  exact ⟨_, rfl⟩
/-- a map bears the root of each whole half of leaves. -/
def MOK (D : DataW Value) (L : List (List Nat)) : Prop := ∀ l o, 1 ≤ l → (o + 1) * 2 ^ l ≤ L.length → Bears D l o (Mk.R nd em (Mk.sg L (l, o)))
theorem sg_two (L : List (List Nat)) (j o : Nat) (h : (o + 1) * 2 ^ (j + 1) ≤ L.length) : Mk.R nd em (Mk.sg L (j + 1, o)) = nd (Mk.R nd em (Mk.sg L (j, 2 * o))) (Mk.R nd em (Mk.sg L (j, 2 * o + 1))) := by
  have hp := Mk.pow_pos2 j
  have e : 2 ^ (j + 1) = 2 * 2 ^ j := by rw [Nat.pow_succ, Nat.mul_comm]
  have e1 : (o + 1) * 2 ^ (j + 1) = o * 2 ^ (j + 1) + 2 ^ (j + 1) := by rw [Nat.add_mul, Nat.one_mul]
  have hl : (Mk.sg L (j + 1, o)).length = 2 ^ (j + 1) := by unfold Mk.sg; rw [List.length_take, List.length_drop]; simp only; omega
  rw [Mk.R_split nd em (T := j) (by rw [hl, e]; omega) (by rw [hl]; exact Nat.le_refl _)]
  have a1 : (Mk.sg L (j + 1, o)).take (2 ^ j) = Mk.sg L (j, 2 * o) := by
    unfold Mk.sg
    simp only
    rw [List.take_take, Nat.min_eq_left (by omega), e, show o * (2 * 2 ^ j) = 2 * o * 2 ^ j by rw [← Nat.mul_assoc, Nat.mul_comm o 2]]
  have a2 : (Mk.sg L (j + 1, o)).drop (2 ^ j) = Mk.sg L (j, 2 * o + 1) := by
    unfold Mk.sg
    simp only
    rw [List.drop_take, List.drop_drop, e, show 2 * 2 ^ j - 2 ^ j = 2 ^ j by omega, show o * (2 * 2 ^ j) + 2 ^ j = (2 * o + 1) * 2 ^ j by rw [Nat.add_mul, Nat.one_mul, ← Nat.mul_assoc, Nat.mul_comm o 2]]
  rw [a1, a2]
theorem sg_app (L M : List (List Nat)) (l o : Nat) (h : (o + 1) * 2 ^ l ≤ L.length) : Mk.sg (L ++ M) (l, o) = Mk.sg L (l, o) := by
  unfold Mk.sg
  simp only
  rw [Nat.add_mul, Nat.one_mul] at h
  generalize 2 ^ l = p at *
  rw [List.drop_append_of_le_length (by omega), List.take_append_of_le_length (by rw [List.length_drop]; omega)]
theorem sg_leaf (L : List (List Nat)) (o : Nat) (x : List Nat) (h : L[o]? = some x) : Mk.R nd em (Mk.sg L (0, o)) = x := by
  unfold Mk.sg
  obtain ⟨h1, h2⟩ := List.getElem?_eq_some_iff.1 h
  simp only [Nat.pow_zero, Nat.mul_one]
  rw [List.take_one, List.head?_drop, h]
  exact Mk.R_one nd em x
theorem R_hh {L : List (List Nat)} (hL : Hl L) : Hh (Mk.R nd em L) := by
  match hm : L with
  | [] => exact em_hh
  | [x] => rw [Mk.R_one]; exact hL x (by simp)
  | x :: y :: r =>
    obtain ⟨T, a, b⟩ := Mk.two_exists (x :: y :: r).length (by simp)
    rw [Mk.R_split nd em a b]
    exact nd_hh _ _
end Go.Proofs.YtlefdnjokppibaaGreatDoor.Mer
