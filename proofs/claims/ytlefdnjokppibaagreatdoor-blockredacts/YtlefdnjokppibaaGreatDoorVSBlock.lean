/-
  The contract of the document's own block: the state once a block has gone through the rounds.
-/
import Derived.Test.YtlefdnjokppibaaGreatDoorVG15x
import Derived.StillTailTactics
import Derived.Deep.RegionWith
namespace Go.Proofs.YtlefdnjokppibaaGreatDoor.Sh
open Go.RowKit Mt
theorem or_nm {a b : Nat} (ha : a < 4294967296) (hb : b < 4294967296) : ∃ d : Nat, bits .or .u32 (a : Int) (b : Int) = (d : Int) ∧ d < 4294967296 ∧ Hid (d = a ||| b) := ⟨_, u32_or_nat a b ha hb, Nat.or_lt_two_pow (n := 32) ha hb, rfl⟩
theorem or4 (p q r s : Nat) (hq : q < 256) (hr : r < 256) (hs : s < 256) : p * 16777216 ||| q * 65536 ||| r * 256 ||| s = ((p * 256 + q) * 256 + r) * 256 + s := by
  have e1 : p * 16777216 ||| q * 65536 = (p * 256 + q) * 65536 := by
    have := Nat.shiftLeft_add_eq_or_of_lt (i := 24) (b := q * 65536) (by omega) p
    rw [Nat.shiftLeft_eq] at this
    rw [show (16777216 : Nat) = 2 ^ 24 by decide, ← this]; omega
  have e2 : (p * 256 + q) * 65536 ||| r * 256 = ((p * 256 + q) * 256 + r) * 256 := by
    have := Nat.shiftLeft_add_eq_or_of_lt (i := 16) (b := r * 256) (by omega) (p * 256 + q)
    rw [Nat.shiftLeft_eq] at this
    rw [show (65536 : Nat) = 2 ^ 16 by decide, ← this]; omega
  rw [e1, e2, or_add _ _ hs]
theorem Blk.drewTo {w wd : World} {b : Nat} {t : TypeId} {vs : List Value} (h : Blk w b t vs) (hwd : Hid (wd = w.drew)) : Blk wd b t vs := by
  rw [hwd.out]; exact h
theorem Blk.drew {w : World} {b : Nat} {t : TypeId} {vs : List Value} (h : Blk w b t vs) : Blk w.drew b t vs := h
theorem below_drewTo {B : Nat} {a w wd : World} (h : Below B a w) (hwd : Hid (wd = w.drew)) : Below B a wd := by rw [hwd.out]; exact h.drew
/-- A region that draws its order, reads, and stores at its end: one walk, in the text's order; the world behind the draw under a name. -/
theorem still_tail {P : Program} {id : Nat} {Q : Exit → Act → World → Prop} {a : Act} {w : World} {l : List Oper} (n : Nat) (hm : P.follows .mixedOrders = true) (hB : Region.lexTailB .any l.toArray n = true) (wd : World) (hwd : Hid (wd = w.drew))
    (h : wpStill P l.toArray wd (fun a' => wpList P l.toArray Q (l.drop n) a' wd) (l.take n) a) : (Code.region id l.toArray true).wp P Q a w := by
  have e : wd = w.drew := hwd
  subst e
  exact wp_region_still_tail n hm hB h
theorem range_snoc (f : Nat → Nat) (k : Nat) : (List.range (k + 1)).map f = (List.range k).map f ++ [f k] := by rw [List.range_succ]; simp

/-- What stands in memory while the rounds go. -/
def Inv (s : St) (W : List Nat) (r : St) (g1 g2 g3 g4 : Nat) (w0 wr : World) : Prop :=
  Blk wr g1 99 (nums .u32 s.l) ∧ Blk wr g2 99 (nums .u32 (List.replicate 8 0)) ∧ Blk wr g3 107 (nums .u32 W) ∧ Blk wr g4 99 (nums .u32 r.l) ∧ Below w0.heap.size w0 wr
theorem Inv.v {s : St} {W : List Nat} {r : St} {g1 g2 g3 g4 : Nat} {w0 wr : World} (h : Inv s W r g1 g2 g3 g4 w0 wr) (i : Nat) (hi : i < 8) : wr.cell? ⟨g4, i, none⟩ = some (.int .u32 ((r.l.getD i 0 : Nat) : Int)) := h.2.2.2.1.num i hi
theorem Inv.drewN {s : St} {W : List Nat} {r : St} {g1 g2 g3 g4 : Nat} {w0 wr : World} (h : Inv s W r g1 g2 g3 g4 w0 wr) (q : Nat) : Inv s W r g1 g2 g3 g4 w0 (wr.drewN q) :=
  ⟨h.1.drewN q, h.2.1.drewN q, h.2.2.1.drewN q, h.2.2.2.1.drewN q, below_drewN h.2.2.2.2 q⟩

set_option maxHeartbeats 8000000 in
set_option maxRecDepth 8000 in
theorem block_any (s : St) (hs : Hid s.ok) (pg off cap kg : Nat) (b : Nat → Nat) (w : World) (hc : ∀ i, i < 64 → w.cell? ⟨pg, off + i, none⟩ = some (.int .u8 ((b i : Nat) : Int))) (hK : Blk w kg 107 (nums .u32 K)) (hb' : Hid (∀ i, b i < 256)) (N : Nat) (hN : Hid (N = 48)) (M : Nat) (hM : Hid (M = 64)) :
    Calls Tryz.prog 66 #[.agg (nums .u32 s.l).toArray, .slice (some ⟨pg, off, none⟩) 64 cap, .pointer (some ⟨kg, 0, none⟩)] w fun e w' => e = .returned (.agg (nums .u32 (plus s (run s (sched b N) M)).l).toArray) ∧ Below w.heap.size w w' := by
  have HC : Hid (∀ i, i < 64 → w.cell? ⟨pg, off + i, none⟩ = some (.int .u8 ((b i : Nat) : Int))) := hc
  have hpg : pg < w.heap.size := cell_lt (hc 0 (by omega))
  clear hc
  go_enter Tryz.func66, Tryz.ntmps66
  go_wp2_with (refine al_box rfl 99 (.tmp 0) rfl (nums .u32 s.l) rfl ?_)
  intro g1 w1 l1 B1 G1
  have hg1 := l1
  have Z := (Below.refl w.heap.size w).grown G1 (Nat.le_refl _) (by simp)
  clear G1
  go_wp2_with (refine al_zero rfl 99 rfl _ z41 ?_)
  intro g2 w2 l2 B2 G2
  have n12 : g1 ≠ g2 := by have := B1.lt; omega
  have B1 := B1.kept G2 (by simp)
  have hg2 : w.heap.size ≤ g2 := Nat.le_trans Z.size l2
  have Z := Z.grown G2 Z.size (by simp)
  clear G2
  go_wp2_with (refine al_zero rfl 107 rfl _ z50 ?_)
  intro g3 w3 l3 B3 G3
  have n13 : g1 ≠ g3 := by have := B1.lt; omega
  have n23 : g2 ≠ g3 := by have := B2.lt; omega
  have B1 := B1.kept G3 (by simp)
  have B2 := B2.kept G3 (by simp)
  have hg3 : w.heap.size ≤ g3 := Nat.le_trans Z.size l3
  have Z := Z.grown G3 Z.size (by simp)
  clear G3
  go_wp2
  go_loopw [8] (fun i wr => ∃ k : Nat, k ≤ 16 ∧ i = .int .i64 k ∧ Blk wr g3 107 (nums .u32 ((List.range k).map (word b) ++ List.replicate (64 - k) 0)) ∧ Blk wr g1 99 (nums .u32 s.l) ∧ Blk wr g2 99 (nums .u32 (List.replicate 8 0)) ∧ Below w.heap.size w wr) (fun i _ => 16 - (intOf i).toNat)
  case atStart => exact ⟨0, by omega, rfl, B3, B1, B2, Z⟩
  case round =>
    clear B1 B2 B3 Z
    obtain ⟨k, hk, rfl, B3, B1, B2, Z⟩ := hrel
    by_cases hlt : k < 16
    · have c0 := (Z.cell (p := ⟨pg, off + 4 * k, none⟩) hpg).trans (HC.out (4 * k) (by omega))
      have c1 := (Z.cell (p := ⟨pg, off + (4 * k + 1), none⟩) hpg).trans (HC.out (4 * k + 1) (by omega))
      have c2 := (Z.cell (p := ⟨pg, off + (4 * k + 2), none⟩) hpg).trans (HC.out (4 * k + 2) (by omega))
      have c3 := (Z.cell (p := ⟨pg, off + (4 * k + 3), none⟩) hpg).trans (HC.out (4 * k + 3) (by omega))
      have hf := B3.frozen k
      have hn := B3.num k (by simp; omega)
      generalize ((List.range k).map (word b) ++ List.replicate (64 - k) 0).getD k 0 = old at hn
      have HS : Hid (word b k = ((b (4 * k) * 256 + b (4 * k + 1)) * 256 + b (4 * k + 2)) * 256 + b (4 * k + 3)) := rfl
      have h0 := hb'.out (4 * k)
      have h1 := hb'.out (4 * k + 1)
      have h2 := hb'.out (4 * k + 2)
      have h3 := hb'.out (4 * k + 3)
      generalize b (4 * k) = x0 at c0 h0 HS
      generalize b (4 * k + 1) = x1 at c1 h1 HS
      generalize b (4 * k + 2) = x2 at c2 h2 HS
      generalize b (4 * k + 3) = x3 at c3 h3 HS
      have i0 : (4 * (k : Int)).toNat = 4 * k := by omega
      have i1 : (4 * (k : Int) + 1).toNat = 4 * k + 1 := by omega
      have i2 : (4 * (k : Int) + 2).toNat = 4 * k + 2 := by omega
      have i3 : (4 * (k : Int) + 3).toNat = 4 * k + 3 := by omega
      obtain ⟨d1, hd1, hd1l, D1⟩ := or_nm (a := x0 * 16777216) (b := x1 * 65536) (by omega) (by omega)
      obtain ⟨d2, hd2, hd2l, D2⟩ := or_nm (a := d1) (b := x2 * 256) hd1l (by omega)
      obtain ⟨d3, hd3, hd3l, D3⟩ := or_nm (a := d2) (b := x3) hd2l (by omega)
      have hd1 : bits .or .u32 ((x0 : Int) * 16777216) ((x1 : Int) * 65536) = (d1 : Int) := by rw [← hd1]; simp
      have hd2 : bits .or .u32 (d1 : Int) ((x2 : Int) * 256) = (d2 : Int) := by rw [← hd2]; simp
      have HD : Hid (d3 = word b k) := by show _ = _; rw [HS.out, D3.out, D2.out, D1.out, or4 _ _ _ _ h1 h2 h3]
      clear D1 D2 D3 HS
      go_wp2
      go_region
      all_goals go_wp2
      go_roundw
      case rel =>
        refine ⟨k + 1, by omega, by go_num, ?_, (B1.setOther (fun e => n13 e.symm) _).drew, (B2.setOther (fun e => n23 e.symm) _).drew, (Z.setCell hg3 _).drew⟩
        have e2 : ((List.range k).map (word b) ++ List.replicate (64 - k) 0).set k d3 = (List.range (k + 1)).map (word b) ++ List.replicate (64 - (k + 1)) 0 := by
          have := set_snoc ((List.range k).map (word b)) (64 - (k + 1)) d3
          rw [List.length_map, List.length_range, show 64 - (k + 1) + 1 = 64 - k by omega] at this
          rw [this, range_snoc, HD.out]
        rw [← e2]
        exact (B3.setNum _ _).drew
      case measure => simp [intOf]; omega
    · obtain rfl : k = 16 := by omega
      have B3 : Blk wr g3 107 (nums .u32 (sched b 0 ++ List.replicate (48 - 0) 0)) := B3
      go_wp2
      go_loopw [9] (fun i wr => ∃ k : Nat, k ≤ 48 ∧ i = .int .i64 ((k + 16 : Nat) : Int) ∧ Blk wr g3 107 (nums .u32 (sched b k ++ List.replicate (48 - k) 0)) ∧ Blk wr g1 99 (nums .u32 s.l) ∧ Blk wr g2 99 (nums .u32 (List.replicate 8 0)) ∧ Below w.heap.size w wr) (fun i _ => 64 - (intOf i).toNat)
      case atStart => exact ⟨0, by omega, rfl, B3, B1, B2, Z⟩
      case round =>
        clear B1 B2 B3 Z
        obtain ⟨k, hk, rfl, C3, C1, C2, Z⟩ := hrel
        have hsl := sched_len b k
        by_cases hlt : k < 48
        · obtain ⟨wd, hwd⟩ : ∃ wd, Hid (wd = wr.drew) := ⟨_, rfl⟩
          have D1 := C1.drewTo hwd
          have D2 := C2.drewTo hwd
          have D3 := C3.drewTo hwd
          have Zd := below_drewTo Z hwd
          have d16 := D3.num k (by simp [hsl]; omega)
          have d7 := D3.num (k + 9) (by simp [hsl]; omega)
          rw [getD_left _ _ _ (by omega)] at d16 d7
          have cf := D3.frozen (k + 16)
          have cn := D3.num (k + 16) (by simp [hsl]; omega)
          generalize (sched b k ++ List.replicate (48 - k) 0).getD (k + 16) 0 = old at cn
          have c15 := C3.num (k + 1) (by simp [hsl]; omega)
          have c2 := C3.num (k + 14) (by simp [hsl]; omega)
          rw [getD_left _ _ _ (by omega)] at c15 c2
          have HS : Hid (sched b (k + 1) = sched b k ++ [((sched b k).getD k 0 + ss0 ((sched b k).getD (k + 1) 0) + (sched b k).getD (k + 9) 0 + ss1 ((sched b k).getD (k + 14) 0)) % 4294967296]) := by
            show _ = _
            rw [sched, next, hsl]; rfl
          have h15 := sched_get_lt b hb'.out k (k + 1)
          have h2 := sched_get_lt b hb'.out k (k + 14)
          have h16 := sched_get_lt b hb'.out k k
          have h7 := sched_get_lt b hb'.out k (k + 9)
          have Hsl : Hid ((sched b k).length = k + 16) := hsl
          clear hsl
          generalize (sched b k).getD (k + 1) 0 = x at c15 h15 HS
          generalize (sched b k).getD (k + 14) 0 = y at c2 h2 HS
          generalize (sched b k).getD k 0 = u at d16 h16 HS
          generalize (sched b k).getD (k + 9) 0 = v at d7 h7 HS
          have i15 : (((k : Int) + 16 - 15)).toNat = k + 1 := by omega
          have i2 : (((k : Int) + 16 - 2)).toNat = k + 14 := by omega
          have i16 : (((k : Int) + 16 - 16)).toNat = k := by omega
          have i7 : (((k : Int) + 16 - 7)).toNat = k + 9 := by omega
          obtain ⟨p1, hp1, hp1l, P1⟩ := xor_nm (rotr_lt x 7 h15) (rotr_lt x 18 h15)
          obtain ⟨p2, hp2, hp2l, P2⟩ : ∃ d : Nat, bits .xor .u32 (p1 : Int) ((x : Int) / 8) = (d : Int) ∧ d < 4294967296 ∧ Hid (d = p1 ^^^ x / 8) := xor_nm (b := x / 8) hp1l (by omega)
          obtain ⟨q1, hq1, hq1l, Q1⟩ := xor_nm (rotr_lt y 17 h2) (rotr_lt y 19 h2)
          obtain ⟨q2, hq2, hq2l, Q2⟩ : ∃ d : Nat, bits .xor .u32 (q1 : Int) ((y : Int) / 1024) = (d : Int) ∧ d < 4294967296 ∧ Hid (d = q1 ^^^ y / 1024) := xor_nm (b := y / 1024) hq1l (by omega)
          go_wp2
          have w16 : IntKind.i64.wrap ((k : Int) + 16 - 16) = (k : Int) := by rw [IntKind.wrap_i64]; omega
          have w7 : IntKind.i64.wrap ((k : Int) + 16 - 7) = ((k + 9 : Nat) : Int) := by rw [IntKind.wrap_i64]; omega
          have wk : IntKind.i64.wrap (k : Int) = (k : Int) := by rw [IntKind.wrap_i64]; omega
          have w9 : IntKind.i64.wrap ((k : Int) + 9) = ((k + 9 : Nat) : Int) := by rw [IntKind.wrap_i64]; omega
          have b16 : (k : Int) < 64 := by omega
          have b9 : (k : Int) + 9 < 64 := by omega
          have z9 : (0 : Int) ≤ (k : Int) + 9 := by omega
          have t9 : ((k : Int) + 9).toNat = k + 9 := by omega
          have b0 : (k : Int) + 16 < 64 := by omega
          have z0 : (0 : Int) ≤ (k : Int) + 16 := by omega
          have t0 : ((k : Int) + 16).toNat = k + 16 := by omega
          refine still_tail 29 (by kernel_rfl) (by kernel_rfl) wd hwd ?_
          simp only [List.take_succ_cons, List.take_zero, List.drop_succ_cons, List.drop_zero]
          repeat still_step
          still_call (r_lit x 7 h15 (by decide) _)
          repeat still_step
          still_call (r_lit x 18 h15 (by decide) _)
          repeat still_step
          still_call (r_lit y 17 h2 (by decide) _)
          repeat still_step
          still_call (r_lit y 19 h2 (by decide) _)
          repeat still_step
          refine wpStill_nil ?_
          refine st_num rfl 98 (.tmp 98) (.tmp 97) rfl g3 (k + 16) 107 .u32 (sched b k ++ List.replicate (48 - k) 0) _ ((u + p2 + v + q2) % 4294967296) rfl rfl ?_ D3 (by simp [Hsl.out]; omega) s40 ?_
          · simp only [IntKind.wrap_u32']; omega
          intro wz E3 Gz
          have E1 := D1.kept Gz (fun e => n13 (Option.some.inj e))
          have E2 := D2.kept Gz (fun e => n23 (Option.some.inj e))
          have Ez := Zd.grown Gz Zd.size (fun r e => by obtain rfl := Option.some.inj e; exact hg3)
          clear D1 D2 D3 Zd Gz d16 d7 cf cn c15 c2
          go_wp2
          refine ⟨?_, ?measure⟩
          iterate 44 apply Exists.intro
          refine ⟨?rel, rfl⟩
          case rel =>
            refine ⟨k + 1, by omega, by go_num, ?_, E1, E2, Ez⟩
            have e2 : (sched b k ++ List.replicate (48 - k) 0).set (k + 16) ((u + p2 + v + q2) % 4294967296) = sched b (k + 1) ++ List.replicate (48 - (k + 1)) 0 := by
              rw [show 48 - k = (48 - (k + 1)) + 1 by omega, ← Hsl.out, set_snoc, HS.out, P2.out, P1.out, Q2.out, Q1.out]; rfl
            rw [← e2]; exact E3
          case measure => simp [intOf]; omega
        · obtain rfl : k = N := by have := hN.out; omega
          rw [show 48 - k = 0 by omega, List.replicate_zero, List.append_nil] at C3
          have hSl : Hid ((sched b k).length = 64) := by show _ = _; rw [hsl, hN.out]
          have hSb : Hid (∀ i, (sched b k).getD i 0 < 4294967296) := fun i => sched_get_lt b hb'.out k i
          clear hsl
          generalize hWW : sched b k = W at hSl hSb C3
          have HWW : Hid (sched b k = W) := hWW
          clear hWW
          have I1 : Hid ((Tryz.prog.info? 99).map (·.size) = some (nums .u32 s.l).length) := by show _ = _; rw [nums_length, l_len]; exact s41
          have N1 : Hid ((nums .u32 s.l).length = (nums .u32 (List.replicate 8 0)).length) := by show _ = _; rw [nums_length, nums_length, l_len, List.length_replicate]
          go_wp2_with (first | (refine ld_all rfl 99 (.tmp 3) rfl g1 99 _ 8 98 rfl C1 Tryz.underlying99 I1.out ?_) | (refine al_zero rfl 99 rfl _ z41 ?_))
          intro g4 w4 l4 C4 G4
          have n14 : g1 ≠ g4 := by have := C1.lt; omega
          have n24 : g2 ≠ g4 := by have := C2.lt; omega
          have n34 : g3 ≠ g4 := by have := C3.lt; omega
          have hg4 : w.heap.size ≤ g4 := Nat.le_trans Z.size l4
          have C1 := C1.kept G4 (by simp)
          have C2 := C2.kept G4 (by simp)
          have C3 := C3.kept G4 (by simp)
          have Z := Z.grown G4 Z.size (by simp)
          clear G4
          go_wp2_with (refine st_all rfl 99 (.tmp 12) (.tmp 99) rfl g4 99 _ (nums .u32 s.l) rfl rfl C4 N1.out I1.out (nums_one _ _) ?_)
          intro w5 C4 G5
          have iv : Inv s W s g1 g2 g3 g4 w w5 := ⟨C1.kept G5 (fun e => n14 (Option.some.inj e)), C2.kept G5 (fun e => n24 (Option.some.inj e)), C3.kept G5 (fun e => n34 (Option.some.inj e)), C4, Z.grown G5 Z.size (fun r e => by obtain rfl := Option.some.inj e; exact hg4)⟩
          clear C1 C2 C3 C4 Z G5 I1 N1
          go_wp2
          go_loopw [13] (fun i wr => ∃ j : Nat, j ≤ 64 ∧ i = .int .i64 (j : Int) ∧ Inv s W (run s W j) g1 g2 g3 g4 w wr) (fun i _ => 64 - (intOf i).toNat)
          case atStart => exact ⟨0, by omega, rfl, iv⟩
          case round =>
            clear iv
            obtain ⟨j, hj, rfl, iv⟩ := hrel
            by_cases hlt64 : j < 64
            · have hok : (run s W j).ok := run_ok hs.out W j
              have HS : Hid (run s W (j + 1) = Mt.step (run s W j) (K.getD j 0) (W.getD j 0)) := rfl
              have hx := hSb.out j
              have hkl := K_lt j
              have hKr : ∀ wq, Below w.heap.size w wq → wq.cell? ⟨kg, j, none⟩ = some (.int .u32 ((K.getD j 0 : Nat) : Int)) := fun wq z => (hK.below z hK.lt).num j (by rw [K_len]; exact hlt64)
              have HKr : Hid _ := hKr
              clear hKr
              generalize run s W j = r at iv hok HS
              generalize hxd : W.getD j 0 = x at hx HS
              generalize K.getD j 0 = c at hkl HS HKr
              have HX : Hid (W.getD j 0 = x) := hxd
              clear hxd
              obtain ⟨a, b1, c1, d, e, f, g, h⟩ := r
              obtain ⟨h1, h2, h3, h4, h5, h6, h7, h8⟩ := hok
              simp only at h1 h2 h3 h4 h5 h6 h7 h8
              obtain ⟨p1, hp1, hp1l, P1⟩ := xor_nm (rotr_lt e 6 h5) (rotr_lt e 11 h5)
              obtain ⟨p2, hp2, hp2l, P2⟩ := xor_nm hp1l (rotr_lt e 25 h5)
              obtain ⟨p3, hp3, hp3l, P3⟩ := and_nm h5 h6
              obtain ⟨p4, hp4, hp4l, P4⟩ := not_nm h5
              have hp4' : bits .xor .u32 (if IntKind.u32.signed = true then -1 else IntKind.u32.max) (e : Int) = (p4 : Int) := hp4
              obtain ⟨p5, hp5, hp5l, P5⟩ := and_nm hp4l h7
              obtain ⟨p6, hp6, hp6l, P6⟩ := xor_nm hp3l hp5l
              obtain ⟨q1, hq1, hq1l, Q1⟩ := xor_nm (rotr_lt a 2 h1) (rotr_lt a 13 h1)
              obtain ⟨q2, hq2, hq2l, Q2⟩ := xor_nm hq1l (rotr_lt a 22 h1)
              obtain ⟨q3, hq3, hq3l, Q3⟩ := and_nm h1 h2
              obtain ⟨q4, hq4, hq4l, Q4⟩ := and_nm h1 h3
              obtain ⟨q5, hq5, hq5l, Q5⟩ := xor_nm hq3l hq4l
              obtain ⟨q6, hq6, hq6l, Q6⟩ := and_nm h2 h3
              obtain ⟨q7, hq7, hq7l, Q7⟩ := xor_nm hq5l hq6l
              have v0 := iv.v 0 (by decide)
              have v4 := iv.v 4 (by decide)
              simp only [St.l, List.getD_cons_zero, List.getD_cons_succ] at v0 v4
              go_wp2
              go_quiet (fail)
              have iv := iv.drewN nq
              clear v0 v4
              generalize wr.drewN nq = wq at iv
              have v5 := iv.v 5 (by decide)
              have v6 := iv.v 6 (by decide)
              have v7 := iv.v 7 (by decide)
              simp only [St.l, List.getD_cons_zero, List.getD_cons_succ] at v5 v6 v7
              have hck := HKr.out wq iv.2.2.2.2
              have hcw := iv.2.2.1.num j (by have := hSl.out; omega)
              rw [HX.out] at hcw
              go_wp2
              go_quiet (exact Calls.quiet_of_same (r_lit _ _ (by assumption) (by decide) _))
              have iv := iv.drewN nq
              clear v5 v6 v7 hck hcw
              generalize wq.drewN nq = wp at iv
              have v1 := iv.v 1 (by decide)
              have v2 := iv.v 2 (by decide)
              simp only [St.l, List.getD_cons_zero, List.getD_cons_succ] at v1 v2
              go_wp2
              go_quiet (exact Calls.quiet_of_same (r_lit _ _ (by assumption) (by decide) _))
              have iv := iv.drewN nq
              clear v1 v2
              generalize wp.drewN nq = wo at iv
              have v1 := iv.v 1 (by decide)
              have v2 := iv.v 2 (by decide)
              have v3 := iv.v 3 (by decide)
              have v5 := iv.v 5 (by decide)
              have v6 := iv.v 6 (by decide)
              simp only [St.l, List.getD_cons_zero, List.getD_cons_succ] at v1 v2 v3 v5 v6
              have e1 : bs1 e = p2 := by rw [P2.out, P1.out]; rfl
              have e2 : cho e f g = p6 := by rw [P6.out, P3.out, P5.out, P4.out]; rfl
              have e3 : bs0 a = q2 := by rw [Q2.out, Q1.out]; rfl
              have e4 : maj a b1 c1 = q7 := by rw [Q7.out, Q5.out, Q3.out, Q4.out, Q6.out]; rfl
              have eT : tee ⟨a, b1, c1, d, e, f, g, h⟩ c x = (h + p2 + p6 + c + x) % 4294967296 := by rw [← e1, ← e2]; rfl
              have eU : you ⟨a, b1, c1, d, e, f, g, h⟩ = (q2 + q7) % 4294967296 := by rw [← e3, ← e4]; rfl
              have E0 : Hid ((((h : Int) + p2 + p6 + c + x) % 4294967296 + ((q2 : Int) + q7) % 4294967296) % 4294967296 = (((Mt.step ⟨a, b1, c1, d, e, f, g, h⟩ c x).a : Nat) : Int)) := by
                show _ = (((tee ⟨a, b1, c1, d, e, f, g, h⟩ c x + you ⟨a, b1, c1, d, e, f, g, h⟩) % 4294967296 : Nat) : Int)
                rw [eT, eU]; omega
              have E4 : Hid (((d : Int) + ((h : Int) + p2 + p6 + c + x) % 4294967296) % 4294967296 = (((Mt.step ⟨a, b1, c1, d, e, f, g, h⟩ c x).e : Nat) : Int)) := by
                show _ = (((d + tee ⟨a, b1, c1, d, e, f, g, h⟩ c x) % 4294967296 : Nat) : Int)
                rw [eT]; omega
              clear e1 e2 e3 e4 eT eU P1 P2 P3 P4 P5 P6 Q1 Q2 Q3 Q4 Q5 Q6 Q7
              have I1 : Hid ((Tryz.prog.info? 99).map (·.size) = some (nums .u32 (Mt.step ⟨a, b1, c1, d, e, f, g, h⟩ c x).l).length) := by show _ = _; rw [nums_length, l_len]; exact s41
              have N1 : Hid ((nums .u32 (Mt.step ⟨a, b1, c1, d, e, f, g, h⟩ c x).l).length = (nums .u32 (St.l ⟨a, b1, c1, d, e, f, g, h⟩)).length) := by show _ = _; rw [nums_length, nums_length, l_len, l_len]
              go_wp2_with (first | (refine bd_eight rfl 166 167 169 171 175 176 178 180 rfl (Mt.step ⟨a, b1, c1, d, e, f, g, h⟩ c x) (congrArg (Value.int .u32) E0.out) rfl rfl rfl (congrArg (Value.int .u32) E4.out) rfl rfl rfl ?_) | (refine st_all rfl 99 (.tmp 12) (.tmp 181) rfl g4 99 _ (nums .u32 (Mt.step ⟨a, b1, c1, d, e, f, g, h⟩ c x).l) rfl rfl iv.2.2.2.1 N1.out I1.out (nums_one _ _) ?_))
              intro wz E3 Gz
              have iv : Inv s W (Mt.step ⟨a, b1, c1, d, e, f, g, h⟩ c x) g1 g2 g3 g4 w wz := ⟨iv.1.kept Gz (fun e => n14 (Option.some.inj e)), iv.2.1.kept Gz (fun e => n24 (Option.some.inj e)), iv.2.2.1.kept Gz (fun e => n34 (Option.some.inj e)), E3, iv.2.2.2.2.grown Gz iv.2.2.2.2.size (fun r e => by obtain rfl := Option.some.inj e; exact hg4)⟩
              rw [← HS.out] at iv
              clear E3 Gz v1 v2 v3 v5 v6 E0 E4 I1 N1
              go_wp2
              go_roundw
              case rel => exact ⟨j + 1, by omega, by go_num, iv⟩
              case measure => simp [intOf]; omega
            · obtain rfl : j = M := by have := hM.out; omega
              generalize hrr : run s W j = r at iv
              have HR : Hid (run s W j = r) := hrr
              clear hrr
              obtain ⟨C1, C2, _, C4, Z⟩ := iv
              go_wp2
              go_loopw [18] (fun i wr => ∃ m : Nat, m ≤ 8 ∧ i = .int .i64 (m : Int) ∧ Blk wr g1 99 (nums .u32 (mixL s r m)) ∧ Blk wr g2 99 (nums .u32 (List.replicate 8 0)) ∧ Blk wr g4 99 (nums .u32 r.l) ∧ Below w.heap.size w wr) (fun i _ => 8 - (intOf i).toNat)
              case atStart => exact ⟨0, by omega, rfl, C1, C2, C4, Z⟩
              case round =>
                clear C1 C2 C4 Z
                obtain ⟨m, hm, rfl, C1, C2, C4, Z⟩ := hrel
                by_cases hlt8 : m < 8
                · have hc := C1.num m (by rw [mixL_len]; exact hlt8)
                  have hv := C4.num m hlt8
                  have hf := C1.frozen m
                  have HS : Hid (mixL s r (m + 1) = (mixL s r m).set m (((mixL s r m).getD m 0 + r.l.getD m 0) % 4294967296)) := rfl
                  generalize r.l.getD m 0 = x at hv HS
                  generalize (mixL s r m).getD m 0 = y at hc HS
                  go_wp2
                  go_region
                  all_goals go_wp2
                  go_roundw
                  case rel =>
                    refine ⟨m + 1, by omega, by go_num, ?_, (C2.setOther n12 _).drew, (C4.setOther n14 _).drew, (Z.setCell hg1 _).drew⟩
                    rw [HS.out, show ((y : Int) + (x : Int)) % 4294967296 = (((y + x) % 4294967296 : Nat) : Int) by omega]
                    exact (C1.setNum _ _).drew
                  case measure => simp [intOf]; omega
                · obtain rfl : m = 8 := by omega
                  rw [mixL_end] at C1
                  have IV : Hid ((Tryz.prog.info? 99).map (·.size) = some (nums .u32 (plus s r).l).length) := by show _ = _; rw [nums_length, l_len]; exact s41
                  have NV : Hid ((nums .u32 (plus s r).l).length = (nums .u32 (List.replicate 8 0)).length) := by show _ = _; rw [nums_length, nums_length, l_len, List.length_replicate]
                  go_wp2_with (first | (refine ld_all rfl 99 (.tmp 3) rfl g1 99 _ 8 98 rfl C1 Tryz.underlying99 IV.out ?_) | (refine st_all rfl 99 (.tmp 6) (.tmp 195) rfl g2 99 _ (nums .u32 (plus s r).l) rfl rfl C2 NV.out IV.out (nums_one _ _) ?_))
                  intro w8 D3 G8
                  go_wp2
                  (try simp only [Exit.inBlock, Exit.then])
                  refine bodyPost_ret (res_row rfl _ g2 99 _ _ rfl D3 Tryz.underlying99 rfl IV.out) rfl ⟨by rw [HWW.out, HR.out], Z.grown G8 Z.size (fun r e => by obtain rfl := Option.some.inj e; exact hg2)⟩
end Go.Proofs.YtlefdnjokppibaaGreatDoor.Sh
