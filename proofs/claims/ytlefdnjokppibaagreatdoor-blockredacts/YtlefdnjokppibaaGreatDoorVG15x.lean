/-
  The two tables of the program as array literals: the rounds' numbers, the first state; and the law on an array literal. · The contract of digest.stir: the state once a block has gone through the rounds.
-/
import Derived.Test.YtlefdnjokppibaaGreatDoorVG13x
import Derived.Test.YtlefdnjokppibaaGreatDoorVG14x
namespace Go.Proofs.YtlefdnjokppibaaGreatDoor.Sh
open Go.RowKit Mt
def kParts : Array (Nat × Operand) := #[(0, .const (.int .u32 1116352408)), (1, .const (.int .u32 1899447441)), (2, .const (.int .u32 3049323471)), (3, .const (.int .u32 3921009573)), (4, .const (.int .u32 961987163)), (5, .const (.int .u32 1508970993)), (6, .const (.int .u32 2453635748)), (7, .const (.int .u32 2870763221)), (8, .const (.int .u32 3624381080)), (9, .const (.int .u32 310598401)), (10, .const (.int .u32 607225278)), (11, .const (.int .u32 1426881987)), (12, .const (.int .u32 1925078388)), (13, .const (.int .u32 2162078206)), (14, .const (.int .u32 2614888103)), (15, .const (.int .u32 3248222580)), (16, .const (.int .u32 3835390401)), (17, .const (.int .u32 4022224774)), (18, .const (.int .u32 264347078)), (19, .const (.int .u32 604807628)), (20, .const (.int .u32 770255983)), (21, .const (.int .u32 1249150122)), (22, .const (.int .u32 1555081692)), (23, .const (.int .u32 1996064986)), (24, .const (.int .u32 2554220882)), (25, .const (.int .u32 2821834349)), (26, .const (.int .u32 2952996808)), (27, .const (.int .u32 3210313671)), (28, .const (.int .u32 3336571891)), (29, .const (.int .u32 3584528711)), (30, .const (.int .u32 113926993)), (31, .const (.int .u32 338241895)), (32, .const (.int .u32 666307205)), (33, .const (.int .u32 773529912)), (34, .const (.int .u32 1294757372)), (35, .const (.int .u32 1396182291)), (36, .const (.int .u32 1695183700)), (37, .const (.int .u32 1986661051)), (38, .const (.int .u32 2177026350)), (39, .const (.int .u32 2456956037)), (40, .const (.int .u32 2730485921)), (41, .const (.int .u32 2820302411)), (42, .const (.int .u32 3259730800)), (43, .const (.int .u32 3345764771)), (44, .const (.int .u32 3516065817)), (45, .const (.int .u32 3600352804)), (46, .const (.int .u32 4094571909)), (47, .const (.int .u32 275423344)), (48, .const (.int .u32 430227734)), (49, .const (.int .u32 506948616)), (50, .const (.int .u32 659060556)), (51, .const (.int .u32 883997877)), (52, .const (.int .u32 958139571)), (53, .const (.int .u32 1322822218)), (54, .const (.int .u32 1537002063)), (55, .const (.int .u32 1747873779)), (56, .const (.int .u32 1955562222)), (57, .const (.int .u32 2024104815)), (58, .const (.int .u32 2227730452)), (59, .const (.int .u32 2361852424)), (60, .const (.int .u32 2428436474)), (61, .const (.int .u32 2756734187)), (62, .const (.int .u32 3204031479)), (63, .const (.int .u32 3329325298))]
def iParts : Array (Nat × Operand) := #[(0, .const (.int .u32 1779033703)), (1, .const (.int .u32 3144134277)), (2, .const (.int .u32 1013904242)), (3, .const (.int .u32 2773480762)), (4, .const (.int .u32 1359893119)), (5, .const (.int .u32 2600822924)), (6, .const (.int .u32 528734635)), (7, .const (.int .u32 1541459225))]
theorem bd_row {P : Program} {ops : Array Oper} {rest : List Oper} {o : Oper} {a : Act} {w : World} {Q : Exit → Act → World → Prop} (hg : o.guard = none) (t : TypeId) (parts : Array (Nat × Operand)) (ho : o.op = .build t parts) (cs : List Value)
    (hf : P.built t (parts.map fun p => (p.1, a.eval p.2)).toList = some cs.toArray) (h : wpList P ops Q rest (a.put o.dst (.agg cs.toArray)) w) : wpList P ops Q (o :: rest) a w :=
  wpList_plain hg fun _ hK => by
    have e : P.built t (parts.map fun (i, x) => (i, a.eval x)).toList = some cs.toArray := hf
    exact wp_build t parts ho (by rw [e]; rfl) (by rw [e]; exact hK _ _ h)
theorem k_built (a : Act) : Tryz.prog.built 107 (kParts.map fun p => (p.1, a.eval p.2)).toList = some (nums .u32 K).toArray := by kernel_rfl
theorem i_built (a : Act) : Tryz.prog.built 99 (iParts.map fun p => (p.1, a.eval p.2)).toList = some (nums .u32 init.l).toArray := by kernel_rfl
theorem v_built (a b c d e f g h : Nat) : Tryz.prog.built 99 [(0, .int .u32 (a : Int)), (1, .int .u32 (b : Int)), (2, .int .u32 (c : Int)), (3, .int .u32 (d : Int)), (4, .int .u32 (e : Int)), (5, .int .u32 (f : Int)), (6, .int .u32 (g : Int)), (7, .int .u32 (h : Int))] = some (nums .u32 [a, b, c, d, e, f, g, h]).toArray := by kernel_rfl
theorem bd_eight {ops : Array Oper} {rest : List Oper} {o : Oper} {a : Act} {w : World} {Q : Exit → Act → World → Prop} (hg : o.guard = none) (t0 t1 t2 t3 t4 t5 t6 t7 : Nat)
    (ho : o.op = .build 99 #[(0, .tmp t0), (1, .tmp t1), (2, .tmp t2), (3, .tmp t3), (4, .tmp t4), (5, .tmp t5), (6, .tmp t6), (7, .tmp t7)]) (r : St)
    (h0 : a.eval (.tmp t0) = .int .u32 (r.a : Int)) (h1 : a.eval (.tmp t1) = .int .u32 (r.b : Int)) (h2 : a.eval (.tmp t2) = .int .u32 (r.c : Int)) (h3 : a.eval (.tmp t3) = .int .u32 (r.d : Int))
    (h4 : a.eval (.tmp t4) = .int .u32 (r.e : Int)) (h5 : a.eval (.tmp t5) = .int .u32 (r.f : Int)) (h6 : a.eval (.tmp t6) = .int .u32 (r.g : Int)) (h7 : a.eval (.tmp t7) = .int .u32 (r.h : Int))
    (h : wpList Tryz.prog ops Q rest (a.put o.dst (.agg (nums .u32 r.l).toArray)) w) : wpList Tryz.prog ops Q (o :: rest) a w := by
  refine bd_row hg 99 _ ho (nums .u32 r.l) ?_ h
  simp only [List.map_toArray, List.map_cons, List.map_nil, h0, h1, h2, h3, h4, h5, h6, h7]
  exact v_built _ _ _ _ _ _ _ _
end Go.Proofs.YtlefdnjokppibaaGreatDoor.Sh
namespace Go.Proofs.YtlefdnjokppibaaGreatDoor.Sh
open Go.RowKit Mt
/-- What a round's operations on digits yield, each under a name. -/
theorem xor_nm {a b : Nat} (ha : a < 4294967296) (hb : b < 4294967296) : ∃ d : Nat, bits .xor .u32 (a : Int) (b : Int) = (d : Int) ∧ d < 4294967296 ∧ Hid (d = a ^^^ b) := ⟨_, u32_xor_nat a b ha hb, xor_lt ha hb, rfl⟩
theorem and_nm {a b : Nat} (ha : a < 4294967296) (hb : b < 4294967296) : ∃ d : Nat, bits .and .u32 (a : Int) (b : Int) = (d : Int) ∧ d < 4294967296 ∧ Hid (d = a &&& b) := ⟨_, u32_and_nat a b ha hb, and_lt ha, rfl⟩
theorem not_nm {c : Nat} (h : c < 4294967296) : ∃ d : Nat, bits .xor .u32 IntKind.u32.max (c : Int) = (d : Int) ∧ d < 4294967296 ∧ Hid (d = 4294967295 - c) := by
  refine ⟨4294967295 - c, ?_, by omega, rfl⟩
  show IntKind.u32.wrap ((BitVec.ofInt 32 4294967295 ^^^ BitVec.ofInt 32 (c : Int)).toNat : Int) = _
  rw [show BitVec.ofInt 32 4294967295 = BitVec.allOnes 32 by decide, BitVec.allOnes_xor, BitVec.toNat_not, BitVec.ofInt_natCast, BitVec.toNat_ofNat, Nat.mod_eq_of_lt (by omega), IntKind.wrap_u32']
  omega
/-- The state's words, the first so many grown. -/
def mixL (s v : St) : Nat → List Nat
  | 0 => s.l
  | k + 1 => (mixL s v k).set k (add32 ((mixL s v k).getD k 0) (v.l.getD k 0))
theorem mixL_len (s v : St) : ∀ k, (mixL s v k).length = 8
  | 0 => rfl
  | k + 1 => by rw [mixL, List.length_set, mixL_len s v k]
theorem mixL_end (s v : St) : mixL s v 8 = (plus s v).l := rfl

set_option maxHeartbeats 1000000 in
set_option maxRecDepth 8000 in
theorem stir_any (s : St) (hs : Hid s.ok) (bl : List Nat) (b : Nat → Nat) (hl : bl.length = 64) (hB : Hid (∀ i, bl.getD i 0 = b i)) (hb' : Hid (∀ i, b i < 256)) (N : Nat) (hN : Hid (N = 48)) (M : Nat) (hM : Hid (M = 64)) (w : World) :
    Calls Tryz.prog 86 #[.agg (nums .u32 s.l).toArray, .agg (nums .u8 bl).toArray] w fun e w' => e = .returned (.agg (nums .u32 (plus s (run s (sched b N) M)).l).toArray) ∧ Below w.heap.size w w' := by
  go_enter Tryz.func86, Tryz.ntmps86
  go_wp2_with (refine al_box rfl 99 (.tmp 0) rfl (nums .u32 s.l) rfl ?_)
  intro g1 w1 l1 B1 G1
  go_wp2_with (refine al_box rfl 100 (.tmp 1) rfl (nums .u8 bl) rfl ?_)
  intro g2 w2 l2 B2 G2
  have hg1 := l1
  have Z := ((Below.refl w.heap.size w).grown G1 (Nat.le_refl _) (by simp)).grown G2 G1.size (by simp)
  have B1 := B1.kept G2 (by simp)
  clear G1 G2
  go_wp2_with (refine al_zero rfl 99 rfl _ z41 ?_)
  intro g3 w3 l3 B3 G3
  have n13 : g1 ≠ g3 := by have := B1.lt; omega
  have B1 := B1.kept G3 (by simp)
  have B2 := B2.kept G3 (by simp)
  have hg3 : w.heap.size ≤ g3 := Nat.le_trans Z.size l3
  have Z := Z.grown G3 Z.size (by simp)
  clear G3
  go_wp2_with (first | (refine bd_row rfl 107 kParts rfl (nums .u32 K) (k_built _) ?_) | (refine al_zero rfl 107 rfl _ z50 ?_))
  intro g4 w4 l4 B4 G4
  have n14 : g1 ≠ g4 := by have := B1.lt; omega
  have n24 : g2 ≠ g4 := by have := B2.lt; omega
  have n34 : g3 ≠ g4 := by have := B3.lt; omega
  have B1 := B1.kept G4 (by simp)
  have B2 := B2.kept G4 (by simp)
  have B3 := B3.kept G4 (by simp)
  have hg4 : w.heap.size ≤ g4 := Nat.le_trans Z.size l4
  have Z := Z.grown G4 Z.size (by simp)
  clear G4
  have NK : Hid ((nums .u32 K).length = (nums .u32 (List.replicate 64 0)).length) := by show _ = _; rw [nums_length, nums_length, K_len, List.length_replicate]
  have IK : Hid ((Tryz.prog.info? 107).map (·.size) = some (nums .u32 K).length) := by show _ = _; rw [nums_length, K_len]; exact s50
  go_wp2_with (refine st_all rfl 107 (.tmp 5) (.tmp 20) rfl g4 107 _ (nums .u32 K) rfl rfl B4 NK.out IK.out (nums_one _ _) ?_)
  intro w5 B4 G5
  have B1 := B1.kept G5 (fun e => n14 (Option.some.inj e))
  have B2 := B2.kept G5 (fun e => n24 (Option.some.inj e))
  have B3 := B3.kept G5 (fun e => n34 (Option.some.inj e))
  have Z := Z.grown G5 Z.size (fun r e => by obtain rfl := Option.some.inj e; exact hg4)
  clear G5 NK IK
  have c0 := B1.num 0 (by rw [l_len]; decide)
  have c1 := B1.num 1 (by rw [l_len]; decide)
  have c2 := B1.num 2 (by rw [l_len]; decide)
  have c3 := B1.num 3 (by rw [l_len]; decide)
  have c4 := B1.num 4 (by rw [l_len]; decide)
  have c5 := B1.num 5 (by rw [l_len]; decide)
  have c6 := B1.num 6 (by rw [l_len]; decide)
  have c7 := B1.num 7 (by rw [l_len]; decide)
  simp only [St.l, List.getD_cons_zero, List.getD_cons_succ] at c0 c1 c2 c3 c4 c5 c6 c7
  go_wp2
  go_quiet (fail)
  go_wp2
  go_quiet (fail)
  have I42 : Hid ((Tryz.prog.info? 100).map (·.size) = some (nums .u8 bl).length) := by show _ = _; rw [nums_length, hl]; exact s42
  clear c0 c1 c2 c3 c4 c5 c6 c7
  go_wp2_with (refine ld_all rfl 100 (.tmp 3) rfl g2 100 (nums .u8 bl) 64 5 rfl ((B2.drewN _).drewN _) Tryz.underlying100 I42.out ?_)
  refine (spread_any bl b hl hB hb' N hN _).mono ?_; rintro e w6 ⟨rfl, Z6⟩
  have B1 := (B1.drewN _).below Z6 (B1.drewN _).lt
  have B3 := (B3.drewN _).below Z6 (B3.drewN _).lt
  have B4 := (B4.drewN _).below Z6 (B4.drewN _).lt
  have Z := (below_drewN Z _).trans (Z6.mono Z.size)
  have hSl : Hid ((sched b N).length = 64) := by show _ = _; rw [sched_len, hN.out]
  have hSb : Hid (∀ i, (sched b N).getD i 0 < 4294967296) := fun i => sched_get_lt b hb'.out N i
  clear Z6 I42 B2
  generalize hWW : sched b N = W at hSl hSb
  have HWW : Hid (sched b N = W) := hWW
  clear hWW
  go_wp2
  go_loopw [6, 7, 8, 9, 10, 11, 12, 13, 39] (fun v1 v2 v3 v4 v5 v6 v7 v8 i wr => ∃ (k q : Nat) (r : St), k ≤ 64 ∧ i = .int .i64 k ∧ r = run s W k ∧ v1 = .int .u32 r.a ∧ v2 = .int .u32 r.b ∧ v3 = .int .u32 r.c ∧ v4 = .int .u32 r.d ∧ v5 = .int .u32 r.e ∧ v6 = .int .u32 r.f ∧ v7 = .int .u32 r.g ∧ v8 = .int .u32 r.h ∧ wr = w6.drewN q) (fun _ _ _ _ _ _ _ _ i _ => 64 - (intOf i).toNat)
  case atStart => exact ⟨0, 0, s, by omega, rfl, rfl, rfl, rfl, rfl, rfl, rfl, rfl, rfl, rfl, rfl⟩
  case round =>
    obtain ⟨k, q, r, hk, rfl, hr, rfl, rfl, rfl, rfl, rfl, rfl, rfl, rfl, rfl⟩ := hrel
    have HR : Hid (r = run s W k) := hr
    clear hr
    by_cases hlt : k < 64
    · have hok : r.ok := by rw [HR.out]; exact run_ok hs.out W k
      have hxe := idx_run (P := Tryz.prog) Tryz.underlying107 Tryz.sizeOf98 Tryz.isAgg98 .u32 W k hlt (by have := hSl.out; omega) (w6.drewN q)
      have hck := (B4.drewN q).num k (by rw [K_len]; exact hlt)
      obtain ⟨wq, hwq⟩ : ∃ wq, wq = w6.drewN q := ⟨_, rfl⟩
      rw [← hwq] at hck hxe ⊢
      have HW : Hid (wq = w6.drewN q) := hwq
      clear hwq
      have hx := hSb.out k
      have HS : Hid (run s W (k + 1) = Mt.step r (K.getD k 0) (W.getD k 0)) := by show _ = _; rw [HR.out]; rfl
      have hkl := K_lt k
      generalize W.getD k 0 = x at hxe hx HS
      generalize K.getD k 0 = c at hck hkl HS
      obtain ⟨a, b1, c1, d, e, f, g, h⟩ := r
      obtain ⟨h1, h2, h3, h4, h5, h6, h7, h8⟩ := hok
      clear HR
      simp only at h1 h2 h3 h4 h5 h6 h7 h8
      obtain ⟨p1, hp1, hp1l, P1⟩ := xor_nm (rotr_lt e 6 h5) (rotr_lt e 11 h5)
      obtain ⟨p2, hp2, hp2l, P2⟩ := xor_nm hp1l (rotr_lt e 25 h5)
      obtain ⟨p3, hp3, hp3l, P3⟩ := and_nm h5 h6
      obtain ⟨p4, hp4, hp4l, P4⟩ := not_nm h5
      have hp4' : bits .xor .u32 (if IntKind.u32.signed = true then -1 else IntKind.u32.max) (e : Int) = (p4 : Int) := hp4
      obtain ⟨p5, hp5, hp5l, P5⟩ := and_nm hp4l h7
      obtain ⟨p6, hp6, hp6l, P6⟩ := xor_nm hp3l hp5l
      obtain ⟨q1, hq1, hq1l, Q1⟩ := xor_nm (rotr_lt a 2 h1) (rotr_lt a 13 h1)
      obtain ⟨q2, hq2, hq2l, Q2⟩ := xor_nm hq1l (rotr_lt a 22 h1)
      obtain ⟨q3, hq3, hq3l, Q3⟩ := and_nm h1 h2
      obtain ⟨q4, hq4, hq4l, Q4⟩ := and_nm h1 h3
      obtain ⟨q5, hq5, hq5l, Q5⟩ := xor_nm hq3l hq4l
      obtain ⟨q6, hq6, hq6l, Q6⟩ := and_nm h2 h3
      obtain ⟨q7, hq7, hq7l, Q7⟩ := xor_nm hq5l hq6l
      go_wp2
      go_quiet (exact Calls.quiet_of (turn_lit _ _ (by assumption) (by decide) _))
      go_wp2_with (go_at_call 106; go_must (refine (turn_lit _ _ (by assumption) (by decide) _).mono ?_; rintro e w' ⟨rfl, m, rfl⟩))
      go_roundw
      case rel =>
        have e1 : bs1 e = p2 := by rw [P2.out, P1.out]; rfl
        have e2 : cho e f g = p6 := by rw [P6.out, P3.out, P5.out, P4.out]; rfl
        have e3 : bs0 a = q2 := by rw [Q2.out, Q1.out]; rfl
        have e4 : maj a b1 c1 = q7 := by rw [Q7.out, Q5.out, Q3.out, Q4.out, Q6.out]; rfl
        have eT : tee ⟨a, b1, c1, d, e, f, g, h⟩ c x = (h + p2 + p6 + c + x) % 4294967296 := by rw [← e1, ← e2]; rfl
        have eU : you ⟨a, b1, c1, d, e, f, g, h⟩ = (q2 + q7) % 4294967296 := by rw [← e3, ← e4]; rfl
        refine ⟨k + 1, _, Mt.step ⟨a, b1, c1, d, e, f, g, h⟩ c x, by omega, by go_num, HS.out.symm, ?_, rfl, rfl, rfl, ?_, rfl, rfl, rfl, (congrArg (fun w : World => w.drewN _) HW.out).trans (World.drewN_drewN _ _ _)⟩
        · show _ = Value.int .u32 (((tee ⟨a, b1, c1, d, e, f, g, h⟩ c x + you ⟨a, b1, c1, d, e, f, g, h⟩) % 4294967296 : Nat) : Int)
          rw [eT, eU]; congr 1
        · show _ = Value.int .u32 (((d + tee ⟨a, b1, c1, d, e, f, g, h⟩ c x) % 4294967296 : Nat) : Int)
          rw [eT]; congr 1
      case measure => simp [intOf]; omega
    · obtain rfl : k = M := by have := hM.out; omega
      have B1 := B1.drewN q
      have B3 := B3.drewN q
      have Z := below_drewN Z q
      generalize w6.drewN q = w7 at B1 B3 Z
      have HV : Hid (plus s r = plus s (run s W k)) := by show _ = _; rw [HR.out]
      go_wp2_with (refine bd_eight rfl 101 102 103 104 105 106 107 108 rfl r rfl rfl rfl rfl rfl rfl rfl rfl ?_)
      go_loopw [110] (fun i wr => ∃ j : Nat, j ≤ 8 ∧ i = .int .i64 j ∧ Blk wr g1 99 (nums .u32 (mixL s r j)) ∧ Blk wr g3 99 (nums .u32 (List.replicate 8 0)) ∧ Below w.heap.size w wr) (fun i _ => 8 - (intOf i).toNat)
      case atStart => exact ⟨0, by omega, rfl, B1, B3, Z⟩
      case round =>
        clear B1 B3 Z
        obtain ⟨j, hj, rfl, C1, C3, Z⟩ := hrel
        by_cases hlt8 : j < 8
        · have hxe := idx_run (P := Tryz.prog) Tryz.underlying99 Tryz.sizeOf98 Tryz.isAgg98 .u32 r.l j hlt8 hlt8 wr
          have hc := C1.num j (by rw [mixL_len]; exact hlt8)
          have hf := C1.frozen j
          have HS : Hid (mixL s r (j + 1) = (mixL s r j).set j (((mixL s r j).getD j 0 + r.l.getD j 0) % 4294967296)) := rfl
          generalize r.l.getD j 0 = x at hxe HS
          generalize (mixL s r j).getD j 0 = y at hc HS
          go_wp2
          go_roundw
          case rel =>
            refine ⟨j + 1, by omega, by go_num, ?_, C3.setOther n13 _, Z.setCell hg1 _⟩
            rw [HS.out, show ((y : Int) + (x : Int)) % 4294967296 = (((y + x) % 4294967296 : Nat) : Int) by omega]
            exact C1.setNum _ _
          case measure => simp [intOf]; omega
        · obtain rfl : j = 8 := by omega
          rw [mixL_end, HV.out] at C1
          have IV : Hid ((Tryz.prog.info? 99).map (·.size) = some (nums .u32 (plus s (run s W k)).l).length) := by show _ = _; rw [nums_length, l_len]; exact s41
          have NV : Hid ((nums .u32 (plus s (run s W k)).l).length = (nums .u32 (List.replicate 8 0)).length) := by show _ = _; rw [nums_length, nums_length, l_len, List.length_replicate]
          go_wp2_with (first | (refine ld_all rfl 99 (.tmp 2) rfl g1 99 _ 8 98 rfl C1 Tryz.underlying99 IV.out ?_) | (refine st_all rfl 99 (.tmp 4) (.tmp 121) rfl g3 99 _ (nums .u32 (plus s (run s W k)).l) rfl rfl C3 NV.out IV.out (nums_one _ _) ?_))
          intro w8 D3 G8
          go_wp2
          (try simp only [Exit.inBlock, Exit.then])
          refine bodyPost_ret (res_row rfl _ g3 99 _ _ rfl D3 Tryz.underlying99 rfl IV.out) rfl ⟨by rw [HWW.out], Z.grown G8 Z.size (fun r e => by obtain rfl := Option.some.inj e; exact hg3)⟩
end Go.Proofs.YtlefdnjokppibaaGreatDoor.Sh
