/-
  The contract of the document's own Sum: SHA-256 of its bytes.
-/
import Derived.Test.YtlefdnjokppibaaGreatDoorVSBlock
import Derived.Test.YtlefdnjokppibaaGreatDoorVG17x
namespace Go.Proofs.YtlefdnjokppibaaGreatDoor.Sh
open Go.RowKit Mt
set_option maxHeartbeats 1000000 in
set_option maxRecDepth 8000 in
theorem k_any (w : World) : Calls Tryz.prog 65 #[] w fun e w' => e = .returned (.agg (nums .u32 K).toArray) ∧ Below w.heap.size w w' := by
  have NK : Hid ((nums .u32 K).length = (nums .u32 (List.replicate 64 0)).length) := by show _ = _; rw [nums_length, nums_length, K_len, List.length_replicate]
  have IK : Hid ((Tryz.prog.info? 107).map (·.size) = some (nums .u32 K).length) := by show _ = _; rw [nums_length, K_len]; exact s50
  go_enter Tryz.func65, Tryz.ntmps65
  go_wp2_with (refine al_zero rfl 107 rfl _ z50 ?_)
  intro g1 w1 l1 B1 G1
  go_wp2_with (first | (refine bd_row rfl 107 kParts rfl (nums .u32 K) (k_built _) ?_) | (refine st_all rfl 107 (.tmp 0) (.tmp 1) rfl g1 107 _ (nums .u32 K) rfl rfl B1 NK.out IK.out (nums_one _ _) ?_))
  intro w2 B2 G2
  go_wp2
  (try simp only [Exit.inBlock, Exit.then])
  refine bodyPost_ret (res_row rfl _ g1 107 _ _ rfl B2 Tryz.underlying107 rfl IK.out) rfl ⟨rfl, ((Below.refl w.heap.size w).grown G1 (Nat.le_refl _) (by simp)).grown G2 G1.size (fun r e => by obtain rfl := Option.some.inj e; exact l1)⟩
theorem still_ld {P : Program} {ops : Array Oper} {rest : List Oper} {op : Oper} {a : Act} {w : World} {Q : Act → Prop} (hg : op.guard = none) (ty : TypeId) (x : Operand) (ho : op.op = .load ty x)
    (b o : Nat) (hx : a.eval x = .pointer (some ⟨b, o, none⟩)) (cs : List Value) (d : TypeDesc) (hc : w.rangeAt b o cs)
    (hu : P.underlying ty = some d) (hd : d.isRow = true) (hi : (P.info? ty).map (·.size) = some cs.length)
    (h : wpStill P ops w Q rest (a.put op.dst (.agg cs.toArray))) : wpStill P ops w Q (op :: rest) a := by
  refine wpStill_step fun K hK => ?_
  rw [if_pos (by simp [Region.wanted, hg])]
  have hr : (execOp a.eval op).run P w = .ok (.value (.agg cs.toArray)) w := by
    unfold execOp
    simp only [ho, hx, Instr.loadAt, Instr.sureAddr, Sem.run_bind, Sem.run_pure, Result.andThen_ok, run_loadVar_mid w b o ty cs d hc hu hd hi]
  unfold Oper.still
  rw [hr, Oper.stillUpon_value]
  exact hK _ h
theorem pad_oct (n : Nat) : ∀ x ∈ pad n, x < 256 := by
  intro x hx
  unfold pad at hx
  rcases List.mem_cons.1 hx with rfl | hx
  · decide
  rcases List.mem_append.1 hx with hx | hx
  · obtain ⟨_, rfl⟩ := List.mem_replicate.1 hx; decide
  · obtain ⟨i, _, rfl⟩ := List.mem_map.1 hx; exact Nat.mod_lt _ (by decide)
/-- The digest's bytes, the first so many. -/
def outs (S : St) (i : Nat) : List Nat := (List.range i).map (out S) ++ List.replicate (32 - i) 0
theorem outs_len (S : St) (i : Nat) (h : i ≤ 32) : (outs S i).length = 32 := by simp [outs]; omega
theorem outs_set (S : St) (i : Nat) (h : i < 32) : (outs S i).set i (out S i) = outs S (i + 1) := by
  have := set_snoc ((List.range i).map (out S)) (32 - (i + 1)) (out S i)
  rw [List.length_map, List.length_range, show 32 - (i + 1) + 1 = 32 - i by omega] at this
  unfold outs
  rw [this, range_snoc]

/-- What stands in memory while the blocks go. -/
def Riv (msg : List Nat) (g1 g2 g3 gm : Nat) (w0 : World) (j : Nat) (wr : World) : Prop :=
  Blk wr g1 23 (nums .u8 (List.replicate 32 0)) ∧ Blk wr g2 99 (nums .u32 (blk msg j).l) ∧ Blk wr g3 107 (nums .u32 K) ∧ Cells wr gm 0 msg ∧ Below w0.heap.size w0 wr
set_option maxHeartbeats 1500000 in
set_option maxRecDepth 8000 in
theorem rsum_any (a0 : Option Addr) (cap : Nat) (l : List Nat) (hn : l.length ≤ 100000) (w : World) (hc : Byt w a0 l) (hnil : a0 = none → cap = 0) (ho : Hid (Oct l)) :
    Calls Tryz.prog 35 #[.slice a0 l.length cap] w fun e w' => e = .returned (.agg (nums .u8 (D l)).toArray) ∧ Below w.heap.size w w' := by
  obtain ⟨Z, hZ⟩ : ∃ Z : Nat, Hid (Z = (119 - l.length % 64) % 64) := ⟨_, rfl⟩
  have hZ1 : Hid ((l.length + 1 + Z) % 64 = 56 ∧ Z < 64 ∧ ∀ z, z < Z → (l.length + 1 + z) % 64 ≠ 56) := by
    have := hZ.out
    exact ⟨by omega, by omega, fun z hz => by omega⟩
  have HP : Hid (128 :: (List.replicate Z 0 ++ be8 (8 * l.length)) = pad l.length) := pad_eq l.length Z hZ
  clear hZ
  go_enter Tryz.func35, Tryz.ntmps35
  go_wp2_with (refine al_zero rfl 23 rfl _ z25 ?_)
  intro g1 w1 l1 B1 G1
  have b1 := (Below.refl w.heap.size w).grown G1 (Nat.le_refl _) (by simp)
  have hc1 := hc.below (show Below w.heap.size w w1 from b1)
  have B : Hid (Blk w1 g1 23 (nums .u8 (List.replicate 32 0)) ∧ w.heap.size ≤ g1 ∧ g1 < w1.heap.size) := ⟨B1, l1, B1.lt⟩
  clear B1 G1 hc
  have s1 := B.out.2.2
  have b2 := (Below.refl w1.heap.size w1).alloc (Nat.le_refl _) (.cells #[] 5)
  have oe := own_empty w1 w1.heap.size (Nat.le_refl _)
  have hc2 := hc1.below b2
  go_wp2_with (at_builtin; go_must (refine app_bytes rfl (.tmp 11) (.tmp 12) rfl w1.heap.size _ [] rfl oe a0 _ cap l rfl rfl hc2 hnil (by simp; omega) (by simp) ?_))
  intro v1 w2 o1 g2
  have b3 := below_app b2 (by simp) oe g2
  have z3 := b3.size
  clear g2 b2 oe hc2 hc1
  go_wp2_with (at_builtin; go_must (refine app_bytes rfl (.tmp 13) (.tmp 14) rfl w1.heap.size _ l rfl (o1.alloc _) _ _ _ [128] rfl rfl (byt_lit w2 [128]) (by simp) (by simp; omega) (by simp; omega) ?_))
  intro v2 w3 o2 g3
  have b4 := below_app (b3.alloc z3 _) (by simp; omega) (o1.alloc _) g3
  clear g3 b3 z3 o1
  go_wp2
  go_loopw [3] (fun o wr => ∃ z : Nat, z ≤ Z ∧ Own wr w1.heap.size o (l ++ (128 :: List.replicate z 0)) ∧ Below w1.heap.size w1 wr) (fun o _ => 200000 - slen o)
  case atStart => exact ⟨0, Nat.zero_le _, o2, b4⟩
  case round =>
    clear o2 b4
    obtain ⟨z, hz, hown, hbel⟩ := hrel
    obtain ⟨h0, hZl, hne⟩ := hZ1.out
    have hs := hbel.size
    obtain ⟨g, cp, rfl, hg, hgl, hlc, hcm, hcell⟩ := hown.form (by simp; omega)
    have el : (l ++ (128 :: List.replicate z 0)).length = l.length + 1 + z := by simp; omega
    rw [el] at hlc hown ⊢
    have HO : Hid (Own wr w1.heap.size (.slice (some ⟨g, 0, none⟩) (l.length + 1 + z) cp) (l ++ (128 :: List.replicate z 0))) := hown
    clear hown hcell
    by_cases hlt : z < Z
    · have hcd : ¬ (((l.length : Int) + 1 + (z : Int)) % 64 = 56) := by have := hne z hlt; omega
      clear hne h0
      go_wp2_with (at_builtin; go_must (refine app_bytes rfl (.tmp 20) (.tmp 21) rfl w1.heap.size _ (l ++ (128 :: List.replicate z 0)) rfl (Own.alloc HO.out _) _ _ _ [0] rfl rfl (byt_lit wr [0]) (by simp) (by rw [el]; simp; omega) (by simp; omega) ?_))
      intro v1 w1' o1 g1'
      have b1' := below_app (hbel.alloc hs _) (by simp; omega) (Own.alloc HO.out _) g1'
      have o1 : Own w1' w1.heap.size v1 (l ++ (128 :: List.replicate (z + 1) 0)) := by rw [List.replicate_succ']; simpa using o1
      obtain ⟨g', cap', rfl, _⟩ := o1.form (by simp; omega)
      have el' : (l ++ (128 :: List.replicate (z + 1) 0)).length = l.length + 1 + z + 1 := by simp; omega
      rw [el'] at o1 ⊢
      have HO1 : Hid (Own w1' w1.heap.size (.slice (some ⟨g', 0, none⟩) (l.length + 1 + z + 1) cap') (l ++ (128 :: List.replicate (z + 1) 0))) := o1
      clear g1' o1 el el'
      go_wp2
      go_roundw
      case rel => exact ⟨z + 1, hlt, HO1.out, b1'⟩
      case measure => simp only [slen]; omega
    · obtain rfl : z = Z := by omega
      have hcd : ((l.length : Int) + 1 + (z : Int)) % 64 = 56 := by omega
      clear hne h0 el
      go_wp2
      go_loopw [3, 5] (fun o i wr => ∃ j : Nat, j ≤ 8 ∧ i = .int .i64 (7 - (j : Int)) ∧ Own wr w1.heap.size o (l ++ (128 :: (List.replicate z 0 ++ (be8 (8 * l.length)).take j))) ∧ Below w1.heap.size w1 wr) (fun _ i _ => (intOf i + 1).toNat)
      case atStart => exact ⟨0, by omega, rfl, by rw [List.take_zero, List.append_nil]; exact HO.out, hbel⟩
      case round =>
        clear hbel HO hs hcd
        obtain ⟨j, hj, rfl, hown, hbel⟩ := hrel
        have hs := hbel.size
        have hll : (l ++ (128 :: (List.replicate z 0 ++ (be8 (8 * l.length)).take j))).length ≤ 100100 := by simp [be8_len]; omega
        by_cases h8 : j < 8
        · have HO : Hid _ := be8_snoc (8 * l.length) j h8
          have t0 : (8 * (7 - (j : Int))).toNat = 56 - 8 * j := by omega
          have tn : (0 : Int) ≤ 7 - (j : Int) := by omega
          obtain ⟨y, hy, HY⟩ : ∃ y : Nat, (l.length : Int) * 8 / 2 ^ (56 - 8 * j) % 256 = (y : Int) ∧ Hid (y = 8 * l.length / 2 ^ (56 - 8 * j) % 256) := ⟨8 * l.length / 2 ^ (56 - 8 * j) % 256, by rw [show (l.length : Int) * 8 = 8 * (l.length : Int) from Int.mul_comm _ _]; simp, rfl⟩
          go_wp2_with (at_builtin; go_must (refine app_bytes rfl (.tmp 31) (.tmp 38) rfl w1.heap.size _ (l ++ (128 :: (List.replicate z 0 ++ (be8 (8 * l.length)).take j))) rfl (hown.alloc _) _ _ _ [y] rfl rfl (byt_lit wr [y]) (by simp) (by rw [List.length_singleton]; omega) (by simp; omega) ?_))
          intro v1 w1' o1 g1'
          have b1' := below_app (hbel.alloc hs _) (by simp; omega) (hown.alloc _) g1'
          have HO1 : Hid (Own w1' w1.heap.size v1 (l ++ (128 :: (List.replicate z 0 ++ (be8 (8 * l.length)).take (j + 1))))) := by
            show Own _ _ _ _
            rw [HO.out, ← HY.out]; simpa using o1
          clear g1' o1 hown hll
          go_wp2
          go_roundw
          case rel => exact ⟨j + 1, by omega, by go_num, HO1.out, b1'⟩
          case measure => simp [intOf]; omega
        · obtain rfl : j = 8 := by omega
          rw [List.take_of_length_le (by rw [be8_len]; exact Nat.le_refl _), HP.out] at hown
          clear hll
          obtain ⟨msg, hmsg⟩ : ∃ msg, Hid (msg = l ++ pad l.length) := ⟨_, rfl⟩
          rw [← hmsg.out] at hown
          have hml : Hid (msg.length % 64 = 0 ∧ 0 < msg.length ∧ msg.length ≤ 100100) := by
            rw [hmsg.out, List.length_append]
            have := pad_len l.length; have := pad_len_le l.length
            have : 0 < (pad l.length).length := by unfold pad; simp
            exact ⟨by omega, by omega, by omega⟩
          have hmo : Hid (Oct msg) := by
            rw [hmsg.out]; intro x hx
            rcases List.mem_append.1 hx with hx | hx
            · exact ho.out x hx
            · exact pad_oct l.length x hx
          obtain ⟨gm, cm, rfl, hgm, hgml, hlcm, _, hcell⟩ := hown.form hml.out.2.1
          have HCE : Hid (Cells wr gm 0 msg) := hcell
          clear hcell hown
          have B1 := B.out.1.below hbel s1
          have Z0 := b1.trans (hbel.mono b1.size)
          have hg1 := B.out.2.1
          have hngm : g1 ≠ gm := by omega
          clear B hbel hs b1 hgm HP
          have IK : Hid ((Tryz.prog.info? 107).map (·.size) = some (nums .u32 K).length) := by show _ = _; rw [nums_length, K_len]; exact s50
          have NK : Hid ((nums .u32 K).length = (nums .u32 (List.replicate 64 0)).length) := by show _ = _; rw [nums_length, nums_length, K_len, List.length_replicate]
          have I1 : Hid ((Tryz.prog.info? 99).map (·.size) = some (nums .u32 Mt.init.l).length) := by show _ = _; rw [nums_length, l_len]; exact s41
          have N1 : Hid ((nums .u32 Mt.init.l).length = (nums .u32 (List.replicate 8 0)).length) := by show _ = _; rw [nums_length, nums_length, l_len, List.length_replicate]
          go_wp2_with (first | (refine bd_row rfl 99 iParts rfl (nums .u32 Mt.init.l) (i_built _) ?_) | (refine al_zero rfl 99 rfl _ z41 ?_))
          intro g2 w4 l2 B2 G2
          have n12 : g1 ≠ g2 := by have := B1.lt; omega
          have nm2 : gm ≠ g2 := by omega
          have hg2 : w.heap.size ≤ g2 := Nat.le_trans Z0.size l2
          have B1 := B1.kept G2 (by simp)
          have HCE : Hid (Cells w4 gm 0 msg) := fun i hi => G2.cell (HCE.out i hi) (by simp)
          have Z0 := Z0.grown G2 Z0.size (by simp)
          have hgml : gm < w4.heap.size := Nat.lt_of_lt_of_le hgml G2.size
          clear G2
          go_wp2_with (refine st_all rfl 99 (.tmp 6) (.tmp 40) rfl g2 99 _ (nums .u32 Mt.init.l) rfl rfl B2 N1.out I1.out (nums_one _ _) ?_)
          intro w5 B2 G3
          have B1 := B1.kept G3 (fun e => n12 (Option.some.inj e))
          have HCE : Hid (Cells w5 gm 0 msg) := fun i hi => G3.cell (HCE.out i hi) (fun e => nm2 (Option.some.inj e))
          have Z0 := Z0.grown G3 Z0.size (fun r e => by obtain rfl := Option.some.inj e; exact hg2)
          have hgml : gm < w5.heap.size := Nat.lt_of_lt_of_le hgml G3.size
          clear G3 I1 N1
          go_wp2_with fail
          refine (k_any _).mono ?_; rintro e w6 ⟨rfl, Z6⟩
          have B1 := B1.below Z6 B1.lt
          have B2 := B2.below Z6 B2.lt
          have HCE : Hid (Cells w6 gm 0 msg) := HCE.out.below Z6
          have hgml : gm < w6.heap.size := Nat.lt_of_lt_of_le hgml Z6.size
          have Z0 := Z0.trans (Z6.mono Z0.size)
          clear Z6
          go_wp2_with (refine al_zero rfl 107 rfl _ z50 ?_)
          intro g3 w7 l3 B3 G4
          have n13 : g1 ≠ g3 := by have := B1.lt; omega
          have n23 : g2 ≠ g3 := by have := B2.lt; omega
          have nm3 : gm ≠ g3 := by omega
          have hg3 : w.heap.size ≤ g3 := Nat.le_trans Z0.size l3
          have B1 := B1.kept G4 (by simp)
          have B2 := B2.kept G4 (by simp)
          have HCE : Hid (Cells w7 gm 0 msg) := fun i hi => G4.cell (HCE.out i hi) (by simp)
          have Z0 := Z0.grown G4 Z0.size (by simp)
          clear G4
          go_wp2_with (refine st_all rfl 107 (.tmp 7) (.tmp 41) rfl g3 107 _ (nums .u32 K) rfl rfl B3 NK.out IK.out (nums_one _ _) ?_)
          intro w8 B3 G5
          have B1 := B1.kept G5 (fun e => n13 (Option.some.inj e))
          have B2 := B2.kept G5 (fun e => n23 (Option.some.inj e))
          have HCE : Hid (Cells w8 gm 0 msg) := fun i hi => G5.cell (HCE.out i hi) (fun e => nm3 (Option.some.inj e))
          have Z0 := Z0.grown G5 Z0.size (fun r e => by obtain rfl := Option.some.inj e; exact hg3)
          clear G5 IK NK
          have HI : Hid (Riv msg g1 g2 g3 gm w 0 w8) := ⟨B1, B2, B3, HCE.out, Z0⟩
          clear B1 B2 B3 HCE Z0
          go_wp2
          go_loopw [8] (fun i wr => ∃ j : Nat, 64 * j ≤ msg.length ∧ i = .int .i64 ((64 * j : Nat) : Int) ∧ Riv msg g1 g2 g3 gm w j wr) (fun i _ => 200000 - (intOf i).toNat)
          case atStart => exact ⟨0, by omega, rfl, HI.out⟩
          case round =>
            clear HI
            obtain ⟨j, hj, rfl, hI⟩ := hrel
            have HI : Hid (Riv msg g1 g2 g3 gm w j wr) := hI
            clear hI
            obtain ⟨hm0, hm1, hm2⟩ := hml.out
            by_cases hlt : 64 * j < msg.length
            · have hj64 : 64 * j + 64 ≤ msg.length := by omega
              obtain ⟨wd, hwd⟩ : ∃ wd, Hid (wd = wr.drew) := ⟨_, rfl⟩
              have HD : Hid (Riv msg g1 g2 g3 gm w j wd) := by
                obtain ⟨h1, h2, h3, h4, h5⟩ := HI.out
                refine ⟨h1.drewTo hwd, h2.drewTo hwd, h3.drewTo hwd, ?_, below_drewTo h5 hwd⟩
                rw [hwd.out]; exact h4
              have I1 : Hid ((Tryz.prog.info? 99).map (·.size) = some (nums .u32 (blk msg j).l).length) := by show _ = _; rw [nums_length, l_len]; exact s41
              have HC : Hid (Calls Tryz.prog 66 #[.agg (nums .u32 (blk msg j).l).toArray, .slice (some ⟨gm, 64 * j, none⟩) 64 (cm - 64 * j), .pointer (some ⟨g3, 0, none⟩)] wd fun e w' => e = .returned (.agg (nums .u32 (blk msg (j + 1)).l).toArray) ∧ Below wd.heap.size wd w') := by
                rw [show blk msg (j + 1) = comp (blk msg j) (Mt.part msg j) from rfl]
                refine block_any (blk msg j) (blk_ok _ _) gm (64 * j) (cm - 64 * j) g3 (Mt.part msg j) wd (fun i hi => ?_) HD.out.2.2.1 (fun i => oct_get hmo.out _) 48 rfl 64 rfl
                have := HD.out.2.2.2.1 (64 * j + i) (by omega)
                rw [Nat.zero_add] at this
                exact this
              have b1 : (64 * (j : Int)) + 64 ≤ (cm : Int) := by omega
              have b2 : (0 : Int) ≤ 64 * (j : Int) := by omega
              have b3 : (64 * (j : Int)) ≤ 64 * (j : Int) + 64 := by omega
              have b4 : ¬ (cm = 64 * j) := by omega
              have b5 : IntKind.i64.wrap (64 * (j : Int) + 64) = 64 * (j : Int) + 64 := by rw [IntKind.wrap_i64]; omega
              have t1 : (64 * (j : Int)).toNat = 64 * j := by omega
              have t2 : (64 * (j : Int) + 64).toNat = 64 * j + 64 := by omega
              have t3 : 64 * j + 64 - 64 * j = 64 := by omega
              have hltz : (64 * (j : Int)) < (msg.length : Int) := by omega
              clear HI hmo hmsg ho
              generalize hbj : blk msg j = S0 at I1 HC
              generalize hbj1 : blk msg (j + 1) = S1 at HC
              have HB0 : Hid (blk msg j = S0) := hbj
              have HB1 : Hid (blk msg (j + 1) = S1) := hbj1
              clear hbj hbj1
              go_wp2
              refine still_tail 6 (by kernel_rfl) (by kernel_rfl) wd hwd ?_
              simp only [List.take_succ_cons, List.take_zero, List.drop_succ_cons, List.drop_zero]
              refine still_ld rfl 99 (.tmp 6) rfl g2 0 rfl (nums .u32 S0.l) _ (by rw [← HB0.out]; exact HD.out.2.1.all) Tryz.underlying99 rfl I1.out ?_
              repeat still_step
              refine wpStill_nil ?_
              clear b1 b2 b3 b4 b5 t1 t2 t3 hltz
              go_wp2_with fail
              refine HC.out.mono ?_; rintro e w9 ⟨rfl, Z9⟩
              have HR : Hid (Riv msg g1 g2 g3 gm w j w9) := by
                obtain ⟨h1, h2, h3, h4, h5⟩ := HD.out
                exact ⟨h1.below Z9 h1.lt, h2.below Z9 h2.lt, h3.below Z9 h3.lt, h4.below Z9, h5.trans (Z9.mono h5.size)⟩
              have I2 : Hid ((Tryz.prog.info? 99).map (·.size) = some (nums .u32 S1.l).length) := by show _ = _; rw [nums_length, l_len]; exact s41
              have N2 : Hid ((nums .u32 S1.l).length = (nums .u32 S0.l).length) := by show _ = _; rw [nums_length, nums_length, l_len, l_len]
              have B20 : Hid (Blk w9 g2 99 (nums .u32 S0.l)) := by rw [← HB0.out]; exact HR.out.2.1
              clear HD Z9 HC I1
              go_wp2_with (refine st_all rfl 99 (.tmp 6) (.tmp 54) rfl g2 99 (nums .u32 S0.l) (nums .u32 S1.l) rfl rfl B20.out N2.out I2.out (nums_one _ _) ?_)
              intro wx BX GX
              have HX : Hid (Riv msg g1 g2 g3 gm w (j + 1) wx) := by
                obtain ⟨h1, h2, h3, h4, h5⟩ := HR.out
                refine ⟨h1.kept GX (fun e => n12 (Option.some.inj e)), by rw [HB1.out]; exact BX, h3.kept GX (fun e => n23 (Option.some.inj e).symm), fun i hi => GX.cell (h4 i hi) (fun e => nm2 (Option.some.inj e)), h5.grown GX h5.size (fun r e => by obtain rfl := Option.some.inj e; exact hg2)⟩
              clear BX GX HR I2 N2 B20
              go_wp2
              go_roundw
              case rel => exact ⟨j + 1, by omega, by go_num, HX.out⟩
              case measure => simp [intOf]; omega
            · obtain ⟨S, hS⟩ : ∃ S, Hid (S = blk msg j) := ⟨_, rfl⟩
              have HDD : Hid (D l = outs S 32) := by
                show _ = _
                have e1 : j = (l ++ pad l.length).length / 64 := by rw [← hmsg.out]; omega
                unfold D outs
                rw [hS.out, e1, hmsg.out]; simp
              have hok : Hid S.ok := by rw [hS.out]; exact blk_ok _ _
              have HJ : Hid (Blk wr g1 23 (nums .u8 (List.replicate 32 0)) ∧ Blk wr g2 99 (nums .u32 S.l) ∧ Below w.heap.size w wr) := by rw [hS.out]; exact ⟨HI.out.1, HI.out.2.1, HI.out.2.2.2.2⟩
              have hnz : ¬ ((64 * (j : Int)) < (msg.length : Int)) := by omega
              clear HI hmo hmsg ho hml hS
              go_wp2_with (refine al_zero rfl 23 rfl _ z25 ?_)
              intro g4 w9 l4 B4 G9
              have n14 : g1 ≠ g4 := by have := HJ.out.1.lt; omega
              have n24 : g2 ≠ g4 := by have := HJ.out.2.1.lt; omega
              have hg4 : w.heap.size ≤ g4 := Nat.le_trans HJ.out.2.2.size l4
              have HJ : Hid (Blk w9 g4 23 (nums .u8 (outs S 0)) ∧ Blk w9 g1 23 (nums .u8 (List.replicate 32 0)) ∧ Blk w9 g2 99 (nums .u32 S.l) ∧ Below w.heap.size w w9) :=
                ⟨B4, HJ.out.1.kept G9 (by simp), HJ.out.2.1.kept G9 (by simp), HJ.out.2.2.grown G9 HJ.out.2.2.size (by simp)⟩
              clear B4 G9 hnz
              go_wp2
              go_loopw [10] (fun i wr => ∃ k : Nat, k ≤ 32 ∧ i = .int .i64 (k : Int) ∧ (Blk wr g4 23 (nums .u8 (outs S k)) ∧ Blk wr g1 23 (nums .u8 (List.replicate 32 0)) ∧ Blk wr g2 99 (nums .u32 S.l) ∧ Below w.heap.size w wr)) (fun i _ => 32 - (intOf i).toNat)
              case atStart => exact ⟨0, by omega, rfl, HJ.out⟩
              case round =>
                clear HJ
                obtain ⟨k, hk, rfl, B4, B1, B2, ZZ⟩ := hrel
                by_cases h32 : k < 32
                · have hc4 := B2.num (k / 4) (by rw [l_len]; omega)
                  have hv := l_lt hok.out (k / 4)
                  have HO : Hid (out S k = S.l.getD (k / 4) 0 / 2 ^ (24 - 8 * (k % 4)) % 256) := rfl
                  have HS := outs_set S k h32
                  have HS' : Hid _ := HS
                  clear HS
                  have hcn := B4.num k (by rw [outs_len _ _ hk]; exact h32)
                  have hcf := B4.frozen k
                  generalize (outs S k).getD k 0 = old at hcn
                  generalize S.l.getD (k / 4) 0 = v at hc4 hv HO
                  have e4 : ((k : Int) / 4).toNat = k / 4 := by omega
                  have e5 : (24 - 8 * ((k : Int) % 4)).toNat = 24 - 8 * (k % 4) := by omega
                  obtain ⟨y, hy, HY⟩ : ∃ y : Nat, (v : Int) / 2 ^ (24 - 8 * (k % 4)) % 256 = (y : Int) ∧ Hid (y = v / 2 ^ (24 - 8 * (k % 4)) % 256) := ⟨_, by simp, rfl⟩
                  go_wp2
                  go_roundw
                  case rel =>
                    refine ⟨k + 1, by omega, by go_num, ?_, B1.setOther (fun e => n14 e.symm) _, B2.setOther (fun e => n24 e.symm) _, ZZ.setCell hg4 _⟩
                    rw [← HS'.out, HO.out, ← HY.out]
                    exact B4.setNum _ _
                  case measure => simp [intOf]; omega
                · obtain rfl : k = 32 := by omega
                  rw [← HDD.out] at B4
                  have ID : Hid ((Tryz.prog.info? 23).map (·.size) = some (nums .u8 (D l)).length) := by show _ = _; rw [nums_length, D_len]; exact s25
                  have ND : Hid ((nums .u8 (D l)).length = (nums .u8 (List.replicate 32 0)).length) := by show _ = _; rw [nums_length, nums_length, D_len, List.length_replicate]
                  clear HDD hok
                  go_wp2_with (first | (refine ld_all rfl 23 (.tmp 9) rfl g4 23 (nums .u8 (D l)) 32 5 rfl B4 Tryz.underlying23 ID.out ?_) | (refine st_all rfl 23 (.tmp 2) (.tmp 72) rfl g1 23 (nums .u8 (List.replicate 32 0)) (nums .u8 (D l)) rfl rfl B1 ND.out ID.out (nums_one _ _) ?_))
                  intro we BE GE
                  go_wp2
                  (try simp only [Exit.inBlock, Exit.then])
                  refine bodyPost_ret (res_row rfl _ g1 23 _ _ rfl BE Tryz.underlying23 rfl ID.out) rfl ⟨rfl, ZZ.grown GE ZZ.size (fun r e => by obtain rfl := Option.some.inj e; exact hg1)⟩
end Go.Proofs.YtlefdnjokppibaaGreatDoor.Sh
