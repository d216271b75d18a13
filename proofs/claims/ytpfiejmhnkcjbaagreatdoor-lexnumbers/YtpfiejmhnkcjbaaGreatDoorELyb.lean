/-
  The program's lex: classes of bytes.
-/
import Derived.Test.YtpfiejmhnkcjbaaGreatDoorEG1x
import Derived.Test.YtpfiejmhnkcjbaaGreatDoorEG7x
import Derived.BigQuiet
import Derived.Laws.Bits64b
namespace Go.Proofs.YtpfiejmhnkcjbaaGreatDoor
open Go.RowKit Lx
set_option linter.unusedVariables false
set_option linter.unusedSimpArgs false
theorem sC : (Tryz.prog.info? 59).map (·.size) = some 2 := by kernel_rfl
theorem zC : (Tryz.prog.info? 59).map (fun i => i.zero.map (·.cells)) = some (some (List.toArray [.int .u64 0, .int .u64 0])) := by kernel_rfl
def cC (c0 c1 : Nat) : List Value := [.int .u64 (c0 : Int), .int .u64 (c1 : Int)]
theorem one_c (c0 c1 : Nat) : ∀ v ∈ cC c0 c1, v.oneCell' = true := by
  unfold cC
  simp
  exact ⟨rfl, rfl⟩
/-! ### laws -/
theorem lx_box {P : Program} {ops : Array Oper} {rest : List Oper} {o : Oper} {a : Act} {w : World} {Q : Exit → Act → World → Prop} (hg : o.guard = none) (t : TypeId) (x : Operand) (ho : o.op = .box t x) (cs : List Value) (hx : a.eval x = .agg cs.toArray)
    (h : ∀ g w', w.heap.size ≤ g → Blk w' g t cs → w.grownBy w' none → wpList P ops Q rest (a.put o.dst (.pointer (some ⟨g, 0, none⟩))) w') : wpList P ops Q (o :: rest) a w := by
  refine wpList_plain hg fun K hK => ?_
  unfold Oper.wp execOp
  simp only [ho, hx, Value.cells, Sem.run_bind, Instr.box, newVar, newRow, run_newObj_alloc, Sem.run_pure, Result.andThen_ok]
  exact hK _ _ (h _ _ (Nat.le_refl _) (blk_new w t cs) (World.grownBy_alloc w _ none))
theorem lx_load {C : World → Prop} {a : Act} {o : Oper} {K : Act → Prop} (ty : TypeId) (x : Operand) (ho : o.op = .load ty x) (b k : Nat) (hx : a.eval x = .pointer (some ⟨b, k, none⟩)) (cs : List Value) (d : TypeDesc) (hS : ∀ w, C w → w.rangeAt b k cs)
    (hu : Tryz.prog.underlying ty = some d) (hd : d.isRow = true) (hi : (Tryz.prog.info? ty).map (·.size) = some cs.length) (hk : K (a.put o.dst (.agg cs.toArray))) : o.quiet Tryz.prog a C K :=
  ⟨_, fun w hw => by
    unfold Oper.quietAt execOp
    simp only [ho, hx, Instr.loadAt, Instr.sureAddr, Sem.run_bind, Sem.run_pure, Result.andThen_ok, run_loadVar_mid w b k ty cs d (hS w hw) hu hd hi]
    exact ⟨rfl, rfl⟩, hk⟩
theorem lx_enters {P : Program} {f : FuncId} {fn : Func} {c : Code} (hf : P.funcs[f]? = some fn) (hname : (fn.name == "runtime.NumGoroutine") = false) (hb : fn.body = some c) : ∀ (args : Array Value) (w : World), (callFunc f args).run P w = .ok (.enter f args) w := by
  intro args w
  have h1 : fn.name ≠ "runtime.NumGoroutine" := by simpa using hname
  simp [callFunc, hf, h1, hb]
/-- A call whose answer is known, and that keeps the class. -/
theorem lx_call {C : World → Prop} {a : Act} {o : Oper} {K : Act → Prop} (k : Nat) (xs : Array Operand) (ts : Array TypeId)
    (hop : o.op = Op.call { callee := Callee.value (Operand.func k), args := xs, argTypes := ts }) (args : Array Value) (hargs : xs.map a.eval = args)
    (hent : ∀ (args : Array Value) (w : World), (callFunc k args).run Tryz.prog w = .ok (.enter k args) w) (v : Value)
    (hc : ∀ w, C w → Calls Tryz.prog k args w fun e w' => e = .returned v ∧ C w') (hk : K (a.put o.dst v)) : o.quiet Tryz.prog a C K :=
  ⟨v, fun w hw => by
    unfold Oper.quietAt
    have : (execOp a.eval o).run Tryz.prog w = .ok (.enter k args) w := by
      simp [execOp, hop, resolve, invoke, Act.eval, hargs, hent, Deferred.ofValue]
    rw [this]
    exact ⟨rfl, hc w hw⟩, hk⟩
theorem lx_idx {C : World → Prop} {a : Act} {o : Oper} {K : Act → Prop} (x y : Operand) (ho : o.op = .index 9 x y) (s : ByteArray) (k : Nat) (hx : a.eval x = .string s) (hy : a.eval y = .int .i64 (k : Int)) (hk1 : k < s.size)
    (hk : K (a.put o.dst (.int .u8 (((bts s).getD k 0 : Nat) : Int)))) : o.quiet Tryz.prog a C K :=
  ⟨_, fun w hw => by
    have h := idxL s k hk1 w
    unfold Oper.quietAt execOp
    simp only [ho, hx, hy, Sem.run_bind, h, Result.andThen_ok, Sem.run_pure]
    exact ⟨rfl, rfl⟩, hk⟩
theorem bit_is (cc b : Nat) (h : cc < 18446744073709551616) : (bits .and .u64 ((cc : Int) / 2 ^ b) 1 == 1) = (cc / 2 ^ b % 2 == 1) := by
  have e : ((cc : Int) / 2 ^ b) = ((cc / 2 ^ b : Nat) : Int) := by push_cast; rfl
  have h2 := bits_and_u64_nat (cc / 2 ^ b) 1 (Nat.lt_of_le_of_lt (Nat.div_le_self _ _) h) (by omega)
  rw [Nat.and_one_is_mod] at h2
  have h3 : ((1 : Nat) : Int) = 1 := rfl
  rw [h3] at h2
  rw [e, h2, Bool.eq_iff_iff, beq_iff_eq, beq_iff_eq]
  omega
/-! ### the classes -/
set_option maxRecDepth 8000 in
theorem blanks_any (w : World) : Calls Tryz.prog 29 #[] w fun e w' => e = .returned (.agg (cC cBl 0).toArray) ∧ Hid (Below w.heap.size w w') := by
  go_enter Tryz.func29, Tryz.ntmps29
  go_wp2_with (refine al_zero rfl 59 rfl (cC 0 0) zC ?_)
  intro g w1 hg bz gr
  go_wp2_with (refine st_all rfl 59 (.tmp 0) (.tmp 1) rfl g 59 (cC 0 0) (cC cBl 0) rfl rfl bz rfl sC (one_c _ _) ?_)
  intro w2 b2 g2
  have HB2 : Hid (Below w.heap.size w w2) := below_new gr hg g2
  go_wp2
  refine bodyPost_ret (res_row rfl _ g 59 _ _ rfl b2 Tryz.underlying59 rfl sC) rfl ?_
  exact ⟨rfl, HB2.out⟩
set_option maxRecDepth 8000 in
theorem digits_any (w : World) : Calls Tryz.prog 36 #[] w fun e w' => e = .returned (.agg (cC cDg 0).toArray) ∧ Hid (Below w.heap.size w w') := by
  go_enter Tryz.func36, Tryz.ntmps36
  go_wp2_with (refine al_zero rfl 59 rfl (cC 0 0) zC ?_)
  intro g w1 hg bz gr
  go_wp2_with (refine st_all rfl 59 (.tmp 0) (.tmp 1) rfl g 59 (cC 0 0) (cC cDg 0) rfl rfl bz rfl sC (one_c _ _) ?_)
  intro w2 b2 g2
  have HB2 : Hid (Below w.heap.size w w2) := below_new gr hg g2
  go_wp2
  refine bodyPost_ret (res_row rfl _ g 59 _ _ rfl b2 Tryz.underlying59 rfl sC) rfl ?_
  exact ⟨rfl, HB2.out⟩
set_option maxRecDepth 8000 in
theorem letters_any (w : World) : Calls Tryz.prog 33 #[] w fun e w' => e = .returned (.agg (cC 0 cLt).toArray) ∧ Hid (Below w.heap.size w w') := by
  go_enter Tryz.func33, Tryz.ntmps33
  go_wp2_with (refine al_zero rfl 59 rfl (cC 0 0) zC ?_)
  intro g w1 hg bz gr
  go_wp2_with (refine st_all rfl 59 (.tmp 0) (.tmp 1) rfl g 59 (cC 0 0) (cC 0 cLt) rfl rfl bz rfl sC (one_c _ _) ?_)
  intro w2 b2 g2
  have HB2 : Hid (Below w.heap.size w w2) := below_new gr hg g2
  go_wp2
  refine bodyPost_ret (res_row rfl _ g 59 _ _ rfl b2 Tryz.underlying59 rfl sC) rfl ?_
  exact ⟨rfl, HB2.out⟩
set_option maxRecDepth 8000 in
theorem signs_any (w : World) : Calls Tryz.prog 56 #[] w fun e w' => e = .returned (.agg (cC cS0 cS1).toArray) ∧ Hid (Below w.heap.size w w') := by
  go_enter Tryz.func56, Tryz.ntmps56
  go_wp2_with (refine al_zero rfl 59 rfl (cC 0 0) zC ?_)
  intro g w1 hg bz gr
  go_wp2_with (refine st_all rfl 59 (.tmp 0) (.tmp 1) rfl g 59 (cC 0 0) (cC cS0 cS1) rfl rfl bz rfl sC (one_c _ _) ?_)
  intro w2 b2 g2
  have HB2 : Hid (Below w.heap.size w w2) := below_new gr hg g2
  go_wp2
  refine bodyPost_ret (res_row rfl _ g 59 _ _ rfl b2 Tryz.underlying59 rfl sC) rfl ?_
  exact ⟨rfl, HB2.out⟩

set_option maxRecDepth 8000 in
set_option maxHeartbeats 1000000 in
theorem or_any (w : World) : Calls Tryz.prog 47 #[.agg (cC 0 cLt).toArray, .agg (cC cDg 0).toArray] w fun e w' => e = .returned (.agg (cC cDg cLt).toArray) ∧ Hid (Below w.heap.size w w') := by
  go_enter Tryz.func47, Tryz.ntmps47
  go_wp2_with (refine lx_box rfl 59 (.tmp 0) rfl (cC 0 cLt) rfl ?_)
  intro g1 w1 hg1 B1 gr1
  go_wp2_with (refine lx_box rfl 59 (.tmp 1) rfl (cC cDg 0) rfl ?_)
  intro g2 w2 hg2 B2 gr2
  go_wp2_with (refine al_zero rfl 59 rfl (cC 0 0) zC ?_)
  intro g3 w3 hg3 B3 gr3
  have HB3 : Hid (Below w.heap.size w w3) := (((Below.refl _ _).grown gr1 (Nat.le_refl _) (fun k e => by cases e)).grown gr2 gr1.size (fun k e => by cases e)).grown gr3 (Nat.le_trans gr1.size gr2.size) (fun k e => by cases e)
  have C1 : Blk w3 g1 59 (cC 0 cLt) := Blk.kept (Blk.kept B1 gr2 (by intro e; cases e)) gr3 (by intro e; cases e)
  have C2 : Blk w3 g2 59 (cC cDg 0) := Blk.kept B2 gr3 (by intro e; cases e)
  have k0 : w3.cell? ⟨g1, 0, none⟩ = some (.int .u64 0) := C1.cell 0
  have k1 : w3.cell? ⟨g1, 1, none⟩ = some (.int .u64 (cLt : Int)) := C1.cell 1
  have m0 : w3.cell? ⟨g2, 0, none⟩ = some (.int .u64 (cDg : Int)) := C2.cell 0
  have m1 : w3.cell? ⟨g2, 1, none⟩ = some (.int .u64 0) := C2.cell 1
  have HZ : Hid (Blk w3 g3 59 (cC 0 0)) := B3
  have hgw : w.heap.size ≤ g3 := Nat.le_trans (Nat.le_trans gr1.size gr2.size) hg3
  clear B1 B2 B3 C1 C2 gr1 gr2 gr3 hg1 hg2 hg3
  go_wp2_with (refine st_all rfl 59 (.tmp 4) (.tmp 15) rfl g3 59 (cC 0 0) (cC cDg cLt) rfl rfl HZ.out rfl sC (one_c _ _) ?_)
  intro w4 b4 g4
  have HB4 : Hid (Below w.heap.size w w4) := HB3.out.grown g4 HB3.out.size (fun k e => by injection e with e; omega)
  go_wp2
  refine bodyPost_ret (res_row rfl _ g3 59 _ _ rfl b4 Tryz.underlying59 rfl sC) rfl ?_
  exact ⟨rfl, HB4.out⟩
set_option maxRecDepth 8000 in
set_option maxHeartbeats 1000000 in
theorem has_any (c0 c1 b : Nat) (h0 : c0 < 18446744073709551616) (h1 : c1 < 18446744073709551616) (hb : b < 256) (w : World) : Calls Tryz.prog 34 #[.agg (cC c0 c1).toArray, .int .u8 (b : Int)] w fun e w' => e = .returned (.bool (inC c0 c1 b)) ∧ Hid (Below w.heap.size w w') := by
  obtain ⟨V, HV⟩ : ∃ V, Hid (inC c0 c1 b = V) := ⟨_, rfl⟩
  rw [HV.out]
  go_enter Tryz.func34, Tryz.ntmps34
  go_wp2_with (refine lx_box rfl 59 (.tmp 0) rfl (cC c0 c1) rfl ?_)
  intro g w1 hg B1 gr
  have HB : Hid (Below w.heap.size w w1) := (Below.refl _ _).grown gr (Nat.le_refl _) (fun k e => by cases e)
  have k0 : w1.cell? ⟨g, 0, none⟩ = some (.int .u64 (c0 : Int)) := Blk.cell B1 0
  have k1 : w1.cell? ⟨g, 1, none⟩ = some (.int .u64 (c1 : Int)) := Blk.cell B1 1
  clear B1 gr hg
  by_cases h128 : b < 128
  · have e1 : (b : Int) < 128 := by omega
    obtain ⟨cc, hcc, hc64, kk⟩ : ∃ cc : Nat, cc = (if b < 64 then c0 else c1) ∧ cc < 18446744073709551616 ∧ w1.cell? ⟨g, b / 64, none⟩ = some (.int .u64 (cc : Int)) := by
      by_cases h64 : b < 64
      · refine ⟨c0, (if_pos h64).symm, h0, ?_⟩
        rw [show b / 64 = 0 by omega]; exact k0
      · refine ⟨c1, (if_neg h64).symm, h1, ?_⟩
        rw [show b / 64 = 1 by omega]; exact k1
    have HCC : Hid (cc = if b < 64 then c0 else c1) := hcc
    clear k0 k1 hcc
    go_wp2
    go_ret
    refine ⟨?_, HB.out⟩
    show Ending.returned (.bool (bits BinOp.and IntKind.u64 ((cc : Int) / 2 ^ (b % 64)) 1 == 1)) = _
    rw [bit_is _ _ hc64, ← HV.out, HCC.out]
    unfold inC
    rw [decide_eq_true h128, Bool.true_and]
  · have e1 : ¬ (b : Int) < 128 := by omega
    have e : V = false := by rw [← HV.out]; simp [inC, h128]
    subst e
    clear h128 HV
    go_wp2
    go_ret
    exact ⟨rfl, HB.out⟩
set_option maxRecDepth 8000 in
set_option maxHeartbeats 2000000 in
theorem run_any (c0 c1 : Nat) (f : Nat → Bool) (hf : ∀ b, b < 256 → inC c0 c1 b = f b) (h0 : c0 < 18446744073709551616) (h1 : c1 < 18446744073709551616) (s : ByteArray) (hs : s.size ≤ 1000000) (w : World) :
    Calls Tryz.prog 30 #[.agg (cC c0 c1).toArray, .string s] w fun e w' => e = .returned (.int .i64 ((((bts s).takeWhile f).length : Nat) : Int)) ∧ Hid (Below w.heap.size w w') := by
  obtain ⟨N, HN⟩ : ∃ N, Hid (((bts s).takeWhile f).length = N) := ⟨_, rfl⟩
  rw [HN.out]
  have hNs : N ≤ s.size := by rw [← HN.out, ← bts_len s]; exact tw_le _ _
  have HH : Hid (∀ b : Nat, b < 256 → ∀ W, Calls Tryz.prog 34 #[.agg (cC c0 c1).toArray, .int .u8 (b : Int)] W fun e w' => e = .returned (.bool (f b)) ∧ Hid (Below W.heap.size W w')) := fun b hb W => by
    have := has_any c0 c1 b h0 h1 hb W
    rw [hf b hb] at this
    exact this
  clear hf h0 h1
  go_enter Tryz.func30, Tryz.ntmps30
  go_wp2_with (refine lx_box rfl 59 (.tmp 0) rfl (cC c0 c1) rfl ?_)
  intro g w1 hg B1 gr
  have HB : Hid (Below w.heap.size w w1) := (Below.refl _ _).grown gr (Nat.le_refl _) (fun k e => by cases e)
  have HK : Hid (Blk w1 g 59 (cC c0 c1)) := B1
  clear B1 gr hg
  go_wp2
  go_loopw [5] (fun i wr => ∃ k : Nat, k ≤ N ∧ i = .int .i64 (k : Int) ∧ Hid (Below w1.heap.size w1 wr)) (fun i _ => N - (intOf i).toNat)
  case atStart => exact ⟨0, by omega, rfl, Below.refl _ _⟩
  case round =>
    obtain ⟨k, hk, rfl, HR⟩ := hrel
    obtain ⟨C, hC⟩ : ∃ C : World → Prop, C = fun W => Below w1.heap.size w1 W := ⟨_, rfl⟩
    have C0 : Hid (C { wr with drawn := wr.drawn + 1 }) := by rw [hC]; exact Below.drew HR.out
    have F1 : Hid (∀ W, C W → W.rangeAt g 0 (cC c0 c1)) := fun W h => by
      rw [hC] at h
      have hb : Blk W g 59 (cC c0 c1) := HK.out.below h HK.out.lt
      intro j u hj
      rw [Nat.zero_add, hb.cell]
      exact hj
    have CO : Hid (∀ W, C W → Below w1.heap.size w1 W) := fun W h => by rw [hC] at h; exact h
    have hCp : ∀ p : Prop, (∀ W, C W → p) ↔ p := fun p => ⟨fun h => h _ C0.out, fun h _ _ => h⟩
    have hat := tw_at (f := f) (bts s) k (by rw [HN.out]; exact hk)
    rw [HN.out] at hat
    by_cases hlt : k < s.size
    · have x1 : (k : Int) < (s.size : Int) := by omega
      have hgd : (bts s)[k]? = some ((bts s).getD k 0) := lt_some (by rw [bts_len]; exact hlt)
      cases hV : f ((bts s).getD k 0) with
      | true =>
        have hkN : k < N := hat.2 ⟨_, hgd, hV⟩
        have F2 : Hid (∀ W, C W → Calls Tryz.prog 34 #[.agg (cC c0 c1).toArray, .int .u8 (((bts s).getD k 0 : Nat) : Int)] W fun e' w' => e' = .returned (.bool true) ∧ C w') := fun W h => by
          rw [hC] at h ⊢
          refine (HH.out _ (oct_getD s k) W).mono ?_
          rintro e' w' ⟨rfl, H⟩
          rw [hV]
          exact ⟨rfl, h.trans (H.out.mono h.size)⟩
        clear hC hat hgd hV
        go_wp2_with fail
        refine wp_region_quiet (C := C) (by kernel_rfl) (by kernel_rfl) C0.out ?_
        change wpQuiet _ _ _ _ (_ :: _ :: _ :: _ :: _ :: _ :: _ :: _ :: _ :: _ :: _ :: []) _
        repeat (first
          | go_big_quiet_skip
          | (go_big_quiet_want
             first
             | (refine lx_load 59 (.tmp 2) rfl g 0 rfl (cC c0 c1) _ F1.out Tryz.underlying59 rfl sC ?_
                simp only [Act.put, List.setIfInBounds_toArray, List.set_cons_zero, List.set_cons_succ]
                go_big_quiet_on)
             | (refine lx_idx (.tmp 12) (.tmp 13) rfl s k rfl rfl hlt ?_
                simp only [Act.put, List.setIfInBounds_toArray, List.set_cons_zero, List.set_cons_succ]
                go_big_quiet_on)
             | (refine lx_call 34 _ _ rfl #[.agg (cC c0 c1).toArray, .int .u8 (((bts s).getD k 0 : Nat) : Int)] (by rw [List.map_toArray]; rfl) (lx_enters Tryz.func34 (by kernel_rfl) rfl) (.bool true) F2.out ?_
                simp only [Act.put, List.setIfInBounds_toArray, List.set_cons_zero, List.set_cons_succ]
                go_big_quiet_on)
             | (go_big_quiet_op
                go_big_quiet_on)))
        refine wpQuiet_nil ?_
        intro w9 h9
        have HN9 : Hid (Below w1.heap.size w1 w9) := CO.out _ h9
        clear h9 hCp C0 F1 F2 CO
        go_wp2
        go_roundw
        case rel => exact ⟨k + 1, by omega, by go_num, HN9.out⟩
        case measure => simp [intOf]; omega
      | false =>
        have hkN : ¬ k < N := fun h => by
          obtain ⟨c, h1, h2⟩ := hat.1 h
          rw [hgd] at h1
          injection h1 with h1
          subst h1
          rw [hV] at h2
          cases h2
        have hkN : N = k := by omega
        subst hkN
        have F2 : Hid (∀ W, C W → Calls Tryz.prog 34 #[.agg (cC c0 c1).toArray, .int .u8 (((bts s).getD N 0 : Nat) : Int)] W fun e' w' => e' = .returned (.bool false) ∧ C w') := fun W h => by
          rw [hC] at h ⊢
          refine (HH.out _ (oct_getD s N) W).mono ?_
          rintro e' w' ⟨rfl, H⟩
          rw [hV]
          exact ⟨rfl, h.trans (H.out.mono h.size)⟩
        clear hC hat hgd hV
        go_wp2_with fail
        refine wp_region_quiet (C := C) (by kernel_rfl) (by kernel_rfl) C0.out ?_
        change wpQuiet _ _ _ _ (_ :: _ :: _ :: _ :: _ :: _ :: _ :: _ :: _ :: _ :: _ :: []) _
        repeat (first
          | go_big_quiet_skip
          | (go_big_quiet_want
             first
             | (refine lx_load 59 (.tmp 2) rfl g 0 rfl (cC c0 c1) _ F1.out Tryz.underlying59 rfl sC ?_
                simp only [Act.put, List.setIfInBounds_toArray, List.set_cons_zero, List.set_cons_succ]
                go_big_quiet_on)
             | (refine lx_idx (.tmp 12) (.tmp 13) rfl s N rfl rfl hlt ?_
                simp only [Act.put, List.setIfInBounds_toArray, List.set_cons_zero, List.set_cons_succ]
                go_big_quiet_on)
             | (refine lx_call 34 _ _ rfl #[.agg (cC c0 c1).toArray, .int .u8 (((bts s).getD N 0 : Nat) : Int)] (by rw [List.map_toArray]; rfl) (lx_enters Tryz.func34 (by kernel_rfl) rfl) (.bool false) F2.out ?_
                simp only [Act.put, List.setIfInBounds_toArray, List.set_cons_zero, List.set_cons_succ]
                go_big_quiet_on)
             | (go_big_quiet_op
                go_big_quiet_on)))
        refine wpQuiet_nil ?_
        intro w9 h9
        have HN9 : Hid (Below w1.heap.size w1 w9) := CO.out _ h9
        clear h9 hCp C0 F1 F2 CO
        go_wp2
        go_ret
        exact ⟨rfl, HB.out.trans (HN9.out.mono HB.out.size)⟩
    · have hkN : N = k := by omega
      subst hkN
      have x1 : ¬ (N : Int) < (s.size : Int) := by omega
      clear hC hat
      go_wp2_with fail
      refine wp_region_quiet (C := C) (by kernel_rfl) (by kernel_rfl) C0.out ?_
      change wpQuiet _ _ _ _ (_ :: _ :: _ :: _ :: _ :: _ :: _ :: _ :: _ :: _ :: _ :: []) _
      repeat (first
        | go_big_quiet_skip
        | (go_big_quiet_want
           first
           | (go_big_quiet_op
              go_big_quiet_on)))
      refine wpQuiet_nil ?_
      intro w9 h9
      have HN9 : Hid (Below w1.heap.size w1 w9) := CO.out _ h9
      clear h9 hCp C0 F1 CO
      go_wp2
      go_ret
      exact ⟨rfl, HB.out.trans (HN9.out.mono HB.out.size)⟩
end Go.Proofs.YtpfiejmhnkcjbaaGreatDoor
