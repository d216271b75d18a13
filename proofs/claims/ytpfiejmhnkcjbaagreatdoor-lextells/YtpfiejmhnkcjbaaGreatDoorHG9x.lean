/-
   ·  ·  · 
-/
import Derived.Test.YtpfiejmhnkcjbaaGreatDoorHG0x
import Derived.Test.YtpfiejmhnkcjbaaGreatDoorHG7x
import Derived.Test.YtpfiejmhnkcjbaaGreatDoorHLxg
import Derived.BigQuiet
import Derived.Laws.Bits64b
import Derived.Shelf.LaysM
import Derived.Shelf.Strings.Prefix
import Derived.Shelf.Strings.OnBuilder
import Derived.Test.YtpfiejmhnkcjbaaGreatDoorProg
import Derived.Shelf.Strconv.Itoa1
import Derived.Shelf.Strconv.Itoa2
import Derived.Shelf.Strconv.Itoa3
import Derived.Shelf.Strings.Cut
import Derived.Shelf.Strings.Shaped
import Derived.Shelf.Strings.Search2
import Derived.Shelf.Small.Wraps
import Derived.Shelf.Strings.SlTrimAscii
import Derived.Shelf.Strings.BuilderK
import Derived.Shelf.Strings.Search3
import Derived.Lib.Walk
import Derived.Lib.BufferWrite
import Derived.Lib.UnsafeStr
import Derived.Lib.Strings
import Derived.Laws.MakeOwn
import Derived.Laws.CopyOwn
namespace Go.Proofs.YtpfiejmhnkcjbaaGreatDoor
set_option maxHeartbeats 2000000
set_option maxRecDepth 8000
open Go.RowKit Lx
set_option linter.unusedVariables false
set_option linter.unusedSimpArgs false
theorem sC : (Tryz.prog.info? 59).map (·.size) = some 2 := by kernel_rfl
theorem zC : (Tryz.prog.info? 59).map (fun i => i.zero.map (·.cells)) = some (some (List.toArray [.int .u64 0, .int .u64 0])) := by kernel_rfl
def cC (c0 c1 : Nat) : List Value := [.int .u64 (c0 : Int), .int .u64 (c1 : Int)]
theorem one_c (c0 c1 : Nat) : ∀ v ∈ cC c0 c1, v.oneCell' = true := by
 unfold cC
 simp
 exact ⟨rfl, rfl⟩
theorem lx_box {P : Program} {ops : Array Oper} {rest : List Oper} {o : Oper} {a : Act} {w : World} {Q : Exit -> Act -> World -> Prop} (hg : o.guard = none) (t : TypeId) (x : Operand) (ho : o.op = .box t x) (cs : List Value) (hx : a.eval x = .agg cs.toArray)
 (h : ∀ g w', w.heap.size <= g -> Blk w' g t cs -> w.grownBy w' none -> wpList P ops Q rest (a.put o.dst (.pointer (some ⟨g, 0, none⟩))) w') : wpList P ops Q (o :: rest) a w := by
 refine wpList_plain hg fun K hK => ?_
 unfold Oper.wp execOp
 simp only [ho, hx, Value.cells, Sem.run_bind, Instr.box, newVar, newRow, run_newObj_alloc, Sem.run_pure, Result.andThen_ok]
 exact hK _ _ (h _ _ (Nat.le_refl _) (blk_new w t cs) (World.grownBy_alloc w _ none))
theorem lx_load {C : World -> Prop} {a : Act} {o : Oper} {K : Act -> Prop} (ty : TypeId) (x : Operand) (ho : o.op = .load ty x) (b k : Nat) (hx : a.eval x = .pointer (some ⟨b, k, none⟩)) (cs : List Value) (d : TypeDesc) (hS : ∀ w, C w -> w.rangeAt b k cs)
 (hu : Tryz.prog.underlying ty = some d) (hd : d.isRow = true) (hi : (Tryz.prog.info? ty).map (·.size) = some cs.length) (hk : K (a.put o.dst (.agg cs.toArray))) : o.quiet Tryz.prog a C K :=
 ⟨_, fun w hw => by
   unfold Oper.quietAt execOp
   simp only [ho, hx, Instr.loadAt, Instr.sureAddr, Sem.run_bind, Sem.run_pure, Result.andThen_ok, run_loadVar_mid w b k ty cs d (hS w hw) hu hd hi]
   exact ⟨rfl, rfl⟩, hk⟩
theorem lx_enters {P : Program} {f : FuncId} {fn : Func} {c : Code} (hf : P.funcs[f]? = some fn) (hname : (fn.name == "runtime.NumGoroutine") = false) (hb : fn.body = some c) : ∀ (args : Array Value) (w : World), (callFunc f args).run P w = .ok (.enter f args) w := by
 intro args w
 have h1 : fn.name ≠ "runtime.NumGoroutine" := by simpa using hname
 simp [callFunc, hf, h1, hb]
theorem lx_call {C : World -> Prop} {a : Act} {o : Oper} {K : Act -> Prop} (k : Nat) (xs : Array Operand) (ts : Array TypeId)
 (hop : o.op = Op.call { callee := Callee.value (Operand.func k), args := xs, argTypes := ts }) (args : Array Value) (hargs : xs.map a.eval = args)
 (hent : ∀ (args : Array Value) (w : World), (callFunc k args).run Tryz.prog w = .ok (.enter k args) w) (v : Value)
 (hc : ∀ w, C w -> Calls Tryz.prog k args w fun e w' => e = .returned v /\ C w') (hk : K (a.put o.dst v)) : o.quiet Tryz.prog a C K :=
 ⟨v, fun w hw => by
   unfold Oper.quietAt
   have : (execOp a.eval o).run Tryz.prog w = .ok (.enter k args) w := by
    simp [execOp, hop, resolve, invoke, Act.eval, hargs, hent, Deferred.ofValue]
   rw [this]
   exact ⟨rfl, hc w hw⟩, hk⟩
theorem lx_idx {C : World -> Prop} {a : Act} {o : Oper} {K : Act -> Prop} (x y : Operand) (ho : o.op = .index 9 x y) (s : ByteArray) (k : Nat) (hx : a.eval x = .string s) (hy : a.eval y = .int .i64 (k : Int)) (hk1 : k < s.size)
 (hk : K (a.put o.dst (.int .u8 (((bts s).getD k 0 : Nat) : Int)))) : o.quiet Tryz.prog a C K :=
 ⟨_, fun w hw => by
   have h := idxL s k hk1 w
   unfold Oper.quietAt execOp
   simp only [ho, hx, hy, Sem.run_bind, h, Result.andThen_ok, Sem.run_pure]
   exact ⟨rfl, rfl⟩, hk⟩
theorem bit_is (cc b : Nat) (h : cc < 18446744073709551616) : (bits .and .u64 ((cc : Int) / 2 ^ b) 1 == 1) = (cc / 2 ^ b % 2 == 1) := by
 have e : ((cc : Int) / 2 ^ b) = ((cc / 2 ^ b : Nat) : Int) := by push_cast; rfl
 have h2 := bits_and_u64_nat (cc / 2 ^ b) 1 (Nat.lt_of_le_of_lt (Nat.div_le_self _ _) h) (by omega)
 rw [Nat.and_one_is_mod] at h2
 have h3 : ((1 : Nat) : Int) = 1 := rfl
 rw [h3] at h2
 rw [e, h2, Bool.eq_iff_iff, beq_iff_eq, beq_iff_eq]
 omega
theorem blanks_any (w : World) : Calls Tryz.prog 29 #[] w fun e w' => e = .returned (.agg (cC cBl 0).toArray) /\ Hid (Below w.heap.size w w') := by
 go_enter Tryz.func29, Tryz.ntmps29
 go_wp2_with (refine al_zero rfl 59 rfl (cC 0 0) zC ?_)
 intro g w1 hg bz gr
 go_wp2_with (refine st_all rfl 59 (.tmp 0) (.tmp 1) rfl g 59 (cC 0 0) (cC cBl 0) rfl rfl bz rfl sC (one_c _ _) ?_)
 intro w2 b2 g2
 have HB2 : Hid (Below w.heap.size w w2) := below_new gr hg g2
 go_wp2
 refine bodyPost_ret (res_row rfl _ g 59 _ _ rfl b2 Tryz.underlying59 rfl sC) rfl ?_
 exact ⟨rfl, HB2.out⟩
theorem digits_any (w : World) : Calls Tryz.prog 36 #[] w fun e w' => e = .returned (.agg (cC cDg 0).toArray) /\ Hid (Below w.heap.size w w') := by
 go_enter Tryz.func36, Tryz.ntmps36
 go_wp2_with (refine al_zero rfl 59 rfl (cC 0 0) zC ?_)
 intro g w1 hg bz gr
 go_wp2_with (refine st_all rfl 59 (.tmp 0) (.tmp 1) rfl g 59 (cC 0 0) (cC cDg 0) rfl rfl bz rfl sC (one_c _ _) ?_)
 intro w2 b2 g2
 have HB2 : Hid (Below w.heap.size w w2) := below_new gr hg g2
 go_wp2
 refine bodyPost_ret (res_row rfl _ g 59 _ _ rfl b2 Tryz.underlying59 rfl sC) rfl ?_
 exact ⟨rfl, HB2.out⟩
theorem letters_any (w : World) : Calls Tryz.prog 33 #[] w fun e w' => e = .returned (.agg (cC 0 cLt).toArray) /\ Hid (Below w.heap.size w w') := by
 go_enter Tryz.func33, Tryz.ntmps33
 go_wp2_with (refine al_zero rfl 59 rfl (cC 0 0) zC ?_)
 intro g w1 hg bz gr
 go_wp2_with (refine st_all rfl 59 (.tmp 0) (.tmp 1) rfl g 59 (cC 0 0) (cC 0 cLt) rfl rfl bz rfl sC (one_c _ _) ?_)
 intro w2 b2 g2
 have HB2 : Hid (Below w.heap.size w w2) := below_new gr hg g2
 go_wp2
 refine bodyPost_ret (res_row rfl _ g 59 _ _ rfl b2 Tryz.underlying59 rfl sC) rfl ?_
 exact ⟨rfl, HB2.out⟩
theorem signs_any (w : World) : Calls Tryz.prog 56 #[] w fun e w' => e = .returned (.agg (cC cS0 cS1).toArray) /\ Hid (Below w.heap.size w w') := by
 go_enter Tryz.func56, Tryz.ntmps56
 go_wp2_with (refine al_zero rfl 59 rfl (cC 0 0) zC ?_)
 intro g w1 hg bz gr
 go_wp2_with (refine st_all rfl 59 (.tmp 0) (.tmp 1) rfl g 59 (cC 0 0) (cC cS0 cS1) rfl rfl bz rfl sC (one_c _ _) ?_)
 intro w2 b2 g2
 have HB2 : Hid (Below w.heap.size w w2) := below_new gr hg g2
 go_wp2
 refine bodyPost_ret (res_row rfl _ g 59 _ _ rfl b2 Tryz.underlying59 rfl sC) rfl ?_
 exact ⟨rfl, HB2.out⟩
theorem or_any (w : World) : Calls Tryz.prog 47 #[.agg (cC 0 cLt).toArray, .agg (cC cDg 0).toArray] w fun e w' => e = .returned (.agg (cC cDg cLt).toArray) /\ Hid (Below w.heap.size w w') := by
 go_enter Tryz.func47, Tryz.ntmps47
 go_wp2_with (refine lx_box rfl 59 (.tmp 0) rfl (cC 0 cLt) rfl ?_)
 intro g1 w1 hg1 B1 gr1
 go_wp2_with (refine lx_box rfl 59 (.tmp 1) rfl (cC cDg 0) rfl ?_)
 intro g2 w2 hg2 B2 gr2
 go_wp2_with (refine al_zero rfl 59 rfl (cC 0 0) zC ?_)
 intro g3 w3 hg3 B3 gr3
 have HB3 : Hid (Below w.heap.size w w3) := (((Below.refl _ _).grown gr1 (Nat.le_refl _) (fun k e => by cases e)).grown gr2 gr1.size (fun k e => by cases e)).grown gr3 (Nat.le_trans gr1.size gr2.size) (fun k e => by cases e)
 have C1 : Blk w3 g1 59 (cC 0 cLt) := Blk.kept (Blk.kept B1 gr2 (by intro e; cases e)) gr3 (by intro e; cases e)
 have C2 : Blk w3 g2 59 (cC cDg 0) := Blk.kept B2 gr3 (by intro e; cases e)
 have k0 : w3.cell? ⟨g1, 0, none⟩ = some (.int .u64 0) := C1.cell 0
 have k1 : w3.cell? ⟨g1, 1, none⟩ = some (.int .u64 (cLt : Int)) := C1.cell 1
 have m0 : w3.cell? ⟨g2, 0, none⟩ = some (.int .u64 (cDg : Int)) := C2.cell 0
 have m1 : w3.cell? ⟨g2, 1, none⟩ = some (.int .u64 0) := C2.cell 1
 have HZ : Hid (Blk w3 g3 59 (cC 0 0)) := B3
 have hgw : w.heap.size <= g3 := Nat.le_trans (Nat.le_trans gr1.size gr2.size) hg3
 clear B1 B2 B3 C1 C2 gr1 gr2 gr3 hg1 hg2 hg3
 go_wp2_with (refine st_all rfl 59 (.tmp 4) (.tmp 15) rfl g3 59 (cC 0 0) (cC cDg cLt) rfl rfl HZ.out rfl sC (one_c _ _) ?_)
 intro w4 b4 g4
 have HB4 : Hid (Below w.heap.size w w4) := HB3.out.grown g4 HB3.out.size (fun k e => by injection e with e; omega)
 go_wp2
 refine bodyPost_ret (res_row rfl _ g3 59 _ _ rfl b4 Tryz.underlying59 rfl sC) rfl ?_
 exact ⟨rfl, HB4.out⟩
theorem has_any (c0 c1 b : Nat) (h0 : c0 < 18446744073709551616) (h1 : c1 < 18446744073709551616) (hb : b < 256) (w : World) : Calls Tryz.prog 34 #[.agg (cC c0 c1).toArray, .int .u8 (b : Int)] w fun e w' => e = .returned (.bool (inC c0 c1 b)) /\ Hid (Below w.heap.size w w') := by
 obtain ⟨V, HV⟩ : ∃ V, Hid (inC c0 c1 b = V) := ⟨_, rfl⟩
 rw [HV.out]
 go_enter Tryz.func34, Tryz.ntmps34
 go_wp2_with (refine lx_box rfl 59 (.tmp 0) rfl (cC c0 c1) rfl ?_)
 intro g w1 hg B1 gr
 have HB : Hid (Below w.heap.size w w1) := (Below.refl _ _).grown gr (Nat.le_refl _) (fun k e => by cases e)
 have k0 : w1.cell? ⟨g, 0, none⟩ = some (.int .u64 (c0 : Int)) := Blk.cell B1 0
 have k1 : w1.cell? ⟨g, 1, none⟩ = some (.int .u64 (c1 : Int)) := Blk.cell B1 1
 clear B1 gr hg
 by_cases h128 : b < 128
 . have e1 : (b : Int) < 128 := by omega
   obtain ⟨cc, hcc, hc64, kk⟩ : ∃ cc : Nat, cc = (if b < 64 then c0 else c1) /\ cc < 18446744073709551616 /\ w1.cell? ⟨g, b / 64, none⟩ = some (.int .u64 (cc : Int)) := by
    by_cases h64 : b < 64
    . refine ⟨c0, (if_pos h64).symm, h0, ?_⟩
      rw [show b / 64 = 0 by omega]; exact k0
    . refine ⟨c1, (if_neg h64).symm, h1, ?_⟩
      rw [show b / 64 = 1 by omega]; exact k1
   have HCC : Hid (cc = if b < 64 then c0 else c1) := hcc
   clear k0 k1 hcc
   go_wp2
   go_ret
   refine ⟨?_, HB.out⟩
   show Ending.returned (.bool (bits BinOp.and IntKind.u64 ((cc : Int) / 2 ^ (b % 64)) 1 == 1)) = _
   rw [bit_is _ _ hc64, <- HV.out, HCC.out]
   unfold inC
   rw [decide_eq_true h128, Bool.true_and]
 . have e1 : ¬ (b : Int) < 128 := by omega
   have e : V = false := by rw [<- HV.out]; simp [inC, h128]
   subst e
   clear h128 HV
   go_wp2
   go_ret
   exact ⟨rfl, HB.out⟩
theorem run_any (c0 c1 : Nat) (f : Nat -> Bool) (hf : ∀ b, b < 256 -> inC c0 c1 b = f b) (h0 : c0 < 18446744073709551616) (h1 : c1 < 18446744073709551616) (s : ByteArray) (hs : s.size <= 1000000) (w : World) :
 Calls Tryz.prog 30 #[.agg (cC c0 c1).toArray, .string s] w fun e w' => e = .returned (.int .i64 ((((bts s).takeWhile f).length : Nat) : Int)) /\ Hid (Below w.heap.size w w') := by
 obtain ⟨N, HN⟩ : ∃ N, Hid (((bts s).takeWhile f).length = N) := ⟨_, rfl⟩
 rw [HN.out]
 have hNs : N <= s.size := by rw [<- HN.out, <- bts_len s]; exact tw_le _ _
 have HH : Hid (∀ b : Nat, b < 256 -> ∀ W, Calls Tryz.prog 34 #[.agg (cC c0 c1).toArray, .int .u8 (b : Int)] W fun e w' => e = .returned (.bool (f b)) /\ Hid (Below W.heap.size W w')) := fun b hb W => by
  have := has_any c0 c1 b h0 h1 hb W
  rw [hf b hb] at this
  exact this
 clear hf h0 h1
 go_enter Tryz.func30, Tryz.ntmps30
 go_wp2_with (refine lx_box rfl 59 (.tmp 0) rfl (cC c0 c1) rfl ?_)
 intro g w1 hg B1 gr
 have HB : Hid (Below w.heap.size w w1) := (Below.refl _ _).grown gr (Nat.le_refl _) (fun k e => by cases e)
 have HK : Hid (Blk w1 g 59 (cC c0 c1)) := B1
 clear B1 gr hg
 go_wp2
 go_loopw [5] (fun i wr => ∃ k : Nat, k <= N /\ i = .int .i64 (k : Int) /\ Hid (Below w1.heap.size w1 wr)) (fun i _ => N - (intOf i).toNat)
 case atStart => exact ⟨0, by omega, rfl, Below.refl _ _⟩
 case round =>
  obtain ⟨k, hk, rfl, HR⟩ := hrel
  obtain ⟨C, hC⟩ : ∃ C : World -> Prop, C = fun W => Below w1.heap.size w1 W := ⟨_, rfl⟩
  have C0 : Hid (C { wr with drawn := wr.drawn + 1 }) := by rw [hC]; exact Below.drew HR.out
  have F1 : Hid (∀ W, C W -> W.rangeAt g 0 (cC c0 c1)) := fun W h => by
   rw [hC] at h
   have hb : Blk W g 59 (cC c0 c1) := HK.out.below h HK.out.lt
   intro j u hj
   rw [Nat.zero_add, hb.cell]
   exact hj
  have CO : Hid (∀ W, C W -> Below w1.heap.size w1 W) := fun W h => by rw [hC] at h; exact h
  have hCp : ∀ p : Prop, (∀ W, C W -> p) ↔ p := fun p => ⟨fun h => h _ C0.out, fun h _ _ => h⟩
  have hat := tw_at (f := f) (bts s) k (by rw [HN.out]; exact hk)
  rw [HN.out] at hat
  by_cases hlt : k < s.size
  . have x1 : (k : Int) < (s.size : Int) := by omega
    have hgd : (bts s)[k]? = some ((bts s).getD k 0) := lt_some (by rw [bts_len]; exact hlt)
    cases hV : f ((bts s).getD k 0) with
    | true =>
      have hkN : k < N := hat.2 ⟨_, hgd, hV⟩
      have F2 : Hid (∀ W, C W -> Calls Tryz.prog 34 #[.agg (cC c0 c1).toArray, .int .u8 (((bts s).getD k 0 : Nat) : Int)] W fun e' w' => e' = .returned (.bool true) /\ C w') := fun W h => by
       rw [hC] at h ⊢
       refine (HH.out _ (oct_getD s k) W).mono ?_
       rintro e' w' ⟨rfl, H⟩
       rw [hV]
       exact ⟨rfl, h.trans (H.out.mono h.size)⟩
      clear hC hat hgd hV
      go_wp2_with fail
      refine wp_region_quiet (C := C) (by kernel_rfl) (by kernel_rfl) C0.out ?_
      change wpQuiet _ _ _ _ (_ :: _ :: _ :: _ :: _ :: _ :: _ :: _ :: _ :: _ :: _ :: []) _
      repeat (first
       | go_big_quiet_skip
       | (go_big_quiet_want
          first
          | (refine lx_load 59 (.tmp 2) rfl g 0 rfl (cC c0 c1) _ F1.out Tryz.underlying59 rfl sC ?_
             simp only [Act.put, List.setIfInBounds_toArray, List.set_cons_zero, List.set_cons_succ]
             go_big_quiet_on)
          | (refine lx_idx (.tmp 12) (.tmp 13) rfl s k rfl rfl hlt ?_
             simp only [Act.put, List.setIfInBounds_toArray, List.set_cons_zero, List.set_cons_succ]
             go_big_quiet_on)
          | (refine lx_call 34 _ _ rfl #[.agg (cC c0 c1).toArray, .int .u8 (((bts s).getD k 0 : Nat) : Int)] (by rw [List.map_toArray]; rfl) (lx_enters Tryz.func34 (by kernel_rfl) rfl) (.bool true) F2.out ?_
             simp only [Act.put, List.setIfInBounds_toArray, List.set_cons_zero, List.set_cons_succ]
             go_big_quiet_on)
          | (go_big_quiet_op
             go_big_quiet_on)))
      refine wpQuiet_nil ?_
      intro w9 h9
      have HN9 : Hid (Below w1.heap.size w1 w9) := CO.out _ h9
      clear h9 hCp C0 F1 F2 CO
      go_wp2
      go_roundw
      case rel => exact ⟨k + 1, by omega, by go_num, HN9.out⟩
      case measure => simp [intOf]; omega
    | false =>
      have hkN : ¬ k < N := fun h => by
       obtain ⟨c, h1, h2⟩ := hat.1 h
       rw [hgd] at h1
       injection h1 with h1
       subst h1
       rw [hV] at h2
       cases h2
      have hkN : N = k := by omega
      subst hkN
      have F2 : Hid (∀ W, C W -> Calls Tryz.prog 34 #[.agg (cC c0 c1).toArray, .int .u8 (((bts s).getD N 0 : Nat) : Int)] W fun e' w' => e' = .returned (.bool false) /\ C w') := fun W h => by
       rw [hC] at h ⊢
       refine (HH.out _ (oct_getD s N) W).mono ?_
       rintro e' w' ⟨rfl, H⟩
       rw [hV]
       exact ⟨rfl, h.trans (H.out.mono h.size)⟩
      clear hC hat hgd hV
      go_wp2_with fail
      refine wp_region_quiet (C := C) (by kernel_rfl) (by kernel_rfl) C0.out ?_
      change wpQuiet _ _ _ _ (_ :: _ :: _ :: _ :: _ :: _ :: _ :: _ :: _ :: _ :: _ :: []) _
      repeat (first
       | go_big_quiet_skip
       | (go_big_quiet_want
          first
          | (refine lx_load 59 (.tmp 2) rfl g 0 rfl (cC c0 c1) _ F1.out Tryz.underlying59 rfl sC ?_
             simp only [Act.put, List.setIfInBounds_toArray, List.set_cons_zero, List.set_cons_succ]
             go_big_quiet_on)
          | (refine lx_idx (.tmp 12) (.tmp 13) rfl s N rfl rfl hlt ?_
             simp only [Act.put, List.setIfInBounds_toArray, List.set_cons_zero, List.set_cons_succ]
             go_big_quiet_on)
          | (refine lx_call 34 _ _ rfl #[.agg (cC c0 c1).toArray, .int .u8 (((bts s).getD N 0 : Nat) : Int)] (by rw [List.map_toArray]; rfl) (lx_enters Tryz.func34 (by kernel_rfl) rfl) (.bool false) F2.out ?_
             simp only [Act.put, List.setIfInBounds_toArray, List.set_cons_zero, List.set_cons_succ]
             go_big_quiet_on)
          | (go_big_quiet_op
             go_big_quiet_on)))
      refine wpQuiet_nil ?_
      intro w9 h9
      have HN9 : Hid (Below w1.heap.size w1 w9) := CO.out _ h9
      clear h9 hCp C0 F1 F2 CO
      go_wp2
      go_ret
      exact ⟨rfl, HB.out.trans (HN9.out.mono HB.out.size)⟩
  . have hkN : N = k := by omega
    subst hkN
    have x1 : ¬ (N : Int) < (s.size : Int) := by omega
    clear hC hat
    go_wp2_with fail
    refine wp_region_quiet (C := C) (by kernel_rfl) (by kernel_rfl) C0.out ?_
    change wpQuiet _ _ _ _ (_ :: _ :: _ :: _ :: _ :: _ :: _ :: _ :: _ :: _ :: _ :: []) _
    repeat (first
     | go_big_quiet_skip
     | (go_big_quiet_want
        first
        | (go_big_quiet_op
           go_big_quiet_on)))
    refine wpQuiet_nil ?_
    intro w9 h9
    have HN9 : Hid (Below w1.heap.size w1 w9) := CO.out _ h9
    clear h9 hCp C0 F1 CO
    go_wp2
    go_ret
    exact ⟨rfl, HB.out.trans (HN9.out.mono HB.out.size)⟩
end Go.Proofs.YtpfiejmhnkcjbaaGreatDoor
namespace Go.Proofs
open Go.Shelf
def Tryz.lays99_ren : Go.Shelf.Ren := ⟨fun | 99 => 31 | 206 => 45 | n => n, fun | 9 => 9 | 4 => 4 | 3 => 3 | n => n, fun | n => n⟩
theorem Tryz.lays99 : Go.Proofs.Lays.n99 Tryz.prog Tryz.lays99_ren := {
 mixed := by kernel_rfl
 f99 := Tryz.func31.trans (congrArg some (by kernel_rfl))
 f206 := Tryz.func45.trans (congrArg some (by kernel_rfl))
 t3 := Tryz.underlying3
 a3 := Tryz.isAgg3
 z3 := Tryz.sizeOf3
 v3 := Tryz.zeroValue3
 t4 := Tryz.underlying4
 a4 := Tryz.isAgg4
 z4 := Tryz.sizeOf4
 v4 := Tryz.zeroValue4
 t9 := Tryz.underlying9
 a9 := Tryz.isAgg9
 z9 := Tryz.sizeOf9
 v9 := Tryz.zeroValue9 }
def Tryz.lays159_ren : Go.Shelf.Ren := ⟨fun | 159 => 48 | 165 => 63 | 166 => 64 | 167 => 65 | 169 => 66 | 230 => 67 | 204 => 68 | 240 => 92 | 241 => 93 | 197 => 94 | 118 => 95 | 168 => 96 | 270 => 97 | 262 => 98 | 276 => 115 | 277 => 116 | 260 => 117 | 242 => 118 | 313 => 119 | 278 => 149 | 274 => 150 | 275 => 151 | n => n, fun | 9 => 9 | 4 => 4 | 3 => 3 | 5 => 5 | 72 => 86 | 0 => 0 | 76 => 90 | 75 => 89 | 107 => 95 | 70 => 84 | 20 => 20 | 37 => 34 | 127 => 73 | 21 => 21 | 105 => 120 | 164 => 137 | 162 => 143 | 203 => 141 | 119 => 163 | 46 => 133 | 139 => 166 | 138 => 165 | 51 => 167 | 160 => 168 | 208 => 183 | 206 => 181 | 80 => 93 | n => n, fun | 13 => 1 | 3 => 4 | 4 => 5 | n => n⟩
theorem Tryz.lays159 : Go.Proofs.Lays.n159 Tryz.prog Tryz.lays159_ren := {
 mixed := by kernel_rfl
 f118 := Tryz.func95.trans (congrArg some (by kernel_rfl))
 f159 := Tryz.func48.trans (congrArg some (by kernel_rfl))
 f165 := Tryz.func63.trans (congrArg some (by kernel_rfl))
 f166 := Tryz.func64.trans (congrArg some (by kernel_rfl))
 f167 := Tryz.func65.trans (congrArg some (by kernel_rfl))
 f168 := Tryz.func96.trans (congrArg some (by kernel_rfl))
 f169 := Tryz.func66.trans (congrArg some (by kernel_rfl))
 f197 := Tryz.func94.trans (congrArg some (by kernel_rfl))
 f204 := Tryz.func68.trans (congrArg some (by kernel_rfl))
 f230 := Tryz.func67.trans (congrArg some (by kernel_rfl))
 f240 := Tryz.func92.trans (congrArg some (by kernel_rfl))
 f241 := Tryz.func93.trans (congrArg some (by kernel_rfl))
 f242 := Tryz.func118.trans (congrArg some (by kernel_rfl))
 f260 := Tryz.func117.trans (congrArg some (by kernel_rfl))
 f262 := Tryz.func98.trans (congrArg some (by kernel_rfl))
 f270 := Tryz.func97.trans (congrArg some (by kernel_rfl))
 f274 := Tryz.func150.trans (congrArg some (by kernel_rfl))
 f275 := Tryz.func151.trans (congrArg some (by kernel_rfl))
 f276 := Tryz.func115.trans (congrArg some (by kernel_rfl))
 f277 := Tryz.func116.trans (congrArg some (by kernel_rfl))
 f278 := Tryz.func149.trans (congrArg some (by kernel_rfl))
 f313 := Tryz.func119.trans (congrArg some (by kernel_rfl))
 t0 := Tryz.underlying0
 a0 := Tryz.isAgg0
 z0 := Tryz.sizeOf0
 v0 := Tryz.zeroValue0
 t3 := Tryz.underlying3
 a3 := Tryz.isAgg3
 z3 := Tryz.sizeOf3
 v3 := Tryz.zeroValue3
 t4 := Tryz.underlying4
 a4 := Tryz.isAgg4
 z4 := Tryz.sizeOf4
 v4 := Tryz.zeroValue4
 t5 := Tryz.underlying5
 a5 := Tryz.isAgg5
 z5 := Tryz.sizeOf5
 v5 := Tryz.zeroValue5
 t9 := Tryz.underlying9
 a9 := Tryz.isAgg9
 z9 := Tryz.sizeOf9
 v9 := Tryz.zeroValue9
 t20 := Tryz.underlying20
 a20 := Tryz.isAgg20
 z20 := Tryz.sizeOf20
 v20 := Tryz.zeroValue20
 t21 := Tryz.underlying21
 a21 := Tryz.isAgg21
 z21 := Tryz.sizeOf21
 v21 := Tryz.zeroValue21
 t37 := Tryz.underlying34
 a37 := Tryz.isAgg34
 z37 := Tryz.sizeOf34
 v37 := Tryz.zeroValue34
 t46 := Tryz.underlying133
 a46 := Tryz.isAgg133
 z46 := Tryz.sizeOf133
 v46 := Tryz.zeroValue133
 t51 := Tryz.underlying167
 a51 := Tryz.isAgg167
 z51 := Tryz.sizeOf167
 v51 := Tryz.zeroValue167
 t70 := Tryz.underlying84
 a70 := Tryz.isAgg84
 z70 := Tryz.sizeOf84
 v70 := Tryz.zeroValue84
 t72 := Tryz.underlying86
 a72 := Tryz.isAgg86
 z72 := Tryz.sizeOf86
 v72 := Tryz.zeroValue86
 t75 := Tryz.underlying89
 a75 := Tryz.isAgg89
 z75 := Tryz.sizeOf89
 v75 := Tryz.zeroValue89
 t76 := Tryz.underlying90
 a76 := Tryz.isAgg90
 z76 := Tryz.sizeOf90
 v76 := Tryz.zeroValue90
 t105 := Tryz.underlying120
 a105 := Tryz.isAgg120
 z105 := Tryz.sizeOf120
 v105 := Tryz.zeroValue120
 t107 := Tryz.underlying95
 a107 := Tryz.isAgg95
 z107 := Tryz.sizeOf95
 v107 := Tryz.zeroValue95
 t119 := Tryz.underlying163
 a119 := Tryz.isAgg163
 z119 := Tryz.sizeOf163
 t127 := Tryz.underlying73
 a127 := Tryz.isAgg73
 z127 := Tryz.sizeOf73
 v127 := Tryz.zeroValue73
 t138 := Tryz.underlying165
 a138 := Tryz.isAgg165
 z138 := Tryz.sizeOf165
 v138 := Tryz.zeroValue165
 t139 := Tryz.underlying166
 a139 := Tryz.isAgg166
 z139 := Tryz.sizeOf166
 v139 := Tryz.zeroValue166
 t160 := Tryz.underlying168
 a160 := Tryz.isAgg168
 z160 := Tryz.sizeOf168
 v160 := Tryz.zeroValue168
 t162 := Tryz.underlying143
 a162 := Tryz.isAgg143
 z162 := Tryz.sizeOf143
 v162 := Tryz.zeroValue143
 t164 := Tryz.underlying137
 a164 := Tryz.isAgg137
 z164 := Tryz.sizeOf137
 v164 := Tryz.zeroValue137
 t203 := Tryz.underlying141
 a203 := Tryz.isAgg141
 z203 := Tryz.sizeOf141
 v203 := Tryz.zeroValue141
 t206 := Tryz.underlying181
 a206 := Tryz.isAgg181
 z206 := Tryz.sizeOf181
 v206 := Tryz.zeroValue181
 t208 := Tryz.underlying183
 a208 := Tryz.isAgg183
 z208 := Tryz.sizeOf183
 v208 := Tryz.zeroValue183
 g3 := by kernel_rfl
 g4 := by kernel_rfl
 g13 := by kernel_rfl }
theorem Tryz.Builder_Extra_159 : Builder.Extra Tryz.prog Tryz.lays159_ren := {
 sizeBuilder := by kernel_rfl
 liesBuilder := by kernel_rfl
 t5 := Tryz.underlying5
 a5 := Tryz.isAgg5
 z5 := Tryz.sizeOf5
 v5 := Tryz.zeroValue5
 infoByte := by kernel_rfl
 cellsByte := by kernel_rfl
 sizeByte := by kernel_rfl
 neB5 := by decide }
end Go.Proofs
namespace Go.Proofs
open Go.Shelf
def Tryz.lays137_ren : Go.Shelf.Ren := ⟨fun | 137 => 32 | 217 => 46 | 266 => 62 | n => n, fun | 9 => 9 | 5 => 5 | 3 => 3 | n => n, fun | n => n⟩
theorem Tryz.lays137 : Go.Proofs.Lays.n137 Tryz.prog Tryz.lays137_ren := {
 mixed := by kernel_rfl
 f137 := Tryz.func32.trans (congrArg some (by kernel_rfl))
 f217 := Tryz.func46.trans (congrArg some (by kernel_rfl))
 f266 := Tryz.func62.trans (congrArg some (by kernel_rfl))
 t3 := Tryz.underlying3
 a3 := Tryz.isAgg3
 z3 := Tryz.sizeOf3
 v3 := Tryz.zeroValue3
 t5 := Tryz.underlying5
 a5 := Tryz.isAgg5
 z5 := Tryz.sizeOf5
 v5 := Tryz.zeroValue5
 t9 := Tryz.underlying9
 a9 := Tryz.isAgg9
 z9 := Tryz.sizeOf9
 v9 := Tryz.zeroValue9 }
def Tryz.lays169_ren : Go.Shelf.Ren := ⟨fun | 169 => 66 | n => n, fun | 70 => 84 | 9 => 9 | 0 => 0 | 72 => 86 | 37 => 34 | 127 => 73 | 3 => 3 | 5 => 5 | n => n, fun | n => n⟩
theorem Tryz.lays169 : Go.Proofs.Lays.n169 Tryz.prog Tryz.lays169_ren := {
 mixed := by kernel_rfl
 f169 := Tryz.func66.trans (congrArg some (by kernel_rfl))
 t0 := Tryz.underlying0
 a0 := Tryz.isAgg0
 z0 := Tryz.sizeOf0
 v0 := Tryz.zeroValue0
 t3 := Tryz.underlying3
 a3 := Tryz.isAgg3
 z3 := Tryz.sizeOf3
 v3 := Tryz.zeroValue3
 t9 := Tryz.underlying9
 a9 := Tryz.isAgg9
 z9 := Tryz.sizeOf9
 v9 := Tryz.zeroValue9
 t37 := Tryz.underlying34
 a37 := Tryz.isAgg34
 z37 := Tryz.sizeOf34
 v37 := Tryz.zeroValue34
 t70 := Tryz.underlying84
 a70 := Tryz.isAgg84
 z70 := Tryz.sizeOf84
 v70 := Tryz.zeroValue84
 t72 := Tryz.underlying86
 a72 := Tryz.isAgg86
 z72 := Tryz.sizeOf86
 v72 := Tryz.zeroValue86
 t127 := Tryz.underlying73
 a127 := Tryz.isAgg73
 z127 := Tryz.sizeOf73
 v127 := Tryz.zeroValue73 }
theorem Tryz.Builder_Extra_169 : Builder.Extra Tryz.prog Tryz.lays169_ren := {
 sizeBuilder := by kernel_rfl
 liesBuilder := by kernel_rfl
 t5 := Tryz.underlying5
 a5 := Tryz.isAgg5
 z5 := Tryz.sizeOf5
 v5 := Tryz.zeroValue5
 infoByte := by kernel_rfl
 cellsByte := by kernel_rfl
 sizeByte := by kernel_rfl
 neB5 := by decide }
def Tryz.laysM171_ren : Go.Shelf.Ren := ⟨fun | 171 => 141 | 243 => 168 | 246 => 179 | 283 => 182 | 284 => 183 | 285 => 184 | 286 => 185 | 129 => 170 | 317 => 188 | 318 => 189 | 319 => 190 | 320 => 191 | 337 => 193 | 338 => 194 | n => n, fun | 3 => 3 | 9 => 9 | 2 => 2 | 4 => 4 | 171 => 188 | 0 => 0 | 53 => 56 | 37 => 34 | 5 => 5 | 173 => 190 | 212 => 195 | 51 => 167 | 20 => 20 | 213 => 196 | 46 => 133 | 232 => 201 | 233 => 202 | n => n, fun | 17 => 6 | 18 => 7 | 19 => 8 | n => n⟩
theorem Tryz.laysM171 : Go.Proofs.LaysM.n171 Tryz.prog Tryz.laysM171_ren := {
 mixed := by kernel_rfl
 f129 := Tryz.func170.trans (congrArg some (by kernel_rfl))
 f171 := Tryz.func141.trans (congrArg some (by kernel_rfl))
 f243 := Tryz.func168.trans (congrArg some (by kernel_rfl))
 f246 := Tryz.func179.trans (congrArg some (by kernel_rfl))
 f283 := Tryz.func182.trans (congrArg some (by kernel_rfl))
 f284 := Tryz.func183.trans (congrArg some (by kernel_rfl))
 f285 := Tryz.func184.trans (congrArg some (by kernel_rfl))
 f286 := Tryz.func185.trans (congrArg some (by kernel_rfl))
 f317 := Tryz.func188.trans (congrArg some (by kernel_rfl))
 f318 := Tryz.func189.trans (congrArg some (by kernel_rfl))
 f319 := Tryz.func190.trans (congrArg some (by kernel_rfl))
 f320 := Tryz.func191.trans (congrArg some (by kernel_rfl))
 f337 := Tryz.func193.trans (congrArg some (by kernel_rfl))
 f338 := Tryz.func194.trans (congrArg some (by kernel_rfl))
 t0 := Tryz.underlying0
 a0 := Tryz.isAgg0
 z0 := Tryz.sizeOf0
 v0 := Tryz.zeroValue0
 t2 := Tryz.underlying2
 a2 := Tryz.isAgg2
 z2 := Tryz.sizeOf2
 v2 := Tryz.zeroValue2
 t3 := Tryz.underlying3
 a3 := Tryz.isAgg3
 z3 := Tryz.sizeOf3
 v3 := Tryz.zeroValue3
 t4 := Tryz.underlying4
 a4 := Tryz.isAgg4
 z4 := Tryz.sizeOf4
 v4 := Tryz.zeroValue4
 t5 := Tryz.underlying5
 a5 := Tryz.isAgg5
 z5 := Tryz.sizeOf5
 v5 := Tryz.zeroValue5
 t9 := Tryz.underlying9
 a9 := Tryz.isAgg9
 z9 := Tryz.sizeOf9
 v9 := Tryz.zeroValue9
 t20 := Tryz.underlying20
 a20 := Tryz.isAgg20
 z20 := Tryz.sizeOf20
 v20 := Tryz.zeroValue20
 t37 := Tryz.underlying34
 a37 := Tryz.isAgg34
 z37 := Tryz.sizeOf34
 v37 := Tryz.zeroValue34
 t46 := Tryz.underlying133
 a46 := Tryz.isAgg133
 z46 := Tryz.sizeOf133
 v46 := Tryz.zeroValue133
 t51 := Tryz.underlying167
 a51 := Tryz.isAgg167
 z51 := Tryz.sizeOf167
 v51 := Tryz.zeroValue167
 t53 := Tryz.underlying56
 a53 := Tryz.isAgg56
 z53 := Tryz.sizeOf56
 v53 := Tryz.zeroValue56
 t171 := Tryz.underlying188
 a171 := Tryz.isAgg188
 z171 := Tryz.sizeOf188
 v171 := Tryz.zeroValue188
 t173 := Tryz.underlying190
 a173 := Tryz.isAgg190
 z173 := Tryz.sizeOf190
 v173 := Tryz.zeroValue190
 t212 := Tryz.underlying195
 a212 := Tryz.isAgg195
 z212 := Tryz.sizeOf195
 v212 := Tryz.zeroValue195
 t213 := Tryz.underlying196
 a213 := Tryz.isAgg196
 z213 := Tryz.sizeOf196
 t232 := Tryz.underlying201
 a232 := Tryz.isAgg201
 z232 := Tryz.sizeOf201
 v232 := Tryz.zeroValue201
 t233 := Tryz.underlying202
 a233 := Tryz.isAgg202
 z233 := Tryz.sizeOf202
 v233 := Tryz.zeroValue202
 g17 := by kernel_rfl
 g18 := by kernel_rfl
 g19 := by kernel_rfl
 i0 := by kernel_rfl
 i2 := by kernel_rfl
 i3 := by kernel_rfl
 i4 := by kernel_rfl
 i5 := by kernel_rfl
 i9 := by kernel_rfl
 i20 := by kernel_rfl
 i37 := by kernel_rfl
 i46 := by kernel_rfl
 i51 := by kernel_rfl
 i53 := by kernel_rfl
 i171 := by kernel_rfl
 i173 := by kernel_rfl
 i212 := by kernel_rfl
 i232 := by kernel_rfl
 i233 := by kernel_rfl
 m17 := by kernel_rfl
 m18 := by kernel_rfl
 m19 := by kernel_rfl }
end Go.Proofs
namespace Go.Proofs.YtpfiejmhnkcjbaaGreatDoor
set_option maxRecDepth 100000
open Go.RowKit Lx
set_option linter.unusedVariables false
set_option linter.unusedSimpArgs false
theorem pre_map : ∀ (p s : List UInt8), p.isPrefixOf s = (p.map UInt8.toNat).isPrefixOf (s.map UInt8.toNat)
 | [], _ => by simp
 | x :: p, [] => rfl
 | x :: p, y :: s => by
   simp only [List.map_cons, List.isPrefixOf]
   rw [<- pre_map p s]
   congr 1
   rw [Bool.eq_iff_iff]
   simp [<- UInt8.toNat_inj]
theorem hasp_any (s p : ByteArray) (w : World) : Calls Tryz.prog 31 #[.string s, .string p] w fun e w' => e = .returned (.bool ((bts p).isPrefixOf (bts s))) /\ w' = w := by
 have K : Calls Tryz.prog 31 _ _ _ := Any.strings_HasPrefix Tryz.lays99 s p w
 refine K.mono ?_
 rintro e w' ⟨rfl, rfl⟩
 refine ⟨?_, rfl⟩
 unfold Lib.hasPrefix bts
 rw [pre_map]
theorem ix_tw (c : UInt8) : ∀ l : List UInt8, Lib.indexByte l c = if ((l.map UInt8.toNat).takeWhile (· != c.toNat)).length < l.length then ((((l.map UInt8.toNat).takeWhile (· != c.toNat)).length : Nat) : Int) else -1
 | [] => rfl
 | x :: l => by
   by_cases hx : x = c
   . subst hx
     simp [Lib.indexByte]
   . have hx' : (x == c) = false := by simpa using hx
     have hx2 : (x.toNat != c.toNat) = true := by simpa [<- UInt8.toNat_inj] using hx
     rw [Lib.indexByte, hx', List.map_cons, List.takeWhile_cons, if_pos hx2, ix_tw c l]
     simp only [Bool.false_eq_true, if_false, List.length_cons, Nat.add_lt_add_iff_right]
     by_cases hl : ((l.map UInt8.toNat).takeWhile (· != c.toNat)).length < l.length
     . simp only [hl, if_true]
       rw [if_neg]
       . omega
       . simp only [beq_iff_eq]; omega
     . simp only [hl, if_false]
       rfl
theorem ixb_any (s : ByteArray) (c : Nat) (hc : c < 256) (w : World) : Calls Tryz.prog 32 #[.string s, .int .u8 (c : Int)] w fun e w' => e = .returned (.int .i64 (if ((bts s).takeWhile (· != c)).length < s.size then ((((bts s).takeWhile (· != c)).length : Nat) : Int) else -1)) /\ w' = w := by
 have K : Calls Tryz.prog 32 _ _ _ := Any.strings_IndexByte Tryz.lays137 s (c : Int) w
 refine K.mono ?_
 rintro e w' ⟨rfl, rfl⟩
 refine ⟨?_, rfl⟩
 have h := ix_tw ((c : Int).toNat.toUInt8) s.data.toList
 have e1 : ((c : Int).toNat.toUInt8).toNat = c := by
  rw [Int.toNat_natCast]
  show c % 256 = c
  omega
 rw [e1] at h
 rw [h]
 have e2 : s.data.toList.length = s.size := Array.length_toList ..
 rw [e2]
 rfl
theorem lower_nat (x : UInt8) : (Lib.lowerB x).toNat = if 65 <= x.toNat /\ x.toNat <= 90 then x.toNat + 32 else x.toNat := by
 have h : ∀ n : Fin 256, (Lib.lowerB (UInt8.ofNat n.val)).toNat = if 65 <= n.val /\ n.val <= 90 then n.val + 32 else n.val := by decide +kernel
 have := h ⟨x.toNat, x.toNat_lt⟩
 rw [UInt8.ofNat_toNat] at this
 exact this
theorem tlow_any (s : ByteArray) (hs : s.size <= 140737488355328) (h : ∀ x ∈ bts s, x < 128) (w : World) : Calls Tryz.prog 48 #[.string s] w fun e w' => e = .returned (.string (ofB (sml (bts s)))) /\ Below w.heap.size w w' := by
 have K : Calls Tryz.prog 48 _ _ _ := Any.strings_ToLower_ascii Tryz.lays159 Tryz.Builder_Extra_159 s w hs (fun j b hj => h _ (by unfold bts; exact List.mem_map.2 ⟨b, List.mem_of_getElem? hj, rfl⟩))
 refine K.mono ?_
 rintro e w' ⟨rfl, hb⟩
 refine ⟨?_, hb⟩
 congr 2
 rw [<- ofB_bts (⟨(Lib.toLowerA s.data.toList).toArray⟩ : ByteArray)]
 congr 1
 unfold bts sml Lib.toLowerA
 simp only [List.map_map]
 refine List.map_congr_left fun x _ => ?_
 exact lower_nat x
theorem slclone_any (s : ByteArray) (hs : s.size <= maxLen) (w : World) (h48 : s.size <= 281474976710656) : Calls Tryz.prog 41 #[.string s] w fun e w' => e = .returned (.string s) /\ Below w.heap.size w w' := by
 by_cases h0 : s.size = 0
 . obtain rfl : s = ⟨#[]⟩ := ByteArray.ext (Array.eq_empty_of_size_eq_zero h0)
   go_enter Tryz.func41, Tryz.ntmps41
   go_wp2
   go_ret
   exact ⟨rfl, Below.refl _ _⟩
 . obtain ⟨i0, hi, hz0, hz1, hz2⟩ := info_parts Tryz.info5
   have hinfo : (Tryz.prog.info? 5).map (·.size) = some 1 := by rw [hi]; simp [hz1]
   have hco : Tryz.prog.cellsOf 5 = 1 := by kernel_rfl
   obtain ⟨M, hM⟩ : ∃ M, M = madeCells (Value.int .u8 0).cells (((s.size : Nat) : Int).toNat * i0.size) := ⟨_, rfl⟩
   have hMs : M.size = s.size := by rw [hM, size_madeCells, hz1]; simp
   have hmk : ∀ W : World, (Instr.makeSlice 34 (.int .i64 (s.size : Int)) (.int .i64 (s.size : Int))).run Tryz.prog W = .ok (.slice (some ⟨W.heap.size, 0, none⟩) s.size s.size) (W.alloc (.cells M 5)) := fun W => by
    have h := run_make (P := Tryz.prog) W 34 5 i0 (.int .u8 0) Tryz.underlying34 hi hz0 .i64 .i64 (s.size : Int) (s.size : Int) (by omega) (by omega) (by rw [hz2]; omega) (by omega)
    rw [<- hM] at h
    simpa using h
   clear hM
   have hcp := Lib.run_copy_row_string (P := Tryz.prog) (w.alloc (.cells M 5)) 34 9 3 5 w.heap.size 0 s.size s.size s M 5 Tryz.underlying34 hinfo (heap_alloc_new w _) (Nat.le_refl _) (by omega)
   obtain ⟨Y, hY⟩ : ∃ Y, Y = (M.toList.take 0 ++ Lib.byteCells s.data.toList ++ M.toList.drop (0 + s.size)).toArray := ⟨_, rfl⟩
   rw [<- hY] at hcp
   have hYl : Y.toList = Lib.byteCells s.data.toList := by
    rw [hY, List.toList_toArray, List.take_zero, List.nil_append, List.drop_of_length_le (by rw [Array.length_toList]; omega), List.append_nil]
   have hYs : Y.size = s.size := by rw [<- Array.length_toList, hYl, Lib.byteCells_length, <- Lib.size_eq]
   have hgY : ((w.alloc (.cells M 5)).setRow w.heap.size Y).heap[w.heap.size]? = some (.cells Y 5 (0, 0)) := setRow_heap _ _ M _ 5 (0, 0) (heap_alloc_new w _)
   have hne : s.data.toList ≠ [] := fun e => h0 (by rw [Lib.size_eq, e]; rfl)
   have hUS := Lib.run_unsafeString_row (P := Tryz.prog) ((w.alloc (.cells M 5)).setRow w.heap.size Y) 73 3 9 5 Tryz.underlying73 hco w.heap.size Y.size (by unfold World.shape?; rw [hgY]) s.data.toList hne (by rw [<- Lib.size_eq]; omega) (by rw [<- Lib.size_eq]; unfold maxLen at hs; omega)
    (fun j x hx => Lib.cells_of_row hgY Y.size j _ (by rw [List.take_of_length_le (by rw [Array.length_toList]; exact Nat.le_refl _), hYl]; simp [Lib.byteCells, hx]))
   rw [<- Lib.size_eq] at hUS
   clear hY hs
   go_enter Tryz.func41, Tryz.ntmps41
   go_wp2
   go_ret
   have hb1 : Below w.heap.size w (w.alloc (.cells M 5)) := (Below.refl _ w).alloc (Nat.le_refl _) _
   have hb2 : Below w.heap.size (w.alloc (.cells M 5)) ((w.alloc (.cells M 5)).setRow w.heap.size Y) := ⟨rfl, rfl, rfl, by simp, fun k hk => setRow_other _ _ _ _ (by omega)⟩
   exact ⟨rfl, Lib.below_freeze (hb1.trans hb2) (p := ⟨w.heap.size, 0, none⟩) (Nat.le_refl _) _⟩
theorem sclone_any (s : ByteArray) (hs : s.size <= 281474976710656) (w : World) : Calls Tryz.prog 19 #[.string s] w fun e w' => e = .returned (.string s) /\ Below w.heap.size w w' := by
 go_enter Tryz.func19, Tryz.ntmps19
 go_wp2_with (go_at_call 41; refine (slclone_any s (by unfold maxLen; omega) _ hs).mono ?_; rintro e w' ⟨rfl, hb⟩)
 go_ret
 exact ⟨rfl, hb⟩
end Go.Proofs.YtpfiejmhnkcjbaaGreatDoor
