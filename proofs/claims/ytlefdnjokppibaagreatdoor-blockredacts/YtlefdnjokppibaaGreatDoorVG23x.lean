/-
  The contracts of block's isEntry and isHead. · The contract of digest.Leaf.
-/
import Derived.Test.YtlefdnjokppibaaGreatDoorVG22x
import Derived.Test.YtlefdnjokppibaaGreatDoorVG20x
namespace Go.Proofs.YtlefdnjokppibaaGreatDoor.Sh
open Go.RowKit Math Mt
set_option linter.unusedVariables false
set_option linter.unusedSimpArgs false
theorem z_blt (a : Act) : Tryz.prog.built 23 ((#[] : Array (Nat × Operand)).map fun p => (p.1, a.eval p.2)).toList = some (nums .u8 zr).toArray := by kernel_rfl
theorem bd_w {P : Program} {ops : Array Oper} {rest : List Oper} {o : Oper} {a : Act} {w : World} {Q : Exit → Act → World → Prop} (hw : Region.wanted o (yielded ops a.tmps) = true) (t : TypeId) (parts : Array (Nat × Operand)) (ho : o.op = .build t parts) (cs : List Value)
    (hf : P.built t (parts.map fun p => (p.1, a.eval p.2)).toList = some cs.toArray) (h : wpList P ops Q rest (a.put o.dst (.agg cs.toArray)) w) : wpList P ops Q (o :: rest) a w :=
  wpList_step fun _ hK => by
    rw [if_pos hw]
    have e : P.built t (parts.map fun (i, x) => (i, a.eval x)).toList = some cs.toArray := hf
    exact wp_build t parts ho (by rw [e]; rfl) (by rw [e]; exact hK _ _ h)
theorem szV (h : Hd) (na : Option Addr) (nc : Nat) (ka : Option Addr) (kl kc : Nat) : (Tryz.prog.info? 41).map (·.size) = some (six h na nc ka kl kc).length := by
  have : (Tryz.prog.info? 41).map (·.size) = some 6 := by kernel_rfl
  rw [this]; rfl
set_option maxHeartbeats 1000000 in
set_option maxRecDepth 8000 in
theorem entry_any (e : En) (he : EnW e) (na : Option Addr) (nc : Nat) (ka : Option Addr) (kc : Nat) (w : World) :
    Calls Tryz.prog 67 #[.agg (eC e na nc ka kc).toArray] w fun e' w' => e' = .returned (.bool (formB e)) ∧ Below w.heap.size w w' := by
  have HL : Hid (e.h.length = 32) := he.h.1
  have HE : Hid (EnW e) := he
  have HH : Hid (∀ w, (Op.equalIn 10000 23 (.agg (nums .u8 e.h).toArray) (.agg (nums .u8 zr).toArray)).run Tryz.prog w = .ok (decide (e.h = zr)) w) := fun w => eq_hash he.h ⟨rfl, fun x hx => by have := List.eq_of_mem_replicate hx; omega⟩ w
  have KN : Hid (∀ w, Calls Tryz.prog 91 #[.agg (six e.v.1 na nc ka e.v.2.list.length kc).toArray] w fun e' w' => e' = .returned (.bool (nvB e.v)) ∧ Below w.heap.size w w') := fun w => noth_any e.v na nc ka kc w
  have HR : Hid ((e.k = 2 → restB e = (!e.g || nvB e.v)) ∧ (¬ e.k = 2 → restB e = (!e.g && nvB e.v && decide (e.h = zr)))) := ⟨fun h => by unfold restB; rw [if_pos h], fun h => by unfold restB; rw [if_neg h]⟩
  clear he
  obtain ⟨R, HT⟩ : ∃ R, Hid (formB e = R) := ⟨_, rfl⟩
  rw [HT.out]
  cases hs : spn e.k with
  | none =>
    obtain rfl : R = false := by rw [← HT.out]; unfold formB; rw [hs]
    go_enter Tryz.func67, Tryz.ntmps67
    go_wp2_with (refine al_box rfl 45 (.tmp 0) rfl (eC e na nc ka kc) rfl ?_)
    intro ge w1 l1 BE G0
    have Z := (Below.refl w.heap.size w).grown G0 (Nat.le_refl _) (by simp)
    have hge : w.heap.size ≤ ge := l1
    clear G0
    have EF := enF_of HL.out BE.all
    have ck : w1.cell? ⟨ge, 0, none⟩ = some (.int .i64 e.k) := by have := EF.k; simpa using this
    clear EF
    have KR : Calls Tryz.prog 89 #[.int .i64 e.k] w1 fun e' w' => e' = .returned (.tuple #[.agg (shC {}).toArray, .bool false]) ∧ Below w1.heap.size w1 w' := by have := shape_any e.k w1; unfold shA at this; rw [hs] at this; exact this
    go_wp2_with fail
    refine KR.mono ?_
    rintro e' w2 ⟨rfl, Z0⟩
    clear KR ck
    have BE := BE.below Z0 BE.lt
    have Z := Z.trans (Z0.mono Z.size)
    clear Z0
    go_wp2_with (refine al_zero rfl 136 rfl (shC {}) zS ?_)
    intro g3 w3 l3 B3 G0
    have hg3 : w.heap.size ≤ g3 := Nat.le_trans Z.size l3
    have Z := Z.grown G0 Z.size (by simp)
    have ngeg3 : ge ≠ g3 := by have := BE.lt; omega
    have BE := BE.kept G0 (by simp)
    clear G0
    go_wp2_with (refine st_all rfl 136 (.tmp 3) (.tmp 9) rfl g3 136 (shC {}) (shC {}) rfl rfl B3 rfl (szS _) (shC_one _) ?_)
    intro w4 B3 G0
    have BE := BE.kept G0 (fun e => ngeg3 (Option.some.inj e))
    have Z := Sh.grown_below Z G0 Z.size hg3
    clear G0
    clear B3 BE
    go_wp2
    go_ret
    exact ⟨rfl, Z⟩
  | some s =>
    have HT : Hid ((fitB s e && restB e) = R) := by show _ = _; rw [← HT.out]; unfold formB; rw [hs]
    go_enter Tryz.func67, Tryz.ntmps67
    go_wp2_with (refine al_box rfl 45 (.tmp 0) rfl (eC e na nc ka kc) rfl ?_)
    intro ge w1 l1 BE G0
    have Z := (Below.refl w.heap.size w).grown G0 (Nat.le_refl _) (by simp)
    have hge : w.heap.size ≤ ge := l1
    clear G0
    have EF := enF_of HL.out BE.all
    have ck : w1.cell? ⟨ge, 0, none⟩ = some (.int .i64 e.k) := by have := EF.k; simpa using this
    clear EF
    have KR : Calls Tryz.prog 89 #[.int .i64 e.k] w1 fun e' w' => e' = .returned (.tuple #[.agg (shC s).toArray, .bool true]) ∧ Below w1.heap.size w1 w' := by have := shape_any e.k w1; unfold shA at this; rw [hs] at this; exact this
    go_wp2_with fail
    refine KR.mono ?_
    rintro e' w2 ⟨rfl, Z0⟩
    clear KR ck
    have BE := BE.below Z0 BE.lt
    have Z := Z.trans (Z0.mono Z.size)
    clear Z0
    go_wp2_with (refine al_zero rfl 136 rfl (shC {}) zS ?_)
    intro g3 w3 l3 B3 G0
    have hg3 : w.heap.size ≤ g3 := Nat.le_trans Z.size l3
    have Z := Z.grown G0 Z.size (by simp)
    have ngeg3 : ge ≠ g3 := by have := BE.lt; omega
    have BE := BE.kept G0 (by simp)
    clear G0
    go_wp2_with (refine st_all rfl 136 (.tmp 3) (.tmp 9) rfl g3 136 (shC {}) (shC s) rfl rfl B3 rfl (szS _) (shC_one _) ?_)
    intro w4 B3 G0
    have BE := BE.kept G0 (fun e => ngeg3 (Option.some.inj e))
    have Z := Sh.grown_below Z G0 Z.size hg3
    clear G0
    have KR := fits_any s e HE.out na nc ka kc w4
    obtain ⟨t, ht⟩ : ∃ t, Hid (fitB s e = t) := ⟨_, rfl⟩
    rw [ht.out] at KR
    have HT : Hid ((t && restB e) = R) := by show _ = _; rw [← ht.out]; exact HT.out
    clear ht
    go_wp2_with (first | (refine ld_w (by rfl) 136 (.tmp 3) rfl g3 0 rfl (shC s) _ B3.all Tryz.underlying136 rfl (szS _) ?_) | (refine ld_w (by rfl) 45 (.tmp 1) rfl ge 0 rfl (eC e na nc ka kc) _ BE.all Tryz.underlying45 rfl (sE HL.out _ _ _ _) ?_))
    refine KR.mono ?_
    rintro e' w5 ⟨rfl, Z0⟩
    clear KR B3 hg3 ngeg3
    have BE := BE.below Z0 BE.lt
    have Z := Z.trans (Z0.mono Z.size)
    clear Z0
    cases t
    · obtain rfl : R = false := by rw [← HT.out]; rfl
      clear BE
      go_wp2
      go_ret
      exact ⟨rfl, Z⟩
    have HT : Hid (restB e = R) := by show _ = _; rw [← HT.out]; exact (Bool.true_and _).symm
    have EF := enF_of HL.out BE.all
    have ck : w5.cell? ⟨ge, 0, none⟩ = some (.int .i64 e.k) := by have := EF.k; simpa using this
    have cg : w5.cell? ⟨ge, 43, none⟩ = some (.bool e.g) := by have := EF.g; simpa using this
    have hv := EF.v
    have hh := EF.h
    simp only [Nat.zero_add] at hv hh
    clear EF
    by_cases hk : e.k = 2
    · have HT : Hid ((!e.g || nvB e.v) = R) := by show _ = _; rw [← HR.out.1 hk]; exact HT.out
      have hkb : (e.k != 2) = false := by rw [hk]; rfl
      clear HR hs hk
      cases hg : e.g
      · rw [hg] at cg HT
        obtain rfl : R = true := by rw [← HT.out]; rfl
        clear hg
        go_wp2
        go_ret
        exact ⟨rfl, Z⟩
      · rw [hg] at cg HT
        obtain rfl : R = nvB e.v := by rw [← HT.out]; rfl
        clear hg HT
        go_wp2_with (refine ld_w (by rfl) 41 (.tmp 40) rfl ge 5 rfl (six e.v.1 na nc ka e.v.2.list.length kc) _ hv Tryz.underlying41 rfl (szV _ _ _ _ _ _) ?_)
        refine (KN.out w5).mono ?_
        rintro e' w6 ⟨rfl, Z0⟩
        clear KN
        have Z := Z.trans (Z0.mono Z.size)
        clear Z0 hv hh BE cg ck
        go_wp2
        go_ret
        exact ⟨rfl, Z⟩
    · have HT : Hid ((!e.g && nvB e.v && decide (e.h = zr)) = R) := by show _ = _; rw [← HR.out.2 hk]; exact HT.out
      have hkb : (e.k != 2) = true := by simpa using hk
      clear HR hs hk
      cases hg : e.g
      · rw [hg] at cg HT
        clear hg
        go_wp2_with (refine ld_w (by rfl) 41 (.tmp 26) rfl ge 5 rfl (six e.v.1 na nc ka e.v.2.list.length kc) _ hv Tryz.underlying41 rfl (szV _ _ _ _ _ _) ?_)
        refine (KN.out w5).mono ?_
        rintro e' w6 ⟨rfl, Z0⟩
        clear KN
        have hh := Sh.range_below hh Z0
        have Z := Z.trans (Z0.mono Z.size)
        clear Z0 hv BE cg ck
        generalize nvB e.v = tn at *
        cases tn
        · obtain rfl : R = false := by rw [← HT.out]; rfl
          go_wp2
          go_ret
          exact ⟨rfl, Z⟩
        · obtain rfl : R = decide (e.h = zr) := by rw [← HT.out]; rfl
          have heq := HH.out
          clear HH
          go_wp2_with (first | (refine ld_w (by rfl) 23 (.tmp 31) rfl ge 11 rfl (nums .u8 e.h) _ hh Tryz.underlying23 rfl (sH HL.out) ?_) | (refine bd_w (by rfl) 23 #[] rfl (nums .u8 zr) (z_blt _) ?_))
          go_ret
          exact ⟨rfl, Z⟩
      · rw [hg] at cg HT
        obtain rfl : R = false := by rw [← HT.out]; rfl
        clear hg
        go_wp2
        go_ret
        exact ⟨rfl, Z⟩
set_option maxHeartbeats 1000000 in
set_option maxRecDepth 8000 in
theorem head_any (b : Bk) (hb : BkW b) (a : Option Addr) (c : Nat) (n : Int) (w : World) :
    Calls Tryz.prog 50 #[.agg (bC b a c).toArray, .int .i64 n] w fun e' w' => e' = .returned (.bool (decide (HeadP b n))) ∧ Below w.heap.size w w' := by
  have HL : Hid (b.pv.length = 32) := hb.pv.1
  obtain ⟨t1, T1⟩ : ∃ T, Hid (decide (inP b.ix 0 2147483648) = T) := ⟨_, rfl⟩
  obtain ⟨t2, T2⟩ : ∃ T, Hid (decide (inP b.tm 0 9007199254740992) = T) := ⟨_, rfl⟩
  obtain ⟨t3, T3⟩ : ∃ T, Hid (decide (inP b.tx 0 9007199254740992) = T) := ⟨_, rfl⟩
  obtain ⟨t4, T4⟩ : ∃ T, Hid (decide (inP n 1 200) = T) := ⟨_, rfl⟩
  have HF : decide (HeadP b n) = (t1 && (t2 && (t3 && t4))) := by
    rw [← T1.out, ← T2.out, ← T3.out, ← T4.out, ← Bool.decide_and, ← Bool.decide_and, ← Bool.decide_and]
  rw [HF]
  clear HF hb
  go_enter Tryz.func50, Tryz.ntmps50
  go_wp2_with (refine al_box rfl 26 (.tmp 0) rfl (bC b a c) rfl ?_)
  intro gb w1 l1 BB G0
  have Z := (Below.refl w.heap.size w).grown G0 (Nat.le_refl _) (by simp)
  have hgb : w.heap.size ≤ gb := l1
  clear G0
  go_wp2_with (refine al_zero rfl 120 rfl [.int .i64 0, .int .i64 0] zP ?_)
  intro g2 w2 l2 B2 G0
  have hg2 : w.heap.size ≤ g2 := Nat.le_trans Z.size l2
  have Z := Z.grown G0 Z.size (by simp)
  have ngbg2 : gb ≠ g2 := by have := BB.lt; omega
  have BB := BB.kept G0 (by simp)
  clear G0
  go_wp2_with (refine al_zero rfl 120 rfl [.int .i64 0, .int .i64 0] zP ?_)
  intro g3 w3 l3 B3 G0
  have hg3 : w.heap.size ≤ g3 := Nat.le_trans Z.size l3
  have Z := Z.grown G0 Z.size (by simp)
  have ngbg3 : gb ≠ g3 := by have := BB.lt; omega
  have BB := BB.kept G0 (by simp)
  have ng2g3 : g2 ≠ g3 := by have := B2.lt; omega
  have B2 := B2.kept G0 (by simp)
  clear G0
  go_wp2_with (refine al_zero rfl 120 rfl [.int .i64 0, .int .i64 0] zP ?_)
  intro g4 w4 l4 B4 G0
  have hg4 : w.heap.size ≤ g4 := Nat.le_trans Z.size l4
  have Z := Z.grown G0 Z.size (by simp)
  have ngbg4 : gb ≠ g4 := by have := BB.lt; omega
  have BB := BB.kept G0 (by simp)
  have ng2g4 : g2 ≠ g4 := by have := B2.lt; omega
  have B2 := B2.kept G0 (by simp)
  have ng3g4 : g3 ≠ g4 := by have := B3.lt; omega
  have B3 := B3.kept G0 (by simp)
  clear G0
  go_wp2_with (refine st_all rfl 120 (.tmp 5) (.tmp 8) rfl g2 120 [.int .i64 0, .int .i64 0] [.int .i64 0, .int .i64 2147483648] rfl rfl B2 rfl (szP _ _) (pr_one _ _) ?_)
  intro w5 B2 G0
  have BB := BB.kept G0 (fun e => ngbg2 (Option.some.inj e))
  have B3 := B3.kept G0 (fun e => ng2g3.symm (Option.some.inj e))
  have B4 := B4.kept G0 (fun e => ng2g4.symm (Option.some.inj e))
  have Z := Sh.grown_below Z G0 Z.size hg2
  clear G0
  go_wp2_with (refine st_all rfl 120 (.tmp 6) (.tmp 9) rfl g3 120 [.int .i64 0, .int .i64 0] [.int .i64 0, .int .i64 9007199254740992] rfl rfl B3 rfl (szP _ _) (pr_one _ _) ?_)
  intro w6 B3 G0
  have BB := BB.kept G0 (fun e => ngbg3 (Option.some.inj e))
  have B2 := B2.kept G0 (fun e => ng2g3 (Option.some.inj e))
  have B4 := B4.kept G0 (fun e => ng3g4.symm (Option.some.inj e))
  have Z := Sh.grown_below Z G0 Z.size hg3
  clear G0
  go_wp2_with (refine st_all rfl 120 (.tmp 7) (.tmp 10) rfl g4 120 [.int .i64 0, .int .i64 0] [.int .i64 1, .int .i64 200] rfl rfl B4 rfl (szP _ _) (pr_one _ _) ?_)
  intro w7 B4 G0
  have BB := BB.kept G0 (fun e => ngbg4 (Option.some.inj e))
  have B2 := B2.kept G0 (fun e => ng2g4 (Option.some.inj e))
  have B3 := B3.kept G0 (fun e => ng3g4 (Option.some.inj e))
  have Z := Sh.grown_below Z G0 Z.size hg4
  clear G0
  have BF := bkF_of HL.out BB
  have cb : w7.cell? ⟨gb, 0, none⟩ = some (.int .i64 b.ix) := BF.ix
  clear BF
  have d0 : w7.cell? ⟨g2, 0, none⟩ = some (.int .i64 0) := B2.cell 0
  have d1 : w7.cell? ⟨g2, 1, none⟩ = some (.int .i64 2147483648) := B2.cell 1
  have KR : Calls Tryz.prog 76 #[.agg #[.int .i64 0, .int .i64 2147483648], .int .i64 b.ix] w7 fun e' w' => e' = .returned (.bool t1) ∧ Below w7.heap.size w7 w' := by have := has_any 0 2147483648 b.ix w7; rw [T1.out] at this; exact this
  go_wp2_with fail
  refine KR.mono ?_
  rintro e' w8 ⟨rfl, Z0⟩
  clear KR d0 d1 T1 cb
  have BB := BB.below Z0 BB.lt
  have B2 := B2.below Z0 B2.lt
  have B3 := B3.below Z0 B3.lt
  have B4 := B4.below Z0 B4.lt
  have Z := Z.trans (Z0.mono Z.size)
  clear Z0
  cases t1
  · clear BB B2 B3 B4
    go_wp2
    go_ret
    exact ⟨rfl, Z⟩
  have BF := bkF_of HL.out BB
  have cb : w8.cell? ⟨gb, 1, none⟩ = some (.int .i64 b.tm) := BF.tm
  clear BF
  have d0 : w8.cell? ⟨g3, 0, none⟩ = some (.int .i64 0) := B3.cell 0
  have d1 : w8.cell? ⟨g3, 1, none⟩ = some (.int .i64 9007199254740992) := B3.cell 1
  have KR : Calls Tryz.prog 76 #[.agg #[.int .i64 0, .int .i64 9007199254740992], .int .i64 b.tm] w8 fun e' w' => e' = .returned (.bool t2) ∧ Below w8.heap.size w8 w' := by have := has_any 0 9007199254740992 b.tm w8; rw [T2.out] at this; exact this
  go_wp2_with fail
  refine KR.mono ?_
  rintro e' w9 ⟨rfl, Z0⟩
  clear KR d0 d1 T2 cb
  have BB := BB.below Z0 BB.lt
  have B2 := B2.below Z0 B2.lt
  have B3 := B3.below Z0 B3.lt
  have B4 := B4.below Z0 B4.lt
  have Z := Z.trans (Z0.mono Z.size)
  clear Z0
  cases t2
  · clear BB B2 B3 B4
    go_wp2
    go_ret
    exact ⟨rfl, Z⟩
  have BF := bkF_of HL.out BB
  have cb : w9.cell? ⟨gb, 2, none⟩ = some (.int .i64 b.tx) := BF.tx
  clear BF
  have d0 : w9.cell? ⟨g3, 0, none⟩ = some (.int .i64 0) := B3.cell 0
  have d1 : w9.cell? ⟨g3, 1, none⟩ = some (.int .i64 9007199254740992) := B3.cell 1
  have KR : Calls Tryz.prog 76 #[.agg #[.int .i64 0, .int .i64 9007199254740992], .int .i64 b.tx] w9 fun e' w' => e' = .returned (.bool t3) ∧ Below w9.heap.size w9 w' := by have := has_any 0 9007199254740992 b.tx w9; rw [T3.out] at this; exact this
  go_wp2_with fail
  refine KR.mono ?_
  rintro e' w10 ⟨rfl, Z0⟩
  clear KR d0 d1 T3 cb
  have BB := BB.below Z0 BB.lt
  have B2 := B2.below Z0 B2.lt
  have B3 := B3.below Z0 B3.lt
  have B4 := B4.below Z0 B4.lt
  have Z := Z.trans (Z0.mono Z.size)
  clear Z0
  cases t3
  · clear BB B2 B3 B4
    go_wp2
    go_ret
    exact ⟨rfl, Z⟩
  have d0 : w10.cell? ⟨g4, 0, none⟩ = some (.int .i64 1) := B4.cell 0
  have d1 : w10.cell? ⟨g4, 1, none⟩ = some (.int .i64 200) := B4.cell 1
  have KR : Calls Tryz.prog 76 #[.agg #[.int .i64 1, .int .i64 200], .int .i64 n] w10 fun e' w' => e' = .returned (.bool t4) ∧ Below w10.heap.size w10 w' := by have := has_any 1 200 n w10; rw [T4.out] at this; exact this
  go_wp2_with fail
  refine KR.mono ?_
  rintro e' w11 ⟨rfl, Z0⟩
  clear KR d0 d1 T4
  have BB := BB.below Z0 BB.lt
  have B2 := B2.below Z0 B2.lt
  have B3 := B3.below Z0 B3.lt
  have B4 := B4.below Z0 B4.lt
  have Z := Z.trans (Z0.mono Z.size)
  clear Z0
  cases t4
  · clear BB B2 B3 B4
    go_wp2
    go_ret
    exact ⟨rfl, Z⟩
  clear BB B2 B3 B4
  go_wp2
  go_ret
  exact ⟨rfl, Z⟩
end Go.Proofs.YtlefdnjokppibaaGreatDoor.Sh
namespace Go.Proofs.YtlefdnjokppibaaGreatDoor.Sh
open Go.RowKit Mt
set_option maxHeartbeats 1000000 in
set_option maxRecDepth 8000 in
theorem leaf_any (a0 : Option Addr) (cap : Nat) (l : List Nat) (hn : l.length ≤ 100000) (w : World) (hc : Hid (Byt w a0 l)) (hcap : l.length ≤ cap) (ho : Hid (Oct l)) :
    Calls Tryz.prog 70 #[.slice a0 l.length cap] w fun e w' => e = .returned (.agg (nums .u8 (D (0 :: l))).toArray) ∧ Below w.heap.size w w' := by
  go_enter Tryz.func70, Tryz.ntmps70
  go_wp2_with (refine al_zero rfl 23 rfl _ z25 ?_)
  intro g1 w1 l1 B1 G1
  have Z := (Below.refl w.heap.size w).grown G1 (Nat.le_refl _) (by simp)
  clear G1
  go_wp2_with fail
  refine (begin_c [0] (some ⟨w1.heap.size, 0, none⟩) 1 (w1.alloc (.cells #[.int .u8 0] 5)) (byt_lit w1 [0]) (Nat.le_refl _) (fun x hx => by obtain rfl := List.mem_singleton.1 hx; decide) (by simp)).mono ?_; rintro e w2 ⟨c, HK, rfl, Z2⟩
  have B1 := (B1.alloc _).below Z2 (B1.alloc _).lt
  have Z := Z.alloc Z.size (.cells #[.int .u8 0] 5)
  have Z := Z.trans (Z2.mono Z.size)
  clear Z2
  go_wp2_with (refine al_zero rfl 102 rfl _ z45' ?_)
  intro g2 w3 l2 B2 G2
  have n12 : g1 ≠ g2 := by have := B1.lt; omega
  have hg2 : w.heap.size ≤ g2 := Nat.le_trans Z.size l2
  have B1 := B1.kept G2 (by simp)
  have Z := Z.grown G2 Z.size (by simp)
  have I1 : Hid ((Tryz.prog.info? 102).map (·.size) = some c.length) := by show _ = _; rw [HK.out.2.1]; exact s45
  have N1 : Hid (c.length = (smc ⟨0, 0, 0, 0, 0, 0, 0, 0⟩ (List.replicate 64 0) 0).length) := by show _ = _; rw [HK.out.2.1, smc_len _ _ _ (by simp)]
  clear G2
  go_wp2_with (refine st_all rfl 102 (.tmp 3) (.tmp 5) rfl g2 102 _ c rfl rfl B2 N1.out I1.out HK.out.2.2 ?_)
  intro w4 B2 G3
  have B1 := B1.kept G3 (fun e => n12 (Option.some.inj e))
  have Z := grown_below Z G3 Z.size hg2
  have HS : Hid (Sm w4 g2 [0]) := HK.out.1 _ _ B2
  have HA : Hid (Calls Tryz.prog 62 #[.pointer (some ⟨g2, 0, none⟩), .slice a0 l.length cap] w4 fun e w' => e = .returned (.tuple #[]) ∧ Sm w' g2 (0 :: l) ∧ w4.grownBy w' (some g2)) := by
    have := add_any g2 [0] l a0 cap w4 HS.out (byt_src hc.out Z hg2) hcap ho.out (by simp; omega)
    exact this
  clear B2 G3 I1 N1 HS HK hc ho
  go_wp2_with fail
  refine HA.out.mono ?_; rintro e w5 ⟨rfl, hs, G5⟩
  have HS : Hid _ := hs
  have B1 := B1.kept G5 (fun e => n12 (Option.some.inj e))
  have Z := grown_below Z G5 Z.size hg2
  clear hs G5 HA
  go_wp2_with fail
  refine (end_any g2 (0 :: l) _ HS.out (by simp; omega)).mono ?_; rintro e w6 ⟨rfl, G6⟩
  have B1 := B1.kept G6 (fun e => n12 (Option.some.inj e))
  have Z := grown_below Z G6 Z.size hg2
  have ID : Hid ((Tryz.prog.info? 23).map (·.size) = some (nums .u8 (D (0 :: l))).length) := by show _ = _; rw [nums_length, D_len]; exact s25
  have ND : Hid ((nums .u8 (D (0 :: l))).length = (nums .u8 (List.replicate 32 0)).length) := by show _ = _; rw [nums_length, nums_length, D_len, List.length_replicate]
  clear G6 HS
  go_wp2_with (refine st_all rfl 23 (.tmp 2) (.tmp 8) rfl g1 23 (nums .u8 (List.replicate 32 0)) (nums .u8 (D (0 :: l))) rfl rfl B1 ND.out ID.out (nums_one _ _) ?_)
  intro we BE GE
  go_wp2
  (try simp only [Exit.inBlock, Exit.then])
  refine bodyPost_ret (res_row rfl _ g1 23 _ _ rfl BE Tryz.underlying23 rfl ID.out) rfl ⟨rfl, grown_below Z GE Z.size l1⟩
end Go.Proofs.YtlefdnjokppibaaGreatDoor.Sh
