/-
  merkle.New, (*merkle.Tree).Add, Size. · The document's own Up: the root that a path makes. · scrivenerlaw10.made: a tree of leaves; (*merkle.Tree).Root. · The contract of digest.Chain.
-/
import Derived.Test.YtlefdnjokppibaaGreatDoorVEv
import Derived.Test.YtlefdnjokppibaaGreatDoorVEor
import Derived.Test.YtlefdnjokppibaaGreatDoorVG20x
import Derived.Test.YtlefdnjokppibaaGreatDoorVG43x
namespace Go.Proofs.YtlefdnjokppibaaGreatDoor.Mer
open Go Go.RowKit Go.Maps Sh
theorem oper_st1 {o : Oper} {a : Act} {K : Act → World → Prop} {Q : Exit → Act → World → Prop} {w : World} {P : Program} (ty : TypeId) (x y : Operand) (ho : o.op = .store ty x y) (b i : Nat) (t : TypeId) (vs : List Value) (v : Value)
    (hx : a.eval x = .pointer (some ⟨b, i, none⟩)) (hy : a.eval y = v) (hv : v.cells = #[v]) (hv1 : v.oneCell' = true) (hi : i < vs.length) (hb : Sh.Blk w b t vs) (hs : (P.info? ty).map (·.size) = some 1)
    (h : ∀ w', Sh.Blk w' b t (vs.set i v) → w.grownBy w' (some b) → K (a.put o.dst undef) w') : Oper.wp P o a w K Q := by
  have hst := run_storeCells_cells (P := P) b i [v] 0 w (fun j hj => by
      have : j = 0 := by simpa using hj
      subst this
      rw [Nat.add_zero, hb.cell, List.getElem?_eq_getElem hi]; rfl) (fun j hj => hb.frozen _) (by simp [hv1])
  unfold Oper.wp execOp
  cases hq : P.info? ty with
  | none => simp [hq] at hs
  | some q1 =>
    have hq1 : q1.size = 1 := by simpa [hq] using hs
    simp only [Nat.add_zero] at hst
    have hsv : (storeVar ty ⟨b, i, none⟩ v).run P w = .ok () (w.setCells b i [v]) := by
      simp [storeVar, Go.sizeOf, typeInfo, hq, hv, hq1, hst]
    simp only [ho, hx, hy, Instr.storeAt, Instr.sureAddr, Sem.run_bind, Sem.run_pure, Result.andThen_ok, hsv]
    exact h _ (hb.set i v) (Sh.grown_setCell w _ _)
theorem iH : (Tryz.prog.info? 23).map (fun i => (i.zero, i.size, i.bytes)) = some (some (.agg (nums .u8 (List.replicate 32 0)).toArray), 32, 32) := by kernel_rfl
theorem OwE.ne {α : Type} {enc : α → List Value} {t t' : TypeId} {n base b : Nat} {w : World} {v : Value} {L : List α} {vs : List Value} (h : OwE enc t n w base v L) (hb : Sh.Blk w b t' vs) (hne : t ≠ t') : ∀ k, v.ownBlock = some k → k ≠ b := by
  rintro k hk rfl
  rcases h.1.2 with ⟨rfl, _⟩ | ⟨g, cap, cur, rfl, _, hg, _⟩
  · cases hk
  · injection hk with hk
    subst hk
    unfold Sh.Blk at hb
    rw [hg] at hb
    simp at hb
    exact hne hb.2
theorem OwE.nm {α : Type} {enc : α → List Value} {t : TypeId} {n base b m : Nat} {w : World} {v : Value} {L : List α} {D : DataW Value} (h : OwE enc t n w base v L) (hb : w.ownsMap Tryz.prog 144 hR b m D) : ∀ k, v.ownBlock = some k → k ≠ b := by
  rintro k hk rfl
  rcases h.1.2 with ⟨rfl, _⟩ | ⟨g, cap, cur, rfl, _, hg, _⟩
  · cases hk
  · injection hk with hk
    subst hk
    obtain ⟨es, ck, e, _⟩ := hb
    rw [hg] at e
    cases e
theorem blk_nm {b mb m : Nat} {t : TypeId} {vs : List Value} {w : World} {D : DataW Value} (h : Sh.Blk w b t vs) (hb : w.ownsMap Tryz.prog 144 hR mb m D) : b ≠ mb := by
  rintro rfl
  obtain ⟨es, ck, e, _⟩ := hb
  unfold Sh.Blk at h
  rw [h] at e
  cases e
theorem MapP.kept {w w' : World} {base : Nat} {m : Option Nat} {L : List (List Nat)} {row : Option Nat} (h : MapP w base m L) (g : w.grownBy w' row) (hne : ∀ mb, m = some mb → row ≠ some mb) : MapP w' base m L := by
  rcases h with h | ⟨mb, n, D, h1, h2, h3, h4⟩
  · exact .inl h
  · exact .inr ⟨mb, n, D, h1, h2, h3.kept g (fun e => hne mb h1 e.symm), h4⟩
theorem MapP.grow {w w' : World} {base : Nat} {m : Option Nat} {L : List (List Nat)} (h : MapP w base m L) (g : Below w.heap.size w w') : MapP w' base m L := h.kept (below_grown g) (by simp)
/-- a tree of leaves, in memory. -/
def Tr (w : World) (bt base : Nat) (L : List (List Nat)) : Prop := ∃ a cap m, Sh.Blk w bt 125 [.slice a L.length cap, .map m] ∧ OwE (nums .u8) 23 32 w base (.slice a L.length cap) L ∧ MapP w base m L ∧ base ≤ bt
theorem Tr.grow {w w' : World} {bt base : Nat} {L : List (List Nat)} (h : Tr w bt base L) (g : Below w.heap.size w w') : Tr w' bt base L := by
  obtain ⟨a, cap, m, h1, h2, h3, h4⟩ := h
  exact ⟨a, cap, m, h1.below g h1.lt, h2.grow g, h3.grow g, h4⟩
theorem Tr.all {w : World} {bt base : Nat} {L : List (List Nat)} (h : Tr w bt base L) : AllW w bt L := by
  obtain ⟨a, cap, m, h1, h2, h3, h4⟩ := h
  intro l o ho
  by_cases hl : l = 0
  · subst hl
    have ho' : o < L.length := by simp at ho; omega
    obtain ⟨a', cap', e0, _, _, es, _⟩ := h2.es
    injection e0 with e0 _ _
    subst e0
    obtain ⟨x, hx⟩ : ∃ x, L[o]? = some x := ⟨_, List.getElem?_eq_getElem ho'⟩
    obtain ⟨b, off, rfl, r⟩ := es.at hx
    rw [sg_leaf L o x hx]
    exact .inl ⟨rfl, b, off, _, cap, m, h1, ho', r⟩
  · rcases h3 with ⟨_, rfl⟩ | ⟨mb, n, D, rfl, _, h5, _, _, h6⟩
    · have := Mk.pow_pos2 l
      have := Nat.le_mul_of_pos_left (2 ^ l) (show 0 < o + 1 by omega)
      simp at ho
      omega
    · exact .inr ⟨by omega, _, mb, n, D, h1, h5, h6 l o (by omega) ho⟩
theorem new_any (w : World) : Calls Tryz.prog 52 #[] w fun e w' => ∃ bt, e = .returned (.pointer (some ⟨bt, 0, none⟩)) ∧ Tr w' bt w.heap.size [] ∧ Below w.heap.size w w' := by
  go_enter Tryz.func52, Tryz.ntmps52
  go_wp2
  go_ret
  exact ⟨w.heap.size, rfl, ⟨none, 0, none, Sh.blk_new w _ _, owe_nil _ _ _ _ _, .inl ⟨rfl, rfl⟩, Nat.le_refl _⟩, (Below.refl _ _).alloc (Nat.le_refl _) _⟩
theorem size_any (bt base : Nat) (L : List (List Nat)) (w : World) (h : Tr w bt base L) : Calls Tryz.prog 55 #[.pointer (some ⟨bt, 0, none⟩)] w fun e w' => e = .returned (.int .i64 (L.length : Int)) ∧ w' = w := by
  obtain ⟨a, cap, m, h1, _⟩ := h
  have c0 : w.cell? ⟨bt, 0, none⟩ = some (.slice a L.length cap) := by rw [h1.cell]; rfl
  clear h1
  go_enter Tryz.func55, Tryz.ntmps55
  go_wp2
  go_ret
  exact ⟨rfl, rfl⟩
set_option maxHeartbeats 2000000 in
set_option maxRecDepth 8000 in
theorem add_tree (bt base : Nat) (L : List (List Nat)) (hL : Hl L) (h : List Nat) (hh : Hh h) (hlen : L.length < 1048576) (w : World) (hT : Tb w) (hbw : base ≤ w.heap.size) (h1b : 1 < base) (hTr : Tr w bt base L) :
    Calls Tryz.prog 53 #[.pointer (some ⟨bt, 0, none⟩), .agg (nums .u8 h).toArray] w fun e w' => e = .returned (.int .i64 (L.length : Int)) ∧ Tr w' bt base (L ++ [h]) ∧ Below base w w' := by
  obtain ⟨a, cap, m, BT, hO, hM, hb⟩ := hTr
  have HH : Hid (Hh h) := hh
  have HLl : Hid (Hl L) := hL
  have HO0 : Hid (OwE (nums .u8) 23 32 w base (.slice a L.length cap) L) := hO
  have HM0 : Hid (MapP w base m L) := hM
  have HTb : Hid (Tb w) := hT
  clear hh hL hO hM hT
  go_enter Tryz.func53, Tryz.ntmps53
  go_wp2_with (refine al_box rfl 23 (.tmp 1) rfl (nums .u8 h) rfl ?_)
  intro gl w1 l1 BL G1
  have Z := (Below.refl w.heap.size w).grown G1 (Nat.le_refl _) (by simp)
  have BT := BT.kept G1 (by simp)
  have c0 : w1.cell? ⟨bt, 0, none⟩ = some (.slice a L.length cap) := by rw [BT.cell]; rfl
  have hne : ((L.length : Int) == 1048576) = false := by rw [beq_eq_false_iff_ne]; omega
  have HO : Hid (OwE (nums .u8) 23 32 w1 base (.slice a L.length cap) L) := HO0.out.grow Z
  have HO1 := HO
  clear G1
  go_wp2_with fail
  clear c0 hne
  obtain ⟨C, hC⟩ : ∃ C : World → Prop, C = fun W => Sh.Blk W bt 125 [.slice a L.length cap, .map m] ∧ Sh.Blk W gl 23 (nums .u8 h) := ⟨_, rfl⟩
  have FT : Hid (∀ W, C W → W.cell? ⟨bt, 0, none⟩ = some (.slice a L.length cap)) := fun W hW => by rw [hC] at hW; rw [hW.1.cell]; rfl
  have FL : Hid (∀ W, C W → W.rangeAt gl 0 (nums .u8 h)) := fun W hW => by rw [hC] at hW; exact hW.2.all
  have CG : Hid (∀ W W' row, C W → W.grownBy W' row → some bt ≠ row → some gl ≠ row → C W') := fun W W' row h1 h2 h3 h4 => by rw [hC] at h1 ⊢; exact ⟨h1.1.kept h2 h3, h1.2.kept h2 h4⟩
  have CB : Hid (∀ W, C W → Sh.Blk W bt 125 [.slice a L.length cap, .map m]) := fun W hW => by rw [hC] at hW; exact hW.1
  have C0 : Hid (C { w1 with drawn := w1.drawn + 1 }) := by rw [hC]; exact ⟨BT.below (Below.drew (Below.refl _ _)) BT.lt, BL.below (Below.drew (Below.refl _ _)) BL.lt⟩
  clear hC
  have E0 : Hid (Below w1.heap.size w1 { w1 with drawn := w1.drawn + 1 }) := Below.drew (Below.refl _ _)
  refine region_calm C 10 (by kernel_rfl) ?_
  have hCp : ∀ p : Prop, (∀ W, C W → p) ↔ p := fun p => ⟨fun h => h _ C0.out, fun h _ _ => h⟩
  generalize ({ w1 with drawn := w1.drawn + 1 } : World) = y0 at *
  have O0 : Hid (OwE (nums .u8) 23 32 y0 base (.slice a L.length cap) L) := HO.out.grow E0.out
  refine seg 5 [0, 1, 2, 3, 4, 5] rfl (by kernel_rfl) whole_blind (C0.out) (by kernel_rfl) ?_
  change wpQuiet _ _ _ _ (_ :: _ :: _ :: _ :: _ :: _ :: []) _
  repeat (first
    | go_big_quiet_skip
    | (go_big_quiet_want
       first
       | (refine q_slc (.tmp 18) rfl bt 0 rfl a L.length cap FT.out ?_
          simp only [Act.put, List.setIfInBounds_toArray, List.set_cons_zero, List.set_cons_succ]
          go_big_quiet_on)
       | (refine q_load 23 (.tmp 3) rfl gl 0 rfl (nums .u8 h) _ FL.out Tryz.underlying23 rfl (sH HH.out) ?_
          simp only [Act.put, List.setIfInBounds_toArray, List.set_cons_zero, List.set_cons_succ]
          go_big_quiet_on)
       | (go_big_quiet_op
          go_big_quiet_on)))
  refine wpQuiet_nil ?_
  refine lone_do (i := 6) 4 rfl (by kernel_rfl) rfl (by rfl) ?_
  intro K hK
  refine bs_one 51 23 (.tmp 20) rfl Tryz.underlying51 32 (by decide) (by decide) _ Tryz.sizeOf23 Tryz.zeroValue23 (nums .u8 h) (by rw [nums_length]; exact HH.out.1) rfl ?_
  have C1 : Hid (C (y0.alloc (.cells (nums .u8 h).toArray 23))) := CG.out _ _ none C0.out (World.grownBy_alloc _ _ none) (by simp) (by simp)
  have O1 : Hid (OwE (nums .u8) 23 32 (y0.alloc (.cells (nums .u8 h).toArray 23)) base (.slice a L.length cap) L) := O0.out.alloc _
  have ES1 : Hid (ES (nums .u8) 32 (y0.alloc (.cells (nums .u8 h).toArray 23)) (some ⟨y0.heap.size, 0, none⟩) [h]) := es_lit y0 23 h
  have E1 : Hid (Below w1.heap.size w1 (y0.alloc (.cells (nums .u8 h).toArray 23))) := E0.out.alloc E0.out.size _
  have hy0 := E0.out.size
  refine hK _ _ C1.out ?_
  clear hK K
  simp only [Act.put, List.setIfInBounds_toArray, List.set_cons_zero, List.set_cons_succ]
  obtain ⟨y1, hy1⟩ : ∃ y1, y0.alloc (.cells (nums .u8 h).toArray 23) = y1 := ⟨_, rfl⟩
  rw [hy1] at C1 O1 ES1 E1 ⊢
  clear hy1 O0
  refine lone_do (i := 7) 3 rfl (by kernel_rfl) rfl (by rfl) ?_
  intro K hK
  refine app_wp (.tmp 19) (.tmp 21) 51 23 rfl Tryz.underlying51 _ 32 iH (by decide) (by decide) (by decide) base (.slice a L.length cap) L [h] rfl O1.out (some ⟨y0.heap.size, 0, none⟩) 1 rfl ES1.out (fun e => by cases e) (fun y hy => by rw [List.mem_singleton.1 hy, nums_length]; exact ⟨HH.out.1, nums_one _ _⟩) (by simp; omega) (by have := E1.out.size; have := Z.size; omega) ?_
  intro v2 y2 O2' G2'
  have O2 : Hid (OwE (nums .u8) 23 32 y2 base v2 (L ++ [h])) := O2'
  have G2 : Hid (y1.grownBy y2 (Value.slice a L.length cap).ownBlock) := G2'
  have hnb : Hid (∀ k, (Value.slice a L.length cap).ownBlock = some k → k ≠ bt ∧ k < w.heap.size) := fun k hk => ⟨HO1.out.ne BT (by decide) k hk, (HO0.out.1.lt k hk).2⟩
  have C2 : Hid (C y2) := CG.out _ _ _ C1.out G2' (fun e => (hnb.out _ e.symm).1 rfl) (fun e => by have := (hnb.out _ e.symm).2; omega)
  clear O2' G2'
  refine hK _ _ C2.out ?_
  clear hK K
  simp only [Act.put, List.setIfInBounds_toArray, List.set_cons_zero, List.set_cons_succ]
  refine lone_calm (i := 8) 2 rfl (by kernel_rfl) rfl rfl (C2.out) ?_
  repeat (first
    | go_big_quiet_skip
    | (go_big_quiet_want
       first
       | (go_big_quiet_op
          go_big_quiet_on)))
  refine wpQuiet_nil ?_
  refine lone_calm (i := 9) 1 rfl (by kernel_rfl) rfl rfl (C2.out) ?_
  repeat (first
    | go_big_quiet_skip
    | (go_big_quiet_want
       first
       | (go_big_quiet_op
          go_big_quiet_on)))
  refine wpQuiet_nil ?_
  obtain ⟨a2, cap2, hv2, hle2, hnil2, _, _⟩ := O2.out.es
  subst hv2
  rw [List.length_append, List.length_singleton]
  rw [List.length_append, List.length_singleton] at O2
  refine lone_last (i := 10) 0 rfl rfl (by kernel_rfl) rfl (by rfl) ?_
  intro K hK
  refine oper_st1 51 (.tmp 24) (.tmp 22) rfl bt 0 125 _ (.slice a2 (L.length + 1) cap2) rfl rfl rfl rfl (by simp) (CB.out _ C2.out) (by kernel_rfl) ?_
  intro w3 BT3 G3
  refine hK _ _ ?_
  clear hK K
  refine anyC_done (by kernel_rfl) ⟨rfl, ?_⟩
  simp only [Act.put]
  have BT3 : Sh.Blk w3 bt 125 [.slice a2 (L.length + 1) cap2, .map m] := BT3
  have hO3 : Hid (OwE (nums .u8) 23 32 w3 base (.slice a2 (L.length + 1) cap2) (L ++ [h])) := O2.out.kept G3 (fun k hk e => O2.out.ne (CB.out _ C2.out) (by decide) k hk (Option.some.inj e).symm)
  have HM3 : Hid (MapP w3 base m L) := by
    have m1 := (HM0.out.grow Z).grow E1.out
    have m2 := m1.kept G2.out (fun mb e1 e2 => by
      rcases m1 with ⟨e, _⟩ | ⟨mb', n, D, e, _, om, _⟩
      · rw [e] at e1; cases e1
      · rw [e] at e1; injection e1 with e1; subst e1
        exact O1.out.nm om _ e2 rfl)
    exact m2.kept G3 (fun mb e1 e2 => by
      injection e2 with e2
      rcases m2 with ⟨e, _⟩ | ⟨mb', n, D, e, _, om, _⟩
      · rw [e] at e1; cases e1
      · rw [e] at e1; injection e1 with e1; subst e1
        exact blk_nm (CB.out _ C2.out) om e2)
  have Z3 : Below base w w3 := by
    have z1 := (Z.trans (E1.out.mono Z.size)).mono hbw
    have z2 := below_own z1 (Nat.le_trans hbw (Nat.le_trans Z.size E1.out.size)) O1.out G2.out
    exact grown_below z2 G3 (Nat.le_trans hbw z2.size) hb
  have HTb3 : Hid (Tb w3) := tb_base HTb.out Z3 h1b
  have hbw3 := Nat.le_trans hbw Z3.size
  have BL3 : Hid (w3.rangeAt gl 0 (nums .u8 h)) := by
    have e1 := (FL.out _ C2.out)
    intro j v hj
    have := e1 j v hj
    have hk := G3.cell this (by intro e; injection e with e; have h1 := BT.lt; have h2 := BL; unfold Sh.Blk at h2; have h3 := BT; unfold Sh.Blk at h3; simp only at e; rw [e] at h2; rw [h2] at h3; simp at h3)
    exact hk
  have KK : Hid (Calls Tryz.prog 78 #[.pointer (some ⟨bt, 0, none⟩), .agg (nums .u8 h).toArray] w3 fun e w' => e = .returned (.tuple #[]) ∧ ∃ m, Sh.Blk w' bt 125 [.slice a2 (L.length + 1) cap2, .map m] ∧ OwE (nums .u8) 23 32 w' base (.slice a2 (L.length + 1) cap2) (L ++ [h]) ∧ MapP w' base m (L ++ [h]) ∧ Below base w3 w') := by
    rcases HM3.out with ⟨rfl, hL0⟩ | ⟨mb, n, D, rfl, h2, h3, h4, h5, h6⟩
    · subst hL0
      exact keep_nil bt base h HH.out a2 cap2 w3 HTb3.out hb hbw3 h1b BT3 hO3.out
    · exact keep_some bt base L HLl.out h HH.out (L.length + 1) rfl (by omega) a2 cap2 w3 HTb3.out hb hbw3 mb n D BT3 hO3.out h2 h3 h4 h5 h6
  clear C0 C1 C2 CG CB FT FL E0 E1 hCp O1 O2 G2 G3 hnb BT3 hO3 HM3 HTb3 ES1
  go_wp2_with (refine ld_mid rfl 23 (.tmp 3) rfl gl 0 rfl (nums .u8 h) _ BL3.out Tryz.underlying23 rfl (sH HH.out) ?_)
  refine KK.out.mono ?_
  rintro e w4 ⟨rfl, m4, BT4, O4, M4, Z4⟩
  have c4 : w4.cell? ⟨bt, 0, none⟩ = some (.slice a2 (L.length + 1) cap2) := by rw [BT4.cell]; rfl
  have HE : Hid (Tr w4 bt base (L ++ [h]) ∧ Below base w w4) := ⟨⟨a2, cap2, m4, by rw [List.length_append]; exact BT4, by rw [List.length_append]; exact O4, M4, hb⟩, Z3.trans Z4⟩
  clear BT4 O4 M4 Z4 KK BL3
  go_wp2
  go_ret
  exact ⟨rfl, HE.out⟩
end Go.Proofs.YtlefdnjokppibaaGreatDoor.Mer
namespace Go.Proofs.YtlefdnjokppibaaGreatDoor.Mer
open Go.RowKit Sh
theorem res_two {fn : Func} {p q : Tmp} {ty : TypeId} {w : World} (h : fn.results = #[.cell p ty, .tmp q]) (tmps : Array Value) (g : Nat) (t : TypeId) (cs : List Value) (d : TypeDesc)
    (hp : tmps.getD p undef = .pointer (some ⟨g, 0, none⟩)) (hg : Sh.Blk w g t cs) (hu : Tryz.prog.underlying ty = some d) (hd : d.isRow = true) (hi : (Tryz.prog.info? ty).map (·.size) = some cs.length) :
    (results fn tmps).run Tryz.prog w = .ok (.tuple #[.agg cs.toArray, tmps.getD q undef]) w := by
  have hp' : tmps[p]?.getD undef = .pointer (some ⟨g, 0, none⟩) := by simpa using hp
  simp [results, h, hp', asAddr, run_loadVar_row w g t ty cs.toArray (0, 0) d hg hu (by cases d <;> simp_all [TypeDesc.isRow]) (by simpa using hi)]
end Go.Proofs.YtlefdnjokppibaaGreatDoor.Mer
namespace Go.Proofs.YtlefdnjokppibaaGreatDoor.Mer
open Go Go.RowKit Go.Maps Sh
theorem sgd_zero (L : List (List Nat)) (n : Nat) : sgd L 0 n = L.take n := by unfold sgd; rw [List.drop_zero]
set_option maxHeartbeats 2000000 in
set_option maxRecDepth 8000 in
theorem root_in (bt base : Nat) (L : List (List Nat)) (hL : Hl L) (hlen : L.length ≤ 2000000) (n : Nat) (hn : n ≤ L.length) (w : World) (hTr : Tr w bt base L) :
    Calls Tryz.prog 54 #[.pointer (some ⟨bt, 0, none⟩), .int .i64 (n : Int)] w fun e w' => e = .returned (.tuple #[.agg (nums .u8 (Mk.R nd em (L.take n))).toArray, .int .i64 0]) ∧ Below w.heap.size w w' := by
  have HT : Hid (Tr w bt base L) := hTr
  obtain ⟨x, hx⟩ : ∃ x, Hid (x = Mk.R nd em (L.take n)) := ⟨_, rfl⟩
  have HX : Hid (Hh x) := by show Hh x; rw [hx.out]; exact R_hh (hL.take n)
  have HL : Hid (Hl L) := hL
  have HNl : Hid ((nums .u8 x).length = (nums .u8 (List.replicate 32 0)).length) := by show _ = _; rw [nums_length, nums_length, HX.out.1, List.length_replicate]
  have HNs : Hid ((Tryz.prog.info? 23).map (·.size) = some (nums .u8 x).length) := sH HX.out
  rw [← hx.out]
  have h1 : ¬ ((L.length : Int) < (n : Int)) := by omega
  clear hTr hL
  go_enter Tryz.func54, Tryz.ntmps54
  go_wp2_with (refine Sh.al_zero rfl 23 rfl _ Sh.z25 ?_)
  intro g1 w1 l1 B1 G1
  have Z := (Below.refl w.heap.size w).grown G1 (Nat.le_refl _) (by simp)
  have HT1 : Hid (Tr w1 bt base L) := HT.out.grow Z
  clear G1
  go_wp2_with fail
  refine (size_any bt base L w1 HT1.out).mono ?_
  rintro e w2 ⟨rfl, hw2⟩
  rw [hw2]
  clear hw2 w2
  by_cases hn0 : n = 0
  · have e0 : ((n : Int) == 0) = true := by rw [hn0]; rfl
    have K := sum_any none 0 [] (by simp) w1 (.inl rfl) (Nat.le_refl _) (by intro x hx; cases hx)
    have ex : x = Mt.D [] := by rw [hx.out, hn0, List.take_zero]; rfl
    clear hn0
    go_wp2_with fail
    refine K.mono ?_
    rintro e w2 ⟨rfl, Z2⟩
    rw [← ex]
    have B1 := B1.below Z2 B1.lt
    have Z := Z.trans (Z2.mono Z.size)
    clear Z2 K ex
    go_wp2_with (refine Sh.st_all rfl 23 (.tmp 4) (.tmp 21) rfl g1 23 (nums .u8 (List.replicate 32 0)) (nums .u8 x) rfl rfl B1 HNl.out HNs.out (nums_one _ _) ?_)
    intro w5 B5 G5
    go_wp2
    refine bodyPost_ret (res_two rfl _ g1 23 _ _ rfl B5 Tryz.underlying23 rfl HNs.out) rfl ⟨rfl, grown_below Z G5 Z.size l1⟩
  · have e0 : ((n : Int) == 0) = false := by rw [beq_eq_false_iff_ne]; omega
    have K := root_all bt L HL.out hlen (n + 1) n 0 n w1 (by omega) HT1.out.all (by omega) (Nat.le_of_lt Nat.lt_two_pow_self) (by omega)
    rw [Nat.zero_mul, Nat.zero_add, sgd_zero, ← hx.out] at K
    clear hn0
    go_wp2_with fail
    refine K.mono ?_
    rintro e w2 ⟨rfl, Z2⟩
    have B1 := B1.below Z2 B1.lt
    have Z := Z.trans (Z2.mono Z.size)
    clear Z2 K
    go_wp2_with (refine Sh.st_all rfl 23 (.tmp 4) (.tmp 24) rfl g1 23 (nums .u8 (List.replicate 32 0)) (nums .u8 x) rfl rfl B1 HNl.out HNs.out (nums_one _ _) ?_)
    intro w5 B5 G5
    go_wp2
    refine bodyPost_ret (res_two rfl _ g1 23 _ _ rfl B5 Tryz.underlying23 rfl HNs.out) rfl ⟨rfl, grown_below Z G5 Z.size l1⟩
end Go.Proofs.YtlefdnjokppibaaGreatDoor.Mer
namespace Go.Proofs.YtlefdnjokppibaaGreatDoor.Sh
open Go.RowKit Mt
set_option maxHeartbeats 1000000 in
set_option maxRecDepth 8000 in
theorem chain_any (lh rh : List Nat) (hl : lh.length = 32) (a0 : Option Addr) (cap : Nat) (hn : rh.length ≤ 100000) (hol : Hid (Oct lh)) (hor : Hid (Oct rh)) (w : World) (hc : Hid (Byt w a0 rh)) (hcap : rh.length ≤ cap) :
    Calls Tryz.prog 56 #[.agg (nums .u8 lh).toArray, .slice a0 rh.length cap] w fun e w' => e = .returned (.agg (nums .u8 (D (2 :: (lh ++ rh)))).toArray) ∧ Below w.heap.size w w' := by
  go_enter Tryz.func56, Tryz.ntmps56
  go_wp2_with (refine al_box rfl 23 (.tmp 0) rfl (nums .u8 lh) rfl ?_)
  intro ga wa la BA GA
  have Z := (Below.refl w.heap.size w).grown GA (Nat.le_refl _) (by simp)
  clear GA
  go_wp2_with (refine al_zero rfl 23 rfl _ z25 ?_)
  intro g1 w1 l1 B1 G1
  have BA := BA.kept G1 (by simp)
  have hg1 : w.heap.size ≤ g1 := Nat.le_trans Z.size l1
  have Z := Z.grown G1 Z.size (by simp)
  clear G1
  go_wp2_with fail
  refine (begin_c [2] (some ⟨w1.heap.size, 0, none⟩) 1 (w1.alloc (.cells #[.int .u8 2] 5)) (byt_lit w1 [2]) (Nat.le_refl _) (fun x hx => by obtain rfl := List.mem_singleton.1 hx; decide) (by simp)).mono ?_; rintro e w2 ⟨c, HK, rfl, Z2⟩
  have BA := (BA.alloc _).below Z2 (BA.alloc _).lt
  have B1 := (B1.alloc _).below Z2 (B1.alloc _).lt
  have Z := Z.alloc Z.size (.cells #[.int .u8 2] 5)
  have Z := Z.trans (Z2.mono Z.size)
  clear Z2
  go_wp2_with (refine al_zero rfl 102 rfl _ z45' ?_)
  intro g2 w3 l2 B2 G2
  have n12 : g1 ≠ g2 := by have := B1.lt; omega
  have na2 : ga ≠ g2 := by have := BA.lt; omega
  have hg2 : w.heap.size ≤ g2 := Nat.le_trans Z.size l2
  have BA := BA.kept G2 (by simp)
  have B1 := B1.kept G2 (by simp)
  have Z := Z.grown G2 Z.size (by simp)
  have I1 : Hid ((Tryz.prog.info? 102).map (·.size) = some c.length) := by show _ = _; rw [HK.out.2.1]; exact s45
  have N1 : Hid (c.length = (smc ⟨0, 0, 0, 0, 0, 0, 0, 0⟩ (List.replicate 64 0) 0).length) := by show _ = _; rw [HK.out.2.1, smc_len _ _ _ (by simp)]
  clear G2
  go_wp2_with (refine st_all rfl 102 (.tmp 5) (.tmp 7) rfl g2 102 _ c rfl rfl B2 N1.out I1.out HK.out.2.2 ?_)
  intro w4 B2 G3
  have BA := BA.kept G3 (fun e => na2 (Option.some.inj e))
  have B1 := B1.kept G3 (fun e => n12 (Option.some.inj e))
  have Z := grown_below Z G3 Z.size hg2
  have HS : Hid (Sm w4 g2 [2]) := HK.out.1 _ _ B2
  have HA : Hid (Calls Tryz.prog 62 #[.pointer (some ⟨g2, 0, none⟩), .slice (some ⟨ga, 0, none⟩) 32 32] w4 fun e w' => e = .returned (.tuple #[]) ∧ Sm w' g2 (2 :: lh) ∧ w4.grownBy w' (some g2)) := by
    have := add_any g2 [2] lh (some ⟨ga, 0, none⟩) 32 w4 HS.out (.inr ⟨ga, 0, na2, rfl, blk_cells BA⟩) (by omega) hol.out (by simp; omega)
    rw [hl] at this; exact this
  clear B2 G3 I1 N1 HS HK
  go_wp2_with fail
  refine HA.out.mono ?_; rintro e w5 ⟨rfl, hs, G5⟩
  have HS : Hid (Sm w5 g2 (2 :: lh)) := hs
  have B1 := B1.kept G5 (fun e => n12 (Option.some.inj e))
  have Z := grown_below Z G5 Z.size hg2
  have HA : Hid (Calls Tryz.prog 62 #[.pointer (some ⟨g2, 0, none⟩), .slice a0 rh.length cap] w5 fun e w' => e = .returned (.tuple #[]) ∧ Sm w' g2 (2 :: (lh ++ rh)) ∧ w5.grownBy w' (some g2)) := by
    have := add_any g2 (2 :: lh) rh a0 cap w5 HS.out (byt_src hc.out Z hg2) hcap hor.out (by simp; omega)
    exact this
  clear hs G5 HS
  go_wp2_with fail
  refine HA.out.mono ?_; rintro e w6 ⟨rfl, hs, G6⟩
  have HS : Hid (Sm w6 g2 (2 :: (lh ++ rh))) := hs
  have B1 := B1.kept G6 (fun e => n12 (Option.some.inj e))
  have Z := grown_below Z G6 Z.size hg2
  clear hs G6 HA
  go_wp2_with fail
  refine (end_any g2 (2 :: (lh ++ rh)) _ HS.out (by simp; omega)).mono ?_; rintro e w7 ⟨rfl, G7⟩
  have B1 := B1.kept G7 (fun e => n12 (Option.some.inj e))
  have Z := grown_below Z G7 Z.size hg2
  have ID : Hid ((Tryz.prog.info? 23).map (·.size) = some (nums .u8 (D (2 :: (lh ++ rh)))).length) := by show _ = _; rw [nums_length, D_len]; exact s25
  have ND : Hid ((nums .u8 (D (2 :: (lh ++ rh)))).length = (nums .u8 (List.replicate 32 0)).length) := by show _ = _; rw [nums_length, nums_length, D_len, List.length_replicate]
  clear G7 HS
  go_wp2_with (refine st_all rfl 23 (.tmp 4) (.tmp 12) rfl g1 23 (nums .u8 (List.replicate 32 0)) (nums .u8 (D (2 :: (lh ++ rh)))) rfl rfl B1 ND.out ID.out (nums_one _ _) ?_)
  intro we BE GE
  go_wp2
  (try simp only [Exit.inBlock, Exit.then])
  refine bodyPost_ret (res_row rfl _ g1 23 _ _ rfl BE Tryz.underlying23 rfl ID.out) rfl ⟨rfl, grown_below Z GE Z.size hg1⟩
end Go.Proofs.YtlefdnjokppibaaGreatDoor.Sh
