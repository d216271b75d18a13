/-
  merkle.New, (*merkle.Tree).Add, Size. · The document's own Up: the root that a path makes. · scrivenerlaw10.made: a tree of leaves; (*merkle.Tree).Root. · The contract of digest.Chain. · block's digests: packed.hash, entriesHash, Head, Join, Hash.
-/
import Derived.Test.YtlefdnjokppibaaGreatDoorUEv
import Derived.Test.YtlefdnjokppibaaGreatDoorUG35x
import Derived.Test.YtlefdnjokppibaaGreatDoorUG19x
import Derived.Test.YtlefdnjokppibaaGreatDoorUG33x
import Derived.Test.YtlefdnjokppibaaGreatDoorUG31x
namespace Go.Proofs.YtlefdnjokppibaaGreatDoor.Mer
open Go Go.RowKit Go.Maps Sh
theorem oper_st1 {o : Oper} {a : Act} {K : Act → World → Prop} {Q : Exit → Act → World → Prop} {w : World} {P : Program} (ty : TypeId) (x y : Operand) (ho : o.op = .store ty x y) (b i : Nat) (t : TypeId) (vs : List Value) (v : Value)
    (hx : a.eval x = .pointer (some ⟨b, i, none⟩)) (hy : a.eval y = v) (hv : v.cells = #[v]) (hv1 : v.oneCell' = true) (hi : i < vs.length) (hb : Sh.Blk w b t vs) (hs : (P.info? ty).map (·.size) = some 1)
    (h : ∀ w', Sh.Blk w' b t (vs.set i v) → w.grownBy w' (some b) → K (a.put o.dst undef) w') : Oper.wp P o a w K Q := by
  have hst := run_storeCells_cells (P := P) b i [v] 0 w (fun j hj => by
      have : j = 0 := by simpa using hj
      subst this
      rw [Nat.add_zero, hb.cell, List.getElem?_eq_getElem hi]; rfl) (fun j hj => hb.frozen _) (by simp [hv1])
  unfold Oper.wp execOp
  cases hq : P.info? ty with
  | none => simp [hq] at hs
  | some q1 =>
    have hq1 : q1.size = 1 := by simpa [hq] using hs
    simp only [Nat.add_zero] at hst
    have hsv : (storeVar ty ⟨b, i, none⟩ v).run P w = .ok () (w.setCells b i [v]) := by
      simp [storeVar, Go.sizeOf, typeInfo, hq, hv, hq1, hst]
    simp only [ho, hx, hy, Instr.storeAt, Instr.sureAddr, Sem.run_bind, Sem.run_pure, Result.andThen_ok, hsv]
    exact h _ (hb.set i v) (Sh.grown_setCell w _ _)
theorem iH : (Tryz.prog.info? 23).map (fun i => (i.zero, i.size, i.bytes)) = some (some (.agg (nums .u8 (List.replicate 32 0)).toArray), 32, 32) := by kernel_rfl
theorem OwE.ne {α : Type} {enc : α → List Value} {t t' : TypeId} {n base b : Nat} {w : World} {v : Value} {L : List α} {vs : List Value} (h : OwE enc t n w base v L) (hb : Sh.Blk w b t' vs) (hne : t ≠ t') : ∀ k, v.ownBlock = some k → k ≠ b := by
  rintro k hk rfl
  rcases h.1.2 with ⟨rfl, _⟩ | ⟨g, cap, cur, rfl, _, hg, _⟩
  · cases hk
  · injection hk with hk
    subst hk
    unfold Sh.Blk at hb
    rw [hg] at hb
    simp at hb
    exact hne hb.2
theorem OwE.nm {α : Type} {enc : α → List Value} {t : TypeId} {n base b m : Nat} {w : World} {v : Value} {L : List α} {D : DataW Value} (h : OwE enc t n w base v L) (hb : w.ownsMap Tryz.prog 144 hR b m D) : ∀ k, v.ownBlock = some k → k ≠ b := by
  rintro k hk rfl
  rcases h.1.2 with ⟨rfl, _⟩ | ⟨g, cap, cur, rfl, _, hg, _⟩
  · cases hk
  · injection hk with hk
    subst hk
    obtain ⟨es, ck, e, _⟩ := hb
    rw [hg] at e
    cases e
theorem blk_nm {b mb m : Nat} {t : TypeId} {vs : List Value} {w : World} {D : DataW Value} (h : Sh.Blk w b t vs) (hb : w.ownsMap Tryz.prog 144 hR mb m D) : b ≠ mb := by
  rintro rfl
  obtain ⟨es, ck, e, _⟩ := hb
  unfold Sh.Blk at h
  rw [h] at e
  cases e
theorem MapP.kept {w w' : World} {base : Nat} {m : Option Nat} {L : List (List Nat)} {row : Option Nat} (h : MapP w base m L) (g : w.grownBy w' row) (hne : ∀ mb, m = some mb → row ≠ some mb) : MapP w' base m L := by
  rcases h with h | ⟨mb, n, D, h1, h2, h3, h4⟩
  · exact .inl h
  · exact .inr ⟨mb, n, D, h1, h2, h3.kept g (fun e => hne mb h1 e.symm), h4⟩
theorem MapP.grow {w w' : World} {base : Nat} {m : Option Nat} {L : List (List Nat)} (h : MapP w base m L) (g : Below w.heap.size w w') : MapP w' base m L := h.kept (below_grown g) (by simp)
/-- a tree of leaves, in memory. -/
def Tr (w : World) (bt base : Nat) (L : List (List Nat)) : Prop := ∃ a cap m, Sh.Blk w bt 125 [.slice a L.length cap, .map m] ∧ OwE (nums .u8) 23 32 w base (.slice a L.length cap) L ∧ MapP w base m L ∧ base ≤ bt
theorem Tr.grow {w w' : World} {bt base : Nat} {L : List (List Nat)} (h : Tr w bt base L) (g : Below w.heap.size w w') : Tr w' bt base L := by
  obtain ⟨a, cap, m, h1, h2, h3, h4⟩ := h
  exact ⟨a, cap, m, h1.below g h1.lt, h2.grow g, h3.grow g, h4⟩
theorem Tr.all {w : World} {bt base : Nat} {L : List (List Nat)} (h : Tr w bt base L) : AllW w bt L := by
  obtain ⟨a, cap, m, h1, h2, h3, h4⟩ := h
  intro l o ho
  by_cases hl : l = 0
  · subst hl
    have ho' : o < L.length := by simp at ho; omega
    obtain ⟨a', cap', e0, _, _, es, _⟩ := h2.es
    injection e0 with e0 _ _
    subst e0
    obtain ⟨x, hx⟩ : ∃ x, L[o]? = some x := ⟨_, List.getElem?_eq_getElem ho'⟩
    obtain ⟨b, off, rfl, r⟩ := es.at hx
    rw [sg_leaf L o x hx]
    exact .inl ⟨rfl, b, off, _, cap, m, h1, ho', r⟩
  · rcases h3 with ⟨_, rfl⟩ | ⟨mb, n, D, rfl, _, h5, _, _, h6⟩
    · have := Mk.pow_pos2 l
      have := Nat.le_mul_of_pos_left (2 ^ l) (show 0 < o + 1 by omega)
      simp at ho
      omega
    · exact .inr ⟨by omega, _, mb, n, D, h1, h5, h6 l o (by omega) ho⟩
theorem new_any (w : World) : Calls Tryz.prog 52 #[] w fun e w' => ∃ bt, e = .returned (.pointer (some ⟨bt, 0, none⟩)) ∧ Tr w' bt w.heap.size [] ∧ Below w.heap.size w w' := by
  go_enter Tryz.func52, Tryz.ntmps52
  go_wp2
  go_ret
  exact ⟨w.heap.size, rfl, ⟨none, 0, none, Sh.blk_new w _ _, owe_nil _ _ _ _ _, .inl ⟨rfl, rfl⟩, Nat.le_refl _⟩, (Below.refl _ _).alloc (Nat.le_refl _) _⟩
theorem size_any (bt base : Nat) (L : List (List Nat)) (w : World) (h : Tr w bt base L) : Calls Tryz.prog 55 #[.pointer (some ⟨bt, 0, none⟩)] w fun e w' => e = .returned (.int .i64 (L.length : Int)) ∧ w' = w := by
  obtain ⟨a, cap, m, h1, _⟩ := h
  have c0 : w.cell? ⟨bt, 0, none⟩ = some (.slice a L.length cap) := by rw [h1.cell]; rfl
  clear h1
  go_enter Tryz.func55, Tryz.ntmps55
  go_wp2
  go_ret
  exact ⟨rfl, rfl⟩
set_option maxHeartbeats 2000000 in
set_option maxRecDepth 8000 in
theorem add_tree (bt base : Nat) (L : List (List Nat)) (hL : Hl L) (h : List Nat) (hh : Hh h) (hlen : L.length < 1048576) (w : World) (hT : Tb w) (hbw : base ≤ w.heap.size) (h1b : 1 < base) (hTr : Tr w bt base L) :
    Calls Tryz.prog 53 #[.pointer (some ⟨bt, 0, none⟩), .agg (nums .u8 h).toArray] w fun e w' => e = .returned (.int .i64 (L.length : Int)) ∧ Tr w' bt base (L ++ [h]) ∧ Below base w w' := by
  obtain ⟨a, cap, m, BT, hO, hM, hb⟩ := hTr
  have HH : Hid (Hh h) := hh
  have HLl : Hid (Hl L) := hL
  have HO0 : Hid (OwE (nums .u8) 23 32 w base (.slice a L.length cap) L) := hO
  have HM0 : Hid (MapP w base m L) := hM
  have HTb : Hid (Tb w) := hT
  clear hh hL hO hM hT
  go_enter Tryz.func53, Tryz.ntmps53
  go_wp2_with (refine al_box rfl 23 (.tmp 1) rfl (nums .u8 h) rfl ?_)
  intro gl w1 l1 BL G1
  have Z := (Below.refl w.heap.size w).grown G1 (Nat.le_refl _) (by simp)
  have BT := BT.kept G1 (by simp)
  have c0 : w1.cell? ⟨bt, 0, none⟩ = some (.slice a L.length cap) := by rw [BT.cell]; rfl
  have hne : ((L.length : Int) == 1048576) = false := by rw [beq_eq_false_iff_ne]; omega
  have HO : Hid (OwE (nums .u8) 23 32 w1 base (.slice a L.length cap) L) := HO0.out.grow Z
  have HO1 := HO
  clear G1
  go_wp2_with fail
  clear c0 hne
  obtain ⟨C, hC⟩ : ∃ C : World → Prop, C = fun W => Sh.Blk W bt 125 [.slice a L.length cap, .map m] ∧ Sh.Blk W gl 23 (nums .u8 h) := ⟨_, rfl⟩
  have FT : Hid (∀ W, C W → W.cell? ⟨bt, 0, none⟩ = some (.slice a L.length cap)) := fun W hW => by rw [hC] at hW; rw [hW.1.cell]; rfl
  have FL : Hid (∀ W, C W → W.rangeAt gl 0 (nums .u8 h)) := fun W hW => by rw [hC] at hW; exact hW.2.all
  have CG : Hid (∀ W W' row, C W → W.grownBy W' row → some bt ≠ row → some gl ≠ row → C W') := fun W W' row h1 h2 h3 h4 => by rw [hC] at h1 ⊢; exact ⟨h1.1.kept h2 h3, h1.2.kept h2 h4⟩
  have CB : Hid (∀ W, C W → Sh.Blk W bt 125 [.slice a L.length cap, .map m]) := fun W hW => by rw [hC] at hW; exact hW.1
  have C0 : Hid (C { w1 with drawn := w1.drawn + 1 }) := by rw [hC]; exact ⟨BT.below (Below.drew (Below.refl _ _)) BT.lt, BL.below (Below.drew (Below.refl _ _)) BL.lt⟩
  clear hC
  have E0 : Hid (Below w1.heap.size w1 { w1 with drawn := w1.drawn + 1 }) := Below.drew (Below.refl _ _)
  refine region_calm C 10 (by kernel_rfl) ?_
  have hCp : ∀ p : Prop, (∀ W, C W → p) ↔ p := fun p => ⟨fun h => h _ C0.out, fun h _ _ => h⟩
  generalize ({ w1 with drawn := w1.drawn + 1 } : World) = y0 at *
  have O0 : Hid (OwE (nums .u8) 23 32 y0 base (.slice a L.length cap) L) := HO.out.grow E0.out
  refine seg 5 [0, 1, 2, 3, 4, 5] rfl (by kernel_rfl) whole_blind (C0.out) (by kernel_rfl) ?_
  change wpQuiet _ _ _ _ (_ :: _ :: _ :: _ :: _ :: _ :: []) _
  repeat (first
    | go_big_quiet_skip
    | (go_big_quiet_want
       first
       | (refine q_slc (.tmp 18) rfl bt 0 rfl a L.length cap FT.out ?_
          simp only [Act.put, List.setIfInBounds_toArray, List.set_cons_zero, List.set_cons_succ]
          go_big_quiet_on)
       | (refine q_load 23 (.tmp 3) rfl gl 0 rfl (nums .u8 h) _ FL.out Tryz.underlying23 rfl (sH HH.out) ?_
          simp only [Act.put, List.setIfInBounds_toArray, List.set_cons_zero, List.set_cons_succ]
          go_big_quiet_on)
       | (go_big_quiet_op
          go_big_quiet_on)))
  refine wpQuiet_nil ?_
  refine lone_do (i := 6) 4 rfl (by kernel_rfl) rfl (by rfl) ?_
  intro K hK
  refine bs_one 51 23 (.tmp 20) rfl Tryz.underlying51 32 (by decide) (by decide) _ Tryz.sizeOf23 Tryz.zeroValue23 (nums .u8 h) (by rw [nums_length]; exact HH.out.1) rfl ?_
  have C1 : Hid (C (y0.alloc (.cells (nums .u8 h).toArray 23))) := CG.out _ _ none C0.out (World.grownBy_alloc _ _ none) (by simp) (by simp)
  have O1 : Hid (OwE (nums .u8) 23 32 (y0.alloc (.cells (nums .u8 h).toArray 23)) base (.slice a L.length cap) L) := O0.out.alloc _
  have ES1 : Hid (ES (nums .u8) 32 (y0.alloc (.cells (nums .u8 h).toArray 23)) (some ⟨y0.heap.size, 0, none⟩) [h]) := es_lit y0 23 h
  have E1 : Hid (Below w1.heap.size w1 (y0.alloc (.cells (nums .u8 h).toArray 23))) := E0.out.alloc E0.out.size _
  have hy0 := E0.out.size
  refine hK _ _ C1.out ?_
  clear hK K
  simp only [Act.put, List.setIfInBounds_toArray, List.set_cons_zero, List.set_cons_succ]
  obtain ⟨y1, hy1⟩ : ∃ y1, y0.alloc (.cells (nums .u8 h).toArray 23) = y1 := ⟨_, rfl⟩
  rw [hy1] at C1 O1 ES1 E1 ⊢
  clear hy1 O0
  refine lone_do (i := 7) 3 rfl (by kernel_rfl) rfl (by rfl) ?_
  intro K hK
  refine app_wp (.tmp 19) (.tmp 21) 51 23 rfl Tryz.underlying51 _ 32 iH (by decide) (by decide) (by decide) base (.slice a L.length cap) L [h] rfl O1.out (some ⟨y0.heap.size, 0, none⟩) 1 rfl ES1.out (fun e => by cases e) (fun y hy => by rw [List.mem_singleton.1 hy, nums_length]; exact ⟨HH.out.1, nums_one _ _⟩) (by simp; omega) (by have := E1.out.size; have := Z.size; omega) ?_
  intro v2 y2 O2' G2'
  have O2 : Hid (OwE (nums .u8) 23 32 y2 base v2 (L ++ [h])) := O2'
  have G2 : Hid (y1.grownBy y2 (Value.slice a L.length cap).ownBlock) := G2'
  have hnb : Hid (∀ k, (Value.slice a L.length cap).ownBlock = some k → k ≠ bt ∧ k < w.heap.size) := fun k hk => ⟨HO1.out.ne BT (by decide) k hk, (HO0.out.1.lt k hk).2⟩
  have C2 : Hid (C y2) := CG.out _ _ _ C1.out G2' (fun e => (hnb.out _ e.symm).1 rfl) (fun e => by have := (hnb.out _ e.symm).2; omega)
  clear O2' G2'
  refine hK _ _ C2.out ?_
  clear hK K
  simp only [Act.put, List.setIfInBounds_toArray, List.set_cons_zero, List.set_cons_succ]
  refine lone_calm (i := 8) 2 rfl (by kernel_rfl) rfl rfl (C2.out) ?_
  repeat (first
    | go_big_quiet_skip
    | (go_big_quiet_want
       first
       | (go_big_quiet_op
          go_big_quiet_on)))
  refine wpQuiet_nil ?_
  refine lone_calm (i := 9) 1 rfl (by kernel_rfl) rfl rfl (C2.out) ?_
  repeat (first
    | go_big_quiet_skip
    | (go_big_quiet_want
       first
       | (go_big_quiet_op
          go_big_quiet_on)))
  refine wpQuiet_nil ?_
  obtain ⟨a2, cap2, hv2, hle2, hnil2, _, _⟩ := O2.out.es
  subst hv2
  rw [List.length_append, List.length_singleton]
  rw [List.length_append, List.length_singleton] at O2
  refine lone_last (i := 10) 0 rfl rfl (by kernel_rfl) rfl (by rfl) ?_
  intro K hK
  refine oper_st1 51 (.tmp 24) (.tmp 22) rfl bt 0 125 _ (.slice a2 (L.length + 1) cap2) rfl rfl rfl rfl (by simp) (CB.out _ C2.out) (by kernel_rfl) ?_
  intro w3 BT3 G3
  refine hK _ _ ?_
  clear hK K
  refine anyC_done (by kernel_rfl) ⟨rfl, ?_⟩
  simp only [Act.put]
  have BT3 : Sh.Blk w3 bt 125 [.slice a2 (L.length + 1) cap2, .map m] := BT3
  have hO3 : Hid (OwE (nums .u8) 23 32 w3 base (.slice a2 (L.length + 1) cap2) (L ++ [h])) := O2.out.kept G3 (fun k hk e => O2.out.ne (CB.out _ C2.out) (by decide) k hk (Option.some.inj e).symm)
  have HM3 : Hid (MapP w3 base m L) := by
    have m1 := (HM0.out.grow Z).grow E1.out
    have m2 := m1.kept G2.out (fun mb e1 e2 => by
      rcases m1 with ⟨e, _⟩ | ⟨mb', n, D, e, _, om, _⟩
      · rw [e] at e1; cases e1
      · rw [e] at e1; injection e1 with e1; subst e1
        exact O1.out.nm om _ e2 rfl)
    exact m2.kept G3 (fun mb e1 e2 => by
      injection e2 with e2
      rcases m2 with ⟨e, _⟩ | ⟨mb', n, D, e, _, om, _⟩
      · rw [e] at e1; cases e1
      · rw [e] at e1; injection e1 with e1; subst e1
        exact blk_nm (CB.out _ C2.out) om e2)
  have Z3 : Below base w w3 := by
    have z1 := (Z.trans (E1.out.mono Z.size)).mono hbw
    have z2 := below_own z1 (Nat.le_trans hbw (Nat.le_trans Z.size E1.out.size)) O1.out G2.out
    exact grown_below z2 G3 (Nat.le_trans hbw z2.size) hb
  have HTb3 : Hid (Tb w3) := tb_base HTb.out Z3 h1b
  have hbw3 := Nat.le_trans hbw Z3.size
  have BL3 : Hid (w3.rangeAt gl 0 (nums .u8 h)) := by
    have e1 := (FL.out _ C2.out)
    intro j v hj
    have := e1 j v hj
    have hk := G3.cell this (by intro e; injection e with e; have h1 := BT.lt; have h2 := BL; unfold Sh.Blk at h2; have h3 := BT; unfold Sh.Blk at h3; simp only at e; rw [e] at h2; rw [h2] at h3; simp at h3)
    exact hk
  have KK : Hid (Calls Tryz.prog 78 #[.pointer (some ⟨bt, 0, none⟩), .agg (nums .u8 h).toArray] w3 fun e w' => e = .returned (.tuple #[]) ∧ ∃ m, Sh.Blk w' bt 125 [.slice a2 (L.length + 1) cap2, .map m] ∧ OwE (nums .u8) 23 32 w' base (.slice a2 (L.length + 1) cap2) (L ++ [h]) ∧ MapP w' base m (L ++ [h]) ∧ Below base w3 w') := by
    rcases HM3.out with ⟨rfl, hL0⟩ | ⟨mb, n, D, rfl, h2, h3, h4, h5, h6⟩
    · subst hL0
      exact keep_nil bt base h HH.out a2 cap2 w3 HTb3.out hb hbw3 h1b BT3 hO3.out
    · exact keep_some bt base L HLl.out h HH.out (L.length + 1) rfl (by omega) a2 cap2 w3 HTb3.out hb hbw3 mb n D BT3 hO3.out h2 h3 h4 h5 h6
  clear C0 C1 C2 CG CB FT FL E0 E1 hCp O1 O2 G2 G3 hnb BT3 hO3 HM3 HTb3 ES1
  go_wp2_with (refine ld_mid rfl 23 (.tmp 3) rfl gl 0 rfl (nums .u8 h) _ BL3.out Tryz.underlying23 rfl (sH HH.out) ?_)
  refine KK.out.mono ?_
  rintro e w4 ⟨rfl, m4, BT4, O4, M4, Z4⟩
  have c4 : w4.cell? ⟨bt, 0, none⟩ = some (.slice a2 (L.length + 1) cap2) := by rw [BT4.cell]; rfl
  have HE : Hid (Tr w4 bt base (L ++ [h]) ∧ Below base w w4) := ⟨⟨a2, cap2, m4, by rw [List.length_append]; exact BT4, by rw [List.length_append]; exact O4, M4, hb⟩, Z3.trans Z4⟩
  clear BT4 O4 M4 Z4 KK BL3
  go_wp2
  go_ret
  exact ⟨rfl, HE.out⟩
end Go.Proofs.YtlefdnjokppibaaGreatDoor.Mer
namespace Go.Proofs.YtlefdnjokppibaaGreatDoor.Mer
open Go.RowKit Sh
theorem res_two {fn : Func} {p q : Tmp} {ty : TypeId} {w : World} (h : fn.results = #[.cell p ty, .tmp q]) (tmps : Array Value) (g : Nat) (t : TypeId) (cs : List Value) (d : TypeDesc)
    (hp : tmps.getD p undef = .pointer (some ⟨g, 0, none⟩)) (hg : Sh.Blk w g t cs) (hu : Tryz.prog.underlying ty = some d) (hd : d.isRow = true) (hi : (Tryz.prog.info? ty).map (·.size) = some cs.length) :
    (results fn tmps).run Tryz.prog w = .ok (.tuple #[.agg cs.toArray, tmps.getD q undef]) w := by
  have hp' : tmps[p]?.getD undef = .pointer (some ⟨g, 0, none⟩) := by simpa using hp
  simp [results, h, hp', asAddr, run_loadVar_row w g t ty cs.toArray (0, 0) d hg hu (by cases d <;> simp_all [TypeDesc.isRow]) (by simpa using hi)]
end Go.Proofs.YtlefdnjokppibaaGreatDoor.Mer
namespace Go.Proofs.YtlefdnjokppibaaGreatDoor.Mer
open Go Go.RowKit Go.Maps Sh
theorem sgd_zero (L : List (List Nat)) (n : Nat) : sgd L 0 n = L.take n := by unfold sgd; rw [List.drop_zero]
set_option maxHeartbeats 2000000 in
set_option maxRecDepth 8000 in
theorem root_in (bt base : Nat) (L : List (List Nat)) (hL : Hl L) (hlen : L.length ≤ 2000000) (n : Nat) (hn : n ≤ L.length) (w : World) (hTr : Tr w bt base L) :
    Calls Tryz.prog 54 #[.pointer (some ⟨bt, 0, none⟩), .int .i64 (n : Int)] w fun e w' => e = .returned (.tuple #[.agg (nums .u8 (Mk.R nd em (L.take n))).toArray, .int .i64 0]) ∧ Below w.heap.size w w' := by
  have HT : Hid (Tr w bt base L) := hTr
  obtain ⟨x, hx⟩ : ∃ x, Hid (x = Mk.R nd em (L.take n)) := ⟨_, rfl⟩
  have HX : Hid (Hh x) := by show Hh x; rw [hx.out]; exact R_hh (hL.take n)
  have HL : Hid (Hl L) := hL
  have HNl : Hid ((nums .u8 x).length = (nums .u8 (List.replicate 32 0)).length) := by show _ = _; rw [nums_length, nums_length, HX.out.1, List.length_replicate]
  have HNs : Hid ((Tryz.prog.info? 23).map (·.size) = some (nums .u8 x).length) := sH HX.out
  rw [← hx.out]
  have h1 : ¬ ((L.length : Int) < (n : Int)) := by omega
  clear hTr hL
  go_enter Tryz.func54, Tryz.ntmps54
  go_wp2_with (refine Sh.al_zero rfl 23 rfl _ Sh.z25 ?_)
  intro g1 w1 l1 B1 G1
  have Z := (Below.refl w.heap.size w).grown G1 (Nat.le_refl _) (by simp)
  have HT1 : Hid (Tr w1 bt base L) := HT.out.grow Z
  clear G1
  go_wp2_with fail
  refine (size_any bt base L w1 HT1.out).mono ?_
  rintro e w2 ⟨rfl, hw2⟩
  rw [hw2]
  clear hw2 w2
  by_cases hn0 : n = 0
  · have e0 : ((n : Int) == 0) = true := by rw [hn0]; rfl
    have K := sum_any none 0 [] (by simp) w1 (.inl rfl) (Nat.le_refl _) (by intro x hx; cases hx)
    have ex : x = Mt.D [] := by rw [hx.out, hn0, List.take_zero]; rfl
    clear hn0
    go_wp2_with fail
    refine K.mono ?_
    rintro e w2 ⟨rfl, Z2⟩
    rw [← ex]
    have B1 := B1.below Z2 B1.lt
    have Z := Z.trans (Z2.mono Z.size)
    clear Z2 K ex
    go_wp2_with (refine Sh.st_all rfl 23 (.tmp 4) (.tmp 21) rfl g1 23 (nums .u8 (List.replicate 32 0)) (nums .u8 x) rfl rfl B1 HNl.out HNs.out (nums_one _ _) ?_)
    intro w5 B5 G5
    go_wp2
    refine bodyPost_ret (res_two rfl _ g1 23 _ _ rfl B5 Tryz.underlying23 rfl HNs.out) rfl ⟨rfl, grown_below Z G5 Z.size l1⟩
  · have e0 : ((n : Int) == 0) = false := by rw [beq_eq_false_iff_ne]; omega
    have K := root_all bt L HL.out hlen (n + 1) n 0 n w1 (by omega) HT1.out.all (by omega) (Nat.le_of_lt Nat.lt_two_pow_self) (by omega)
    rw [Nat.zero_mul, Nat.zero_add, sgd_zero, ← hx.out] at K
    clear hn0
    go_wp2_with fail
    refine K.mono ?_
    rintro e w2 ⟨rfl, Z2⟩
    have B1 := B1.below Z2 B1.lt
    have Z := Z.trans (Z2.mono Z.size)
    clear Z2 K
    go_wp2_with (refine Sh.st_all rfl 23 (.tmp 4) (.tmp 24) rfl g1 23 (nums .u8 (List.replicate 32 0)) (nums .u8 x) rfl rfl B1 HNl.out HNs.out (nums_one _ _) ?_)
    intro w5 B5 G5
    go_wp2
    refine bodyPost_ret (res_two rfl _ g1 23 _ _ rfl B5 Tryz.underlying23 rfl HNs.out) rfl ⟨rfl, grown_below Z G5 Z.size l1⟩
end Go.Proofs.YtlefdnjokppibaaGreatDoor.Mer
namespace Go.Proofs.YtlefdnjokppibaaGreatDoor.Sh
open Go.RowKit Mt
set_option maxHeartbeats 1000000 in
set_option maxRecDepth 8000 in
theorem chain_any (lh rh : List Nat) (hl : lh.length = 32) (a0 : Option Addr) (cap : Nat) (hn : rh.length ≤ 100000) (hol : Hid (Oct lh)) (hor : Hid (Oct rh)) (w : World) (hc : Hid (Byt w a0 rh)) (hcap : rh.length ≤ cap) :
    Calls Tryz.prog 56 #[.agg (nums .u8 lh).toArray, .slice a0 rh.length cap] w fun e w' => e = .returned (.agg (nums .u8 (D (2 :: (lh ++ rh)))).toArray) ∧ Below w.heap.size w w' := by
  go_enter Tryz.func56, Tryz.ntmps56
  go_wp2_with (refine al_box rfl 23 (.tmp 0) rfl (nums .u8 lh) rfl ?_)
  intro ga wa la BA GA
  have Z := (Below.refl w.heap.size w).grown GA (Nat.le_refl _) (by simp)
  clear GA
  go_wp2_with (refine al_zero rfl 23 rfl _ z25 ?_)
  intro g1 w1 l1 B1 G1
  have BA := BA.kept G1 (by simp)
  have hg1 : w.heap.size ≤ g1 := Nat.le_trans Z.size l1
  have Z := Z.grown G1 Z.size (by simp)
  clear G1
  go_wp2_with fail
  refine (begin_c [2] (some ⟨w1.heap.size, 0, none⟩) 1 (w1.alloc (.cells #[.int .u8 2] 5)) (byt_lit w1 [2]) (Nat.le_refl _) (fun x hx => by obtain rfl := List.mem_singleton.1 hx; decide) (by simp)).mono ?_; rintro e w2 ⟨c, HK, rfl, Z2⟩
  have BA := (BA.alloc _).below Z2 (BA.alloc _).lt
  have B1 := (B1.alloc _).below Z2 (B1.alloc _).lt
  have Z := Z.alloc Z.size (.cells #[.int .u8 2] 5)
  have Z := Z.trans (Z2.mono Z.size)
  clear Z2
  go_wp2_with (refine al_zero rfl 102 rfl _ z45' ?_)
  intro g2 w3 l2 B2 G2
  have n12 : g1 ≠ g2 := by have := B1.lt; omega
  have na2 : ga ≠ g2 := by have := BA.lt; omega
  have hg2 : w.heap.size ≤ g2 := Nat.le_trans Z.size l2
  have BA := BA.kept G2 (by simp)
  have B1 := B1.kept G2 (by simp)
  have Z := Z.grown G2 Z.size (by simp)
  have I1 : Hid ((Tryz.prog.info? 102).map (·.size) = some c.length) := by show _ = _; rw [HK.out.2.1]; exact s45
  have N1 : Hid (c.length = (smc ⟨0, 0, 0, 0, 0, 0, 0, 0⟩ (List.replicate 64 0) 0).length) := by show _ = _; rw [HK.out.2.1, smc_len _ _ _ (by simp)]
  clear G2
  go_wp2_with (refine st_all rfl 102 (.tmp 5) (.tmp 7) rfl g2 102 _ c rfl rfl B2 N1.out I1.out HK.out.2.2 ?_)
  intro w4 B2 G3
  have BA := BA.kept G3 (fun e => na2 (Option.some.inj e))
  have B1 := B1.kept G3 (fun e => n12 (Option.some.inj e))
  have Z := grown_below Z G3 Z.size hg2
  have HS : Hid (Sm w4 g2 [2]) := HK.out.1 _ _ B2
  have HA : Hid (Calls Tryz.prog 62 #[.pointer (some ⟨g2, 0, none⟩), .slice (some ⟨ga, 0, none⟩) 32 32] w4 fun e w' => e = .returned (.tuple #[]) ∧ Sm w' g2 (2 :: lh) ∧ w4.grownBy w' (some g2)) := by
    have := add_any g2 [2] lh (some ⟨ga, 0, none⟩) 32 w4 HS.out (.inr ⟨ga, 0, na2, rfl, blk_cells BA⟩) (by omega) hol.out (by simp; omega)
    rw [hl] at this; exact this
  clear B2 G3 I1 N1 HS HK
  go_wp2_with fail
  refine HA.out.mono ?_; rintro e w5 ⟨rfl, hs, G5⟩
  have HS : Hid (Sm w5 g2 (2 :: lh)) := hs
  have B1 := B1.kept G5 (fun e => n12 (Option.some.inj e))
  have Z := grown_below Z G5 Z.size hg2
  have HA : Hid (Calls Tryz.prog 62 #[.pointer (some ⟨g2, 0, none⟩), .slice a0 rh.length cap] w5 fun e w' => e = .returned (.tuple #[]) ∧ Sm w' g2 (2 :: (lh ++ rh)) ∧ w5.grownBy w' (some g2)) := by
    have := add_any g2 (2 :: lh) rh a0 cap w5 HS.out (byt_src hc.out Z hg2) hcap hor.out (by simp; omega)
    exact this
  clear hs G5 HS
  go_wp2_with fail
  refine HA.out.mono ?_; rintro e w6 ⟨rfl, hs, G6⟩
  have HS : Hid (Sm w6 g2 (2 :: (lh ++ rh))) := hs
  have B1 := B1.kept G6 (fun e => n12 (Option.some.inj e))
  have Z := grown_below Z G6 Z.size hg2
  clear hs G6 HA
  go_wp2_with fail
  refine (end_any g2 (2 :: (lh ++ rh)) _ HS.out (by simp; omega)).mono ?_; rintro e w7 ⟨rfl, G7⟩
  have B1 := B1.kept G7 (fun e => n12 (Option.some.inj e))
  have Z := grown_below Z G7 Z.size hg2
  have ID : Hid ((Tryz.prog.info? 23).map (·.size) = some (nums .u8 (D (2 :: (lh ++ rh)))).length) := by show _ = _; rw [nums_length, D_len]; exact s25
  have ND : Hid ((nums .u8 (D (2 :: (lh ++ rh)))).length = (nums .u8 (List.replicate 32 0)).length) := by show _ = _; rw [nums_length, nums_length, D_len, List.length_replicate]
  clear G7 HS
  go_wp2_with (refine st_all rfl 23 (.tmp 4) (.tmp 12) rfl g1 23 (nums .u8 (List.replicate 32 0)) (nums .u8 (D (2 :: (lh ++ rh)))) rfl rfl B1 ND.out ID.out (nums_one _ _) ?_)
  intro we BE GE
  go_wp2
  (try simp only [Exit.inBlock, Exit.then])
  refine bodyPost_ret (res_row rfl _ g1 23 _ _ rfl BE Tryz.underlying23 rfl ID.out) rfl ⟨rfl, grown_below Z GE Z.size hg1⟩
end Go.Proofs.YtlefdnjokppibaaGreatDoor.Sh
namespace Go.Proofs.YtlefdnjokppibaaGreatDoor.Sh
open Go Go.RowKit Math Mt
set_option linter.unusedVariables false
set_option linter.unusedSimpArgs false
theorem zHt : (Tryz.prog.info? 23).map (fun i => i.zero.map (·.cells)) = some (some (nums .u8 zr).toArray) := by kernel_rfl
theorem D32 (l : List Nat) : H32 (D l) := ⟨D_len l, D_oct l⟩
theorem sD (l : List Nat) : (Tryz.prog.info? 23).map (·.size) = some (nums .u8 (D l)).length := sH (D_len l)
/-- The digest of the entries, by their bytes. -/
def eH (os : List (List Nat)) : List Nat := D (2 :: (Mer.Mk.R Mer.nd Mer.em (os.map fun o => D (0 :: o)) ++ uv os.length))
/-- A block's digest. -/
def bH (b : Bk) : List Nat := D (1 :: (D (hedB b) ++ eH (b.es.map entB)))
theorem sPk (p : Pk) : (Tryz.prog.info? 75).map (·.size) = some (pC p).length := by
  show _ = some 3
  kernel_rfl
theorem zPk : (Tryz.prog.info? 75).map (fun i => i.zero.map (·.cells)) = some (some (pC pN).toArray) := by kernel_rfl
set_option maxHeartbeats 1000000 in
set_option maxRecDepth 8000 in
theorem phash_any (p : Pk) (w : World) (hO : PkO w p) :
    Calls Tryz.prog 38 #[.agg (pC p).toArray] w fun e w' => e = .returned (.agg (nums .u8 (D (0 :: p.ol))).toArray) ∧ Hid (Below w.heap.size w w') := by
  have HO : Hid (PkO w p) := hO
  have hol := hO.olen
  have hoc := hO.ocap
  clear hO
  go_enter Tryz.func38, Tryz.ntmps38
  go_wp2_with (refine al_box rfl 75 (.tmp 0) rfl (pC p) rfl ?_)
  intro g1 w1 l1 B1 G0
  have Z := (Below.refl w.heap.size w).grown G0 (Nat.le_refl _) (by simp)
  clear G0
  go_wp2_with (refine al_zero rfl 23 rfl (nums .u8 zr) zHt ?_)
  intro g2 w2 l2 B2 G0
  have hg2 : w.heap.size ≤ g2 := Nat.le_trans Z.size l2
  have Z := Z.grown G0 Z.size (by simp)
  have B1 := B1.kept G0 (by simp)
  clear G0
  have c0 : w2.cell? ⟨g1, 0, none⟩ = some (.slice p.oa p.ol.length p.oc) := B1.cell 0
  have K := leaf_any p.oa p.oc p.ol (by omega) w2 (HO.out.own.below Z) hoc HO.out.ooct
  go_wp2_with fail
  refine K.mono ?_
  clear K c0
  rintro e w3 ⟨rfl, H⟩
  have Z3 := Z.trans (H.mono Z.size)
  have B2 := B2.below H B2.lt
  clear H
  go_wp2_with (refine st_all rfl 23 (.tmp 2) (.tmp 5) rfl g2 23 (nums .u8 zr) (nums .u8 (D (0 :: p.ol))) rfl rfl B2 (by rw [nums_length, nums_length, D_len]; rfl) (sD _) (nums_one _ _) ?_)
  intro w4 B4 G0
  have HF : Hid (Below w.heap.size w w4) := Sh.grown_below Z3 G0 Z3.size hg2
  clear G0 B2 B1
  go_wp2
  (try simp only [Exit.inBlock, Exit.then])
  refine bodyPost_ret (Sh.res_row rfl _ g2 23 _ _ rfl B4 Tryz.underlying23 rfl (sD _)) rfl ⟨rfl, HF.out⟩
set_option maxHeartbeats 1000000 in
set_option maxRecDepth 8000 in
theorem bhead_any (b : Bk) (hb : BkW b) (a : Option Addr) (c : Nat) (w : World) :
    Calls Tryz.prog 12 #[.agg (bC b a c).toArray] w fun e w' => e = .returned (.agg (nums .u8 (D (hedB b))).toArray) ∧ Hid (Below w.heap.size w w') := by
  have HL : Hid (b.pv.length = 32) := hb.pv.1
  have HB : Hid (BkW b) := hb
  clear hb
  go_enter Tryz.func12, Tryz.ntmps12
  go_wp2_with (refine al_box rfl 26 (.tmp 0) rfl (bC b a c) rfl ?_)
  intro g1 w1 l1 B1 G0
  have Z := (Below.refl w.heap.size w).grown G0 (Nat.le_refl _) (by simp)
  clear G0
  go_wp2_with (refine al_zero rfl 23 rfl (nums .u8 zr) zHt ?_)
  intro g2 w2 l2 B2 G0
  have hg2 : w.heap.size ≤ g2 := Nat.le_trans Z.size l2
  have Z := Z.grown G0 Z.size (by simp)
  have B1 := B1.kept G0 (by simp)
  clear G0
  have K := hed_any b HB.out a c w2
  go_wp2_with (refine ld_w (by rfl) 26 (.tmp 1) rfl g1 0 rfl (bC b a c) _ B1.all Tryz.underlying26 rfl (sB HL.out _ _) ?_)
  refine K.mono ?_
  clear K
  rintro e w3 ⟨v3, rfl, O3, H⟩
  have Z3 := Z.trans (H.mono Z.size)
  have B2 := B2.below H B2.lt
  obtain ⟨ax, cx, rfl, hby, hnil, hlc, _⟩ := O3.byt
  have hle := hed_len HB.out
  have K := sum_any ax cx (hedB b) (by omega) w3 hby hlc (hed_oct HB.out)
  obtain ⟨L, hL⟩ : ∃ L, Hid (hedB b = L) := ⟨_, rfl⟩
  rw [hL.out] at K ⊢
  clear O3 H hby Z
  go_wp2_with fail
  refine K.mono ?_
  clear K
  rintro e w4 ⟨rfl, H⟩
  have Z4 := Z3.trans (H.mono Z3.size)
  have B2 := B2.below H B2.lt
  clear H
  go_wp2_with (refine st_all rfl 23 (.tmp 2) (.tmp 5) rfl g2 23 (nums .u8 zr) (nums .u8 (D L)) rfl rfl B2 (by rw [nums_length, nums_length, D_len]; rfl) (sD _) (nums_one _ _) ?_)
  intro w5 B5 G0
  have HF : Hid (Below w.heap.size w w5) := Sh.grown_below Z4 G0 Z4.size hg2
  clear G0 B2 B1
  go_wp2
  (try simp only [Exit.inBlock, Exit.then])
  refine bodyPost_ret (Sh.res_row rfl _ g2 23 _ _ rfl B5 Tryz.underlying23 rfl (sD _)) rfl ⟨by rw [hL.out], HF.out⟩
set_option maxHeartbeats 1000000 in
set_option maxRecDepth 8000 in
theorem bjoin_any (x y : List Nat) (hx : H32 x) (hy : H32 y) (w : World) :
    Calls Tryz.prog 21 #[.agg (nums .u8 x).toArray, .agg (nums .u8 y).toArray] w fun e w' => e = .returned (.agg (nums .u8 (D (1 :: (x ++ y)))).toArray) ∧ Hid (Below w.heap.size w w') := by
  have HX : Hid (H32 x) := hx
  have HY : Hid (H32 y) := hy
  clear hx hy
  go_enter Tryz.func21, Tryz.ntmps21
  go_wp2_with (refine al_box rfl 23 (.tmp 0) rfl (nums .u8 x) rfl ?_)
  intro g2 w1 l1 B2 G0
  have Z := (Below.refl w.heap.size w).grown G0 (Nat.le_refl _) (by simp)
  clear G0
  go_wp2_with (refine al_box rfl 23 (.tmp 1) rfl (nums .u8 y) rfl ?_)
  intro g3 w2 l2 B3 G0
  have Z := Z.grown G0 Z.size (by simp)
  have B2 := B2.kept G0 (by simp)
  clear G0
  go_wp2_with (refine al_zero rfl 23 rfl (nums .u8 zr) zHt ?_)
  intro g4 w3 l4 B4 G0
  have hg4 : w.heap.size ≤ g4 := Nat.le_trans Z.size l4
  have Z := Z.grown G0 Z.size (by simp)
  have B2 := B2.kept G0 (by simp)
  have B3 := B3.kept G0 (by simp)
  clear G0
  have K := node_any x y HX.out.1 HY.out.1 HX.out.2 HY.out.2 w3
  go_wp2_with (first | (refine ld_w (by rfl) 23 (.tmp 2) rfl g2 0 rfl (nums .u8 x) _ B2.all Tryz.underlying23 rfl (sH HX.out.1) ?_) | (refine ld_w (by rfl) 23 (.tmp 3) rfl g3 0 rfl (nums .u8 y) _ B3.all Tryz.underlying23 rfl (sH HY.out.1) ?_))
  refine K.mono ?_
  clear K
  rintro e w4 ⟨rfl, H⟩
  have Z4 := Z.trans (H.mono Z.size)
  have B4 := B4.below H B4.lt
  clear H
  go_wp2_with (refine st_all rfl 23 (.tmp 4) (.tmp 7) rfl g4 23 (nums .u8 zr) (nums .u8 (D (1 :: (x ++ y)))) rfl rfl B4 (by rw [nums_length, nums_length, D_len]; rfl) (sD _) (nums_one _ _) ?_)
  intro w5 B5 G0
  have HF : Hid (Below w.heap.size w w5) := Sh.grown_below Z4 G0 Z4.size hg4
  clear G0 B2 B3 B4
  go_wp2
  (try simp only [Exit.inBlock, Exit.then])
  refine bodyPost_ret (Sh.res_row rfl _ g4 23 _ _ rfl B5 Tryz.underlying23 rfl (sD _)) rfl ⟨rfl, HF.out⟩
theorem hl_leaf (os : List (List Nat)) : Mer.Hl (os.map fun o => D (0 :: o)) := fun x hx => by
  obtain ⟨o, _, rfl⟩ := List.mem_map.1 hx
  exact ⟨D_len _, D_oct _⟩
set_option maxHeartbeats 1000000 in
set_option maxRecDepth 8000 in
theorem ehash_any (ps : List Pk) (hn : ps.length ≤ 200) (ae : Option Addr) (ce : Nat) (w : World) (hP : PkM w ae ps) (hT : Mer.Tb w) :
    Calls Tryz.prog 29 #[.slice ae ps.length ce] w fun e w' => e = .returned (.agg (nums .u8 (eH (ps.map (·.ol)))).toArray) ∧ Hid (Below w.heap.size w w') := by
  have HP : Hid (PkM w ae ps) := hP
  have HT : Hid (Mer.Tb w) := hT
  obtain ⟨Lf, hLf⟩ : ∃ Lf : List (List Nat), Hid ((ps.map (·.ol)).map (fun o => D (0 :: o)) = Lf) := ⟨_, rfl⟩
  have HHl : Hid (Mer.Hl Lf) := by rw [← hLf.out]; exact hl_leaf _
  have hlf : Lf.length = ps.length := by rw [← hLf.out]; simp
  have HEH : Hid (eH (ps.map (·.ol)) = D (2 :: (Mer.Mk.R Mer.nd Mer.em Lf ++ uv ps.length))) := by show _ = _; unfold eH; rw [hLf.out, List.length_map]
  have h1w := Mer.tb_lt hT
  clear hP hT
  go_enter Tryz.func29, Tryz.ntmps29
  go_wp2_with (refine al_zero rfl 23 rfl (nums .u8 zr) zHt ?_)
  intro g2 w1 l2 B2 G0
  have HZ1 : Hid (Below w.heap.size w w1) := (Below.refl w.heap.size w).grown G0 (Nat.le_refl _) (by simp)
  have HB2 : Hid (Blk w1 g2 23 (nums .u8 zr)) := B2
  have hw1 : Hid (w.heap.size ≤ w1.heap.size) := HZ1.out.size
  have hg2 : Hid (w.heap.size ≤ g2) := l2
  clear G0 B2 l2
  have K := Mer.new_any w1
  go_wp2_with fail
  refine K.mono ?_
  clear K
  rintro e w2 ⟨bt, rfl, hTr, Z2⟩
  have HI0 : Hid (Mer.Tr w2 bt w1.heap.size (Lf.take 0) ∧ Below w1.heap.size w1 w2) := ⟨hTr, Z2⟩
  clear hTr Z2
  go_wp2
  go_loopw [11] (fun i wr => ∃ k : Nat, k ≤ ps.length ∧ i = .int .i64 (k : Int) ∧ Hid (Mer.Tr wr bt w1.heap.size (Lf.take k) ∧ Below w1.heap.size w1 wr)) (fun i _ => ps.length - (intOf i).toNat)
  case atStart => exact ⟨0, by omega, rfl, HI0.out⟩
  case round =>
    clear HI0
    obtain ⟨k, hk, rfl, HK⟩ := hrel
    by_cases hlt : k < ps.length
    case pos =>
      obtain ⟨p, hp⟩ : ∃ p, ps[k]? = some p := ⟨_, List.getElem?_eq_getElem hlt⟩
      have hpx : Lf[k]? = some (D (0 :: p.ol)) := by rw [← hLf.out, List.getElem?_map, List.getElem?_map, hp]; rfl
      have HTK : Hid (Lf.take k ++ [D (0 :: p.ol)] = Lf.take (k + 1)) := by
        obtain ⟨h1, h2⟩ := List.getElem?_eq_some_iff.1 hpx
        show _ = _
        rw [List.take_succ_eq_append_getElem h1, h2]
      obtain ⟨bb, oo, hae, hall⟩ := HP.out.resolve_left (fun h => by rw [h] at hp; simp at hp)
      obtain ⟨hr0, hO0⟩ := hall k p hp
      have Zwr : Below w.heap.size w wr := HZ1.out.trans (HK.out.2.mono hw1.out)
      have HR : Hid (wr.rangeAt bb (oo + k * 3) (pC p)) := range_below hr0 Zwr
      have HOp : Hid (PkO wr p) := hO0.below Zwr
      clear hall hr0 hO0 hp hpx Zwr
      subst hae
      go_wp2_with (first | (refine ld_w (by rfl) 75 (.tmp 13) rfl bb (oo + k * 3) (by first | rfl | simp [Act.eval]) (pC p) _ HR.out Tryz.underlying75 rfl (sPk p) ?_) | (refine al_zero rfl 75 rfl (pC pN) zPk ?_))
      intro g5 w3 l5 B5 GA
      go_wp2_with (refine st_all rfl 75 (.tmp 5) (.tmp 14) rfl g5 75 (pC pN) (pC p) rfl rfl B5 rfl (sPk p) (pC_one p) ?_)
      intro w4 B5' GB
      have G4 : Hid (Below wr.heap.size wr w4) := below_new GA l5 GB
      have HB5 : Hid (Blk w4 g5 75 (pC p)) := B5'
      clear GA GB B5 B5' HR l5
      have K := phash_any p w4 (HOp.out.below G4.out)
      go_wp2_with (refine ld_w (by rfl) 75 (.tmp 5) rfl g5 0 rfl (pC p) _ HB5.out.all Tryz.underlying75 rfl (sPk p) ?_)
      refine K.mono ?_
      clear K
      rintro e w5 ⟨rfl, H⟩
      have G5 : Hid (Below wr.heap.size wr w5) := G4.out.trans (H.out.mono G4.out.size)
      have hkl : (Lf.take k).length = k := by rw [List.length_take]; omega
      have HZ5 : Hid (Below w1.heap.size w1 w5) := HK.out.2.trans (G5.out.mono HK.out.2.size)
      have Zw5 : Below w.heap.size w w5 := HZ1.out.trans (HZ5.out.mono hw1.out)
      have K := Mer.add_tree bt w1.heap.size (Lf.take k) (HHl.out.take k) (D (0 :: p.ol)) ⟨D_len _, D_oct _⟩ (by rw [hkl]; omega) w5 (HT.out.grow Zw5) HZ5.out.size (by have := hw1.out; omega) (HK.out.1.grow G5.out)
      rw [hkl, HTK.out] at K
      clear H HB5 G4 G5 hkl Zw5 HK HOp
      go_wp2_with fail
      refine K.mono ?_
      clear K
      rintro e w6 ⟨rfl, hTr, Z6⟩
      have HI : Hid (Mer.Tr w6 bt w1.heap.size (Lf.take (k + 1)) ∧ Below w1.heap.size w1 w6) := ⟨hTr, HZ5.out.trans Z6⟩
      clear hTr Z6 HZ5
      go_wp2
      go_roundw
      case rel => exact ⟨k + 1, by omega, by go_num, HI.out⟩
      case measure => simp [intOf]; omega
    obtain rfl : k = ps.length := by omega
    have HTr : Hid (Mer.Tr wr bt w1.heap.size Lf) := by have := HK.out.1; rw [List.take_of_length_le (by omega)] at this; exact this
    have HZr : Hid (Below w1.heap.size w1 wr) := HK.out.2
    clear HK
    have K := Mer.size_any bt w1.heap.size Lf wr HTr.out
    rw [hlf] at K
    go_wp2_with fail
    refine K.mono ?_
    clear K
    rintro e w3 ⟨rfl, hw3⟩
    have hw3' := hw3.symm
    subst hw3'
    clear hw3
    have K := Mer.root_in bt w1.heap.size Lf HHl.out (by omega) ps.length (by omega) wr HTr.out
    rw [List.take_of_length_le (by omega)] at K
    have HRt : Hid (H32 (Mer.Mk.R Mer.nd Mer.em Lf)) := by have h := Mer.R_hh HHl.out; exact ⟨h.1, h.2⟩
    obtain ⟨Rt, hRt⟩ : ∃ Rt, Hid (Mer.Mk.R Mer.nd Mer.em Lf = Rt) := ⟨_, rfl⟩
    rw [hRt.out] at K HRt HEH
    clear hRt
    go_wp2_with fail
    refine K.mono ?_
    clear K
    rintro e w4 ⟨rfl, Z4⟩
    have HZ4 : Hid (Below w1.heap.size w1 w4) := HZr.out.trans (Z4.mono HZr.out.size)
    clear Z4 HTr HZr
    have HLr : Hid (Rt.length = 32) := HRt.out.1
    go_wp2_with (refine al_zero rfl 23 rfl (nums .u8 zr) zHt ?_)
    intro g6 w5 l6 B6 GA
    go_wp2_with (refine st_all rfl 23 (.tmp 6) (.tmp 25) rfl g6 23 (nums .u8 zr) (nums .u8 Rt) rfl rfl B6 (by rw [nums_length, nums_length, HLr.out]; rfl) (sH HLr.out) (nums_one _ _) ?_)
    intro w6 B6' GB
    have G6 : Below w4.heap.size w4 w6 := below_new GA l6 GB
    have HZ6 : Hid (Below w1.heap.size w1 w6) := HZ4.out.trans (G6.mono HZ4.out.size)
    have HB6 : Hid (Blk w6 g6 23 (nums .u8 Rt)) := B6'
    have HB26 : Hid (Blk w6 g2 23 (nums .u8 zr)) := HB2.out.below HZ6.out HB2.out.lt
    have h10 := uv_ten ps.length (by omega)
    clear GA GB B6 B6' G6 HZ4 l6
    obtain ⟨C, hC⟩ : ∃ C : World → Prop, C = fun V => Below w6.heap.size w6 V := ⟨_, rfl⟩
    have C0 : Hid (C { w6 with drawn := w6.drawn + 1 }) := by rw [hC]; exact Below.drew (Below.refl _ _)
    have CO : Hid (∀ V, C V → Below w6.heap.size w6 V) := fun V h => by rw [hC] at h; exact h
    have CI : Hid (∀ V, Below w6.heap.size w6 V → C V) := fun V h => by rw [hC]; exact h
    have FR : Hid (∀ V, C V → V.rangeAt g6 0 (nums .u8 Rt)) := fun V h => (HB6.out.below (CO.out V h) HB6.out.lt).all
    clear hC
    go_wp2_with fail
    refine region_calm C 6 (by kernel_rfl) ?_
    have hCp : ∀ p : Prop, (∀ W, C W → p) ↔ p := fun p => ⟨fun h => h _ C0.out, fun h _ _ => h⟩
    generalize ({ w6 with drawn := w6.drawn + 1 } : World) = y0 at *
    refine seg 5 [0, 1] rfl (by kernel_rfl) whole_blind (C0.out) (by kernel_rfl) ?_
    change wpQuiet _ _ _ _ (_ :: _ :: []) _
    repeat (first
      | go_big_quiet_skip
      | (go_big_quiet_want
         first
         | (refine q_load 23 (.tmp 6) rfl g6 0 rfl (nums .u8 Rt) _ FR.out Tryz.underlying23 rfl (sH HLr.out) ?_
            simp only [Act.put, List.setIfInBounds_toArray, List.set_cons_zero, List.set_cons_succ]
            go_big_quiet_on)
         | (go_big_quiet_op
            go_big_quiet_on)))
    refine wpQuiet_nil ?_
    refine len_first (i := 2) 4 rfl (by kernel_rfl) whole_blind (C0.out) (by kernel_rfl) rfl (by rfl) (.tmp 28) 64 rfl 75 Tryz.underlying64 ae ps.length ce rfl ?_
    simp only [Act.put, List.setIfInBounds_toArray, List.set_cons_zero, List.set_cons_succ]
    refine seg 3 [3] rfl (by kernel_rfl) whole_blind (C0.out) (by kernel_rfl) ?_
    change wpQuiet _ _ _ _ (_ :: []) _
    repeat (first
      | go_big_quiet_skip
      | (go_big_quiet_want
         first
         | (go_big_quiet_op
            go_big_quiet_on)))
    refine wpQuiet_nil ?_
    refine lone_do (i := 4) 2 rfl (by kernel_rfl) rfl (by rfl) ?_
    intro K hK
    refine oper_call 57 _ _ rfl #[.int .u64 ((ps.length : Nat) : Int)] (by rw [List.map_toArray]; rfl) (enters Tryz.func57 (by kernel_rfl) rfl) (fun v w' => Hid (Own w' y0.heap.size v (uv ps.length) ∧ Below y0.heap.size y0 w')) ((uv_any ps.length (by omega) y0).mono (by rintro e w' ⟨v, rfl, h⟩; exact ⟨_, rfl, h⟩)) ?_
    rintro v1 y1 H1
    have Z1 : Hid (Below w6.heap.size w6 y1) := (CO.out _ C0.out).trans (H1.out.2.mono (CO.out _ C0.out).size)
    obtain ⟨ax, cx, rfl, hby, hnil, hlc, _⟩ := H1.out.1.byt
    have HY : Hid (Byt y1 ax (uv ps.length)) := hby
    have C1 : Hid (C y1) := CI.out _ Z1.out
    refine hK _ _ (C1.out) ?_
    clear hK K H1 hby
    simp only [Act.put, List.setIfInBounds_toArray, List.set_cons_zero, List.set_cons_succ]
    refine lone_do (i := 5) 1 rfl (by kernel_rfl) rfl (by rfl) ?_
    intro K hK
    refine oper_call 56 _ _ rfl #[.agg (nums .u8 Rt).toArray, .slice ax (uv ps.length).length cx] (by rw [List.map_toArray]; rfl) (enters Tryz.func56 (by kernel_rfl) rfl) (fun v w' => v = .agg (nums .u8 (D (2 :: (Rt ++ uv ps.length)))).toArray ∧ Below y1.heap.size y1 w') ((chain_any Rt (uv ps.length) HLr.out ax cx (by omega) HRt.out.2 (uv_oct _) y1 HY.out hlc).mono (by rintro e w' ⟨rfl, h⟩; exact ⟨_, rfl, rfl, h⟩)) ?_
    rintro v2 y2 ⟨rfl, H2⟩
    have Z2 : Hid (Below w6.heap.size w6 y2) := Z1.out.trans (H2.mono Z1.out.size)
    have C2 : Hid (C y2) := CI.out _ Z2.out
    refine hK _ _ (C2.out) ?_
    clear hK K H2 HY Z1
    simp only [Act.put, List.setIfInBounds_toArray, List.set_cons_zero, List.set_cons_succ]
    refine lone_last (i := 6) 0 rfl rfl (by kernel_rfl) rfl (by rfl) ?_
    intro K hK
    refine oper_sta 23 (.tmp 2) (.tmp 32) rfl rfl g2 23 (nums .u8 zr) (nums .u8 (D (2 :: (Rt ++ uv ps.length)))) rfl rfl (HB26.out.below Z2.out HB26.out.lt) (by rw [nums_length, nums_length, D_len]; rfl) (sD _) (nums_one _ _) ?_
    intro y3 B3 G3
    have HF : Hid (Below w.heap.size w y3) := by
      have h := HZ1.out.trans ((HZ6.out.trans (Z2.out.mono HZ6.out.size)).mono hw1.out)
      exact Sh.grown_below h G3 h.size hg2.out
    refine hK _ _ ?_
    clear hK K G3 C0 C1 C2 CO CI FR hCp Z2 HB6 HB26
    simp only [Act.put]
    refine anyC_done (by kernel_rfl) ⟨rfl, ?_⟩
    go_wp2
    (try simp only [Exit.inBlock, Exit.then])
    refine bodyPost_ret (Sh.res_row rfl _ g2 23 _ _ rfl B3 Tryz.underlying23 rfl (sD _)) rfl ⟨by rw [HEH.out], HF.out⟩
end Go.Proofs.YtlefdnjokppibaaGreatDoor.Sh
