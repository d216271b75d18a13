/-
  A nil catalog; tables; CatalogOfNothing's walk.
-/
import Derived.Test.YtbkogaencjmmgaaCm
namespace Go.Proofs.Ytbkogaencjmmgaa
open Go.RowKit Go.MapKept
set_option linter.unusedVariables false
set_option linter.unusedSimpArgs false
theorem named_nil (s : ByteArray) (w : World) : Calls Try.prog 27 #[.pointer none, .string s] w fun e w' => e = .returned (.int .i64 0) ∧ w' = w := by
  go_enter Try.func27, Try.ntmps27
  go_wp2
  go_ret
  exact ⟨rfl, rfl⟩
theorem there_nil (id : Int) (w : World) : Calls Try.prog 29 #[.pointer none, .int .i64 id] w fun e w' => e = .returned (.bool false) ∧ w' = w := by
  go_enter Try.func29, Try.ntmps29
  go_wp2
  go_ret
  exact ⟨rfl, rfl⟩
theorem all_nil (w : World) : Calls Try.prog 21 #[.pointer none] w fun e w' => e = .returned (.slice none 0 0) ∧ w' = w := by
  go_enter Try.func21, Try.ntmps21
  go_wp2
  go_ret
  exact ⟨rfl, rfl⟩
theorem has_nil (id : Int) (s : ByteArray) (w : World) : Calls Try.prog 17 #[.pointer none, .int .i64 id, .string s] w fun e w' => e = .returned (.bool false) ∧ w' = w := by
  go_enter Try.func17, Try.ntmps17
  go_wp2
  go_ret
  exact ⟨rfl, rfl⟩
theorem copy_nil (w : World) : Calls Try.prog 19 #[.pointer none] w fun e w' => e = .returned (.pointer none) ∧ w' = w := by
  go_enter Try.func19, Try.ntmps19
  go_wp2
  go_ret
  exact ⟨rfl, rfl⟩
/-- Nothing is told. -/
def zC : List Value := tlC 0 ⟨#[]⟩ false (.slice none 0 0)
theorem find_nil (s : ByteArray) (w : World) : Calls Try.prog 12 #[.pointer none, .string s] w fun e w' => e = .returned (.tuple #[.agg zC.toArray, .int .i64 13]) ∧ Hid (Below w.heap.size w w') := by
  go_enter Try.func12, Try.ntmps12
  go_wp2_with (refine al_zero rfl 46 rfl _ zTl ?_)
  intro g4 w1 l1 B4 G1
  have HB1 : Hid (Below w.heap.size w w1) := below_none (Below.refl _ _) (Nat.le_refl _) G1
  have H4 : Hid (Blk w1 g4 46 (tlC 0 ⟨#[]⟩ false (.slice none 0 0))) := B4
  have K := named_nil s w1
  clear B4 G1
  go_wp2_with (first | (go_at_call 27; refine K.mono ?_; clear K; rintro e w2 ⟨rfl, hw⟩; have hw' := hw.symm; subst hw'; clear hw) | (refine st_all rfl 46 (.tmp 4) (.tmp 12) rfl g4 46 _ (tlC 0 ⟨#[]⟩ false (.slice none 0 0)) rfl rfl H4.out rfl (sTl _ _ _ _) (tl_one rfl) ?_))
  intro w3 B3 G3
  have HB3 : Hid (Below w.heap.size w w3) := HB1.out.grown G3 HB1.out.size (fun r e => by injection e with e; subst e; exact l1)
  have H43 : Hid (Blk w3 g4 46 (tlC 0 ⟨#[]⟩ false (.slice none 0 0))) := B3
  clear B3 G3
  go_wp2
  refine bodyPost_ret (res_two rfl _ g4 46 _ _ rfl H43.out Try.underlying46 rfl (sTl _ _ _ _)) rfl ?_
  exact ⟨rfl, HB3.out⟩
theorem table_nil (id : Int) (w : World) : Calls Try.prog 14 #[.pointer none, .int .i64 id] w fun e w' => e = .returned (.tuple #[.agg zC.toArray, .int .i64 7]) ∧ Hid (Below w.heap.size w w') := by
  go_enter Try.func14, Try.ntmps14
  go_wp2_with (refine al_zero rfl 46 rfl _ zTl ?_)
  intro g4 w1 l1 B4 G1
  have HB1 : Hid (Below w.heap.size w w1) := below_none (Below.refl _ _) (Nat.le_refl _) G1
  have H4 : Hid (Blk w1 g4 46 (tlC 0 ⟨#[]⟩ false (.slice none 0 0))) := B4
  have K := there_nil id w1
  clear B4 G1
  go_wp2_with (first | (go_at_call 29; refine K.mono ?_; clear K; rintro e w2 ⟨rfl, hw⟩; have hw' := hw.symm; subst hw'; clear hw) | (refine st_all rfl 46 (.tmp 4) (.tmp 10) rfl g4 46 _ (tlC 0 ⟨#[]⟩ false (.slice none 0 0)) rfl rfl H4.out rfl (sTl _ _ _ _) (tl_one rfl) ?_))
  intro w3 B3 G3
  have HB3 : Hid (Below w.heap.size w w3) := HB1.out.grown G3 HB1.out.size (fun r e => by injection e with e; subst e; exact l1)
  have H43 : Hid (Blk w3 g4 46 (tlC 0 ⟨#[]⟩ false (.slice none 0 0))) := B3
  clear B3 G3
  go_wp2
  refine bodyPost_ret (res_two rfl _ g4 46 _ _ rfl H43.out Try.underlying46 rfl (sTl _ _ _ _)) rfl ?_
  exact ⟨rfl, HB3.out⟩
theorem ld_g {P : Program} {ops : Array Oper} {rest : List Oper} {o : Oper} {a : Act} {w : World} {Q : Exit → Act → World → Prop} (hw : Region.wanted o (yielded ops a.tmps) = true) (ty : TypeId) (x : Operand) (ho : o.op = .load ty x) (b k : Nat) (hx : a.eval x = .pointer (some ⟨b, k, none⟩)) (cs : List Value) (d : TypeDesc) (hS : w.rangeAt b k cs) (hu : P.underlying ty = some d) (hd : d.isRow = true) (hi : (P.info? ty).map (·.size) = some cs.length)
    (h : wpList P ops Q rest (a.put o.dst (.agg cs.toArray)) w) : wpList P ops Q (o :: rest) a w :=
  wpList_step fun _ hK => by rw [if_pos hw]; exact wp_load_mid ty x ho b k hx cs d hS hu hd hi (hK _ _ h)
/-! ### tables: a table, in both -/
theorem sRt (id : Int) (nm : ByteArray) (gn : Bool) (iv : Value) : (Try.prog.info? 50).map (·.size) = some (tlC id nm gn iv).length := by kernel_rfl
theorem q_ixr {C : World → Prop} {a : Act} {o : Oper} {K : Act → Prop} (T : TypeId) (hT : T = 44 ∨ T = 33) (x y : Operand) (ho : o.op = .indexAddr T x y) (b n c k : Nat) (hx : a.eval x = .slice (some ⟨b, 0, none⟩) n c) (hy : a.eval y = .int .i64 (k : Int)) (hk1 : k < n)
    (hk : K (a.put o.dst (.pointer (some ⟨b, k, none⟩)))) : o.quiet Try.prog a C K :=
  ⟨_, fun w hw => by
    unfold Oper.quietAt execOp
    have h1 : ¬ ((k : Int) < 0) := by omega
    have h2 : ¬ ((n : Int) ≤ (k : Int)) := by omega
    rcases hT with rfl | rfl <;> (simp only [ho, hx, hy]; go_simp), hk⟩
/-- A row of texts that may be read. -/
def Txs (w : World) (v : Value) (fs : List ByteArray) : Prop := ∃ a c, v = .slice a fs.length c ∧ (fs = [] ∨ ∃ b, a = some ⟨b, 0, none⟩ ∧ ∀ q s, fs[q]? = some s → w.cell? ⟨b, q, none⟩ = some (.string s))
theorem own_txs {w : World} {e n : Nat} {v : Value} {fs : List ByteArray} (h : w.ownsRow 0 e 1 v fs.length (sts fs)) : Txs w v fs := by
  obtain ⟨a, c, rfl, _, hv⟩ := row_val h
  refine ⟨a, c, rfl, ?_⟩
  rcases hv with ⟨h0, _⟩ | ⟨b, sp, rfl, hb, _⟩
  · exact .inl (List.eq_nil_of_length_eq_zero h0)
  · refine .inr ⟨b, rfl, fun q s hs => ?_⟩
    rw [hb.cell, List.getElem?_append_left (by have := (List.getElem?_eq_some_iff.1 hs).1; simp [sts]; omega)]
    simp [sts, hs]
theorem Txs.below {w w' : World} {v : Value} {fs : List ByteArray} (h : Txs w v fs) (b : Below w.heap.size w w') : Txs w' v fs := by
  obtain ⟨a, c, rfl, hv⟩ := h
  refine ⟨a, c, rfl, hv.imp id ?_⟩
  rintro ⟨bk, rfl, h⟩
  exact ⟨bk, rfl, fun q s hs => (b.cell (p := ⟨bk, q, none⟩) (cell_lt (h q s hs))).trans (h q s hs)⟩
theorem sTb4 : (Try.prog.info? 50).map (fun i => i.zero.map (·.cells)) = some (some (tlC 0 ⟨#[]⟩ false (.slice none 0 0)).toArray) := by kernel_rfl
set_option maxRecDepth 8000 in
set_option maxHeartbeats 1000000 in
theorem tables_true (id : Int) (nm : ByteArray) (gn : Bool) (fs : List ByteArray) (iv fv : Value) (hl : fs.length ≤ 1000) (w : World) (h1 : Txs w iv fs) (h2 : Txs w fv fs) :
    Calls Try.prog 16 #[.agg (tlC id nm gn iv).toArray, .agg (tlC id nm gn fv).toArray] w fun e w' => e = .returned (.bool true) ∧ Hid (Below w.heap.size w w') := by
  have HT1 : Hid (Txs w iv fs) := h1
  have HT2 : Hid (Txs w fv fs) := h2
  obtain ⟨ia, ic, rfl, h1⟩ := h1
  obtain ⟨fa, fc, rfl, h2⟩ := h2
  have HV1 : Hid (fs = [] ∨ ∃ b, ia = some ⟨b, 0, none⟩ ∧ ∀ W, Below w.heap.size w W → ∀ q s, fs[q]? = some s → W.cell? ⟨b, q, none⟩ = some (.string s)) := h1.imp (fun h => h) (fun ⟨b, e, h⟩ => ⟨b, e, fun W g q s hs => (g.cell (p := ⟨b, q, none⟩) (cell_lt (h q s hs))).trans (h q s hs)⟩)
  have HV2 : Hid (fs = [] ∨ ∃ b, fa = some ⟨b, 0, none⟩ ∧ ∀ W, Below w.heap.size w W → ∀ q s, fs[q]? = some s → W.cell? ⟨b, q, none⟩ = some (.string s)) := h2.imp (fun h => h) (fun ⟨b, e, h⟩ => ⟨b, e, fun W g q s hs => (g.cell (p := ⟨b, q, none⟩) (cell_lt (h q s hs))).trans (h q s hs)⟩)
  obtain ⟨m, hm⟩ : ∃ m, fs.length = m := ⟨_, rfl⟩
  have HFM : Hid (fs.length = m) := hm
  rw [hm]
  rw [hm] at hl
  clear h1 h2 HT1 HT2 hm
  go_enter Try.func16, Try.ntmps16
  go_wp2_with (refine al_box rfl 46 (.tmp 0) rfl (tlC id nm gn (.slice ia m ic)) rfl ?_)
  intro ga w1 l1 B1 G1
  have HB1 : Hid (Below w.heap.size w w1) := below_none (Below.refl _ _) (Nat.le_refl _) G1
  have HA1 : Hid (Blk w1 ga 46 (tlC id nm gn (.slice ia m ic))) := B1
  clear B1 G1
  go_wp2_with (refine al_box rfl 50 (.tmp 1) rfl (tlC id nm gn (.slice fa m fc)) rfl ?_)
  intro gb w2 l2 B2 G2
  have HB2 : Hid (Below w.heap.size w w2) := below_none HB1.out HB1.out.size G2
  have HA2 : Hid (Blk w2 ga 46 (tlC id nm gn (.slice ia m ic))) := HA1.out.kept G2 (by simp)
  have HC2 : Hid (Blk w2 gb 50 (tlC id nm gn (.slice fa m fc))) := B2
  have a0 : w2.cell? ⟨ga, 0, none⟩ = some (.int .i64 id) := HA2.out.cell 0
  have a1 : w2.cell? ⟨ga, 1, none⟩ = some (.string nm) := HA2.out.cell 1
  have a2 : w2.cell? ⟨ga, 2, none⟩ = some (.bool gn) := HA2.out.cell 2
  have a3 : w2.cell? ⟨ga, 3, none⟩ = some (.slice ia m ic) := HA2.out.cell 3
  have b0 : w2.cell? ⟨gb, 0, none⟩ = some (.int .i64 id) := HC2.out.cell 0
  have b1 : w2.cell? ⟨gb, 1, none⟩ = some (.string nm) := HC2.out.cell 1
  have b2 : w2.cell? ⟨gb, 2, none⟩ = some (.bool gn) := HC2.out.cell 2
  have b3 : w2.cell? ⟨gb, 3, none⟩ = some (.slice fa m fc) := HC2.out.cell 3
  clear B2 G2 HA1 HB1
  go_wp2
  go_loopw [5] (fun i wr => ∃ q : Nat, q ≤ m ∧ i = .int .i64 (q : Int) ∧ Hid (Below w.heap.size w wr ∧ Blk wr ga 46 (tlC id nm gn (.slice ia m ic)) ∧ Blk wr gb 50 (tlC id nm gn (.slice fa m fc)))) (fun i _ => m - (intOf i).toNat)
  case atStart => exact ⟨0, by omega, rfl, HB2.out, HA2.out, HC2.out⟩
  case round =>
    obtain ⟨q, hq, rfl, HL⟩ := hrel
    clear a0 a1 a2 a3 b0 b1 b2 b3 HA2 HC2 HB2
    have b3 : wr.cell? ⟨gb, 3, none⟩ = some (.slice fa m fc) := HL.out.2.2.cell 3
    by_cases hlt : q < m
    case neg =>
      have hlt' : ¬ (q : Int) < (m : Int) := by omega
      have HB : Hid (Below w.heap.size w wr) := HL.out.1
      clear HL
      go_wp2
      go_ret
      exact ⟨rfl, HB.out⟩
    have hlt' : (q : Int) < (m : Int) := by omega
    have hne : fs ≠ [] := fun e => by have := HFM.out; rw [e] at this; simp at this; omega
    obtain ⟨s, hs⟩ : ∃ s, fs[q]? = some s := ⟨_, List.getElem?_eq_getElem (by rw [HFM.out]; exact hlt)⟩
    obtain ⟨bi, rfl, hi⟩ := HV1.out.resolve_left hne
    obtain ⟨bf, rfl, hf⟩ := HV2.out.resolve_left hne
    have HI : Hid (∀ W, Below w.heap.size w W → W.cell? ⟨bi, q, none⟩ = some (.string s)) := fun W g => hi W g q s hs
    have HF : Hid (∀ W, Below w.heap.size w W → W.cell? ⟨bf, q, none⟩ = some (.string s)) := fun W g => hf W g q s hs
    clear hne hi hf hs HV1 HV2
    obtain ⟨C, hC⟩ : ∃ C : World → Prop, C = fun W => Below wr.heap.size wr W := ⟨_, rfl⟩
    have CO : Hid (∀ W, C W → Below wr.heap.size wr W) := fun W g => by rw [hC] at g; exact g
    have C0 : Hid (C { wr with drawn := wr.drawn + 1 }) := by rw [hC]; exact Below.drew (Below.refl _ _)
    have F1 : Hid (∀ W, C W → W.cell? ⟨ga, 3, none⟩ = some (.slice (some ⟨bi, 0, none⟩) m ic)) := fun W g => (HL.out.2.1.below (CO.out W g) HL.out.2.1.lt).cell 3
    have F2 : Hid (∀ W, C W → W.cell? ⟨gb, 3, none⟩ = some (.slice (some ⟨bf, 0, none⟩) m fc)) := fun W g => (HL.out.2.2.below (CO.out W g) HL.out.2.2.lt).cell 3
    have F3 : Hid (∀ W, C W → W.cell? ⟨bi, q, none⟩ = some (.string s)) := fun W g => HI.out W (HL.out.1.trans ((CO.out W g).mono HL.out.1.size))
    have F4 : Hid (∀ W, C W → W.cell? ⟨bf, q, none⟩ = some (.string s)) := fun W g => HF.out W (HL.out.1.trans ((CO.out W g).mono HL.out.1.size))
    clear hC HI HF
    go_wp2_with fail
    have hCp : ∀ p : Prop, (∀ W, C W → p) ↔ p := fun p => ⟨fun h => h _ C0.out, fun h _ _ => h⟩
    refine wp_region_quiet (C := C) (by kernel_rfl) (by kernel_rfl) C0.out ?_
    change wpQuiet _ _ _ _ (_ :: _ :: _ :: _ :: _ :: _ :: _ :: _ :: _ :: _ :: _ :: _ :: []) _
    repeat (first
      | go_big_quiet_skip
      | (go_big_quiet_want
         first
         | (refine q_ixr 44 (by simp) (.tmp 42) (.tmp 43) rfl bi m ic q rfl rfl hlt ?_
            simp only [Act.put, List.setIfInBounds_toArray, List.set_cons_zero, List.set_cons_succ]
            go_big_quiet_on)
         | (refine q_ixr 33 (by simp) (.tmp 48) (.tmp 49) rfl bf m fc q rfl rfl hlt ?_
            simp only [Act.put, List.setIfInBounds_toArray, List.set_cons_zero, List.set_cons_succ]
            go_big_quiet_on)
         | (refine q_cell 44 (by simp) (.tmp 41) rfl ga 3 rfl _ F1.out ?_
            simp only [Act.put, List.setIfInBounds_toArray, List.set_cons_zero, List.set_cons_succ]
            go_big_quiet_on)
         | (refine q_cell 9 (by simp) (.tmp 45) rfl bi q rfl _ F3.out ?_
            simp only [Act.put, List.setIfInBounds_toArray, List.set_cons_zero, List.set_cons_succ]
            go_big_quiet_on)
         | (refine q_cell 33 (by simp) (.tmp 47) rfl gb 3 rfl _ F2.out ?_
            simp only [Act.put, List.setIfInBounds_toArray, List.set_cons_zero, List.set_cons_succ]
            go_big_quiet_on)
         | (refine q_cell 9 (by simp) (.tmp 50) rfl bf q rfl _ F4.out ?_
            simp only [Act.put, List.setIfInBounds_toArray, List.set_cons_zero, List.set_cons_succ]
            go_big_quiet_on)
         | (go_big_quiet_op
            go_big_quiet_on)))
    refine wpQuiet_nil ?_
    intro w9 h9
    have HN : Hid (Below w.heap.size w w9 ∧ Blk w9 ga 46 (tlC id nm gn (.slice (some ⟨bi, 0, none⟩) m ic)) ∧ Blk w9 gb 50 (tlC id nm gn (.slice (some ⟨bf, 0, none⟩) m fc))) := ⟨HL.out.1.trans ((CO.out _ h9).mono HL.out.1.size), HL.out.2.1.below (CO.out _ h9) HL.out.2.1.lt, HL.out.2.2.below (CO.out _ h9) HL.out.2.2.lt⟩
    clear h9 hCp C0 F1 F2 F3 F4 CO HL b3
    go_wp2
    go_roundw
    case rel => exact ⟨q + 1, by omega, by go_num, HN.out⟩
    case measure => simp [intOf]; omega
theorem zRt (a : Act) : Try.prog.built 50 ((#[] : Array (Nat × Operand)).map fun p => (p.1, a.eval p.2)).toList = some (tlC 0 ⟨#[]⟩ false (.slice none 0 0)).toArray := by kernel_rfl
theorem txs_nil (w : World) : Txs w (.slice none 0 0) [] := ⟨none, 0, rfl, .inl rfl⟩
set_option maxRecDepth 8000 in
set_option maxHeartbeats 1000000 in
theorem nothing_walk (y : Ent) (hy : EntOk y) (s : ByteArray) (hs : s.size ≤ 140737488355328) (w : World) : Calls Try.prog 6 #[.agg y.ec.toArray, .string s] w fun e w' => e = .returned (.bool true) ∧ Hid (Below w.heap.size w w') := by
  have HY : Hid (EntOk y) := hy
  go_enter Try.func6, Try.ntmps6
  go_wp2_with (refine al_box rfl 42 (.tmp 0) rfl y.ec rfl ?_)
  intro ge w1 l1 B1 G1
  have HB1 : Hid (Below w.heap.size w w1) := below_none (Below.refl _ _) (Nat.le_refl _) G1
  have HE1 : Hid (Blk w1 ge 42 y.ec) := B1
  have q1 : w1.cell? ⟨ge, 1, none⟩ = some (.string y.s) := by rw [B1.cell]; exact HY.out.en.s
  obtain ⟨p, hp⟩ : ∃ p, y.s.size = p := ⟨_, rfl⟩
  obtain ⟨q, hq⟩ : ∃ q, s.size = q := ⟨_, rfl⟩
  have hps : p ≤ 140737488355328 := by rw [← hp]; exact hy.sz
  have hqs : q ≤ 140737488355328 := by omega
  have e1 : wrap64 ((p : Int) + (q : Int)) = ((p + q : Nat) : Int) := wrap_small (by omega) (by omega)
  clear B1 G1 hy
  by_cases hbig : p + q > 1000
  · have hbig' : ((p + q : Nat) : Int) > 1000 := by omega
    go_wp2
    go_ret
    exact ⟨rfl, HB1.out⟩
  have hbig' : ¬ ((p + q : Nat) : Int) > 1000 := by omega
  have K := find_nil s w1
  go_wp2_with fail
  refine K.mono ?_
  clear K
  rintro e w2 ⟨rfl, H⟩
  have HB2 : Hid (Below w.heap.size w w2) := HB1.out.trans (H.out.mono HB1.out.size)
  have HE2 : Hid (Blk w2 ge 42 y.ec) := HE1.out.below H.out HE1.out.lt
  clear H HB1 HE1 q1
  go_wp2_with (refine al_zero rfl 46 rfl _ zTl ?_)
  intro g6 w3 l3 B3 G3
  have HB3 : Hid (Below w.heap.size w w3) := below_none HB2.out HB2.out.size G3
  have HE3 : Hid (Blk w3 ge 42 y.ec) := HE2.out.kept G3 (by simp)
  have H63 : Hid (Blk w3 g6 46 zC) := B3
  have HL6 : Hid (w.heap.size ≤ g6) := Nat.le_trans HB2.out.size l3
  have h6e : g6 ≠ ge := by have := HE2.out.lt; omega
  clear B3 G3 HB2 HE2 l3
  go_wp2_with (refine st_all rfl 46 (.tmp 6) (.tmp 21) rfl g6 46 _ zC rfl rfl H63.out rfl (sTl _ _ _ _) (tl_one rfl) ?_)
  intro w4 B4 G4
  have HB4 : Hid (Below w.heap.size w w4) := HB3.out.grown G4 HB3.out.size (fun r e => by injection e with e; subst e; exact HL6.out)
  have HE4 : Hid (Blk w4 ge 42 y.ec) := HE3.out.kept G4 (fun e => h6e (Option.some.inj e).symm)
  have H64 : Hid (Blk w4 g6 46 zC) := B4
  have q2 : w4.cell? ⟨ge, 2, none⟩ = some (.int .i64 y.id) := by rw [HE4.out.cell]; exact HY.out.en.id
  have K := table_nil y.id w4
  clear B4 G4 HB3 HE3 H63
  go_wp2_with fail
  refine K.mono ?_
  clear K
  rintro e w5 ⟨rfl, H⟩
  have HB5 : Hid (Below w.heap.size w w5) := HB4.out.trans (H.out.mono HB4.out.size)
  have HE5 : Hid (Blk w5 ge 42 y.ec) := HE4.out.below H.out HE4.out.lt
  have H65 : Hid (Blk w5 g6 46 zC) := H64.out.below H.out H64.out.lt
  clear H HB4 HE4 H64 q2
  go_wp2_with (refine al_zero rfl 46 rfl _ zTl ?_)
  intro g8 w6 l6 B6 G6
  have HB6 : Hid (Below w.heap.size w w6) := below_none HB5.out HB5.out.size G6
  have HE6 : Hid (Blk w6 ge 42 y.ec) := HE5.out.kept G6 (by simp)
  have H66 : Hid (Blk w6 g6 46 zC) := H65.out.kept G6 (by simp)
  have H86 : Hid (Blk w6 g8 46 zC) := B6
  have HL8 : Hid (w.heap.size ≤ g8) := Nat.le_trans HB5.out.size l6
  have h8e : g8 ≠ ge := by have := HE5.out.lt; omega
  have h86 : g8 ≠ g6 := by have := H65.out.lt; omega
  clear B6 G6 HB5 HE5 H65 l6
  go_wp2_with (refine st_all rfl 46 (.tmp 8) (.tmp 28) rfl g8 46 _ zC rfl rfl H86.out rfl (sTl _ _ _ _) (tl_one rfl) ?_)
  intro w7 B7 G7
  have HB7 : Hid (Below w.heap.size w w7) := HB6.out.grown G7 HB6.out.size (fun r e => by injection e with e; subst e; exact HL8.out)
  have HE7 : Hid (Blk w7 ge 42 y.ec) := HE6.out.kept G7 (fun e => h8e (Option.some.inj e).symm)
  have H67 : Hid (Blk w7 g6 46 zC) := H66.out.kept G7 (fun e => h86 (Option.some.inj e).symm)
  have H87 : Hid (Blk w7 g8 46 zC) := B7
  have K := apply_nil y.ec y.k y.id y.s HY.out.en w7
  have sE : (Try.prog.info? 42).map (·.size) = some y.ec.length := by rw [HY.out.en.len]; kernel_rfl
  clear B7 G7 HB6 HE6 H66 H86
  go_wp2_with (refine ld_w rfl 42 (.tmp 2) rfl ge 0 rfl y.ec _ HE7.out.all Try.underlying42 rfl sE ?_)
  refine K.mono ?_
  clear K sE
  rintro e w8 ⟨rfl, H⟩
  have HB8 : Hid (Below w.heap.size w w8) := HB7.out.trans (H.out.mono HB7.out.size)
  have H68 : Hid (Blk w8 g6 46 zC) := H67.out.below H.out H67.out.lt
  have H88 : Hid (Blk w8 g8 46 zC) := H87.out.below H.out H87.out.lt
  have K := tables_true 0 ⟨#[]⟩ false [] (.slice none 0 0) (.slice none 0 0) (by simp) w8 (txs_nil _) (txs_nil _)
  clear H HB7 HE7 H67 H87
  go_wp2_with (refine ld_g (by rfl) 46 (.tmp 6) rfl g6 0 rfl zC _ H68.out.all Try.underlying46 rfl (sTl _ _ _ _) ?_)
  refine K.mono ?_
  clear K
  rintro e w9 ⟨rfl, H⟩
  have HB9 : Hid (Below w.heap.size w w9) := HB8.out.trans (H.out.mono HB8.out.size)
  have H89 : Hid (Blk w9 g8 46 zC) := H88.out.below H.out H88.out.lt
  have K := tables_true 0 ⟨#[]⟩ false [] (.slice none 0 0) (.slice none 0 0) (by simp) w9 (txs_nil _) (txs_nil _)
  clear H HB8 H68 H88
  go_wp2_with (refine ld_g (by rfl) 46 (.tmp 8) rfl g8 0 rfl zC _ H89.out.all Try.underlying46 rfl (sTl _ _ _ _) ?_)
  refine K.mono ?_
  clear K
  rintro e wa ⟨rfl, H⟩
  have HBa : Hid (Below w.heap.size w wa) := HB9.out.trans (H.out.mono HB9.out.size)
  have KA := all_nil wa
  have KH := has_nil 1 s wa
  have KC := copy_nil wa
  have KN := known_any wa
  clear H HB9 H89
  go_wp2_with (first | (go_at_call 21; refine KA.mono ?_; clear KA; rintro e w2 ⟨rfl, hw⟩; have hw' := hw.symm; subst hw'; clear hw) | (go_at_call 17; refine KH.mono ?_; clear KH; rintro e w2 ⟨rfl, hw⟩; have hw' := hw.symm; subst hw'; clear hw) | (go_at_call 19; refine KC.mono ?_; clear KC; rintro e w2 ⟨rfl, hw⟩; have hw' := hw.symm; subst hw'; clear hw))
  refine KN.mono ?_
  clear KN
  rintro e wb ⟨rfl, H⟩
  have HF : Hid (Below w.heap.size w wb) := HBa.out.trans (H.out.mono HBa.out.size)
  clear H HBa
  go_wp2
  go_ret
  exact ⟨rfl, HF.out⟩
#print axioms nothing_walk
end Go.Proofs.Ytbkogaencjmmgaa
