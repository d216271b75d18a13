/-
  tell: a table in new memory.
-/
import Derived.Test.YtbkogaencjmmgaaCi
namespace Go.Proofs.Ytbkogaencjmmgaa
open Go.RowKit Go.MapKept
set_option linter.unusedVariables false
set_option linter.unusedSimpArgs false
theorem res_two {P : Program} {w : World} {fn : Func} {p q : Tmp} {ty : TypeId} (h : fn.results = #[.cell p ty, .tmp q]) (tmps : Array Value) (g : Nat) (t : TypeId) (cs : List Value) (d : TypeDesc)
    (hp : tmps.getD p undef = .pointer (some ⟨g, 0, none⟩)) (hg : Blk w g t cs) (hu : P.underlying ty = some d) (hd : d.isRow = true) (hi : (P.info? ty).map (·.size) = some cs.length) :
    (results fn tmps).run P w = .ok (.tuple #[.agg cs.toArray, tmps.getD q undef]) w := by
  have hp' : tmps[p]?.getD undef = .pointer (some ⟨g, 0, none⟩) := by simpa using hp
  simp [results, h, hp', asAddr, run_loadVar_row w g t ty cs.toArray (0, 0) d hg hu (by cases d <;> simp_all [TypeDesc.isRow]) (by simpa using hi)]
/-- A table's cells as they are told. -/
def tlC (id : Int) (nm : ByteArray) (gn : Bool) (iv : Value) : List Value := [.int .i64 id, .string nm, .bool gn, iv]
theorem sTl (id : Int) (nm : ByteArray) (gn : Bool) (iv : Value) : (Try.prog.info? 46).map (·.size) = some (tlC id nm gn iv).length := by kernel_rfl
theorem zTl : (Try.prog.info? 46).map (fun i => i.zero.map (·.cells)) = some (some (tlC 0 ⟨#[]⟩ false (.slice none 0 0)).toArray) := by kernel_rfl
theorem iIx : (Try.prog.info? 58).map (fun i => (i.zero.map (·.cells.size), i.size, decide (i.bytes ≤ 1000))) = some (some 1, 1, true) := by kernel_rfl
theorem szIx (w : World) : (Go.sizeOf 58).run Try.prog w = .ok 1 w := by kernel_rfl
theorem zvIx (w : World) : (zeroValue 58).run Try.prog w = .ok (.agg [Value.string ⟨#[]⟩].toArray) w := by kernel_rfl
theorem s44 : (Try.prog.info? 44).map (·.size) = some 1 := by kernel_rfl
theorem tl_one {id : Int} {nm : ByteArray} {gn : Bool} {iv : Value} (h : iv.oneCell' = true) : ∀ u ∈ tlC id nm gn iv, u.oneCell' = true := by
  intro u hu
  simp only [tlC, List.mem_cons, List.not_mem_nil, or_false] at hu
  rcases hu with rfl | rfl | rfl | rfl
  · rfl
  · rfl
  · rfl
  · exact h
theorem below_none {w w1 w2 : World} {B : Nat} (h : Below B w w1) (hB : B ≤ w1.heap.size) (g : w1.grownBy w2 none) : Below B w w2 := h.grown g hB (by simp)
/-- What is told of a table. -/
structure Told (B : Nat) (w : World) (fs : List ByteArray) (iv : Value) : Prop where
  row : w.ownsRow 0 58 1 iv fs.length (sts fs)
  new : ∀ x, iv.ownBlock = some x → B ≤ x
set_option maxRecDepth 8000 in
set_option maxHeartbeats 2000000 in
theorem tell_in (g : Nat) (tv mv : Value) (dm : Nat) (L : List TV) (k : Nat) (nm : ByteArray) (fs : List ByteArray) (gn : Bool) (fv : Value) (hp : L[k]? = some (⟨nm, fs, gn⟩, fv)) (w : World) (h : CM w g tv dm mv L) :
    Calls Try.prog 28 #[.pointer (some ⟨g, 0, none⟩), .int .i64 ((k : Int) + 1)] w fun e w' => ∃ iv, e = .returned (.agg (tlC ((k : Int) + 1) nm gn iv).toArray) ∧ Hid (Told w.heap.size w' fs iv ∧ Below w.heap.size w w') := by
  have hA : (strip L)[k]? = some ⟨nm, fs, gn⟩ := by simp [strip, hp]
  have hkl : k < L.length := (List.getElem?_eq_some_iff.1 hp).1
  have HG : Hid (goneB (strip L) ((k : Int) + 1) = gn) := by show _ = _; unfold goneB; rw [tbl_nat, hA]
  have HT : Hid (thereB (strip L) ((k : Int) + 1) = true) := by show _ = _; unfold thereB; rw [strip_len]; simp; omega
  have HM : Hid (∀ W, Below w.heap.size w W → CM W g tv dm mv L) := fun W b => h.below b
  have hok := h.ok.ok ⟨nm, fs, gn⟩ (List.mem_of_getElem? hA)
  have hl64 : L.length ≤ 64 := by have := h.ok.len; rw [strip_len] at this; exact this
  have HOK : Hid (nm.size ≤ 40 ∧ (∀ s ∈ fs, s.size ≤ 40) ∧ fs.length ≤ 16) := ⟨hok.name, hok.fs, hok.len⟩
  have hfv : ∃ fa fc, fv = .slice fa fs.length fc ∧ (fs.length = 0 ∨ ∃ b, fa = some ⟨b, 0, none⟩) := by
    obtain ⟨fa, fc, e, _, e2⟩ := row_val (h.fld _ (List.mem_of_getElem? hp))
    refine ⟨fa, fc, e, ?_⟩
    rcases e2 with ⟨e2, _⟩ | ⟨b, sp, e2, _⟩
    · exact .inl e2
    · exact .inr ⟨b, e2⟩
  obtain ⟨fa, fc, rfl, hfa⟩ := hfv
  have HFR : Hid (∀ W, Below w.heap.size w W → ∀ b, fa = some ⟨b, 0, none⟩ → ∀ q s, fs[q]? = some s → W.cell? ⟨b, q, none⟩ = some (.string s)) := fun W hb b e q s hs => by
    have hr := (HM.out W hb).fld _ (List.mem_of_getElem? hp)
    subst e
    have := hr.cells (g := b) rfl q (.string s) (by simp [sts, hs])
    simpa [Addr.add_lit] using this
  obtain ⟨a, c, rfl, _, hrv⟩ := row_val h.row
  obtain ⟨b, rfl, HR⟩ : ∃ b, a = some ⟨b, 0, none⟩ ∧ Hid (∀ W, Below w.heap.size w W → W.rangeAt b (k * 2) [.string nm, .slice fa fs.length fc]) := by
    rcases hrv with ⟨h0, _⟩ | ⟨b, sp, rfl, hb, _⟩
    · omega
    · refine ⟨b, rfl, fun W q => ?_⟩
      have h1 := hb.below q hb.lt
      obtain ⟨e1, e2⟩ := at_split hp
      rw [e1] at h1
      have := tb_rng h1
      rwa [e2] at this
  obtain ⟨n, hn⟩ : ∃ n, L.length = n := ⟨_, rfl⟩
  have HC0 : Hid (∀ W, Below w.heap.size w W → W.cell? ⟨g, 0, none⟩ = some (.slice (some ⟨b, 0, none⟩) n c)) := fun W q => by rw [← hn]; exact (HM.out W q).blk.cell 0
  have HKG : Hid (∀ W, Below w.heap.size w W → Calls Try.prog 35 #[.pointer (some ⟨g, 0, none⟩), .int .i64 ((k : Int) + 1)] W fun e w' => e = .returned (.bool gn) ∧ w' = W) := fun W q => by
    have := gone_any g _ mv dm L ((k : Int) + 1) W (HM.out W q) HT.out
    rw [HG.out] at this
    exact this
  obtain ⟨m, hm⟩ : ∃ m, fs.length = m := ⟨_, rfl⟩
  have HFM : Hid (fs.length = m) := hm
  rw [hm] at HR hfa
  have hm16 : m ≤ 16 := by have := HOK.out.2.2; omega
  have hkn : k < n := by omega
  have hn64 : n ≤ 64 := by omega
  have w1e : wrap64 ((k : Int) + 1 - 1) = (k : Int) := wrap_small (n := k) (by omega) (by omega)
  have hx1 : ¬ ((k : Int) < 0) := by omega
  have hx2 : ¬ ((n : Int) ≤ (k : Int)) := by omega
  clear h hp hA hkl hok hrv hn hm HG HT HM hl64
  go_enter Try.func28, Try.ntmps28
  go_wp2_with (refine al_zero rfl 46 rfl _ zTl ?_)
  intro g4 w1 l1 B4 G1
  have HB1 : Hid (Below w.heap.size w w1) := below_none (Below.refl _ _) (Nat.le_refl _) G1
  have H41 : Hid (Blk w1 g4 46 (tlC 0 ⟨#[]⟩ false (.slice none 0 0))) := B4
  have c01 := HC0.out w1 HB1.out
  have HR1 : Hid (w1.rangeAt b (k * 2) [.string nm, .slice fa m fc]) := HR.out w1 HB1.out
  clear B4 G1 HC0 HR
  go_wp2_with (first | (refine ld_w rfl 87 (.tmp 15) rfl b (k * 2) (by first | rfl | simp) [.string nm, .slice fa m fc] _ HR1.out Try.underlying87 rfl (sTb _ _) ?_) | (refine al_zero rfl 87 rfl _ zTb ?_))
  intro g5 w2 l2 B5 G2
  have HB2 : Hid (Below w.heap.size w w2) := below_none HB1.out HB1.out.size G2
  have H42 : Hid (Blk w2 g4 46 (tlC 0 ⟨#[]⟩ false (.slice none 0 0))) := H41.out.kept G2 (by simp)
  have h45 : g4 ≠ g5 := by have := H41.out.lt; omega
  have HL5 : Hid (w.heap.size ≤ g5) := Nat.le_trans HB1.out.size l2
  have H52 : Hid (Blk w2 g5 87 [.string ⟨#[]⟩, .slice none 0 0]) := B5
  clear B5 G2 HB1 H41 HR1 c01
  go_wp2_with (refine st_all rfl 87 (.tmp 5) (.tmp 16) rfl g5 87 _ [.string nm, .slice fa m fc] rfl rfl H52.out rfl (sTb _ _) (one_str _ _ rfl) ?_)
  intro w3 B5 G3
  have HB3 : Hid (Below w.heap.size w w3) := HB2.out.grown G3 HB2.out.size (fun r e => by injection e with e; subst e; exact HL5.out)
  have H43 : Hid (Blk w3 g4 46 (tlC 0 ⟨#[]⟩ false (.slice none 0 0))) := H42.out.kept G3 (fun e => h45 (Option.some.inj e))
  have H53 : Hid (Blk w3 g5 87 [.string nm, .slice fa m fc]) := B5
  have c50 : w3.cell? ⟨g5, 0, none⟩ = some (.string nm) := B5.cell 0
  have K := sclone_any nm (by have := HOK.out.1; omega) w3
  clear B5 G3 HB2 H42 H52
  go_wp2_with fail
  refine K.mono ?_
  clear K
  rintro e w4 ⟨rfl, hb4⟩
  have HB4 : Hid (Below w.heap.size w w4) := HB3.out.trans (hb4.mono HB3.out.size)
  have H44 : Hid (Blk w4 g4 46 (tlC 0 ⟨#[]⟩ false (.slice none 0 0))) := H43.out.below hb4 H43.out.lt
  have H54 : Hid (Blk w4 g5 87 [.string nm, .slice fa m fc]) := H53.out.below hb4 H53.out.lt
  have KG := HKG.out w4 HB4.out
  clear hb4 HB3 H43 H53 c50 HKG
  go_wp2_with (first | (go_at_call 35; refine KG.mono ?_; clear KG; rintro e w5 ⟨rfl, hw⟩; have hw' := hw.symm; subst hw'; clear hw) | (refine al_zero rfl 46 rfl _ zTl ?_))
  intro g6 w6 l6 B6 G6
  have HB6 : Hid (Below w.heap.size w w6) := below_none HB4.out HB4.out.size G6
  have H46 : Hid (Blk w6 g4 46 (tlC 0 ⟨#[]⟩ false (.slice none 0 0))) := H44.out.kept G6 (by simp)
  have H56 : Hid (Blk w6 g5 87 [.string nm, .slice fa m fc]) := H54.out.kept G6 (by simp)
  have H66 : Hid (Blk w6 g6 46 (tlC 0 ⟨#[]⟩ false (.slice none 0 0))) := B6
  have h46 : g4 ≠ g6 := by have := H44.out.lt; omega
  have h56 : g5 ≠ g6 := by have := H54.out.lt; omega
  have HL6 : Hid (w.heap.size ≤ g6) := Nat.le_trans HB4.out.size l6
  clear B6 G6 HB4 H44 H54 l6
  go_wp2_with (refine st_all rfl 46 (.tmp 6) (.tmp 24) rfl g6 46 _ (tlC ((k : Int) + 1) nm gn (.slice none 0 0)) rfl rfl H66.out rfl (sTl _ _ _ _) (tl_one rfl) ?_)
  intro w7 B6 G7
  have HB7 : Hid (Below w.heap.size w w7) := HB6.out.grown G7 HB6.out.size (fun r e => by injection e with e; subst e; exact HL6.out)
  have H47 : Hid (Blk w7 g4 46 (tlC 0 ⟨#[]⟩ false (.slice none 0 0))) := H46.out.kept G7 (fun e => h46 (Option.some.inj e))
  have H57 : Hid (Blk w7 g5 87 [.string nm, .slice fa m fc]) := H56.out.kept G7 (fun e => h56 (Option.some.inj e))
  have H67 : Hid (Blk w7 g6 46 (tlC ((k : Int) + 1) nm gn (.slice none 0 0))) := B6
  have c51 : w7.cell? ⟨g5, 1, none⟩ = some (.slice fa m fc) := H57.out.cell 1
  have HL4 : Hid (w.heap.size ≤ g4) := l1
  clear B6 G7 HB6 H46 H56 H66
  go_wp2
  go_loopw [28] (fun i wr => ∃ q : Nat, q ≤ m ∧ i = .int .i64 (q : Int) ∧ Hid (Below w.heap.size w wr ∧ Blk wr g4 46 (tlC 0 ⟨#[]⟩ false (.slice none 0 0)) ∧ ∃ iv, Blk wr g6 46 (tlC ((k : Int) + 1) nm gn iv) ∧ wr.ownsRow 0 58 1 iv q (sts (fs.take q)) ∧ ∀ x, iv.ownBlock = some x → w.heap.size ≤ x)) (fun i _ => m - (intOf i).toNat)
  case atStart => exact ⟨0, by omega, rfl, HB7.out, H47.out, _, H67.out, World.ownsRow_nil _ _ _ _, by simp [Value.ownBlock]⟩
  case round =>
    obtain ⟨q, hq, rfl, HL⟩ := hrel
    obtain ⟨hB, h4, iv, h6, hrow, hnew⟩ := HL.out
    clear HL HB7 H47 H57 H67 c51
    obtain ⟨ia, ic, rfl, _, _⟩ := row_val hrow
    have HBR : Hid (Below w.heap.size w wr) := hB
    have H4R : Hid (Blk wr g4 46 (tlC 0 ⟨#[]⟩ false (.slice none 0 0))) := h4
    have H6R : Hid (Blk wr g6 46 (tlC ((k : Int) + 1) nm gn (.slice ia q ic))) := h6
    have HIR : Hid (wr.ownsRow 0 58 1 (.slice ia q ic) q (sts (fs.take q)) ∧ ∀ x, (Value.slice ia q ic).ownBlock = some x → w.heap.size ≤ x) := ⟨hrow, hnew⟩
    clear hB h4 h6 hrow hnew
    by_cases hlt : q < m
    case neg =>
      have hlt' : ¬ (q : Int) < (m : Int) := by omega
      go_wp2_with (first | (refine ld_w rfl 46 (.tmp 6) rfl g6 0 rfl (tlC ((k : Int) + 1) nm gn (.slice ia q ic)) _ H6R.out.all Try.underlying46 rfl (sTl _ _ _ _) ?_) | (refine st_all rfl 46 (.tmp 4) (.tmp 41) rfl g4 46 _ (tlC ((k : Int) + 1) nm gn (.slice ia q ic)) rfl rfl H4R.out rfl (sTl _ _ _ _) (tl_one rfl) ?_))
      intro w9 B9 G9
      have HF : Hid (Told w.heap.size w9 fs (.slice ia q ic) ∧ Below w.heap.size w w9) := by
        have hqm : q = m := by omega
        subst hqm
        refine ⟨⟨?_, HIR.out.2⟩, HBR.out.grown G9 HBR.out.size (fun r e => by injection e with e; subst e; exact HL4.out)⟩
        have h1 := HIR.out.1
        rw [List.take_of_length_le (by rw [HFM.out]; exact Nat.le_refl _)] at h1
        rw [HFM.out]
        exact h1.kept G9 (.inr (fun e => tag_ne h1 H4R.out (by decide) e))
      have H49 : Hid (Blk w9 g4 46 (tlC ((k : Int) + 1) nm gn (.slice ia q ic))) := B9
      clear B9 G9 HBR H4R H6R HIR
      go_wp2
      refine bodyPost_ret (res_row rfl _ g4 46 _ _ rfl H49.out Try.underlying46 rfl (sTl _ _ _ _)) rfl ?_
      exact ⟨.slice ia q ic, rfl, HF.out⟩
    have hlt' : (q : Int) < (m : Int) := by omega
    obtain ⟨s, hs⟩ : ∃ s, fs[q]? = some s := ⟨_, List.getElem?_eq_getElem (by rw [HFM.out]; exact hlt)⟩
    have hs40 := HOK.out.2.1 s (List.mem_of_getElem? hs)
    obtain ⟨bf, rfl⟩ := hfa.resolve_left (by omega)
    have cf : wr.cell? ⟨bf, q, none⟩ = some (.string s) := HFR.out wr HBR.out bf rfl q s hs
    have HTK : Hid (sts (fs.take (q + 1)) = sts (fs.take q) ++ [.string s]) := by show _ = _; rw [List.take_add_one, hs]; simp [sts]
    have hy1 : ¬ ((q : Int) < 0) := by omega
    have hy2 : ¬ ((m : Int) ≤ (q : Int)) := by omega
    clear hs
    obtain ⟨C, hC⟩ : ∃ C : World → Prop, C = fun W => Below wr.heap.size wr W := ⟨_, rfl⟩
    have F1 : Hid (∀ W, C W → W.cell? ⟨g6, 3, none⟩ = some (.slice ia q ic)) := fun W hW => by rw [hC] at hW; exact (H6R.out.below hW H6R.out.lt).cell 3
    have CG : Hid (∀ w w', C w → Grow w w' → C w') := fun W W' h1 h2 => by rw [hC] at h1 ⊢; exact h1.trans (h2.mono h1.size)
    have CE : Hid (∀ W, C W → Below wr.heap.size wr W) := fun W h => by rw [hC] at h; exact h
    have C0 : Hid (C { wr with drawn := wr.drawn + 1 }) := by rw [hC]; exact Below.drew (Below.refl _ _)
    clear hC
    go_wp2_with fail
    refine region_grow [6, 8] (by kernel_rfl) ?_
    have hCp : ∀ p : Prop, (∀ W, C W → p) ↔ p := fun p => ⟨fun h => h _ C0.out, fun h _ _ => h⟩
    generalize ({ wr with drawn := wr.drawn + 1 } : World) = y0 at *
    refine segR 6 [0, 1, 2] rfl (by kernel_rfl) whole_blind CG.out C0.out (by decide +kernel) ?_
    change wpQuiet _ _ _ _ (_ :: _ :: _ :: []) _
    repeat (first
      | go_big_quiet_skip
      | (go_big_quiet_want
         first
         | (refine q_cell 44 (by simp) (.tmp 32) rfl g6 3 rfl _ F1.out ?_
            simp only [Act.put, List.setIfInBounds_toArray, List.set_cons_zero, List.set_cons_succ]
            go_big_quiet_on)
         | (go_big_quiet_op
            go_big_quiet_on)))
    refine wpQuiet_nil ?_
    refine one_ofR 5 rfl [3] (by decide +kernel) (by simp) fun j hj => ?_
    obtain rfl := List.mem_singleton.1 hj
    refine ⟨_, rfl, (by rfl), fun y1 hy1 K hK => ?_⟩
    have C1 : Hid (C y1) := CG.out _ _ C0.out hy1
    clear hy1
    refine oper_calls 33 _ _ rfl #[.string s] (by rw [List.map_toArray]; rfl) (enters Try.func33 (by kernel_rfl) rfl) (fun v w' => v = .string s ∧ Grow y1 w') ((sclone_any s (by omega) y1).mono (by rintro e w' ⟨rfl, h⟩; exact ⟨_, rfl, rfl, h⟩)) ?_
    rintro v y2 ⟨rfl, g2⟩
    refine hK _ _ (.inr g2) ?_
    clear hK K
    simp only [Act.put, List.setIfInBounds_toArray, List.set_cons_zero, List.set_cons_succ]
    have C2 : Hid (C y2) := CG.out _ _ C1.out g2
    clear g2 C1 C0
    have hCq := anyw_p y2
    refine segF 4 [4] rfl (by kernel_rfl) whole_blind (by decide +kernel) ?_
    change wpQuiet _ _ _ _ (_ :: []) _
    repeat (first
      | go_big_quiet_skip
      | (go_big_quiet_want
         first
         | (go_big_quiet_op
            go_big_quiet_on)))
    refine wpQuiet_nil ?_
    clear hCq
    refine one_ofR 3 rfl [5] (by decide +kernel) (by simp) fun j hj => ?_
    obtain rfl := List.mem_singleton.1 hj
    refine ⟨_, rfl, (by rfl), fun y3 hy3 K hK => ?_⟩
    have C3 : Hid (C y3) := CG.out _ _ C2.out hy3
    clear hy3 C2
    refine bs_one 44 58 (.tmp 36) rfl Try.underlying44 1 (by decide) (by decide) _ szIx zvIx [.string s] rfl rfl ?_
    obtain ⟨y4, hy4⟩ : ∃ y4, y4 = y3.alloc (.cells [Value.string s].toArray 58) := ⟨_, rfl⟩
    have G4 : Grow y3 y4 := by rw [hy4]; exact (Grow.refl y3).alloc _
    have HB4 : Hid (Blk y4 y3.heap.size 58 [.string s]) := by show Blk _ _ _ _; rw [hy4]; exact blk_new _ _ _
    rw [← hy4]
    clear hy4
    refine hK _ _ (.inr G4) ?_
    clear hK K
    simp only [Act.put, List.setIfInBounds_toArray, List.set_cons_zero, List.set_cons_succ]
    have C4 : Hid (C y4) := CG.out _ _ C3.out G4
    clear G4 C3
    generalize y3.heap.size = nb at *
    refine one_ofR 2 rfl [6] (by decide +kernel) (by simp) fun j hj => ?_
    obtain rfl := List.mem_singleton.1 hj
    refine ⟨_, rfl, (by rfl), fun y5 hy5 K hK => ?_⟩
    have C5 : Hid (C y5) := CG.out _ _ C4.out hy5
    have HB5 : Hid (Blk y5 nb 58 [.string s]) := HB4.out.grow hy5
    clear hy5 C4 HB4
    have r5 : y5.ownsRow 0 58 1 (.slice ia q ic) q (sts (fs.take q)) := own_upd HIR.out.1 (Upd.of_below Non (CE.out _ C5.out)) (fun _ _ q => q)
    refine oper_app (.tmp 33) (.tmp 37) 44 58 1 rfl (by decide) Try.underlying44 iIx (.slice ia q ic) q (sts (fs.take q)) rfl r5 (some ⟨nb, 0, none⟩) 1 1 rfl (by simp) [.string s] rfl (fun ad e j u hj => by
      injection e with e
      subst e
      have := HB5.out.cell j
      rw [hj] at this
      rw [Addr.add_lit, Nat.zero_add]
      exact this) (by simp; rfl) (by omega) ?_
    intro v' y6 hr6 hg6 ho6
    refine hK _ _ (.inl (by simp)) ?_
    clear hK K
    simp only [Act.put, List.setIfInBounds_toArray, List.set_cons_zero, List.set_cons_succ]
    obtain ⟨a', c', rfl, _, _⟩ := row_val hr6
    have HR6 : Hid (y6.ownsRow 0 58 1 (.slice a' (q + 1) c') (q + 1) (sts (fs.take q) ++ [.string s])) := hr6
    have HB6 : Hid (Below w.heap.size w y6) := (HBR.out.trans ((CE.out _ C5.out).mono HBR.out.size)).grown hg6 (Nat.le_trans HBR.out.size (CE.out _ C5.out).size) (fun r e => HIR.out.2 r e)
    have HN6 : Hid (∀ x, (Value.slice a' (q + 1) c').ownBlock = some x → w.heap.size ≤ x) := fun x hx => by
      rcases ho6 with e | e
      · rw [e] at hx; exact HIR.out.2 x hx
      · rw [hx] at e; injection e with e; subst e; exact Nat.le_trans HBR.out.size (CE.out _ C5.out).size
    have H66 : Hid (Blk y6 g6 46 (tlC ((k : Int) + 1) nm gn (.slice ia q ic))) := (H6R.out.below (CE.out _ C5.out) H6R.out.lt).kept hg6 (fun e => tag_ne HIR.out.1 H6R.out (by decide) e.symm)
    have H46 : Hid (Blk y6 g4 46 (tlC 0 ⟨#[]⟩ false (.slice none 0 0))) := (H4R.out.below (CE.out _ C5.out) H4R.out.lt).kept hg6 (fun e => tag_ne HIR.out.1 H4R.out (by decide) e.symm)
    clear r5 hr6 hg6 ho6 HB5 C5 CE CG F1 H6R H4R HIR HBR
    have hCq := anyw_p y6
    refine segF 1 [7] rfl (by kernel_rfl) whole_blind (by decide +kernel) ?_
    change wpQuiet _ _ _ _ (_ :: []) _
    repeat (first
      | go_big_quiet_skip
      | (go_big_quiet_want
         first
         | (go_big_quiet_op
            go_big_quiet_on)))
    refine wpQuiet_nil ?_
    clear hCq
    refine one_ofR 0 rfl [8] (by decide +kernel) (by simp) fun j hj => ?_
    obtain rfl := List.mem_singleton.1 hj
    refine ⟨_, rfl, (by rfl), fun y7 hy7 K hK => ?_⟩
    have H67 : Hid (Blk y7 g6 46 (tlC ((k : Int) + 1) nm gn (.slice ia q ic))) := H66.out.grow hy7
    have H47 : Hid (Blk y7 g4 46 (tlC 0 ⟨#[]⟩ false (.slice none 0 0))) := H46.out.grow hy7
    have HR7 : Hid (y7.ownsRow 0 58 1 (.slice a' (q + 1) c') (q + 1) (sts (fs.take q) ++ [.string s])) := own_upd HR6.out (Upd.of_below Non hy7) (fun _ _ q => q)
    have HB7 : Hid (Below w.heap.size w y7) := HB6.out.trans (hy7.mono HB6.out.size)
    clear hy7 HR6 H66 H46 HB6
    refine oper_one 44 (.tmp 39) (.tmp 38) rfl g6 3 46 _ (.slice a' (q + 1) c') rfl rfl rfl rfl (by show 3 < 4; decide) H67.out s44 ?_
    intro y8 B8 G8
    refine hK _ _ (.inl (by simp)) ?_
    clear hK K
    simp only [Act.put, List.setIfInBounds_toArray, List.set_cons_zero, List.set_cons_succ]
    have HF : Hid (Below w.heap.size w y8 ∧ Blk y8 g4 46 (tlC 0 ⟨#[]⟩ false (.slice none 0 0)) ∧ ∃ iv, Blk y8 g6 46 (tlC ((k : Int) + 1) nm gn iv) ∧ y8.ownsRow 0 58 1 iv (q + 1) (sts (fs.take (q + 1))) ∧ ∀ x, iv.ownBlock = some x → w.heap.size ≤ x) := by
      refine ⟨HB7.out.grown G8 HB7.out.size (fun r e => by injection e with e; subst e; exact HL6.out), H47.out.kept G8 (fun e => h46 (Option.some.inj e)), .slice a' (q + 1) c', B8, ?_, HN6.out⟩
      rw [HTK.out]
      exact HR7.out.kept G8 (.inr (fun e => tag_ne HR7.out H67.out (by decide) e))
    clear B8 G8 HR7 H67 H47 HB7 HN6
    refine doneR (by kernel_rfl) fun y9 hy => ?_
    have HF9 : Hid (Below w.heap.size w y9 ∧ Blk y9 g4 46 (tlC 0 ⟨#[]⟩ false (.slice none 0 0)) ∧ ∃ iv, Blk y9 g6 46 (tlC ((k : Int) + 1) nm gn iv) ∧ y9.ownsRow 0 58 1 iv (q + 1) (sts (fs.take (q + 1))) ∧ ∀ x, iv.ownBlock = some x → w.heap.size ≤ x) := by
      obtain ⟨f1, f2, iv, f3, f4, f5⟩ := HF.out
      exact ⟨f1.trans (hy.mono f1.size), f2.grow hy, iv, f3.grow hy, own_upd f4 (Upd.of_below Non hy) (fun _ _ q => q), f5⟩
    clear hy HF
    go_wp2
    go_roundw
    case rel => exact ⟨q + 1, by omega, by go_num, HF9.out⟩
    case measure => simp [intOf]; omega
#print axioms tell_in
end Go.Proofs.Ytbkogaencjmmgaa
