/-
  Find, Table, All.
-/
import Derived.Test.YtbkogaencjmmgaaCj
namespace Go.Proofs.Ytbkogaencjmmgaa
open Go.RowKit Go.MapKept
set_option linter.unusedVariables false
set_option linter.unusedSimpArgs false
def zT : Tb := ⟨⟨#[]⟩, [], false⟩
/-- What Table and Find answer: the number, the table, the error. -/
def tabR (A : List Tb) (id : Int) : Int × Tb × Int := match tbl A id with
  | some t => (id, t, 0)
  | none => (0, zT, 7)
def finR (A : List Tb) (s : ByteArray) : Int × Tb × Int := match A[nam A s - 1]? with
  | some t => if nam A s = 0 then (0, zT, 13) else ((nam A s : Int), t, 0)
  | none => (0, zT, 13)
def rV (r : Int × Tb × Int) (iv : Value) : Value := .tuple #[.agg (tlC r.1 r.2.1.name r.2.1.gone iv).toArray, .int .i64 r.2.2]
theorem told_none (B : Nat) (w : World) : Told B w [] (.slice none 0 0) := ⟨World.ownsRow_nil _ _ _ _, by simp [Value.ownBlock]⟩
theorem Told.kept {B : Nat} {w w' : World} {fs : List ByteArray} {iv : Value} {row : Option Nat} (h : Told B w fs iv) (g : w.grownBy w' row) (hn : ∀ x, iv.ownBlock = some x → row ≠ some x) : Told B w' fs iv :=
  ⟨h.row.kept g (by
    cases e : iv.ownBlock with
    | none => exact .inl rfl
    | some x => exact .inr (fun e' => hn x e e'.symm)), h.new⟩
theorem Told.below {B : Nat} {w w' : World} {fs : List ByteArray} {iv : Value} (h : Told B w fs iv) (b : Below w.heap.size w w') : Told B w' fs iv := ⟨own_upd h.row (Upd.of_below Non b) (fun _ _ q => q), h.new⟩
theorem Told.upd {B : Nat} {S : Nat → Prop} {w w' : World} {fs : List ByteArray} {iv : Value} (h : Told B w fs iv) (u : Upd S w w') (hn : ∀ x, S x → x < B) : Told B w' fs iv := ⟨own_upd h.row u (fun x hx q => by have := h.new x hx; have := hn x q; omega), h.new⟩
theorem nam_lt (s : ByteArray) : ∀ (A : List Tb) (i : Nat), namF s i A = 0 ∨ ∃ j t, namF s i A = i + j + 1 ∧ A[j]? = some t ∧ t.name = s ∧ t.gone = false
  | [], i => .inl rfl
  | t :: r, i => by
    unfold namF
    by_cases h : (bq t.name s && !t.gone) = true
    · rw [if_pos h]
      simp only [Bool.and_eq_true, Bool.not_eq_true', bq_iff] at h
      exact .inr ⟨0, t, rfl, rfl, h.1, h.2⟩
    · rw [if_neg h]
      rcases nam_lt s r (i + 1) with h1 | ⟨j, u, h1, h2, h3, h4⟩
      · exact .inl h1
      · exact .inr ⟨j + 1, u, by omega, by simpa using h2, h3, h4⟩
theorem nam_some {A : List Tb} {s : ByteArray} (h : nam A s ≠ 0) : ∃ k t, nam A s = k + 1 ∧ A[k]? = some t ∧ t.name = s ∧ t.gone = false := by
  rcases nam_lt s A 0 with h1 | ⟨j, t, h1, h2, h3, h4⟩
  · exact absurd h1 h
  · exact ⟨j, t, by unfold nam; omega, h2, h3, h4⟩
theorem zbT (a : Act) : Try.prog.built 46 ((#[] : Array (Nat × Operand)).map fun p => (p.1, a.eval p.2)).toList = some (tlC 0 ⟨#[]⟩ false (.slice none 0 0)).toArray := by kernel_rfl
theorem tab_at {L : List TV} {k : Nat} {t : Tb} (h : (strip L)[k]? = some t) : ∃ fv, L[k]? = some (t, fv) := by
  simp only [strip, List.getElem?_map, Option.map_eq_some_iff] at h
  obtain ⟨p, h1, rfl⟩ := h
  exact ⟨p.2, h1⟩
set_option maxRecDepth 8000 in
set_option maxHeartbeats 1000000 in
theorem table_any (S : Nat → Prop) (g : Nat) (A : List Tb) (id : Int) (w : World) (h : Cat w S g A) :
    Calls Try.prog 14 #[.pointer (some ⟨g, 0, none⟩), .int .i64 id] w fun e w' => ∃ iv, e = .returned (rV (tabR A id) iv) ∧ Hid (Told w.heap.size w' (tabR A id).2.1.fs iv ∧ Below w.heap.size w w') := by
  obtain ⟨tv, dm, mv, L, hM, rfl, hI⟩ := h
  have HM : Hid (CM w g tv dm mv L) := hM
  clear hM hI
  go_enter Try.func14, Try.ntmps14
  go_wp2_with (refine al_zero rfl 46 rfl _ zTl ?_)
  intro g4 w1 l1 B4 G1
  have hb1 : Below w.heap.size w w1 := below_none (Below.refl _ _) (Nat.le_refl _) G1
  have HB1 : Hid (Below w.heap.size w w1) := hb1
  have H4 : Hid (Blk w1 g4 46 (tlC 0 ⟨#[]⟩ false (.slice none 0 0))) := B4
  have HM1 : Hid (CM w1 g tv dm mv L) := HM.out.below hb1
  have K := there_any g tv mv dm L id w1 HM1.out
  clear hb1 B4 G1
  cases ht : thereB (strip L) id with
  | false =>
    have HQ : Hid (tabR (strip L) id = (0, zT, 7)) := by
      show _ = _
      unfold tabR tbl
      unfold thereB at ht
      simp only [Bool.and_eq_false_iff, decide_eq_false_iff_not] at ht
      by_cases h1 : 1 ≤ id
      · rw [if_pos h1, List.getElem?_eq_none (by omega)]
      · rw [if_neg h1]
    rw [ht] at K
    go_wp2_with (first | (go_at_call 29; refine K.mono ?_; clear K; rintro e w2 ⟨rfl, hw⟩; have hw' := hw.symm; subst hw'; clear hw) | (refine st_all rfl 46 (.tmp 4) (.tmp 10) rfl g4 46 _ (tlC 0 ⟨#[]⟩ false (.slice none 0 0)) rfl rfl H4.out rfl (sTl _ _ _ _) (tl_one rfl) ?_))
    intro w3 B3 G3
    have HB3 : Hid (Below w.heap.size w w3) := HB1.out.grown G3 HB1.out.size (fun r e => by injection e with e; subst e; exact l1)
    have H43 : Hid (Blk w3 g4 46 (tlC 0 ⟨#[]⟩ false (.slice none 0 0))) := B3
    clear B3 G3
    go_wp2
    refine bodyPost_ret (res_two rfl _ g4 46 _ _ rfl H43.out Try.underlying46 rfl (sTl _ _ _ _)) rfl ?_
    refine ⟨.slice none 0 0, by rw [HQ.out]; rfl, ?_, HB3.out⟩
    rw [HQ.out]
    exact told_none _ _
  | true =>
    have ht' := ht
    simp only [thereB, Bool.and_eq_true, decide_eq_true_eq, strip_len] at ht'
    obtain ⟨k, hk⟩ : ∃ k : Nat, id = (k : Int) + 1 := ⟨(id - 1).toNat, by omega⟩
    subst hk
    obtain ⟨⟨⟨nm, fs, gn⟩, fv⟩, hp⟩ : ∃ p, L[k]? = some p := ⟨_, List.getElem?_eq_getElem (by omega)⟩
    have HQ : Hid (tabR (strip L) ((k : Int) + 1) = ((k : Int) + 1, ⟨nm, fs, gn⟩, 0)) := by
      show _ = _
      unfold tabR
      rw [tbl_nat]
      simp [strip, hp]
    have K2 := tell_in g tv mv dm L k nm fs gn fv hp w1 HM1.out
    rw [ht] at K
    clear ht ht' hp HM HM1
    go_wp2_with (go_at_call 29; refine K.mono ?_; clear K; rintro e w2 ⟨rfl, hw⟩; have hw' := hw.symm; subst hw'; clear hw)
    refine K2.mono ?_
    clear K2
    rintro e w3 ⟨iv, rfl, H⟩
    have H43 : Hid (Blk w3 g4 46 (tlC 0 ⟨#[]⟩ false (.slice none 0 0))) := H4.out.below H.out.2 H4.out.lt
    have HB3 : Hid (Below w.heap.size w w3) := HB1.out.trans (H.out.2.mono HB1.out.size)
    have HT3 : Hid (Told w1.heap.size w3 fs iv) := H.out.1
    have hg41 : g4 < w1.heap.size := H4.out.lt
    have hw01 : w.heap.size ≤ w1.heap.size := HB1.out.size
    obtain ⟨ia, ic, rfl, _, _⟩ := row_val HT3.out.row
    clear H H4
    go_wp2_with (refine st_all rfl 46 (.tmp 4) (.tmp 13) rfl g4 46 _ (tlC ((k : Int) + 1) nm gn (.slice ia fs.length ic)) rfl rfl H43.out rfl (sTl _ _ _ _) (tl_one rfl) ?_)
    intro w4 B4 G4
    have HF : Hid (Told w.heap.size w4 fs (.slice ia fs.length ic) ∧ Below w.heap.size w w4) := by
      have h1 := HT3.out.kept G4 (fun x hx e => by injection e with e; have := HT3.out.new x hx; omega)
      exact ⟨⟨h1.row, fun x hx => by have := h1.new x hx; omega⟩, HB3.out.grown G4 HB3.out.size (fun r e => by injection e with e; subst e; exact l1)⟩
    have H44 : Hid (Blk w4 g4 46 (tlC ((k : Int) + 1) nm gn (.slice ia fs.length ic))) := B4
    clear B4 G4 HT3 HB3 H43
    go_wp2
    refine bodyPost_ret (res_two rfl _ g4 46 _ _ rfl H44.out Try.underlying46 rfl (sTl _ _ _ _)) rfl ?_
    refine ⟨.slice ia fs.length ic, by rw [HQ.out]; rfl, ?_⟩
    rw [HQ.out]
    exact HF.out
set_option maxRecDepth 8000 in
set_option maxHeartbeats 1000000 in
theorem find_any (S : Nat → Prop) (g : Nat) (A : List Tb) (s : ByteArray) (w : World) (h : Cat w S g A) :
    Calls Try.prog 12 #[.pointer (some ⟨g, 0, none⟩), .string s] w fun e w' => ∃ iv, e = .returned (rV (finR A s) iv) ∧ Hid (Told w.heap.size w' (finR A s).2.1.fs iv ∧ Below w.heap.size w w') := by
  obtain ⟨tv, dm, mv, L, hM, rfl, hI⟩ := h
  have HM : Hid (CM w g tv dm mv L) := hM
  clear hM hI
  go_enter Try.func12, Try.ntmps12
  go_wp2_with (refine al_zero rfl 46 rfl _ zTl ?_)
  intro g4 w1 l1 B4 G1
  have hb1 : Below w.heap.size w w1 := below_none (Below.refl _ _) (Nat.le_refl _) G1
  have HB1 : Hid (Below w.heap.size w w1) := hb1
  have H4 : Hid (Blk w1 g4 46 (tlC 0 ⟨#[]⟩ false (.slice none 0 0))) := B4
  have HM1 : Hid (CM w1 g tv dm mv L) := HM.out.below hb1
  have K := named_any g tv mv dm L s w1 HM1.out
  clear hb1 B4 G1
  by_cases hn0 : nam (strip L) s = 0
  · have HQ : Hid (finR (strip L) s = (0, zT, 13)) := by
      show _ = _
      unfold finR
      split
      · rw [if_pos hn0]
      · rfl
    rw [hn0] at K
    clear hn0
    go_wp2_with fail
    refine K.mono ?_
    clear K
    rintro e w2 ⟨rfl, H⟩
    have H42 : Hid (Blk w2 g4 46 (tlC 0 ⟨#[]⟩ false (.slice none 0 0))) := H4.out.below H.out H4.out.lt
    have HB2 : Hid (Below w.heap.size w w2) := HB1.out.trans (H.out.mono HB1.out.size)
    clear H H4 HB1
    go_wp2_with (refine st_all rfl 46 (.tmp 4) (.tmp 12) rfl g4 46 _ (tlC 0 ⟨#[]⟩ false (.slice none 0 0)) rfl rfl H42.out rfl (sTl _ _ _ _) (tl_one rfl) ?_)
    intro w3 B3 G3
    have HB3 : Hid (Below w.heap.size w w3) := HB2.out.grown G3 HB2.out.size (fun r e => by injection e with e; subst e; exact l1)
    have H43 : Hid (Blk w3 g4 46 (tlC 0 ⟨#[]⟩ false (.slice none 0 0))) := B3
    clear B3 G3
    go_wp2
    refine bodyPost_ret (res_two rfl _ g4 46 _ _ rfl H43.out Try.underlying46 rfl (sTl _ _ _ _)) rfl ?_
    refine ⟨.slice none 0 0, by rw [HQ.out]; rfl, ?_, HB3.out⟩
    rw [HQ.out]
    exact told_none _ _
  · obtain ⟨k, t, e1, e2, e3, e4⟩ := nam_some hn0
    obtain ⟨nm, fs, gn⟩ := t
    obtain ⟨fv, hp⟩ := tab_at e2
    have HQ : Hid (finR (strip L) s = ((k : Int) + 1, ⟨nm, fs, gn⟩, 0)) := by
      show _ = _
      unfold finR
      rw [e1, Nat.add_sub_cancel, e2]
      simp
    have HTL : Hid (∀ W, Below w1.heap.size w1 W → Calls Try.prog 28 #[.pointer (some ⟨g, 0, none⟩), .int .i64 ((k : Int) + 1)] W fun e w' => ∃ iv, e = .returned (.agg (tlC ((k : Int) + 1) nm gn iv).toArray) ∧ Hid (Told W.heap.size w' fs iv ∧ Below W.heap.size W w')) := fun W hb => tell_in g tv mv dm L k nm fs gn fv hp W (HM1.out.below hb)
    rw [e1] at K
    have hk1 : ¬ ((k : Int) + 1 = 0) := by omega
    have hk2 : ¬ (((k + 1 : Nat) : Int) = 0) := by omega
    clear hp e1 e2 e3 e4 hn0 HM HM1
    go_wp2_with fail
    refine K.mono ?_
    clear K
    rintro e w2 ⟨rfl, H⟩
    have H42 : Hid (Blk w2 g4 46 (tlC 0 ⟨#[]⟩ false (.slice none 0 0))) := H4.out.below H.out H4.out.lt
    have HB2 : Hid (Below w.heap.size w w2) := HB1.out.trans (H.out.mono HB1.out.size)
    have K := HTL.out w2 H.out
    clear H H4 HB1 HTL
    have ek : ((k + 1 : Nat) : Int) = (k : Int) + 1 := by omega
    rw [ek]
    clear ek hk2
    go_wp2_with fail
    refine K.mono ?_
    clear K
    rintro e w3 ⟨iv, rfl, H⟩
    have H43 : Hid (Blk w3 g4 46 (tlC 0 ⟨#[]⟩ false (.slice none 0 0))) := H42.out.below H.out.2 H42.out.lt
    have HB3 : Hid (Below w.heap.size w w3) := HB2.out.trans (H.out.2.mono HB2.out.size)
    have HT3 : Hid (Told w2.heap.size w3 fs iv) := H.out.1
    have hg41 : g4 < w2.heap.size := H42.out.lt
    have hw01 : w.heap.size ≤ w2.heap.size := HB2.out.size
    obtain ⟨ia, ic, rfl, _, _⟩ := row_val HT3.out.row
    clear H H42
    go_wp2_with (refine st_all rfl 46 (.tmp 4) (.tmp 15) rfl g4 46 _ (tlC ((k : Int) + 1) nm gn (.slice ia fs.length ic)) rfl rfl H43.out rfl (sTl _ _ _ _) (tl_one rfl) ?_)
    intro w4 B4 G4
    have HF : Hid (Told w.heap.size w4 fs (.slice ia fs.length ic) ∧ Below w.heap.size w w4) := by
      have h1 := HT3.out.kept G4 (fun x hx e => by injection e with e; have := HT3.out.new x hx; omega)
      exact ⟨⟨h1.row, fun x hx => by have := h1.new x hx; omega⟩, HB3.out.grown G4 HB3.out.size (fun r e => by injection e with e; subst e; exact l1)⟩
    have H44 : Hid (Blk w4 g4 46 (tlC ((k : Int) + 1) nm gn (.slice ia fs.length ic))) := B4
    clear B4 G4 HT3 HB3 H43
    go_wp2
    refine bodyPost_ret (res_two rfl _ g4 46 _ _ rfl H44.out Try.underlying46 rfl (sTl _ _ _ _)) rfl ?_
    refine ⟨.slice ia fs.length ic, by rw [HQ.out]; rfl, ?_⟩
    rw [HQ.out]
    exact HF.out
#print axioms find_any
end Go.Proofs.Ytbkogaencjmmgaa
