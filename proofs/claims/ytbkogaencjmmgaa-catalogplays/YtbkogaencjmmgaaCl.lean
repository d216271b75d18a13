/-
  All.
-/
import Derived.Test.YtbkogaencjmmgaaCk
namespace Go.Proofs.Ytbkogaencjmmgaa
open Go.RowKit Go.MapKept
set_option linter.unusedVariables false
set_option linter.unusedSimpArgs false
/-- The cells of tables that are told, the first one's number being i + 1. -/
def alC : Nat → List TV → List Value
  | _, [] => []
  | i, p :: r => tlC ((i : Int) + 1) p.1.name p.1.gone p.2 ++ alC (i + 1) r
theorem alC_len : ∀ (M : List TV) (i : Nat), (alC i M).length = M.length * 4
  | [], _ => rfl
  | p :: r, i => by rw [alC, List.length_append, alC_len r, List.length_cons]; simp [tlC]; omega
theorem alC_app : ∀ (M N : List TV) (i : Nat), alC i (M ++ N) = alC i M ++ alC (i + M.length) N
  | [], N, i => by simp [alC]
  | p :: r, N, i => by
    rw [List.cons_append, alC, alC, alC_app r N, List.append_assoc, List.length_cons, show i + 1 + r.length = i + (r.length + 1) by omega]
/-- All tables, told. -/
structure AllR (B : Nat) (w : World) (v : Value) (A : List Tb) (M : List TV) : Prop where
  row : w.ownsRow 0 46 4 v A.length (alC 0 M)
  m : strip M = A
  told : ∀ p ∈ M, Told B w p.1.fs p.2
  new : ∀ x, v.ownBlock = some x → B ≤ x
theorem iTl : (Try.prog.info? 46).map (fun i => (i.zero.map (·.cells.size), i.size, decide (i.bytes ≤ 1000))) = some (some 4, 4, true) := by kernel_rfl
theorem zvTl (w : World) : (zeroValue 46).run Try.prog w = .ok (.agg (tlC 0 ⟨#[]⟩ false (.slice none 0 0)).toArray) w := by kernel_rfl
theorem make_tl (n : Nat) (hn : n ≤ 64) : ∃ Z : List Value, Z.length = n * 4 ∧ ∀ W : World, (Instr.makeSlice 60 (.int .i64 (n : Int)) (.int .i64 (n : Int))).run Try.prog W = .ok (.slice (some ⟨W.heap.size, 0, none⟩) n n) (W.alloc (.cells Z.toArray 46)) := by
  have hI := iTl
  cases hq : Try.prog.info? 46 with
  | none => rw [hq] at hI; cases hI
  | some i =>
    rw [hq] at hI
    simp only [Option.map_some, Option.some.injEq, Prod.mk.injEq] at hI
    obtain ⟨h0, hz1, hz2⟩ := hI
    obtain ⟨z, hz, hzs⟩ : ∃ z, i.zero = some z ∧ z.cells.size = 4 := by
      cases hzz : i.zero with
      | none => rw [hzz] at h0; cases h0
      | some z => rw [hzz] at h0; exact ⟨z, rfl, by simpa using h0⟩
    have hby : i.bytes ≤ 1000 := of_decide_eq_true hz2
    refine ⟨(madeCells z.cells (n * i.size)).toList, by rw [Array.length_toList, size_madeCells, hz1], fun W => ?_⟩
    have h := run_make (P := Try.prog) W 60 46 i z Try.underlying60 hq hz .i64 .i64 (n : Int) (n : Int) (by omega) (by omega) (by
      have h1 : i.bytes * n ≤ 1000 * 64 := Nat.mul_le_mul hby hn
      have h2 : ((i.bytes * n : Nat) : Int) ≤ 64000 := by omega
      rw [Int.natCast_mul] at h2
      omega) (by omega)
    simpa using h
theorem four_cut {Z : List Value} {n : Nat} (h : Z.length = (n + 1) * 4) : ∃ m Z', Z = m ++ Z' ∧ m.length = 4 ∧ Z'.length = n * 4 :=
  ⟨Z.take 4, Z.drop 4, (List.take_append_drop 4 Z).symm, by rw [List.length_take]; omega, by rw [List.length_drop]; omega⟩
set_option maxRecDepth 8000 in
set_option maxHeartbeats 1000000 in
theorem all_any (S : Nat → Prop) (g : Nat) (A : List Tb) (w : World) (h : Cat w S g A) :
    Calls Try.prog 21 #[.pointer (some ⟨g, 0, none⟩)] w fun e w' => ∃ bo, e = .returned (.slice (some ⟨bo, 0, none⟩) A.length A.length) ∧ Hid ((∃ M, AllR w.heap.size w' (.slice (some ⟨bo, 0, none⟩) A.length A.length) A M) ∧ Below w.heap.size w w') := by
  obtain ⟨tv, dm, mv, L, hM, rfl, hI⟩ := h
  have HM : Hid (∀ W, Below w.heap.size w W → CM W g tv dm mv L) := fun W b => hM.below b
  obtain ⟨n, hn⟩ : ∃ n, L.length = n := ⟨_, rfl⟩
  obtain ⟨a, c, rfl, _, _⟩ := row_val hM.row
  have c0 : w.cell? ⟨g, 0, none⟩ = some (.slice a n c) := by rw [← hn]; exact hM.blk.cell 0
  have hn64 : n ≤ 64 := by have := hM.ok.len; rw [strip_len, hn] at this; exact this
  obtain ⟨Z, hZ, hmk⟩ := make_tl n hn64
  have HN : Hid (L.length = n) := hn
  have HSN : Hid ((strip L).length = n) := (strip_len L).trans hn
  rw [HSN.out]
  clear hM hI hn
  go_enter Try.func21, Try.ntmps21
  go_wp2
  have HB1 : Hid (Below w.heap.size w (w.alloc (.cells Z.toArray 46))) := (Below.refl _ w).alloc (Nat.le_refl _) _
  have HBo : Hid (Blk (w.alloc (.cells Z.toArray 46)) w.heap.size 46 Z) := blk_new _ _ _
  have HZ : Hid (Z.length = n * 4) := hZ
  obtain ⟨bo, Hbo⟩ : ∃ bo, Hid (bo = w.heap.size) := ⟨_, rfl⟩
  rw [← Hbo.out] at HBo
  generalize ebo : w.heap.size = bo' at *
  obtain rfl : bo = bo' := Hbo.out
  clear Hbo hmk hZ
  generalize (w.alloc (.cells Z.toArray 46)) = w1 at *
  have HEB : Hid (w.heap.size = bo) := ebo
  clear ebo
  go_loopw [15] (fun i wr => ∃ q : Nat, q ≤ n ∧ i = .int .i64 (q : Int) ∧ Hid (Below bo w wr ∧ ∃ M Z', Blk wr bo 46 (alC 0 M ++ Z') ∧ strip M = (strip L).take q ∧ Z'.length = (n - q) * 4 ∧ ∀ p ∈ M, Told bo wr p.1.fs p.2)) (fun i _ => n - (intOf i).toNat)
  case atStart => exact ⟨0, by omega, rfl, HB1.out, [], Z, HBo.out, rfl, HZ.out, by simp⟩
  case round =>
    obtain ⟨q, hq, rfl, HL⟩ := hrel
    obtain ⟨hB, M, Z', hbl, hm, hz, ht⟩ := HL.out
    have HB : Hid (Below bo w wr) := hB
    have HBL : Hid (Blk wr bo 46 (alC 0 M ++ Z')) := hbl
    have HMZ : Hid (strip M = (strip L).take q ∧ Z'.length = (n - q) * 4 ∧ ∀ p ∈ M, Told bo wr p.1.fs p.2) := ⟨hm, hz, ht⟩
    have hMl : M.length = q := by rw [← strip_len, hm, List.length_take, HSN.out]; omega
    have HML : Hid (M.length = q) := hMl
    clear hB hbl hm hz ht HL HB1 HBo HZ hMl
    by_cases hlt : q < n
    case neg =>
      have hlt' : ¬ (q : Int) < (n : Int) := by omega
      have HF : Hid ((∃ M, AllR bo wr (.slice (some ⟨bo, 0, none⟩) n n) (strip L) M) ∧ Below bo w wr) := by
        have e1 : Z' = [] := List.eq_nil_of_length_eq_zero (by rw [HMZ.out.2.1]; omega)
        have e2 : strip M = strip L := by rw [HMZ.out.1, List.take_of_length_le (by rw [HSN.out]; omega)]
        have h1 := HBL.out
        rw [e1] at h1
        refine ⟨⟨M, ?_, e2, HMZ.out.2.2, fun x hx => by injection hx with hx; rw [← hx]; exact Nat.le_refl _⟩, HB.out⟩
        rw [HSN.out]
        exact val_row (sp := []) h1 (Nat.le_refl _) (by rw [List.append_nil, alC_len, HML.out]; omega) (by unfold maxLen; omega) (by rw [alC_len, HML.out]; omega)
      clear HB HBL HMZ HML HM
      go_wp2
      go_ret
      exact ⟨bo, rfl, by rw [HEB.out]; exact HF.out⟩
    have hlt' : (q : Int) < (n : Int) := by omega
    obtain ⟨⟨⟨nm, fs, gn⟩, fv⟩, hp⟩ : ∃ p, L[q]? = some p := ⟨_, List.getElem?_eq_getElem (by rw [HN.out]; exact hlt)⟩
    have K := tell_in g _ mv dm L q nm fs gn fv hp wr (HM.out wr HB.out)
    have HTK : Hid ((strip L).take (q + 1) = (strip L).take q ++ [⟨nm, fs, gn⟩]) := by
      show _ = _
      have : (strip L)[q]? = some ⟨nm, fs, gn⟩ := by simp [strip, hp]
      rw [List.take_add_one, this]; rfl
    have w1e : wrap64 ((q : Int) + 1) = (q : Int) + 1 := wrap_small (n := q + 1) (by omega) (by omega)
    have hy1 : ¬ ((q : Int) < 0) := by omega
    have hy2 : ¬ ((n : Int) ≤ (q : Int)) := by omega
    clear hp
    go_wp2_with fail
    refine K.mono ?_
    clear K
    rintro e w3 ⟨iv, rfl, H⟩
    have hsz : bo ≤ wr.heap.size := Nat.le_of_lt HBL.out.lt
    have HT3 : Hid (Told wr.heap.size w3 fs iv ∧ Below wr.heap.size wr w3) := H.out
    obtain ⟨ia, ic, rfl, _, _⟩ := row_val HT3.out.1.row
    obtain ⟨z4, Z2, ez, hz4, hZ2⟩ := four_cut (Z := Z') (n := n - (q + 1)) (by rw [HMZ.out.2.1]; congr 1; omega)
    have HBL3 : Hid (Blk w3 bo 46 (alC 0 M ++ (z4 ++ Z2))) := by have := HBL.out.below HT3.out.2 HBL.out.lt; rw [ez] at this; exact this
    have HZ4 : Hid (z4.length = 4 ∧ Z2.length = (n - (q + 1)) * 4) := ⟨hz4, hZ2⟩
    clear H ez hz4 hZ2 HBL
    go_wp2_with (refine st_row rfl 46 (.tmp 24) (.tmp 23) rfl bo (q * 4) 46 (alC 0 M) z4 Z2 (tlC ((q : Int) + 1) nm gn (.slice ia fs.length ic)) (by first | rfl | simp) rfl (by rw [alC_len, HML.out]) HBL3.out (by rw [HZ4.out.1]; rfl) (sTl _ _ _ _) (tl_one rfl) ?_)
    intro w4 B4 G4
    have HF : Hid (Below bo w w4 ∧ ∃ M Z', Blk w4 bo 46 (alC 0 M ++ Z') ∧ strip M = (strip L).take (q + 1) ∧ Z'.length = (n - (q + 1)) * 4 ∧ ∀ p ∈ M, Told bo w4 p.1.fs p.2) := by
      refine ⟨(HB.out.trans (HT3.out.2.mono hsz)).grown G4 (Nat.le_trans hsz HT3.out.2.size) (fun r e => by injection e with e; omega), M ++ [(⟨nm, fs, gn⟩, .slice ia fs.length ic)], Z2, ?_, ?_, HZ4.out.2, fun p hp => ?_⟩
      · have e : alC 0 (M ++ [((⟨nm, fs, gn⟩, .slice ia fs.length ic) : TV)]) ++ Z2 = alC 0 M ++ (tlC ((q : Int) + 1) nm gn (.slice ia fs.length ic) ++ Z2) := by
          rw [alC_app, Nat.zero_add, HML.out]
          simp [alC]
        rw [e]
        exact B4
      · rw [strip_app, HMZ.out.1, HTK.out]; rfl
      · have key : ∀ {fs : List ByteArray} {iv : Value}, Told bo w3 fs iv → Told bo w4 fs iv := fun {fs iv} ht => ht.kept G4 (fun x hx e => by injection e with e; subst e; exact tag_ne ht.row HBL3.out (by decide) hx)
        rcases List.mem_append.1 hp with hp | hp
        · exact key ((HMZ.out.2.2 p hp).below HT3.out.2)
        · obtain rfl := List.mem_singleton.1 hp
          exact key ⟨HT3.out.1.row, fun x hx => Nat.le_trans hsz (HT3.out.1.new x hx)⟩
    clear B4 G4 HT3 HBL3 HZ4 HMZ HB
    go_wp2
    go_roundw
    case rel => exact ⟨q + 1, by omega, by go_num, HF.out⟩
    case measure => simp [intOf]; omega
#print axioms all_any
end Go.Proofs.Ytbkogaencjmmgaa
