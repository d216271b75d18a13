/-
  The document's own show: lists.
-/
import Derived.Test.YtmlfhplhiedfjaaGreatDoorCSha
import Derived.Test.YtmlfhplhiedfjaaGreatDoorCEql
namespace Go.Proofs.YtmlfhplhiedfjaaGreatDoor
open Go.RowKit Math
set_option linter.unusedVariables false
set_option linter.unusedSimpArgs false
/-- What show answers, of a value that stands in an earlier world. -/
def ShC (p : Vt) : Prop := ∀ (na : Option Addr) (nc : Nat) (ka : Option Addr) (kc : Nat) (w0 W : World), Vl w0 p na nc ka kc → Below w0.heap.size w0 W → (prV p).length ≤ 700000000 →
  Calls Tryz.prog 34 #[.agg #[.int .i64 p.1.k, .int .i64 p.1.n, .int .i64 p.1.s, .string p.1.t, .slice na p.1.ns.length nc, .slice ka p.2.list.length kc]] W fun e w' => e = .returned (.string (ofB (prV p))) ∧ Below W.heap.size W w'
set_option maxRecDepth 8000 in
set_option maxHeartbeats 2000000 in
theorem sh8 (p : Vt) (hkl : p.2.list.length ≤ 200) (ih : ∀ q ∈ p.2.list, ShC q) (na : Option Addr) (nc : Nat) (ka : Option Addr) (kc : Nat) (w0 W : World) (hv : Vl w0 p na nc ka kc) (hb : Below w0.heap.size w0 W) (hl : (prF p.2 false p.1.ns true).length + 2 ≤ 700000000) :
    Calls Tryz.prog 34 #[.agg #[.int .i64 8, .int .i64 p.1.n, .int .i64 p.1.s, .string p.1.t, .slice na p.1.ns.length nc, .slice ka p.2.list.length kc]] W fun e w' => e = .returned (.string (ofB (91 :: (prF p.2 false p.1.ns true ++ [93])))) ∧ Below W.heap.size W w' := by
  obtain ⟨W1, HW1⟩ : ∃ W1, Hid (W.alloc (.cells #[.int .i64 8, .int .i64 p.1.n, .int .i64 p.1.s, .string p.1.t, .slice na p.1.ns.length nc, .slice ka p.2.list.length kc] 38) = W1) := ⟨_, rfl⟩
  have HB1 : Hid (Below W.heap.size W W1) := by rw [← HW1.out]; exact (Below.refl _ _).alloc (Nat.le_refl _) _
  have HX1 : Hid (Blk W1 W.heap.size 38 [.int .i64 8, .int .i64 p.1.n, .int .i64 p.1.s, .string p.1.t, .slice na p.1.ns.length nc, .slice ka p.2.list.length kc]) := by rw [← HW1.out]; exact blk_new W 38 [.int .i64 8, .int .i64 p.1.n, .int .i64 p.1.s, .string p.1.t, .slice na p.1.ns.length nc, .slice ka p.2.list.length kc]
  have c0 : W1.cell? ⟨W.heap.size, 0, none⟩ = some (.int .i64 8) := HX1.out.cell 0
  have c1 : W1.cell? ⟨W.heap.size, 1, none⟩ = some (.int .i64 p.1.n) := HX1.out.cell 1
  have c2 : W1.cell? ⟨W.heap.size, 2, none⟩ = some (.int .i64 p.1.s) := HX1.out.cell 2
  have c3 : W1.cell? ⟨W.heap.size, 3, none⟩ = some (.string p.1.t) := HX1.out.cell 3
  have c4 : W1.cell? ⟨W.heap.size, 4, none⟩ = some (.slice na p.1.ns.length nc) := HX1.out.cell 4
  have c5 : W1.cell? ⟨W.heap.size, 5, none⟩ = some (.slice ka p.2.list.length kc) := HX1.out.cell 5
  have HV : Hid (Vl w0 p na nc ka kc) := hv
  have HI : Hid (∀ q ∈ p.2.list, ShC q) := ih
  have HBw : Hid (Below w0.heap.size w0 W1) := hb.trans (HB1.out.mono hb.size)
  have HT : Hid ((prF p.2 false p.1.ns true).length + 2 ≤ 700000000) := hl
  have HD0 : Hid ((⟨#[91]⟩ : ByteArray) = ofB (91 :: []) ∧ Below W1.heap.size W1 W1 ∧ [] ++ prF (p.2.drop 0) false (p.1.ns.drop 0) (decide (0 = 0)) = prF p.2 false p.1.ns true) := ⟨rfl, Below.refl _ _, by simp [Fo.drop]⟩
  clear hv ih hb hl
  go_enter Tryz.func34, Tryz.ntmps34
  go_wp2
  have e1 : W.alloc (.cells #[.int .i64 8, .int .i64 p.1.n, .int .i64 p.1.s, .string p.1.t, .slice na p.1.ns.length nc, .slice ka p.2.list.length kc] 38) = W1 := HW1.out
  rw [e1]
  clear e1 HW1 c0 c1 c2 c3 c4 c5
  go_loopw [7, 8] (fun x i wr => ∃ (k : Nat) (t : ByteArray) (D : List Nat), k ≤ p.2.list.length ∧ x = .string t ∧ i = .int .i64 (k : Int) ∧ Hid (t = ofB (91 :: D) ∧ Below W1.heap.size W1 wr ∧ D ++ prF (p.2.drop k) false (p.1.ns.drop k) (decide (k = 0)) = prF p.2 false p.1.ns true)) (fun _ i _ => p.2.list.length - (intOf i).toNat)
  case atStart => exact ⟨0, _, [], by omega, rfl, rfl, HD0.out⟩
  case round =>
    clear HD0
    obtain ⟨k, t, D, hk0, rfl, rfl, HK⟩ := hrel
    have HB : Hid (Below W1.heap.size W1 wr) := HK.out.2.1
    have HD : Hid (D ++ prF (p.2.drop k) false (p.1.ns.drop k) (decide (k = 0)) = prF p.2 false p.1.ns true) := HK.out.2.2
    have Ht : Hid (t = ofB (91 :: D)) := HK.out.1
    clear HK
    have hts : t.size = D.length + 1 := by rw [Ht.out, ofB_size]; simp
    have c5 : wr.cell? ⟨W.heap.size, 5, none⟩ = some (.slice ka p.2.list.length kc) := (HX1.out.below HB.out HX1.out.lt).cell 5
    by_cases hlt : k < p.2.list.length
    case neg =>
      have hD : D = prF p.2 false p.1.ns true := by
        have := HD.out
        rw [Fo.drop_end _ _ (by omega)] at this
        simpa [prF] using this
      have h1 : ¬ 9223372036854775807 < t.size + 1 := by have := HT.out; rw [hts, hD]; omega
      have HF : Hid (t ++ ⟨#[93]⟩ = ofB (91 :: (prF p.2 false p.1.ns true ++ [93])) ∧ Below W.heap.size W wr) := by
        refine ⟨?_, HB1.out.trans (HB.out.mono HB1.out.size)⟩
        rw [Ht.out, hD, show (⟨#[93]⟩ : ByteArray) = ofB [93] from rfl, ofB_app]
        simp
      clear hD hts HD Ht HT
      go_wp2
      go_ret
      exact ⟨by rw [← HF.out.1]; rfl, HF.out.2⟩
    have HBr : Hid (Below w0.heap.size w0 wr) := HBw.out.trans (HB.out.mono HBw.out.size)
    obtain ⟨q, bq, oq, na', nc', ka', kc', hq, rfl, hnd, hvl⟩ := HV.out.kid (Below.refl _ _) (k := k) hlt
    have HQ : Hid (ShC q) := HI.out q (List.mem_of_getElem? hq)
    have HVq : Hid (Vl w0 q na' nc' ka' kc') := hvl
    have HP : Hid (prF (p.2.drop k) false (p.1.ns.drop k) (decide (k = 0)) = _) := prF_drop hq
    have HND : Hid (∀ w, Below W1.heap.size W1 w → Nd w bq (oq + k * 6) q.1 na' nc' ka' q.2.list.length kc') := fun w g => hnd.below (HBw.out.trans (g.mono HBw.out.size))
    clear hnd hvl hq
    by_cases h0 : k = 0
    case pos =>
      have HPz : Hid (prF (p.2.drop k) false (p.1.ns.drop k) (decide (k = 0)) = [] ++ ((prV q ++ prF (p.2.drop (k + 1)) false (p.1.ns.drop (k + 1)) false))) := by
        show _ = _
        have := HP.out
        rw [decide_eq_true (show k = 0 from h0)] at this
        rw [decide_eq_true (show k = 0 from h0)]
        simpa using this
      have hln : D.length + 0 + (prV q).length + 1 ≤ 700000000 := by
        have h1 := HT.out
        have h2 := congrArg List.length HD.out
        have h3 := congrArg List.length HPz.out
        simp only [List.length_append, List.length_cons, List.length_nil] at h2 h3
        omega
      have HR : Hid ((ofB (prV q)).size = (prV q).length) := ofB_size _
      have HG : Hid (∀ w x, Below W1.heap.size W1 w → x = ofB (91 :: (D ++ [] ++ (prV q))) → (x = ofB (91 :: (D ++ [] ++ (prV q))) ∧ Below W1.heap.size W1 w ∧ (D ++ [] ++ (prV q)) ++ prF (p.2.drop (k + 1)) false (p.1.ns.drop (k + 1)) (decide (k + 1 = 0)) = prF p.2 false p.1.ns true)) := fun w x g e => by
        refine ⟨e, g, ?_⟩
        rw [← HD.out, HPz.out, decide_eq_false (show ¬ k + 1 = 0 by omega)]
        simp
      clear HP HPz HD HT
      have KQ := HQ.out na' nc' ka' kc' w0 wr HVq.out HBr.out (by omega)
      obtain ⟨d0, d1, d2, d3, d4, d5⟩ := HND.out wr HB.out
      obtain ⟨R, hR⟩ : ∃ R, ofB (prV q) = R := ⟨_, rfl⟩
      rw [hR] at KQ HR
      have h2 : ¬ 9223372036854775807 < t.size + 2 := by omega
      have hk1 : decide (0 < k) = false := by simp [h0]
      clear h0
      go_wp2_with fail
      refine KQ.mono ?_
      rintro e w9 ⟨rfl, b9⟩
      have HB9 : Hid (Below W1.heap.size W1 w9) := HB.out.trans (b9.mono HB.out.size)
      obtain ⟨t', ht'⟩ : ∃ t', t = t' := ⟨_, rfl⟩
      have Ht' : Hid (t' = ofB (91 :: (D ++ []))) := by
        show _ = _
        rw [← ht', Ht.out]
        simp
      have h3 : ¬ 9223372036854775807 < t'.size + R.size := by
        have e1 := HR.out
        have e2 := congrArg ByteArray.size Ht'.out
        rw [ofB_size] at e2
        simp only [List.length_append, List.length_cons, List.length_nil] at e2
        omega
      have HRf : Hid (t' ++ R = ofB (91 :: (D ++ [] ++ (prV q)))) := by
        show _ = _
        rw [Ht'.out, ← hR, ofB_app]
        simp
      rw [ht']
      clear KQ b9 d0 d1 d2 d3 d4 d5 c5 h2 Ht Ht' ht' hR HR hts
      go_wp2
      go_roundw
      case rel => exact ⟨k + 1, _, _, by omega, rfl, by go_num, HG.out _ _ HB9.out HRf.out⟩
      case measure => simp [intOf]; omega
    case neg =>
      have HPz : Hid (prF (p.2.drop k) false (p.1.ns.drop k) (decide (k = 0)) = [44, 32] ++ ((prV q ++ prF (p.2.drop (k + 1)) false (p.1.ns.drop (k + 1)) false))) := by
        show _ = _
        have := HP.out
        rw [decide_eq_false (show ¬ k = 0 from h0)] at this
        rw [decide_eq_false (show ¬ k = 0 from h0)]
        simpa using this
      have hln : D.length + 2 + (prV q).length + 1 ≤ 700000000 := by
        have h1 := HT.out
        have h2 := congrArg List.length HD.out
        have h3 := congrArg List.length HPz.out
        simp only [List.length_append, List.length_cons, List.length_nil] at h2 h3
        omega
      have HR : Hid ((ofB (prV q)).size = (prV q).length) := ofB_size _
      have HG : Hid (∀ w x, Below W1.heap.size W1 w → x = ofB (91 :: (D ++ [44, 32] ++ (prV q))) → (x = ofB (91 :: (D ++ [44, 32] ++ (prV q))) ∧ Below W1.heap.size W1 w ∧ (D ++ [44, 32] ++ (prV q)) ++ prF (p.2.drop (k + 1)) false (p.1.ns.drop (k + 1)) (decide (k + 1 = 0)) = prF p.2 false p.1.ns true)) := fun w x g e => by
        refine ⟨e, g, ?_⟩
        rw [← HD.out, HPz.out, decide_eq_false (show ¬ k + 1 = 0 by omega)]
        simp
      clear HP HPz HD HT
      have KQ := HQ.out na' nc' ka' kc' w0 wr HVq.out HBr.out (by omega)
      obtain ⟨d0, d1, d2, d3, d4, d5⟩ := HND.out wr HB.out
      obtain ⟨R, hR⟩ : ∃ R, ofB (prV q) = R := ⟨_, rfl⟩
      rw [hR] at KQ HR
      have h2 : ¬ 9223372036854775807 < t.size + 2 := by omega
      have hk1 : decide (0 < k) = true := by simp; omega
      clear h0
      go_wp2_with fail
      refine KQ.mono ?_
      rintro e w9 ⟨rfl, b9⟩
      have HB9 : Hid (Below W1.heap.size W1 w9) := HB.out.trans (b9.mono HB.out.size)
      obtain ⟨t', ht'⟩ : ∃ t', (t ++ ⟨#[44, 32]⟩) = t' := ⟨_, rfl⟩
      have Ht' : Hid (t' = ofB (91 :: (D ++ [44, 32]))) := by
        show _ = _
        rw [← ht', Ht.out]
        rw [show (⟨#[44, 32]⟩ : ByteArray) = ofB [44, 32] from rfl, ofB_app]; rfl
      have h3 : ¬ 9223372036854775807 < t'.size + R.size := by
        have e1 := HR.out
        have e2 := congrArg ByteArray.size Ht'.out
        rw [ofB_size] at e2
        simp only [List.length_append, List.length_cons, List.length_nil] at e2
        omega
      have HRf : Hid (t' ++ R = ofB (91 :: (D ++ [44, 32] ++ (prV q)))) := by
        show _ = _
        rw [Ht'.out, ← hR, ofB_app]
        simp
      rw [ht']
      clear KQ b9 d0 d1 d2 d3 d4 d5 c5 h2 Ht Ht' ht' hR HR hts
      go_wp2
      go_roundw
      case rel => exact ⟨k + 1, _, _, by omega, rfl, by go_num, HG.out _ _ HB9.out HRf.out⟩
      case measure => simp [intOf]; omega
end Go.Proofs.YtmlfhplhiedfjaaGreatDoor
