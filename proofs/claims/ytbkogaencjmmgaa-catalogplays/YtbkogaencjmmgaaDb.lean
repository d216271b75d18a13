/-
  The document's Find.
-/
import Derived.Test.YtbkogaencjmmgaaDa
namespace Go.Proofs.Ytbkogaencjmmgaa
open Go.RowKit Go.MapKept
set_option linter.unusedVariables false
set_option linter.unusedSimpArgs false
set_option maxRecDepth 8000 in
set_option maxHeartbeats 1000000 in
theorem rfind_any (S : Nat → Prop) (g : Nat) (A : List Tb) (s : ByteArray) (w : World) (h : Rfc w S g A) :
    Calls Try.prog 13 #[.pointer (some ⟨g, 0, none⟩), .string s] w fun e w' => ∃ fv, e = .returned (rV (finR A s) fv) ∧ Hid (Txs w' fv (finR A s).2.1.fs ∧ Below w.heap.size w w') := by
  obtain ⟨lv, L, hM, rfl, hI⟩ := h
  have HM : Hid (RM w g lv L) := hM
  have hl64 : L.length ≤ 64 := by have := hM.ok.len; rw [strip_len] at this; exact this
  obtain ⟨a, c, rfl, hv⟩ := hM.val
  obtain ⟨n, hn⟩ : ∃ n, L.length = n := ⟨_, rfl⟩
  have HN : Hid (L.length = n) := hn
  have HSN : Hid ((strip L).length = n) := (strip_len L).trans hn
  have hn64 : n ≤ 64 := by omega
  rw [hn] at hv
  clear hM hI hl64 hn
  go_enter Try.func13, Try.ntmps13
  go_wp2_with (refine al_zero rfl 50 rfl _ sTb4 ?_)
  intro g4 w1 l1 B4 G1
  have hb1 : Below w.heap.size w w1 := below_none (Below.refl _ _) (Nat.le_refl _) G1
  have HB1 : Hid (Below w.heap.size w w1) := hb1
  have H4 : Hid (Blk w1 g4 50 (tlC 0 ⟨#[]⟩ false (.slice none 0 0))) := B4
  have HM1 : Hid (RM w1 g (.slice a L.length c) L) := HM.out.below hb1
  have c0 : w1.cell? ⟨g, 0, none⟩ = some (.slice a n c) := by rw [← HN.out]; exact HM1.out.blk.cell 0
  have HV : Hid (n = 0 ∨ ∃ b, a = some ⟨b, 0, none⟩ ∧ ∀ k p, L[k]? = some p → w1.rangeAt b (k * 4) (tlC ((k : Int) + 1) p.1.name p.1.gone p.2)) := by
    rcases hv with h0 | ⟨b, sp, e, hb, _⟩
    · exact .inl h0
    · exact .inr ⟨b, e, fun k p hp => rt_rng (hb.below hb1 hb.lt) hp⟩
  clear hb1 B4 G1 hv HM
  go_wp2
  go_loopw [6] (fun i wr => ∃ q : Nat, q ≤ n ∧ i = .int .i64 (q : Int) ∧ wr = w1 ∧ Hid (nam (strip L) s = namF s q ((strip L).drop q))) (fun i _ => n - (intOf i).toNat)
  case atStart => exact ⟨0, by omega, rfl, rfl, rfl⟩
  case round =>
    obtain ⟨q, hq, rfl, rfl, HE⟩ := hrel
    by_cases hlt : q < n
    case neg =>
      have hlt' : ¬ (q : Int) < (n : Int) := by omega
      have HQ : Hid (finR (strip L) s = (0, zT, 13)) := by
        have h0 : nam (strip L) s = 0 := by rw [HE.out, List.drop_of_length_le (by rw [HSN.out]; omega)]; rfl
        show _ = _
        unfold finR
        split
        · rw [if_pos h0]
        · rfl
      go_wp2_with (refine st_all rfl 50 (.tmp 4) (.tmp 44) rfl g4 50 _ (tlC 0 ⟨#[]⟩ false (.slice none 0 0)) rfl rfl H4.out rfl (sRt' _ _ _ _) (tl_one rfl) ?_)
      intro w3 B3 G3
      have HB3 : Hid (Below w.heap.size w w3) := HB1.out.grown G3 HB1.out.size (fun r e => by injection e with e; subst e; exact l1)
      have H43 : Hid (Blk w3 g4 50 (tlC 0 ⟨#[]⟩ false (.slice none 0 0))) := B3
      clear B3 G3
      go_wp2
      refine bodyPost_ret (res_two rfl _ g4 50 _ _ rfl H43.out Try.underlying50 rfl (sRt' _ _ _ _)) rfl ?_
      refine ⟨.slice none 0 0, by rw [HQ.out]; rfl, ?_, HB3.out⟩
      rw [HQ.out]
      exact txs_nil _
    have hlt' : (q : Int) < (n : Int) := by omega
    obtain ⟨⟨⟨nm, fs, gn⟩, fv⟩, hp⟩ : ∃ p, L[q]? = some p := ⟨_, List.getElem?_eq_getElem (by rw [HN.out]; exact hlt)⟩
    have hA : (strip L)[q]? = some ⟨nm, fs, gn⟩ := by simp [strip, hp]
    have HS : Hid (nam (strip L) s = if (bq nm s && !gn) = true then q + 1 else namF s (q + 1) ((strip L).drop (q + 1))) := HE.out.trans (namF_at s hA)
    have HAT : Hid ((strip L)[q]? = some ⟨nm, fs, gn⟩) := hA
    obtain ⟨b, rfl, hr⟩ := HV.out.resolve_left (by omega)
    have hfv : ∃ fa fc, fv = .slice fa fs.length fc := by
      obtain ⟨fa, fc, e, _⟩ := row_val (HM1.out.fld _ (List.mem_of_getElem? hp))
      exact ⟨fa, fc, e⟩
    obtain ⟨fa, fc, rfl⟩ := hfv
    have HT1 : Hid (wr.ownsRow 0 9 1 (.slice fa fs.length fc) fs.length (sts fs)) := HM1.out.fld _ (List.mem_of_getElem? hp)
    have HR : Hid (wr.rangeAt b (q * 4) (tlC ((q : Int) + 1) nm gn (.slice fa fs.length fc))) := hr q _ hp
    have a1 : wr.cell? ⟨b, q * 4 + 1, none⟩ = some (.string nm) := HR.out 1 _ rfl
    have a2 : wr.cell? ⟨b, q * 4 + 2, none⟩ = some (.bool gn) := HR.out 2 _ rfl
    have hx1 : ¬ ((q : Int) < 0) := by omega
    have hx2 : ¬ ((n : Int) ≤ (q : Int)) := by omega
    clear hA hp hr HE HM1 HV
    cases gn with
    | true =>
      have HZ : Hid (nam (strip L) s = namF s (q + 1) ((strip L).drop (q + 1))) := by show _ = _; rw [HS.out]; simp
      clear HS
      go_wp2
      go_roundw
      case rel => exact ⟨q + 1, by omega, by go_num, by first | rfl | trivial, HZ.out⟩
      case measure => simp [intOf]; omega
    | false =>
      cases hb : bq nm s with
      | false =>
        have hq' : (nm.toList == s.toList) = false := hb
        have hq2 : ¬ nm.toList = s.toList := by simpa using hq'
        have HZ : Hid (nam (strip L) s = namF s (q + 1) ((strip L).drop (q + 1))) := by show _ = _; rw [HS.out, hb]; simp
        clear HS hb
        go_wp2
        go_roundw
        case rel => exact ⟨q + 1, by omega, by go_num, by first | rfl | trivial, HZ.out⟩
        case measure => simp [intOf]; omega
      | true =>
        have hq2 : nm.toList = s.toList := beq_iff_eq.1 hb
        have HQ : Hid (finR (strip L) s = ((q : Int) + 1, ⟨nm, fs, false⟩, 0)) := by
          have h1 : nam (strip L) s = q + 1 := by rw [HS.out, hb]; simp
          show _ = _
          unfold finR
          rw [h1, Nat.add_sub_cancel, HAT.out]
          simp
        clear HS hb
        go_wp2_with (first | (refine ld_w rfl 50 (.tmp 42) rfl b (q * 4) (by first | rfl | simp) _ _ HR.out Try.underlying50 rfl (sRt' _ _ _ _) ?_) | (refine st_all rfl 50 (.tmp 4) (.tmp 43) rfl g4 50 _ (tlC ((q : Int) + 1) nm false (.slice fa fs.length fc)) rfl rfl H4.out rfl (sRt' _ _ _ _) (tl_one rfl) ?_))
        intro w4 B4 G4
        have HF : Hid (Txs w4 (.slice fa fs.length fc) fs ∧ Below w.heap.size w w4) :=
          ⟨own_txs (n := 0) (HT1.out.kept G4 (.inr (fun e => tag_ne HT1.out H4.out (by decide) e))), HB1.out.grown G4 HB1.out.size (fun r e => by injection e with e; subst e; exact l1)⟩
        have H44 : Hid (Blk w4 g4 50 (tlC ((q : Int) + 1) nm false (.slice fa fs.length fc))) := B4
        clear B4 G4 HT1 HB1 H4 HR
        go_wp2
        refine bodyPost_ret (res_two rfl _ g4 50 _ _ rfl H44.out Try.underlying50 rfl (sRt' _ _ _ _)) rfl ?_
        refine ⟨.slice fa fs.length fc, by rw [HQ.out]; rfl, ?_⟩
        rw [HQ.out]
        exact HF.out
#print axioms rfind_any
end Go.Proofs.Ytbkogaencjmmgaa
