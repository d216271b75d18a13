/-
  The document's Apply: a table goes, an index comes in; Apply.
-/
import Derived.Test.YtbkogaencjmmgaaDd
namespace Go.Proofs.Ytbkogaencjmmgaa
open Go.RowKit Go.MapKept
set_option linter.unusedVariables false
set_option linter.unusedSimpArgs false
theorem th_none {lv : Value} {A : List Tb} {id : Int} (h : liveB A id = false) : thP lv A id = none := by unfold thP; rw [if_neg (by rw [h]; decide)]
/-- A table that is there, in the document's row. -/
theorem RM.live {w : World} {g : Nat} {lv : Value} {L : List TV} {id : Int} (h : RM w g lv L) (hl : liveB (strip L) id = true) : ∃ (k : Nat) (X Y : List TV) (nm : ByteArray) (fs : List ByteArray) (fa : Option Addr) (fc b c : Nat) (sp : List Value), id = (k : Int) + 1 ∧ X.length = k ∧ L = X ++ ((⟨nm, fs, false⟩, .slice fa fs.length fc) : TV) :: Y ∧ lv = .slice (some ⟨b, 0, none⟩) L.length c ∧ thP lv (strip L) id = some ⟨b, k * 4, none⟩ ∧ Blk w b 50 (alC 0 L ++ sp) ∧ (alC 0 L ++ sp).length = c * 4 ∧ c ≤ maxLen ∧ L.length ≤ c := by
  have hth : thereB (strip L) id = true := by have := hl; unfold liveB at this; simp only [Bool.and_eq_true] at this; exact this.1
  simp only [thereB, Bool.and_eq_true, decide_eq_true_eq, strip_len] at hth
  obtain ⟨k, hk⟩ : ∃ k : Nat, id = (k : Int) + 1 := ⟨(id - 1).toNat, by omega⟩
  subst hk
  obtain ⟨p, hp⟩ : ∃ p, L[k]? = some p := ⟨_, List.getElem?_eq_getElem (by omega)⟩
  obtain ⟨a, c, e, hv⟩ := h.val
  obtain ⟨b, sp, rfl, h1, h2, h3, h4⟩ := hv.resolve_left (by omega)
  obtain ⟨fa, fc, e5, _⟩ := row_val (h.fld _ (List.mem_of_getElem? hp))
  have hg : p.1.gone = false := by
    have := hl
    unfold liveB goneB at this
    rw [tbl_nat, show (strip L)[k]? = some p.1 by simp [strip, hp]] at this
    simp only [Bool.and_eq_true, Bool.not_eq_true'] at this
    exact this.2
  refine ⟨k, L.take k, L.drop (k + 1), p.1.name, p.1.fs, fa, fc, b, c, sp, rfl, (at_split hp).2, ?_, e, ?_, h1, h2, h3, h4⟩
  · have e6 := (at_split hp).1
    have e7 : p = (⟨p.1.name, p.1.fs, false⟩, .slice fa p.1.fs.length fc) := by
      obtain ⟨⟨nm, fs, gn⟩, fv⟩ := p
      simp only at hg e5 ⊢
      rw [hg, e5]
    rw [← e7]; exact e6
  · unfold thP
    rw [if_pos hl, e]
    simp [Value.ownBlock]
theorem tlC_eq (a : Int) (b : ByteArray) (c : Bool) (d : Value) : tlC a b c d = [.int .i64 a, .string b, .bool c, d] := rfl
set_option maxRecDepth 8000 in
set_option maxHeartbeats 2000000 in
theorem rap_drop (S : Nat → Prop) (g : Nat) (A : List Tb) (id : Int) (s : ByteArray) (ec : List Value) (he : EnC 6 id s ec) (w : World) (h : Rfc w S g A) :
    Calls Try.prog 11 #[.pointer (some ⟨g, 0, none⟩), .agg ec.toArray] w fun e w' => e = .returned (.int .i64 (dropE A id)) ∧ Hid (Rfc w' (Nw S w w') g (dropA A id) ∧ Upd S w w') := by
  have HE : Hid (EnC 6 id s ec) := he
  obtain ⟨lv, L, hM, rfl, hI⟩ := h
  have HI : Hid (InR S g lv L) := hI
  have HM : Hid (RM w g lv L) := hM
  clear he hM hI
  go_enter Try.func11, Try.ntmps11
  go_wp2_with (refine al_box rfl 42 (.tmp 1) rfl ec rfl ?_)
  intro ge w1 l1 B1 G1
  have hb1 : Below w.heap.size w w1 := below_none (Below.refl _ _) (Nat.le_refl _) G1
  have HB1 : Hid (Below w.heap.size w w1) := hb1
  have HM1 : Hid (RM w1 g lv L) := HM.out.below hb1
  have q0 : w1.cell? ⟨ge, 0, none⟩ = some (.int .i64 6) := by rw [B1.cell]; exact HE.out.k
  have q2 : w1.cell? ⟨ge, 2, none⟩ = some (.int .i64 id) := by rw [B1.cell]; exact HE.out.id
  have K := rthere_any g lv L id w1 HM1.out
  clear hb1 B1 G1 l1
  cases hlv : liveB (strip L) id with
  | false =>
    have HEV : Hid (dropE (strip L) id = 7) := by show _ = _; unfold dropE; rw [if_neg (by rw [hlv]; decide)]
    have HQ : Hid (dropA (strip L) id = strip L) := by show _ = _; unfold dropA; rw [if_neg (by rw [hlv]; decide)]
    rw [th_none hlv] at K
    clear hlv
    go_wp2_with (go_at_call 26; refine K.mono ?_; clear K; rintro e w2 ⟨rfl, hw⟩; have hw' := hw.symm; subst hw'; clear hw)
    go_ret
    refine ⟨by rw [HEV.out]; rfl, ?_, Upd.of_below _ HB1.out⟩
    rw [HQ.out]
    exact Rfc.mono ⟨_, L, HM1.out, rfl, HI.out⟩ (fun x hx => .inl hx)
  | true =>
    have HEV : Hid (dropE (strip L) id = 0) := by show _ = _; unfold dropE; rw [if_pos hlv]
    have HLV : Hid (liveB (strip L) id = true) := hlv
    obtain ⟨k, X, Y, nm, fs, fa, fc, b, c, sp, rfl, hX, rfl, rfl, hth, hbb, hbl, hcm, hlc⟩ := HM1.out.live hlv
    rw [hth] at K
    have HX : Hid (X.length = k) := hX
    have HQ : Hid (dropA (strip (X ++ ((⟨nm, fs, false⟩, .slice fa fs.length fc) : TV) :: Y)) ((k : Int) + 1) = strip (X ++ ((⟨nm, [], true⟩, .slice none 0 0) : TV) :: Y)) := by
      show _ = _
      unfold dropA
      rw [if_pos HLV.out]
      have := updA_at (X := strip X) (Y := strip Y) (t := ⟨nm, fs, false⟩) (id := (k : Int) + 1) (by rw [strip_len, hX]; omega) (fun t => ⟨t.name, [], true⟩)
      simpa [strip] using this
    have HBB : Hid (Blk w1 b 50 (alC 0 X ++ ([.int .i64 ((X.length : Int) + 1), .string nm, .bool false, .slice fa fs.length fc] ++ (alC (X.length + 1) Y ++ sp)))) := by
      have := hbb
      rw [alC_mid] at this
      exact this
    have HCL : Hid ((alC 0 (X ++ ((⟨nm, fs, false⟩, .slice fa fs.length fc) : TV) :: Y) ++ sp).length = c * 4 ∧ c ≤ maxLen ∧ (X ++ ((⟨nm, fs, false⟩, .slice fa fs.length fc) : TV) :: Y).length ≤ c) := ⟨hbl, hcm, hlc⟩
    clear hlv hth hbb hbl hcm hlc hX HLV
    go_wp2_with (first | (go_at_call 26; refine K.mono ?_; clear K; rintro e w2 ⟨rfl, hw⟩; have hw' := hw.symm; subst hw'; clear hw) | (refine st_one rfl 4 (.tmp 69) (.const (.bool true)) rfl b (k * 4 + 2) 50 _ (.bool true) rfl rfl rfl rfl (by simp [alC_len, HX.out]) HBB.out s4 ?_))
    intro w3 B3 G3
    rw [← HX.out] at B3
    first | rw [al_set2] at B3 | rw [al_set 2 (by decide)] at B3
    have HB3 : Hid (Blk w3 b 50 (alC 0 X ++ ([.int .i64 ((X.length : Int) + 1), .string nm, .bool true, .slice fa fs.length fc] ++ (alC (X.length + 1) Y ++ sp)))) := B3
    have HG3 : Hid (w1.grownBy w3 (some b)) := G3
    clear B3 G3 HBB
    go_wp2_with (refine st_one rfl 33 (.tmp 72) (.const (.slice none 0 0)) rfl b (k * 4 + 3) 50 _ (.slice none 0 0) rfl rfl rfl rfl (by simp [alC_len, HX.out]) HB3.out s33 ?_)
    intro w4 B4 G4
    rw [← HX.out] at B4
    first | rw [al_set3] at B4 | rw [al_set 3 (by decide)] at B4
    have HF : Hid (Rfc w4 (Nw S w w4) g (dropA (strip (X ++ ((⟨nm, fs, false⟩, .slice fa fs.length fc) : TV) :: Y)) ((k : Int) + 1)) ∧ Upd S w w4) := by
      rw [HQ.out]
      have u4 : Upd (fun x => (Value.slice (some ⟨b, 0, none⟩) (X ++ ((⟨nm, fs, false⟩, .slice fa fs.length fc) : TV) :: Y).length c).ownBlock = some x) w w4 :=
        ((Upd.of_below _ HB1.out).trans (Upd.of_by HG3.out (S := fun x => x = b) (fun x hx => (Option.some.inj hx).symm)) (fun x hx _ => by rw [hx]; rfl)).trans (Upd.of_by G4 (S := fun x => x = b) (fun x hx => (Option.some.inj hx).symm)) (fun x hx _ => by rw [hx]; rfl)
      have e1 := alC_mid X Y ((⟨nm, [], true⟩, .slice none 0 0) : TV) sp
      have r4 : w4.ownsRow 0 50 4 (.slice (some ⟨b, 0, none⟩) (X ++ ((⟨nm, fs, false⟩, .slice fa fs.length fc) : TV) :: Y).length c) (X ++ ((⟨nm, fs, false⟩, .slice fa fs.length fc) : TV) :: Y).length (alC 0 (X ++ ((⟨nm, [], true⟩, .slice none 0 0) : TV) :: Y)) := by
        refine val_row (sp := sp) (by rw [e1]; exact B4) HCL.out.2.2 ?_ HCL.out.2.1 ?_
        · rw [← HCL.out.1]; simp [alC_len]
        · rw [alC_len]; simp
      have hok := HM.out.ok.ok ⟨nm, fs, false⟩ (by simp [strip])
      have m4 := HM.out.changed (p' := ((⟨nm, [], true⟩, .slice none 0 0) : TV)) u4 r4 (World.ownsRow_nil _ _ _ _) ⟨hok.name, by simp, by simp, by simp⟩
      exact ⟨⟨_, _, m4, rfl, HI.out.put (fun x hx => .inl hx) (fun x hx => by cases hx)⟩, u4.mono (fun x hx _ => HI.out.lv x hx)⟩
    clear B4 G4 HB3 HG3 HM HM1 HI HB1
    go_wp2
    go_ret
    exact ⟨by rw [HEV.out]; rfl, HF.out⟩
set_option maxRecDepth 8000 in
set_option maxHeartbeats 4000000 in
theorem rap_idx (S : Nat → Prop) (g : Nat) (A : List Tb) (id : Int) (s : ByteArray) (ec : List Value) (he : EnC 7 id s ec) (w : World) (h : Rfc w S g A) :
    Calls Try.prog 11 #[.pointer (some ⟨g, 0, none⟩), .agg ec.toArray] w fun e w' => e = .returned (.int .i64 (idxE A id s)) ∧ Hid (Rfc w' (Nw S w w') g (idxA A id s) ∧ Upd S w w') := by
  have HE : Hid (EnC 7 id s ec) := he
  obtain ⟨lv, L, hM, rfl, hI⟩ := h
  have HI : Hid (InR S g lv L) := hI
  have HM : Hid (RM w g lv L) := hM
  clear he hM hI
  go_enter Try.func11, Try.ntmps11
  go_wp2_with (refine al_box rfl 42 (.tmp 1) rfl ec rfl ?_)
  intro ge w1 l1 B1 G1
  have hb1 : Below w.heap.size w w1 := below_none (Below.refl _ _) (Nat.le_refl _) G1
  have HB1 : Hid (Below w.heap.size w w1) := hb1
  have HEB : Hid (Blk w1 ge 42 ec) := B1
  have HM1 : Hid (RM w1 g lv L) := HM.out.below hb1
  have q0 : w1.cell? ⟨ge, 0, none⟩ = some (.int .i64 7) := by rw [B1.cell]; exact HE.out.k
  have q1 : w1.cell? ⟨ge, 1, none⟩ = some (.string s) := by rw [B1.cell]; exact HE.out.s
  have q2 : w1.cell? ⟨ge, 2, none⟩ = some (.int .i64 id) := by rw [B1.cell]; exact HE.out.id
  have K := rthere_any g lv L id w1 HM1.out
  have HQE : Hid (∀ x : Int, idxE (strip L) id s = x → x ≠ 0 → Hid (Rfc w1 (Nw S w w1) g (idxA (strip L) id s) ∧ Upd S w w1)) := fun x hx h0 => by
    refine ⟨?_, Upd.of_below _ HB1.out⟩
    unfold idxA
    rw [if_neg (by rw [hx]; exact h0)]
    exact Rfc.mono ⟨_, L, HM1.out, rfl, HI.out⟩ (fun x hx => .inl hx)
  clear hb1 B1 G1 l1
  cases hlv : liveB (strip L) id with
  | false =>
    have HEV : Hid (idxE (strip L) id s = 7) := by show _ = _; unfold idxE; rw [if_pos hlv]
    have HF := HQE.out 7 HEV.out (by decide)
    rw [th_none hlv] at K
    clear hlv HQE
    go_wp2_with (go_at_call 26; refine K.mono ?_; clear K; rintro e w2 ⟨rfl, hw⟩; have hw' := hw.symm; subst hw'; clear hw)
    go_ret
    exact ⟨by rw [HEV.out]; rfl, HF.out⟩
  | true =>
    have HIE : Hid (idxE (strip L) id s = if nameB s = false then 3 else if hasB (strip L) id s = true then 8 else if 16 ≤ fieldsN (strip L) id then 17 else 0) := by show _ = _; unfold idxE; rw [if_neg (by rw [hlv]; decide)]
    have KN := rname_any s w1
    have KH := rhas_any S g (strip L) id s w1 ⟨lv, L, HM1.out, rfl, HI.out⟩
    obtain ⟨k, X, Y, nm, fs, fa, fc, b, c, sp, rfl, hX, rfl, rfl, hth, hbb, hbl, hcm, hlc⟩ := HM1.out.live hlv
    rw [hth] at K
    have HX : Hid (X.length = k) := hX
    have HXS : Hid (((strip X).length : Int) = ((k : Int) + 1) - 1) := by show _ = _; rw [strip_len, hX]; omega
    have HST : Hid (strip (X ++ ((⟨nm, fs, false⟩, .slice fa fs.length fc) : TV) :: Y) = strip X ++ ⟨nm, fs, false⟩ :: strip Y) := by show _ = _; simp [strip]
    have HFN : Hid (fieldsN (strip (X ++ ((⟨nm, fs, false⟩, .slice fa fs.length fc) : TV) :: Y)) ((k : Int) + 1) = fs.length) := by show _ = _; unfold fieldsN; rw [HST.out, tbl_at HXS.out]
    have HBB : Hid (Blk w1 b 50 (alC 0 X ++ ([.int .i64 ((X.length : Int) + 1), .string nm, .bool false, .slice fa fs.length fc] ++ (alC (X.length + 1) Y ++ sp)))) := by
      have := hbb
      rw [alC_mid] at this
      exact this
    have HCL : Hid ((alC 0 (X ++ ((⟨nm, fs, false⟩, .slice fa fs.length fc) : TV) :: Y) ++ sp).length = c * 4 ∧ c ≤ maxLen ∧ (X ++ ((⟨nm, fs, false⟩, .slice fa fs.length fc) : TV) :: Y).length ≤ c) := ⟨hbl, hcm, hlc⟩
    have HOK : Hid (OkT ⟨nm, fs, false⟩) := HM.out.ok.ok ⟨nm, fs, false⟩ (by simp [strip])
    have HFR : Hid (∀ W, Below w1.heap.size w1 W → W.ownsRow 0 9 1 (.slice fa fs.length fc) fs.length (sts fs)) := fun W hb => (HM1.out.below hb).fld ((⟨nm, fs, false⟩, .slice fa fs.length fc) : TV) (by simp)
    have a3 : w1.cell? ⟨b, k * 4 + 3, none⟩ = some (.slice fa fs.length fc) := by
      have := rt_rng hbb (k := k) (p := (⟨nm, fs, false⟩, .slice fa fs.length fc)) (by rw [← hX]; simp)
      exact this 3 _ rfl
    obtain ⟨m, hm⟩ : ∃ m, fs.length = m := ⟨_, rfl⟩
    have HFM : Hid (fs.length = m) := hm
    rw [hm] at a3
    have hm16 : m ≤ 16 := by have := HOK.out.len; rw [← hm]; exact this
    clear hlv hth hbb hbl hcm hlc hX hm
    cases hnm : nameB s with
    | false =>
      have HEV : Hid (idxE (strip (X ++ ((⟨nm, fs, false⟩, .slice fa fs.length fc) : TV) :: Y)) ((k : Int) + 1) s = 3) := by show _ = _; rw [HIE.out, if_pos hnm]
      have HF := HQE.out 3 HEV.out (by decide)
      rw [hnm] at KN
      clear hnm HQE HIE
      go_wp2_with (first | (go_at_call 26; refine K.mono ?_; clear K; rintro e w2 ⟨rfl, hw⟩; have hw' := hw.symm; subst hw'; clear hw) | (go_at_call 25; refine KN.mono ?_; clear KN; rintro e w2 ⟨rfl, hw⟩; have hw' := hw.symm; subst hw'; clear hw))
      go_ret
      exact ⟨by rw [HEV.out]; rfl, HF.out⟩
    | true =>
      have hs40 : s.size ≤ 40 := by
        have := hnm
        simp only [nameB, Bool.and_eq_true, decide_eq_true_eq] at this
        exact this.2
      rw [hnm] at KN
      cases hhs : hasB (strip (X ++ ((⟨nm, fs, false⟩, .slice fa fs.length fc) : TV) :: Y)) ((k : Int) + 1) s with
      | true =>
        have HEV : Hid (idxE (strip (X ++ ((⟨nm, fs, false⟩, .slice fa fs.length fc) : TV) :: Y)) ((k : Int) + 1) s = 8) := by show _ = _; rw [HIE.out, if_neg (by rw [hnm]; decide), if_pos hhs]
        have HF := HQE.out 8 HEV.out (by decide)
        rw [hhs] at KH
        clear hnm hhs HQE HIE
        go_wp2_with (first | (go_at_call 26; refine K.mono ?_; clear K; rintro e w2 ⟨rfl, hw⟩; have hw' := hw.symm; subst hw'; clear hw) | (go_at_call 25; refine KN.mono ?_; clear KN; rintro e w2 ⟨rfl, hw⟩; have hw' := hw.symm; subst hw'; clear hw) | (go_at_call 18; refine KH.mono ?_; clear KH; rintro e w2 ⟨rfl, hw⟩; have hw' := hw.symm; subst hw'; clear hw))
        go_ret
        exact ⟨by rw [HEV.out]; rfl, HF.out⟩
      | false =>
        rw [hhs] at KH
        by_cases h16 : 16 ≤ m
        · have h16' : (m : Int) ≥ 16 := by omega
          have HEV : Hid (idxE (strip (X ++ ((⟨nm, fs, false⟩, .slice fa fs.length fc) : TV) :: Y)) ((k : Int) + 1) s = 17) := by show _ = _; rw [HIE.out, if_neg (by rw [hnm]; decide), if_neg (by rw [hhs]; decide), HFN.out, HFM.out, if_pos h16]
          have HF := HQE.out 17 HEV.out (by decide)
          clear hnm hhs HQE HIE
          go_wp2_with (first | (go_at_call 26; refine K.mono ?_; clear K; rintro e w2 ⟨rfl, hw⟩; have hw' := hw.symm; subst hw'; clear hw) | (go_at_call 25; refine KN.mono ?_; clear KN; rintro e w2 ⟨rfl, hw⟩; have hw' := hw.symm; subst hw'; clear hw) | (go_at_call 18; refine KH.mono ?_; clear KH; rintro e w2 ⟨rfl, hw⟩; have hw' := hw.symm; subst hw'; clear hw))
          go_ret
          exact ⟨by rw [HEV.out]; rfl, HF.out⟩
        have h16' : ¬ (m : Int) ≥ 16 := by omega
        have HEV : Hid (idxE (strip (X ++ ((⟨nm, fs, false⟩, .slice fa fs.length fc) : TV) :: Y)) ((k : Int) + 1) s = 0) := by show _ = _; rw [HIE.out, if_neg (by rw [hnm]; decide), if_neg (by rw [hhs]; decide), HFN.out, HFM.out, if_neg h16]
        have HQ : Hid (idxA (strip (X ++ ((⟨nm, fs, false⟩, .slice fa fs.length fc) : TV) :: Y)) ((k : Int) + 1) s = strip X ++ ⟨nm, fs ++ [s], false⟩ :: strip Y) := by
          show _ = _
          unfold idxA
          rw [if_pos HEV.out, HST.out, updA_at HXS.out]
        have hnc : fa = none → m = 0 ∧ fc = 0 := fun e => by
          have := HFR.out w1 (Below.refl _ _)
          rw [e, HFM.out] at this
          rcases this.2 with ⟨e1, e2⟩ | ⟨_, _, _, e1, _⟩
          · injection e1 with _ e3 e4
            exact ⟨e3, e4⟩
          · cases e1
        clear hnm hhs HQE HIE HFN
        have hlive : Hid (w1.heap.size ≤ w1.heap.size) := Nat.le_refl _
        obtain ⟨C, hC⟩ : ∃ C : World → Prop, C = fun W => Below w1.heap.size w1 W := ⟨_, rfl⟩
        have F3 : Hid (∀ W, C W → W.cell? ⟨b, k * 4 + 3, none⟩ = some (.slice fa m fc)) := fun W hW => by rw [hC] at hW; exact (by have := (HBB.out.below hW HBB.out.lt); have h2 := this.cell (k * 4 + 3); rw [h2, ← HX.out, ← alC_len X 0, List.getElem?_append_right (by omega), Nat.add_sub_cancel_left, ← HFM.out]; rfl)
        have F1 : Hid (∀ W, C W → W.cell? ⟨ge, 1, none⟩ = some (.string s)) := fun W hW => by rw [hC] at hW; exact (by rw [(HEB.out.below hW HEB.out.lt).cell]; exact HE.out.s)
        have FR : Hid (∀ W, C W → W.ownsRow 0 9 1 (.slice fa m fc) m (sts fs)) := fun W hW => by rw [hC] at hW; exact (by have := HFR.out W hW; rw [HFM.out] at this; exact this)
        have CG : Hid (∀ w w', C w → Grow w w' → C w') := fun W W' h1 h2 => by rw [hC] at h1 ⊢; exact h1.trans (h2.mono h1.size)
        have CE : Hid (∀ W, C W → Below w1.heap.size w1 W) := fun W h => by rw [hC] at h; exact h
        have C0 : Hid (C { w1 with drawn := w1.drawn + 1 }) := by rw [hC]; exact Below.drew (Below.refl _ _)
        clear hC
        go_wp2_with (first | (go_at_call 26; refine K.mono ?_; clear K; rintro e w2 ⟨rfl, hw⟩; have hw' := hw.symm; subst hw'; clear hw) | (go_at_call 25; refine KN.mono ?_; clear KN; rintro e w2 ⟨rfl, hw⟩; have hw' := hw.symm; subst hw'; clear hw) | (go_at_call 18; refine KH.mono ?_; clear KH; rintro e w2 ⟨rfl, hw⟩; have hw' := hw.symm; subst hw'; clear hw))
        refine region_grow [10, 13] (by kernel_rfl) ?_
        have hCp : ∀ p : Prop, (∀ W, C W → p) ↔ p := fun p => ⟨fun h => h _ C0.out, fun h _ _ => h⟩
        generalize ({ w1 with drawn := w1.drawn + 1 } : World) = y0 at *
        have hCq := anyw_p y0
        refine segF 13 [0] rfl (by kernel_rfl) whole_blind (by decide +kernel) ?_
        change wpQuiet _ _ _ _ (_ :: []) _
        repeat (first
          | go_big_quiet_skip
          | (go_big_quiet_want
             first
             | (go_big_quiet_op
                go_big_quiet_on)))
        refine wpQuiet_nil ?_
        clear hCq
        refine segR 7 [2, 3, 4, 5, 7, 8] rfl (by kernel_rfl) whole_blind CG.out C0.out (by decide +kernel) ?_
        change wpQuiet _ _ _ _ (_ :: _ :: _ :: _ :: _ :: _ :: []) _
        repeat (first
          | go_big_quiet_skip
          | (go_big_quiet_want
             first
             | (refine q_cell 33 (by simp) (.tmp 101) rfl b (k * 4 + 3) rfl _ F3.out ?_
                simp only [Act.put, List.setIfInBounds_toArray, List.set_cons_zero, List.set_cons_succ]
                go_big_quiet_on)
             | (refine q_cell 9 (by simp) (.tmp 104) rfl ge 1 rfl _ F1.out ?_
                simp only [Act.put, List.setIfInBounds_toArray, List.set_cons_zero, List.set_cons_succ]
                go_big_quiet_on)
             | (go_big_quiet_op
                go_big_quiet_on)))
        refine wpQuiet_nil ?_
        have HONE : Hid (∀ u ∈ sts fs, u.oneCell' = true) := fun u hu => by simp only [sts, List.mem_map] at hu; obtain ⟨x, _, rfl⟩ := hu; rfl
        refine one_ofR 6 rfl [1, 9] (by decide +kernel) (by simp) fun j hj => ?_
        simp only [List.mem_cons, List.not_mem_nil, or_false] at hj
        rcases hj with rfl | rfl
        · refine ⟨_, rfl, (by rfl), fun u1 hu1 K hK => ?_⟩
          have Cu1 : Hid (C u1) := CG.out _ _ C0.out hu1
          clear hu1
          refine oper_bs0 33 9 (by simp) rfl ?_
          obtain ⟨v1, ev1⟩ : ∃ v1, v1 = u1.alloc (.cells #[] 9) := ⟨_, rfl⟩
          have Gv1 : Grow u1 v1 := by rw [ev1]; exact (Grow.refl u1).alloc _
          have HNB : Hid (Blk v1 u1.heap.size 9 [] ∧ w1.heap.size ≤ u1.heap.size) := ⟨by rw [ev1]; exact blk_new _ _ _, (CE.out _ Cu1.out).size⟩
          rw [← ev1]
          clear ev1
          refine hK _ _ (.inr Gv1) ?_
          clear hK K
          simp only [Act.put, List.setIfInBounds_toArray, List.set_cons_zero, List.set_cons_succ]
          have Cv1 : Hid (C v1) := CG.out _ _ Cu1.out Gv1
          clear Gv1 Cu1
          generalize u1.heap.size = nb at *
          refine one_ofR 5 rfl [6, 9] (by decide +kernel) (by simp) fun j hj => ?_
          simp only [List.mem_cons, List.not_mem_nil, or_false] at hj
          rcases hj with rfl | rfl
          · refine ⟨_, rfl, (by rfl), fun u2 hu2 K hK => ?_⟩
            have Cu2 : Hid (C u2) := CG.out _ _ Cv1.out hu2
            have HNB : Hid (Blk u2 nb 9 [] ∧ w1.heap.size ≤ nb) := ⟨HNB.out.1.grow hu2, HNB.out.2⟩
            clear hu2
            have r2 := FR.out _ Cu2.out
            refine oper_appE (.tmp 98) (.tmp 102) 33 9 1 rfl (by decide) Try.underlying33 iSt nb rfl HNB.out.1 fa m fc rfl hnc (sts fs) (by rw [← HFM.out]; simp [sts]) (row_cells r2) HONE.out (by omega) ?_
            intro e6 v2 hr6 Gv2 ho6
            obtain ⟨ea, ecp, rfl, _, _⟩ := row_val hr6
            have HV6 : Hid (v2.ownsRow 0 9 1 (.slice ea m ecp) m (sts fs) ∧ ∀ x, (Value.slice ea m ecp).ownBlock = some x → w1.heap.size ≤ x) := ⟨hr6, fun x hx => by
              rcases ho6 with e | e
              · rw [hx] at e; injection e with e; subst e; exact HNB.out.2
              · rw [hx] at e; injection e with e; subst e; exact (CE.out _ Cu2.out).size⟩
            clear r2 hr6 ho6 HNB
            refine hK _ _ (.inr Gv2) ?_
            clear hK K
            simp only [Act.put, List.setIfInBounds_toArray, List.set_cons_zero, List.set_cons_succ]
            have Cv2 : Hid (C v2) := CG.out _ _ Cu2.out Gv2
            clear Gv2 Cu2
            refine one_ofR 4 rfl [9] (by decide +kernel) (by simp) fun j hj => ?_
            obtain rfl := List.mem_singleton.1 hj
            refine ⟨_, rfl, (by rfl), fun u3 hu3 K hK => ?_⟩
            have Cu3 : Hid (C u3) := CG.out _ _ Cv2.out hu3
            have HV6 : Hid (u3.ownsRow 0 9 1 (.slice ea m ecp) m (sts fs) ∧ ∀ x, (Value.slice ea m ecp).ownBlock = some x → w1.heap.size ≤ x) := ⟨own_upd HV6.out.1 (Upd.of_below Non hu3) (fun _ _ q => q), HV6.out.2⟩
            clear hu3
            refine oper_bsS 105 rfl s rfl ?_
            obtain ⟨v3, ev3⟩ : ∃ v3, v3 = u3.alloc (.cells #[.string s] 9) := ⟨_, rfl⟩
            have Gv3 : Grow u3 v3 := by rw [ev3]; exact (Grow.refl u3).alloc _
            have HNB2 : Hid (Blk v3 u3.heap.size 9 [.string s]) := by show Blk _ _ _ _; rw [ev3]; exact blk_new _ _ _
            rw [← ev3]
            clear ev3
            refine hK _ _ (.inr Gv3) ?_
            clear hK K
            simp only [Act.put, List.setIfInBounds_toArray, List.set_cons_zero, List.set_cons_succ]
            have Cv3 : Hid (C v3) := CG.out _ _ Cu3.out Gv3
            have HV6 : Hid (v3.ownsRow 0 9 1 (.slice ea m ecp) m (sts fs) ∧ ∀ x, (Value.slice ea m ecp).ownBlock = some x → w1.heap.size ≤ x) := ⟨own_upd HV6.out.1 (Upd.of_below Non Gv3) (fun _ _ q => q), HV6.out.2⟩
            clear Gv3 Cu3
            generalize u3.heap.size = nb2 at *
            refine one_ofR 3 rfl [10] (by decide +kernel) (by simp) fun j hj => ?_
            obtain rfl := List.mem_singleton.1 hj
            refine ⟨_, rfl, (by rfl), fun y5 hy5 K hK => ?_⟩
            have Cy5 : Hid (C y5) := CG.out _ _ Cv3.out hy5
            have HNB2' := HNB2.out.grow hy5
            have r5 := own_upd HV6.out.1 (Upd.of_below Non hy5) (fun _ _ q => q)
            clear hy5
            refine oper_app (.tmp 103) (.tmp 106) 33 9 1 rfl (by decide) Try.underlying33 iSt _ m (sts fs) rfl r5 (some ⟨nb2, 0, none⟩) 1 1 rfl (by simp) [.string s] rfl (fun ad e j u hj => by
              injection e with e
              subst e
              have := HNB2'.cell j
              rw [hj] at this
              rw [Addr.add_lit, Nat.zero_add]
              exact this) (by simp; rfl) (by omega) ?_
            intro v' y6 hr13 hg13 ho13
            clear HNB2' r5
            refine hK _ _ (.inl (by simp)) ?_
            clear hK K
            simp only [Act.put, List.setIfInBounds_toArray, List.set_cons_zero, List.set_cons_succ]
            obtain ⟨a', c', rfl, _, _⟩ := row_val hr13
            have HR6 : Hid (y6.ownsRow 0 9 1 (.slice a' (m + 1) c') (m + 1) (sts fs ++ [.string s]) ∧ Below w1.heap.size w1 y6 ∧ ∀ x, (Value.slice a' (m + 1) c').ownBlock = some x → w1.heap.size ≤ x) := by
              refine ⟨hr13, (CE.out _ Cy5.out).grown hg13 (CE.out _ Cy5.out).size (fun r e => HV6.out.2 r e), fun x hx => ?_⟩
              rcases ho13 with e | e
              · rw [e] at hx; exact HV6.out.2 x hx
              · rw [hx] at e; injection e with e; subst e; exact (CE.out _ Cy5.out).size
            clear hr13 hg13 ho13 HV6 HNB2 Cy5 CE CG F1 F3 FR
            have hCq := anyw_p y6
            refine segF 1 [11, 12] rfl (by kernel_rfl) whole_blind (by decide +kernel) ?_
            change wpQuiet _ _ _ _ (_ :: _ :: []) _
            repeat (first
              | go_big_quiet_skip
              | (go_big_quiet_want
                 first
                 | (go_big_quiet_op
                    go_big_quiet_on)))
            refine wpQuiet_nil ?_
            clear hCq
            refine one_ofR 0 rfl [13] (by decide +kernel) (by simp) fun j hj => ?_
            obtain rfl := List.mem_singleton.1 hj
            refine ⟨_, rfl, (by rfl), fun y7 hy7 K hK => ?_⟩
            have HR7 : Hid (y7.ownsRow 0 9 1 (.slice a' (m + 1) c') (m + 1) (sts fs ++ [.string s]) ∧ Below w1.heap.size w1 y7) := ⟨own_upd HR6.out.1 (Upd.of_below Non hy7) (fun _ _ q => q), HR6.out.2.1.trans (hy7.mono HR6.out.2.1.size)⟩
            have HB7 : Hid (Blk y7 b 50 (alC 0 X ++ ([.int .i64 ((X.length : Int) + 1), .string nm, .bool false, .slice fa fs.length fc] ++ (alC (X.length + 1) Y ++ sp)))) := HBB.out.below HR7.out.2 HBB.out.lt
            clear hy7
            refine oper_one 33 (.tmp 109) (.tmp 107) rfl b (k * 4 + 3) 50 _ (.slice a' (m + 1) c') rfl rfl rfl rfl (by simp [alC_len, HX.out]) HB7.out s33 ?_
            intro y8 B8 G8
            refine hK _ _ (.inl (by simp)) ?_
            clear hK K
            simp only [Act.put, List.setIfInBounds_toArray, List.set_cons_zero, List.set_cons_succ]
            rw [← HX.out] at B8
            first | rw [al_set3] at B8 | rw [al_set 3 (by decide)] at B8
            have HF : Hid (Rfc y8 (Nw S w y8) g (idxA (strip (X ++ ((⟨nm, fs, false⟩, .slice fa fs.length fc) : TV) :: Y)) ((k : Int) + 1) s) ∧ Upd S w y8) := by
              rw [HQ.out]
              have u8 : Upd (fun x => (Value.slice (some ⟨b, 0, none⟩) (X ++ ((⟨nm, fs, false⟩, .slice fa fs.length fc) : TV) :: Y).length c).ownBlock = some x) w y8 :=
                ((Upd.of_below _ HB1.out).trans (Upd.of_below Non HR7.out.2) (fun x q => q.elim)).trans (Upd.of_by G8 (S := fun x => x = b) (fun x hx => (Option.some.inj hx).symm)) (fun x hx _ => by rw [hx]; rfl)
              have e1 := alC_mid X Y ((⟨nm, fs ++ [s], false⟩, .slice a' (m + 1) c') : TV) sp
              have r8 : y8.ownsRow 0 50 4 (.slice (some ⟨b, 0, none⟩) (X ++ ((⟨nm, fs, false⟩, .slice fa fs.length fc) : TV) :: Y).length c) (X ++ ((⟨nm, fs, false⟩, .slice fa fs.length fc) : TV) :: Y).length (alC 0 (X ++ ((⟨nm, fs ++ [s], false⟩, .slice a' (m + 1) c') : TV) :: Y)) := by
                refine val_row (sp := sp) (by rw [e1]; exact B8) HCL.out.2.2 ?_ HCL.out.2.1 ?_
                · rw [← HCL.out.1]; simp [alC_len]
                · rw [alC_len]; simp
              have f8 : y8.ownsRow 0 9 1 (.slice a' (m + 1) c') (m + 1) (sts fs ++ [.string s]) := HR7.out.1.kept G8 (.inr (fun e => tag_ne HR7.out.1 HB7.out (by decide) e))
              have ok8 : OkT ⟨nm, fs ++ [s], false⟩ := by
                refine ⟨HOK.out.name, fun x hx => ?_, ?_, fun hg => by cases hg⟩
                · rcases List.mem_append.1 hx with hx | hx
                  · exact HOK.out.fs x hx
                  · rw [List.mem_singleton.1 hx]; exact hs40
                · show (fs ++ [s]).length ≤ 16
                  rw [List.length_append, HFM.out]; simp; omega
              have m8 := HM.out.changed (p' := ((⟨nm, fs ++ [s], false⟩, .slice a' (m + 1) c') : TV)) u8 r8 (by
                show y8.ownsRow 0 9 1 (.slice a' (m + 1) c') (fs ++ [s]).length (sts (fs ++ [s]))
                have e2 : sts (fs ++ [s]) = sts fs ++ [.string s] := by simp [sts]
                rw [e2, List.length_append, HFM.out]
                exact f8) ok8
              refine ⟨⟨_, _, m8, by simp [strip], HI.out.put (fun x hx => .inl hx) (fun x hx => .inr ⟨Nat.le_trans HB1.out.size (HR6.out.2.2 x hx), row_lt f8 hx⟩)⟩, u8.mono (fun x hx _ => HI.out.lv x hx)⟩
            clear B8 G8 HR7 HB7 HR6 HM HM1 HI HE HEB
            refine doneR (by kernel_rfl) fun y9 hy => ?_
            have HF9 : Hid (Rfc y9 (Nw S w y9) g (idxA (strip (X ++ ((⟨nm, fs, false⟩, .slice fa fs.length fc) : TV) :: Y)) ((k : Int) + 1) s) ∧ Upd S w y9) :=
              ⟨(HF.out.1.below hy).mono (fun x hx => hx.imp (fun q => q) (fun q => ⟨q.1, Nat.lt_of_lt_of_le q.2 hy.size⟩)), HF.out.2.trans (Upd.of_below Non hy) (fun x q => q.elim)⟩
            clear hy HF
            go_wp2
            go_ret
            exact ⟨by rw [HEV.out]; rfl, HF9.out⟩
          · refine ⟨_, rfl, (by rfl), fun u4 hu4 K hK => ?_⟩
            have Cu4 : Hid (C u4) := CG.out _ _ Cv1.out hu4
            have HNB : Hid (Blk u4 nb 9 [] ∧ w1.heap.size ≤ nb) := ⟨HNB.out.1.grow hu4, HNB.out.2⟩
            clear hu4
            refine oper_bsS 105 rfl s rfl ?_
            obtain ⟨v4, ev4⟩ : ∃ v4, v4 = u4.alloc (.cells #[.string s] 9) := ⟨_, rfl⟩
            have Gv4 : Grow u4 v4 := by rw [ev4]; exact (Grow.refl u4).alloc _
            have HNB2 : Hid (Blk v4 u4.heap.size 9 [.string s]) := by show Blk _ _ _ _; rw [ev4]; exact blk_new _ _ _
            rw [← ev4]
            clear ev4
            refine hK _ _ (.inr Gv4) ?_
            clear hK K
            simp only [Act.put, List.setIfInBounds_toArray, List.set_cons_zero, List.set_cons_succ]
            have Cv4 : Hid (C v4) := CG.out _ _ Cu4.out Gv4
            have HNB : Hid (Blk v4 nb 9 [] ∧ w1.heap.size ≤ nb) := ⟨HNB.out.1.grow Gv4, HNB.out.2⟩
            clear Gv4 Cu4
            generalize u4.heap.size = nb2 at *
            refine one_ofR 4 rfl [6] (by decide +kernel) (by simp) fun j hj => ?_
            obtain rfl := List.mem_singleton.1 hj
            refine ⟨_, rfl, (by rfl), fun u5 hu5 K hK => ?_⟩
            have Cu5 : Hid (C u5) := CG.out _ _ Cv4.out hu5
            have HNB : Hid (Blk u5 nb 9 [] ∧ w1.heap.size ≤ nb) := ⟨HNB.out.1.grow hu5, HNB.out.2⟩
            have HNB2 : Hid (Blk u5 nb2 9 [.string s]) := HNB2.out.grow hu5
            clear hu5
            have r5 := FR.out _ Cu5.out
            refine oper_appE (.tmp 98) (.tmp 102) 33 9 1 rfl (by decide) Try.underlying33 iSt nb rfl HNB.out.1 fa m fc rfl hnc (sts fs) (by rw [← HFM.out]; simp [sts]) (row_cells r5) HONE.out (by omega) ?_
            intro e6 v5 hr6 Gv5 ho6
            obtain ⟨ea, ecp, rfl, _, _⟩ := row_val hr6
            have HV6 : Hid (v5.ownsRow 0 9 1 (.slice ea m ecp) m (sts fs) ∧ ∀ x, (Value.slice ea m ecp).ownBlock = some x → w1.heap.size ≤ x) := ⟨hr6, fun x hx => by
              rcases ho6 with e | e
              · rw [hx] at e; injection e with e; subst e; exact HNB.out.2
              · rw [hx] at e; injection e with e; subst e; exact (CE.out _ Cu5.out).size⟩
            clear r5 hr6 ho6 HNB
            refine hK _ _ (.inr Gv5) ?_
            clear hK K
            simp only [Act.put, List.setIfInBounds_toArray, List.set_cons_zero, List.set_cons_succ]
            have Cv5 : Hid (C v5) := CG.out _ _ Cu5.out Gv5
            have HNB2 : Hid (Blk v5 nb2 9 [.string s]) := HNB2.out.grow Gv5
            clear Gv5 Cu5
            refine one_ofR 3 rfl [10] (by decide +kernel) (by simp) fun j hj => ?_
            obtain rfl := List.mem_singleton.1 hj
            refine ⟨_, rfl, (by rfl), fun y5 hy5 K hK => ?_⟩
            have Cy5 : Hid (C y5) := CG.out _ _ Cv5.out hy5
            have HNB2' := HNB2.out.grow hy5
            have r5 := own_upd HV6.out.1 (Upd.of_below Non hy5) (fun _ _ q => q)
            clear hy5
            refine oper_app (.tmp 103) (.tmp 106) 33 9 1 rfl (by decide) Try.underlying33 iSt _ m (sts fs) rfl r5 (some ⟨nb2, 0, none⟩) 1 1 rfl (by simp) [.string s] rfl (fun ad e j u hj => by
              injection e with e
              subst e
              have := HNB2'.cell j
              rw [hj] at this
              rw [Addr.add_lit, Nat.zero_add]
              exact this) (by simp; rfl) (by omega) ?_
            intro v' y6 hr13 hg13 ho13
            clear HNB2' r5
            refine hK _ _ (.inl (by simp)) ?_
            clear hK K
            simp only [Act.put, List.setIfInBounds_toArray, List.set_cons_zero, List.set_cons_succ]
            obtain ⟨a', c', rfl, _, _⟩ := row_val hr13
            have HR6 : Hid (y6.ownsRow 0 9 1 (.slice a' (m + 1) c') (m + 1) (sts fs ++ [.string s]) ∧ Below w1.heap.size w1 y6 ∧ ∀ x, (Value.slice a' (m + 1) c').ownBlock = some x → w1.heap.size ≤ x) := by
              refine ⟨hr13, (CE.out _ Cy5.out).grown hg13 (CE.out _ Cy5.out).size (fun r e => HV6.out.2 r e), fun x hx => ?_⟩
              rcases ho13 with e | e
              · rw [e] at hx; exact HV6.out.2 x hx
              · rw [hx] at e; injection e with e; subst e; exact (CE.out _ Cy5.out).size
            clear hr13 hg13 ho13 HV6 HNB2 Cy5 CE CG F1 F3 FR
            have hCq := anyw_p y6
            refine segF 1 [11, 12] rfl (by kernel_rfl) whole_blind (by decide +kernel) ?_
            change wpQuiet _ _ _ _ (_ :: _ :: []) _
            repeat (first
              | go_big_quiet_skip
              | (go_big_quiet_want
                 first
                 | (go_big_quiet_op
                    go_big_quiet_on)))
            refine wpQuiet_nil ?_
            clear hCq
            refine one_ofR 0 rfl [13] (by decide +kernel) (by simp) fun j hj => ?_
            obtain rfl := List.mem_singleton.1 hj
            refine ⟨_, rfl, (by rfl), fun y7 hy7 K hK => ?_⟩
            have HR7 : Hid (y7.ownsRow 0 9 1 (.slice a' (m + 1) c') (m + 1) (sts fs ++ [.string s]) ∧ Below w1.heap.size w1 y7) := ⟨own_upd HR6.out.1 (Upd.of_below Non hy7) (fun _ _ q => q), HR6.out.2.1.trans (hy7.mono HR6.out.2.1.size)⟩
            have HB7 : Hid (Blk y7 b 50 (alC 0 X ++ ([.int .i64 ((X.length : Int) + 1), .string nm, .bool false, .slice fa fs.length fc] ++ (alC (X.length + 1) Y ++ sp)))) := HBB.out.below HR7.out.2 HBB.out.lt
            clear hy7
            refine oper_one 33 (.tmp 109) (.tmp 107) rfl b (k * 4 + 3) 50 _ (.slice a' (m + 1) c') rfl rfl rfl rfl (by simp [alC_len, HX.out]) HB7.out s33 ?_
            intro y8 B8 G8
            refine hK _ _ (.inl (by simp)) ?_
            clear hK K
            simp only [Act.put, List.setIfInBounds_toArray, List.set_cons_zero, List.set_cons_succ]
            rw [← HX.out] at B8
            first | rw [al_set3] at B8 | rw [al_set 3 (by decide)] at B8
            have HF : Hid (Rfc y8 (Nw S w y8) g (idxA (strip (X ++ ((⟨nm, fs, false⟩, .slice fa fs.length fc) : TV) :: Y)) ((k : Int) + 1) s) ∧ Upd S w y8) := by
              rw [HQ.out]
              have u8 : Upd (fun x => (Value.slice (some ⟨b, 0, none⟩) (X ++ ((⟨nm, fs, false⟩, .slice fa fs.length fc) : TV) :: Y).length c).ownBlock = some x) w y8 :=
                ((Upd.of_below _ HB1.out).trans (Upd.of_below Non HR7.out.2) (fun x q => q.elim)).trans (Upd.of_by G8 (S := fun x => x = b) (fun x hx => (Option.some.inj hx).symm)) (fun x hx _ => by rw [hx]; rfl)
              have e1 := alC_mid X Y ((⟨nm, fs ++ [s], false⟩, .slice a' (m + 1) c') : TV) sp
              have r8 : y8.ownsRow 0 50 4 (.slice (some ⟨b, 0, none⟩) (X ++ ((⟨nm, fs, false⟩, .slice fa fs.length fc) : TV) :: Y).length c) (X ++ ((⟨nm, fs, false⟩, .slice fa fs.length fc) : TV) :: Y).length (alC 0 (X ++ ((⟨nm, fs ++ [s], false⟩, .slice a' (m + 1) c') : TV) :: Y)) := by
                refine val_row (sp := sp) (by rw [e1]; exact B8) HCL.out.2.2 ?_ HCL.out.2.1 ?_
                · rw [← HCL.out.1]; simp [alC_len]
                · rw [alC_len]; simp
              have f8 : y8.ownsRow 0 9 1 (.slice a' (m + 1) c') (m + 1) (sts fs ++ [.string s]) := HR7.out.1.kept G8 (.inr (fun e => tag_ne HR7.out.1 HB7.out (by decide) e))
              have ok8 : OkT ⟨nm, fs ++ [s], false⟩ := by
                refine ⟨HOK.out.name, fun x hx => ?_, ?_, fun hg => by cases hg⟩
                · rcases List.mem_append.1 hx with hx | hx
                  · exact HOK.out.fs x hx
                  · rw [List.mem_singleton.1 hx]; exact hs40
                · show (fs ++ [s]).length ≤ 16
                  rw [List.length_append, HFM.out]; simp; omega
              have m8 := HM.out.changed (p' := ((⟨nm, fs ++ [s], false⟩, .slice a' (m + 1) c') : TV)) u8 r8 (by
                show y8.ownsRow 0 9 1 (.slice a' (m + 1) c') (fs ++ [s]).length (sts (fs ++ [s]))
                have e2 : sts (fs ++ [s]) = sts fs ++ [.string s] := by simp [sts]
                rw [e2, List.length_append, HFM.out]
                exact f8) ok8
              refine ⟨⟨_, _, m8, by simp [strip], HI.out.put (fun x hx => .inl hx) (fun x hx => .inr ⟨Nat.le_trans HB1.out.size (HR6.out.2.2 x hx), row_lt f8 hx⟩)⟩, u8.mono (fun x hx _ => HI.out.lv x hx)⟩
            clear B8 G8 HR7 HB7 HR6 HM HM1 HI HE HEB
            refine doneR (by kernel_rfl) fun y9 hy => ?_
            have HF9 : Hid (Rfc y9 (Nw S w y9) g (idxA (strip (X ++ ((⟨nm, fs, false⟩, .slice fa fs.length fc) : TV) :: Y)) ((k : Int) + 1) s) ∧ Upd S w y9) :=
              ⟨(HF.out.1.below hy).mono (fun x hx => hx.imp (fun q => q) (fun q => ⟨q.1, Nat.lt_of_lt_of_le q.2 hy.size⟩)), HF.out.2.trans (Upd.of_below Non hy) (fun x q => q.elim)⟩
            clear hy HF
            go_wp2
            go_ret
            exact ⟨by rw [HEV.out]; rfl, HF9.out⟩
        · refine ⟨_, rfl, (by rfl), fun u6 hu6 K hK => ?_⟩
          have Cu6 : Hid (C u6) := CG.out _ _ C0.out hu6
          clear hu6
          refine oper_bsS 105 rfl s rfl ?_
          obtain ⟨v6, ev6⟩ : ∃ v6, v6 = u6.alloc (.cells #[.string s] 9) := ⟨_, rfl⟩
          have Gv6 : Grow u6 v6 := by rw [ev6]; exact (Grow.refl u6).alloc _
          have HNB2 : Hid (Blk v6 u6.heap.size 9 [.string s]) := by show Blk _ _ _ _; rw [ev6]; exact blk_new _ _ _
          rw [← ev6]
          clear ev6
          refine hK _ _ (.inr Gv6) ?_
          clear hK K
          simp only [Act.put, List.setIfInBounds_toArray, List.set_cons_zero, List.set_cons_succ]
          have Cv6 : Hid (C v6) := CG.out _ _ Cu6.out Gv6
          clear Gv6 Cu6
          generalize u6.heap.size = nb2 at *
          refine one_ofR 5 rfl [1] (by decide +kernel) (by simp) fun j hj => ?_
          obtain rfl := List.mem_singleton.1 hj
          refine ⟨_, rfl, (by rfl), fun u7 hu7 K hK => ?_⟩
          have Cu7 : Hid (C u7) := CG.out _ _ Cv6.out hu7
          have HNB2 : Hid (Blk u7 nb2 9 [.string s]) := HNB2.out.grow hu7
          clear hu7
          refine oper_bs0 33 9 (by simp) rfl ?_
          obtain ⟨v7, ev7⟩ : ∃ v7, v7 = u7.alloc (.cells #[] 9) := ⟨_, rfl⟩
          have Gv7 : Grow u7 v7 := by rw [ev7]; exact (Grow.refl u7).alloc _
          have HNB : Hid (Blk v7 u7.heap.size 9 [] ∧ w1.heap.size ≤ u7.heap.size) := ⟨by rw [ev7]; exact blk_new _ _ _, (CE.out _ Cu7.out).size⟩
          rw [← ev7]
          clear ev7
          refine hK _ _ (.inr Gv7) ?_
          clear hK K
          simp only [Act.put, List.setIfInBounds_toArray, List.set_cons_zero, List.set_cons_succ]
          have Cv7 : Hid (C v7) := CG.out _ _ Cu7.out Gv7
          have HNB2 : Hid (Blk v7 nb2 9 [.string s]) := HNB2.out.grow Gv7
          clear Gv7 Cu7
          generalize u7.heap.size = nb at *
          refine one_ofR 4 rfl [6] (by decide +kernel) (by simp) fun j hj => ?_
          obtain rfl := List.mem_singleton.1 hj
          refine ⟨_, rfl, (by rfl), fun u8 hu8 K hK => ?_⟩
          have Cu8 : Hid (C u8) := CG.out _ _ Cv7.out hu8
          have HNB : Hid (Blk u8 nb 9 [] ∧ w1.heap.size ≤ nb) := ⟨HNB.out.1.grow hu8, HNB.out.2⟩
          have HNB2 : Hid (Blk u8 nb2 9 [.string s]) := HNB2.out.grow hu8
          clear hu8
          have r8 := FR.out _ Cu8.out
          refine oper_appE (.tmp 98) (.tmp 102) 33 9 1 rfl (by decide) Try.underlying33 iSt nb rfl HNB.out.1 fa m fc rfl hnc (sts fs) (by rw [← HFM.out]; simp [sts]) (row_cells r8) HONE.out (by omega) ?_
          intro e6 v8 hr6 Gv8 ho6
          obtain ⟨ea, ecp, rfl, _, _⟩ := row_val hr6
          have HV6 : Hid (v8.ownsRow 0 9 1 (.slice ea m ecp) m (sts fs) ∧ ∀ x, (Value.slice ea m ecp).ownBlock = some x → w1.heap.size ≤ x) := ⟨hr6, fun x hx => by
            rcases ho6 with e | e
            · rw [hx] at e; injection e with e; subst e; exact HNB.out.2
            · rw [hx] at e; injection e with e; subst e; exact (CE.out _ Cu8.out).size⟩
          clear r8 hr6 ho6 HNB
          refine hK _ _ (.inr Gv8) ?_
          clear hK K
          simp only [Act.put, List.setIfInBounds_toArray, List.set_cons_zero, List.set_cons_succ]
          have Cv8 : Hid (C v8) := CG.out _ _ Cu8.out Gv8
          have HNB2 : Hid (Blk v8 nb2 9 [.string s]) := HNB2.out.grow Gv8
          clear Gv8 Cu8
          refine one_ofR 3 rfl [10] (by decide +kernel) (by simp) fun j hj => ?_
          obtain rfl := List.mem_singleton.1 hj
          refine ⟨_, rfl, (by rfl), fun y5 hy5 K hK => ?_⟩
          have Cy5 : Hid (C y5) := CG.out _ _ Cv8.out hy5
          have HNB2' := HNB2.out.grow hy5
          have r5 := own_upd HV6.out.1 (Upd.of_below Non hy5) (fun _ _ q => q)
          clear hy5
          refine oper_app (.tmp 103) (.tmp 106) 33 9 1 rfl (by decide) Try.underlying33 iSt _ m (sts fs) rfl r5 (some ⟨nb2, 0, none⟩) 1 1 rfl (by simp) [.string s] rfl (fun ad e j u hj => by
            injection e with e
            subst e
            have := HNB2'.cell j
            rw [hj] at this
            rw [Addr.add_lit, Nat.zero_add]
            exact this) (by simp; rfl) (by omega) ?_
          intro v' y6 hr13 hg13 ho13
          clear HNB2' r5
          refine hK _ _ (.inl (by simp)) ?_
          clear hK K
          simp only [Act.put, List.setIfInBounds_toArray, List.set_cons_zero, List.set_cons_succ]
          obtain ⟨a', c', rfl, _, _⟩ := row_val hr13
          have HR6 : Hid (y6.ownsRow 0 9 1 (.slice a' (m + 1) c') (m + 1) (sts fs ++ [.string s]) ∧ Below w1.heap.size w1 y6 ∧ ∀ x, (Value.slice a' (m + 1) c').ownBlock = some x → w1.heap.size ≤ x) := by
            refine ⟨hr13, (CE.out _ Cy5.out).grown hg13 (CE.out _ Cy5.out).size (fun r e => HV6.out.2 r e), fun x hx => ?_⟩
            rcases ho13 with e | e
            · rw [e] at hx; exact HV6.out.2 x hx
            · rw [hx] at e; injection e with e; subst e; exact (CE.out _ Cy5.out).size
          clear hr13 hg13 ho13 HV6 HNB2 Cy5 CE CG F1 F3 FR
          have hCq := anyw_p y6
          refine segF 1 [11, 12] rfl (by kernel_rfl) whole_blind (by decide +kernel) ?_
          change wpQuiet _ _ _ _ (_ :: _ :: []) _
          repeat (first
            | go_big_quiet_skip
            | (go_big_quiet_want
               first
               | (go_big_quiet_op
                  go_big_quiet_on)))
          refine wpQuiet_nil ?_
          clear hCq
          refine one_ofR 0 rfl [13] (by decide +kernel) (by simp) fun j hj => ?_
          obtain rfl := List.mem_singleton.1 hj
          refine ⟨_, rfl, (by rfl), fun y7 hy7 K hK => ?_⟩
          have HR7 : Hid (y7.ownsRow 0 9 1 (.slice a' (m + 1) c') (m + 1) (sts fs ++ [.string s]) ∧ Below w1.heap.size w1 y7) := ⟨own_upd HR6.out.1 (Upd.of_below Non hy7) (fun _ _ q => q), HR6.out.2.1.trans (hy7.mono HR6.out.2.1.size)⟩
          have HB7 : Hid (Blk y7 b 50 (alC 0 X ++ ([.int .i64 ((X.length : Int) + 1), .string nm, .bool false, .slice fa fs.length fc] ++ (alC (X.length + 1) Y ++ sp)))) := HBB.out.below HR7.out.2 HBB.out.lt
          clear hy7
          refine oper_one 33 (.tmp 109) (.tmp 107) rfl b (k * 4 + 3) 50 _ (.slice a' (m + 1) c') rfl rfl rfl rfl (by simp [alC_len, HX.out]) HB7.out s33 ?_
          intro y8 B8 G8
          refine hK _ _ (.inl (by simp)) ?_
          clear hK K
          simp only [Act.put, List.setIfInBounds_toArray, List.set_cons_zero, List.set_cons_succ]
          rw [← HX.out] at B8
          first | rw [al_set3] at B8 | rw [al_set 3 (by decide)] at B8
          have HF : Hid (Rfc y8 (Nw S w y8) g (idxA (strip (X ++ ((⟨nm, fs, false⟩, .slice fa fs.length fc) : TV) :: Y)) ((k : Int) + 1) s) ∧ Upd S w y8) := by
            rw [HQ.out]
            have u8 : Upd (fun x => (Value.slice (some ⟨b, 0, none⟩) (X ++ ((⟨nm, fs, false⟩, .slice fa fs.length fc) : TV) :: Y).length c).ownBlock = some x) w y8 :=
              ((Upd.of_below _ HB1.out).trans (Upd.of_below Non HR7.out.2) (fun x q => q.elim)).trans (Upd.of_by G8 (S := fun x => x = b) (fun x hx => (Option.some.inj hx).symm)) (fun x hx _ => by rw [hx]; rfl)
            have e1 := alC_mid X Y ((⟨nm, fs ++ [s], false⟩, .slice a' (m + 1) c') : TV) sp
            have r8 : y8.ownsRow 0 50 4 (.slice (some ⟨b, 0, none⟩) (X ++ ((⟨nm, fs, false⟩, .slice fa fs.length fc) : TV) :: Y).length c) (X ++ ((⟨nm, fs, false⟩, .slice fa fs.length fc) : TV) :: Y).length (alC 0 (X ++ ((⟨nm, fs ++ [s], false⟩, .slice a' (m + 1) c') : TV) :: Y)) := by
              refine val_row (sp := sp) (by rw [e1]; exact B8) HCL.out.2.2 ?_ HCL.out.2.1 ?_
              · rw [← HCL.out.1]; simp [alC_len]
              · rw [alC_len]; simp
            have f8 : y8.ownsRow 0 9 1 (.slice a' (m + 1) c') (m + 1) (sts fs ++ [.string s]) := HR7.out.1.kept G8 (.inr (fun e => tag_ne HR7.out.1 HB7.out (by decide) e))
            have ok8 : OkT ⟨nm, fs ++ [s], false⟩ := by
              refine ⟨HOK.out.name, fun x hx => ?_, ?_, fun hg => by cases hg⟩
              · rcases List.mem_append.1 hx with hx | hx
                · exact HOK.out.fs x hx
                · rw [List.mem_singleton.1 hx]; exact hs40
              · show (fs ++ [s]).length ≤ 16
                rw [List.length_append, HFM.out]; simp; omega
            have m8 := HM.out.changed (p' := ((⟨nm, fs ++ [s], false⟩, .slice a' (m + 1) c') : TV)) u8 r8 (by
              show y8.ownsRow 0 9 1 (.slice a' (m + 1) c') (fs ++ [s]).length (sts (fs ++ [s]))
              have e2 : sts (fs ++ [s]) = sts fs ++ [.string s] := by simp [sts]
              rw [e2, List.length_append, HFM.out]
              exact f8) ok8
            refine ⟨⟨_, _, m8, by simp [strip], HI.out.put (fun x hx => .inl hx) (fun x hx => .inr ⟨Nat.le_trans HB1.out.size (HR6.out.2.2 x hx), row_lt f8 hx⟩)⟩, u8.mono (fun x hx _ => HI.out.lv x hx)⟩
          clear B8 G8 HR7 HB7 HR6 HM HM1 HI HE HEB
          refine doneR (by kernel_rfl) fun y9 hy => ?_
          have HF9 : Hid (Rfc y9 (Nw S w y9) g (idxA (strip (X ++ ((⟨nm, fs, false⟩, .slice fa fs.length fc) : TV) :: Y)) ((k : Int) + 1) s) ∧ Upd S w y9) :=
            ⟨(HF.out.1.below hy).mono (fun x hx => hx.imp (fun q => q) (fun q => ⟨q.1, Nat.lt_of_lt_of_le q.2 hy.size⟩)), HF.out.2.trans (Upd.of_below Non hy) (fun x q => q.elim)⟩
          clear hy HF
          go_wp2
          go_ret
          exact ⟨by rw [HEV.out]; rfl, HF9.out⟩
theorem rap_any (S : Nat → Prop) (g : Nat) (A : List Tb) (k id : Int) (s : ByteArray) (ec : List Value) (he : EnC k id s ec) (w : World) (h : Rfc w S g A) :
    Calls Try.prog 11 #[.pointer (some ⟨g, 0, none⟩), .agg ec.toArray] w fun e w' => e = .returned (.int .i64 (apE A k id s)) ∧ Hid (Rfc w' (Nw S w w') g (apA A k id s) ∧ Upd S w w') := by
  unfold apE apA
  by_cases k5 : k = 5
  · subst k5
    rw [if_pos rfl, if_pos rfl]
    exact rap_add S g A id s ec he w h
  rw [if_neg k5, if_neg k5]
  by_cases k6 : k = 6
  · subst k6
    rw [if_pos rfl, if_pos rfl]
    exact rap_drop S g A id s ec he w h
  rw [if_neg k6, if_neg k6]
  by_cases k7 : k = 7
  · subst k7
    rw [if_pos rfl, if_pos rfl]
    exact rap_idx S g A id s ec he w h
  rw [if_neg k7, if_neg k7]
  have HE : Hid (EnC k id s ec) := he
  have HC : Hid (Rfc w S g A) := h
  clear h he
  go_enter Try.func11, Try.ntmps11
  go_wp2_with (refine al_box rfl 42 (.tmp 1) rfl ec rfl ?_)
  intro ge w1 l1 B1 G1
  have HB1 : Hid (Below w.heap.size w w1) := below_none (Below.refl _ _) (Nat.le_refl _) G1
  have q0 : w1.cell? ⟨ge, 0, none⟩ = some (.int .i64 k) := by rw [B1.cell]; exact HE.out.k
  have k5' : (k == 5) = false := beq_eq_false_iff_ne.2 k5
  have k6' : (k == 6) = false := beq_eq_false_iff_ne.2 k6
  have k7' : (k == 7) = false := beq_eq_false_iff_ne.2 k7
  clear B1 G1 l1
  go_wp2
  go_ret
  exact ⟨rfl, (HC.out.below HB1.out).mono (fun x hx => .inl hx), Upd.of_below _ HB1.out⟩
#print axioms rap_any
end Go.Proofs.Ytbkogaencjmmgaa
