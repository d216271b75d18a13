/-
  The document's Apply: a table comes in.
-/
import Derived.Test.YtbkogaencjmmgaaDc
namespace Go.Proofs.Ytbkogaencjmmgaa
open Go.RowKit Go.MapKept
set_option linter.unusedVariables false
set_option linter.unusedSimpArgs false
theorem q_callv {C : World → Prop} {a : Act} {o : Oper} {K : Act → Prop} (k : Nat) (xs : Array Operand) (ts : Array TypeId)
    (hop : o.op = Op.call { callee := Callee.value (Operand.func k), args := xs, argTypes := ts }) (args : Array Value) (hargs : xs.map a.eval = args)
    (hent : ∀ (args : Array Value) (w : World), (callFunc k args).run Try.prog w = .ok (.enter k args) w) (v : Value)
    (hc : ∀ w, C w → Calls Try.prog k args w fun e w' => e = .returned v ∧ C w') (hk : K (a.put o.dst v)) : o.quiet Try.prog a C K :=
  ⟨v, fun w hw => by
    unfold Oper.quietAt
    have : (execOp a.eval o).run Try.prog w = .ok (.enter k args) w := by
      simp [execOp, hop, resolve, invoke, Act.eval, hargs, hent, Deferred.ofValue]
    rw [this]
    exact ⟨rfl, hc w hw⟩, hk⟩
theorem fin_code {A : List Tb} {s : ByteArray} : ((finR A s).2.2 = 0 ∧ nam A s ≠ 0) ∨ ((finR A s).2.2 = 13 ∧ nam A s = 0) := by
  by_cases h : nam A s = 0
  · right
    refine ⟨?_, h⟩
    unfold finR
    split
    · rw [if_pos h]
    · rfl
  · left
    refine ⟨?_, h⟩
    obtain ⟨k, t, e1, e2, _⟩ := nam_some h
    unfold finR
    rw [e1, Nat.add_sub_cancel, e2]
    simp
theorem InR.app {S S' : Nat → Prop} {g : Nat} {lv lv' : Value} {L : List TV} {t : Tb} (h : InR S g lv L) (hs : ∀ x, S x → S' x) (ht : ∀ x, lv'.ownBlock = some x → S' x) : InR S' g lv' (L ++ [(t, .slice none 0 0)]) :=
  ⟨hs _ h.g, ht, (fun p hp x hx => by
    rcases List.mem_append.1 hp with hp | hp
    · exact hs _ (h.fld p hp x hx)
    · obtain rfl := List.mem_singleton.1 hp
      exact absurd hx (by simp [Value.ownBlock]))⟩
theorem InR.put {S S' : Nat → Prop} {g : Nat} {lv : Value} {X Y : List TV} {p p' : TV} (h : InR S g lv (X ++ p :: Y)) (hs : ∀ x, S x → S' x) (hv : ∀ x, p'.2.ownBlock = some x → S' x) : InR S' g lv (X ++ p' :: Y) :=
  ⟨hs _ h.g, fun x hx => hs _ (h.lv x hx), (fun q hq x hx => by
    rcases List.mem_append.1 hq with hq | hq
    · exact hs _ (h.fld q (by simp [hq]) x hx)
    · rcases List.mem_cons.1 hq with rfl | hq
      · exact hv x hx
      · exact hs _ (h.fld q (by simp [hq]) x hx))⟩
set_option maxRecDepth 8000 in
set_option maxHeartbeats 4000000 in
theorem rap_add (S : Nat → Prop) (g : Nat) (A : List Tb) (id : Int) (s : ByteArray) (ec : List Value) (he : EnC 5 id s ec) (w : World) (h : Rfc w S g A) :
    Calls Try.prog 11 #[.pointer (some ⟨g, 0, none⟩), .agg ec.toArray] w fun e w' => e = .returned (.int .i64 (addE A id s)) ∧ Hid (Rfc w' (Nw S w w') g (addA A id s) ∧ Upd S w w') := by
  have HE : Hid (EnC 5 id s ec) := he
  obtain ⟨lv, L, hM, rfl, hI⟩ := h
  have HI : Hid (InR S g lv L) := hI
  have HM : Hid (RM w g lv L) := hM
  have hl64 : L.length ≤ 64 := by have := hM.ok.len; rw [strip_len] at this; exact this
  obtain ⟨a, c, rfl, hv⟩ := hM.val
  obtain ⟨n, hn⟩ : ∃ n, L.length = n := ⟨_, rfl⟩
  have HN : Hid (L.length = n) := hn
  have HNS : Hid ((strip L).length = n) := (strip_len L).trans hn
  have hn64 : n ≤ 64 := by omega
  have w1e : wrap64 ((n : Int) + 1) = (n : Int) + 1 := wrap_small (n := n + 1) (by omega) (by omega)
  have HQE : Hid (∀ (x : Int) (W : World), addE (strip L) id s = x → x ≠ 0 → Below w.heap.size w W → Hid (Rfc W (Nw S w W) g (addA (strip L) id s) ∧ Upd S w W)) := fun x W hx h0 hb => by
    refine ⟨?_, Upd.of_below _ hb⟩
    unfold addA
    rw [if_neg (by rw [hx]; exact h0)]
    exact Rfc.mono ⟨_, L, HM.out.below hb, rfl, HI.out⟩ (fun x hx => .inl hx)
  have HA : Hid (addE (strip L) id s = if 64 ≤ n then 17 else if (decide (id ≠ (n : Int) + 1) || !nameB s) = true then 3 else if nam (strip L) s ≠ 0 then 8 else 0) := by
    show _ = _; unfold addE; rw [HNS.out]
  rw [hn] at hv
  clear hM hI hl64 hn he
  go_enter Try.func11, Try.ntmps11
  go_wp2_with (refine al_box rfl 42 (.tmp 1) rfl ec rfl ?_)
  intro ge w1 l1 B1 G1
  have hb1 : Below w.heap.size w w1 := below_none (Below.refl _ _) (Nat.le_refl _) G1
  have HB1 : Hid (Below w.heap.size w w1) := hb1
  have HEB : Hid (Blk w1 ge 42 ec) := B1
  have HM1 : Hid (RM w1 g (.slice a L.length c) L) := HM.out.below hb1
  have q0 : w1.cell? ⟨ge, 0, none⟩ = some (.int .i64 5) := by rw [B1.cell]; exact HE.out.k
  have c0 : w1.cell? ⟨g, 0, none⟩ = some (.slice a n c) := by rw [← HN.out]; exact HM1.out.blk.cell 0
  clear hb1 B1 G1 l1
  by_cases h64 : 64 ≤ n
  · have h64' : (n : Int) ≥ 64 := by omega
    have e17 : addE (strip L) id s = 17 := by rw [HA.out, if_pos h64]
    have HF := HQE.out 17 w1 e17 (by decide) HB1.out
    have HEV : Hid (addE (strip L) id s = 17) := e17
    clear HQE HA e17
    go_wp2
    go_ret
    exact ⟨by rw [HEV.out]; rfl, HF.out⟩
  have h64' : ¬ (n : Int) ≥ 64 := by omega
  obtain ⟨C, hC⟩ : ∃ C : World → Prop, C = fun W => Below w1.heap.size w1 W := ⟨_, rfl⟩
  have CO : Hid (∀ W, C W → Below w1.heap.size w1 W) := fun W g => by rw [hC] at g; exact g
  have C0 : Hid (C { w1 with drawn := w1.drawn + 1 }) := by rw [hC]; exact Below.drew (Below.refl _ _)
  have F0 : Hid (∀ W, C W → W.cell? ⟨g, 0, none⟩ = some (.slice a n c)) := fun W q => by rw [← HN.out]; exact (HM1.out.below (CO.out W q)).blk.cell 0
  have F1 : Hid (∀ W, C W → W.cell? ⟨ge, 1, none⟩ = some (.string s)) := fun W q => by rw [(HEB.out.below (CO.out W q) HEB.out.lt).cell]; exact HE.out.s
  have F2 : Hid (∀ W, C W → W.cell? ⟨ge, 2, none⟩ = some (.int .i64 id)) := fun W q => by rw [(HEB.out.below (CO.out W q) HEB.out.lt).cell]; exact HE.out.id
  clear hC
  have hCp : ∀ p : Prop, (∀ W, C W → p) ↔ p := fun p => ⟨fun h => h _ C0.out, fun h _ _ => h⟩
  by_cases hid : id = (n : Int) + 1
  case neg =>
    have hid' : (id == (n : Int) + 1) = false := beq_eq_false_iff_ne.2 hid
    have e3 : addE (strip L) id s = 3 := by rw [HA.out, if_neg h64, if_pos (by simp [hid])]
    have HEV : Hid (addE (strip L) id s = 3) := e3
    clear e3
    go_wp2_with fail
    have hid2 : (id != (n : Int) + 1) = true := by simp [hid]
    refine wp_region_quiet (C := C) (by kernel_rfl) (by kernel_rfl) C0.out ?_
    change wpQuiet _ _ _ _ (_ :: _ :: _ :: _ :: _ :: _ :: _ :: _ :: _ :: _ :: _ :: _ :: _ :: _ :: _ :: []) _
    repeat (first
      | go_big_quiet_skip
      | (go_big_quiet_want
         first
         | (refine q_cell 3 (by simp) (.tmp 19) rfl ge 2 rfl _ F2.out ?_
            simp only [Act.put, List.setIfInBounds_toArray, List.set_cons_zero, List.set_cons_succ]
            go_big_quiet_on)
         | (refine q_cell 28 (by simp) (.tmp 23) rfl g 0 rfl _ F0.out ?_
            simp only [Act.put, List.setIfInBounds_toArray, List.set_cons_zero, List.set_cons_succ]
            go_big_quiet_on)
         | (go_big_quiet_op
            go_big_quiet_on)))
    refine wpQuiet_nil ?_
    intro w9 h9
    have HF := HQE.out 3 w9 HEV.out (by decide) (HB1.out.trans ((CO.out _ h9).mono HB1.out.size))
    clear h9 hCp C0 F0 F1 F2 CO HQE HA
    go_wp2
    go_ret
    exact ⟨by rw [HEV.out]; rfl, HF.out⟩
  subst hid
  cases hnm : nameB s with
  | false =>
    have e3 : addE (strip L) ((n : Int) + 1) s = 3 := by rw [HA.out, if_neg h64, if_pos (by simp [hnm])]
    have HEV : Hid (addE (strip L) ((n : Int) + 1) s = 3) := e3
    have HNM : Hid (∀ W, C W → Calls Try.prog 25 #[.string s] W fun e w' => e = .returned (.bool false) ∧ C w') := fun W hW => by
      have := rname_any s W
      rw [hnm] at this
      refine this.mono ?_
      rintro e w' ⟨rfl, rfl⟩
      exact ⟨rfl, hW⟩
    clear e3 hnm
    go_wp2_with fail
    refine wp_region_quiet (C := C) (by kernel_rfl) (by kernel_rfl) C0.out ?_
    change wpQuiet _ _ _ _ (_ :: _ :: _ :: _ :: _ :: _ :: _ :: _ :: _ :: _ :: _ :: _ :: _ :: _ :: _ :: []) _
    repeat (first
      | go_big_quiet_skip
      | (go_big_quiet_want
         first
         | (refine q_cell 3 (by simp) (.tmp 19) rfl ge 2 rfl _ F2.out ?_
            simp only [Act.put, List.setIfInBounds_toArray, List.set_cons_zero, List.set_cons_succ]
            go_big_quiet_on)
         | (refine q_cell 28 (by simp) (.tmp 23) rfl g 0 rfl _ F0.out ?_
            simp only [Act.put, List.setIfInBounds_toArray, List.set_cons_zero, List.set_cons_succ]
            go_big_quiet_on)
         | (refine q_cell 9 (by simp) (.tmp 29) rfl ge 1 rfl _ F1.out ?_
            simp only [Act.put, List.setIfInBounds_toArray, List.set_cons_zero, List.set_cons_succ]
            go_big_quiet_on)
         | (refine q_callv 25 _ _ rfl #[.string s] (by rw [List.map_toArray]; rfl) (enters Try.func25 (by kernel_rfl) rfl) _ HNM.out ?_
            simp only [Act.put, List.setIfInBounds_toArray, List.set_cons_zero, List.set_cons_succ]
            go_big_quiet_on)
         | (go_big_quiet_op
            go_big_quiet_on)))
    refine wpQuiet_nil ?_
    intro w9 h9
    have HF := HQE.out 3 w9 HEV.out (by decide) (HB1.out.trans ((CO.out _ h9).mono HB1.out.size))
    clear h9 hCp C0 F0 F1 F2 CO HQE HA HNM
    go_wp2
    go_ret
    exact ⟨by rw [HEV.out]; rfl, HF.out⟩
  | true =>
    have hs40 : s.size ≤ 40 := by
      have := hnm
      simp only [nameB, Bool.and_eq_true, decide_eq_true_eq] at this
      exact this.2
    have HAE : Hid (addE (strip L) ((n : Int) + 1) s = if nam (strip L) s ≠ 0 then 8 else 0) := by show _ = _; rw [HA.out, if_neg h64, if_neg (by simp [hnm])]
    have HNM : Hid (∀ W, C W → Calls Try.prog 25 #[.string s] W fun e w' => e = .returned (.bool true) ∧ C w') := fun W hW => by
      have := rname_any s W
      rw [hnm] at this
      refine this.mono ?_
      rintro e w' ⟨rfl, rfl⟩
      exact ⟨rfl, hW⟩
    clear hnm HA
    go_wp2_with fail
    refine wp_region_quiet (C := C) (by kernel_rfl) (by kernel_rfl) C0.out ?_
    change wpQuiet _ _ _ _ (_ :: _ :: _ :: _ :: _ :: _ :: _ :: _ :: _ :: _ :: _ :: _ :: _ :: _ :: _ :: []) _
    repeat (first
      | go_big_quiet_skip
      | (go_big_quiet_want
         first
         | (refine q_cell 3 (by simp) (.tmp 19) rfl ge 2 rfl _ F2.out ?_
            simp only [Act.put, List.setIfInBounds_toArray, List.set_cons_zero, List.set_cons_succ]
            go_big_quiet_on)
         | (refine q_cell 28 (by simp) (.tmp 23) rfl g 0 rfl _ F0.out ?_
            simp only [Act.put, List.setIfInBounds_toArray, List.set_cons_zero, List.set_cons_succ]
            go_big_quiet_on)
         | (refine q_cell 9 (by simp) (.tmp 29) rfl ge 1 rfl _ F1.out ?_
            simp only [Act.put, List.setIfInBounds_toArray, List.set_cons_zero, List.set_cons_succ]
            go_big_quiet_on)
         | (refine q_callv 25 _ _ rfl #[.string s] (by rw [List.map_toArray]; rfl) (enters Try.func25 (by kernel_rfl) rfl) _ HNM.out ?_
            simp only [Act.put, List.setIfInBounds_toArray, List.set_cons_zero, List.set_cons_succ]
            go_big_quiet_on)
         | (go_big_quiet_op
            go_big_quiet_on)))
    refine wpQuiet_nil ?_
    intro w9 h9
    have hb9 := CO.out _ h9
    have HB9 : Hid (Below w.heap.size w w9) := HB1.out.trans (hb9.mono HB1.out.size)
    have HM9 : Hid (RM w9 g (.slice a L.length c) L) := HM1.out.below hb9
    have HE9 : Hid (Blk w9 ge 42 ec) := HEB.out.below hb9 HEB.out.lt
    have K := rfind_any S g (strip L) s w9 ⟨_, L, HM9.out, rfl, HI.out⟩
    have q1 : w9.cell? ⟨ge, 1, none⟩ = some (.string s) := by rw [HE9.out.cell]; exact HE.out.s
    obtain ⟨r, hr⟩ : ∃ r, finR (strip L) s = r := ⟨_, rfl⟩
    have hfc := fin_code (A := strip L) (s := s)
    rw [hr] at K hfc
    clear h9 hb9 hCp C0 F0 F1 F2 CO HNM HM1 HEB HB1 hr q0 c0
    go_wp2_with fail
    refine K.mono ?_
    clear K
    rintro e w2 ⟨fv, rfl, H⟩
    have HB2 : Hid (Below w.heap.size w w2) := HB9.out.trans (H.out.2.mono HB9.out.size)
    have HM2 : Hid (RM w2 g (.slice a L.length c) L) := HM9.out.below H.out.2
    have HE2 : Hid (Blk w2 ge 42 ec) := HE9.out.below H.out.2 HE9.out.lt
    have hfv : ∃ ja jn jc, fv = .slice ja jn jc := by
      obtain ⟨ja, jc, e, _⟩ := H.out.1
      exact ⟨ja, _, jc, e⟩
    obtain ⟨ja, jn, jc, rfl⟩ := hfv
    clear H HB9 HM9 HE9 q1
    simp only [rV]
    go_wp2_with (refine al_zero rfl 50 rfl _ sTb4 ?_)
    intro g5 w3 l3 B3 G3
    have HB3 : Hid (Below w.heap.size w w3) := below_none HB2.out HB2.out.size G3
    have h23 : Below w2.heap.size w2 w3 := below_none (Below.refl _ _) (Nat.le_refl _) G3
    have HM3 : Hid (RM w3 g (.slice a L.length c) L) := HM2.out.below h23
    have HE3 : Hid (Blk w3 ge 42 ec) := HE2.out.below h23 HE2.out.lt
    have H53 : Hid (Blk w3 g5 50 (tlC 0 ⟨#[]⟩ false (.slice none 0 0))) := B3
    have HL5 : Hid (w2.heap.size ≤ g5) := l3
    clear B3 G3 l3
    go_wp2_with (refine st_all rfl 50 (.tmp 5) (.tmp 39) rfl g5 50 _ (tlC r.1 r.2.1.name r.2.1.gone (.slice ja jn jc)) rfl rfl H53.out rfl (sRt' _ _ _ _) (tl_one rfl) ?_)
    intro w4 B4 G4
    have h24 : Below w2.heap.size w2 w4 := h23.grown G4 h23.size (fun r e => by injection e with e; subst e; exact HL5.out)
    have HB4 : Hid (Below w.heap.size w w4) := HB2.out.trans (h24.mono HB2.out.size)
    have HM4 : Hid (RM w4 g (.slice a L.length c) L) := HM2.out.below h24
    have HE4 : Hid (Blk w4 ge 42 ec) := HE2.out.below h24 HE2.out.lt
    clear B4 G4 HB3 h23 h24 HM3 HE3 H53 HL5 HB2 HM2 HE2
    rcases hfc with ⟨hc0, hn0⟩ | ⟨hc0, hn0⟩
    · have HEV : Hid (addE (strip L) ((n : Int) + 1) s = 8) := by show _ = _; rw [HAE.out, if_pos hn0]
      have HF := HQE.out 8 w4 HEV.out (by decide) HB4.out
      rw [hc0]
      clear HQE HAE
      go_wp2
      go_ret
      exact ⟨by rw [HEV.out]; rfl, HF.out⟩
    have HEV : Hid (addE (strip L) ((n : Int) + 1) s = 0) := by show _ = _; rw [HAE.out, if_neg (by simp [hn0])]
    have HQ : Hid (addA (strip L) ((n : Int) + 1) s = strip L ++ [⟨s, [], false⟩]) := by show _ = _; unfold addA; rw [if_pos HEV.out]
    have hnc : a = none → n = 0 ∧ c = 0 := fun e => by
      have := HM4.out.row
      rw [e] at this
      rcases this.2 with ⟨e1, e2⟩ | ⟨_, _, _, e1, _⟩
      · injection e1 with _ e3 e4
        exact ⟨by rw [← HN.out]; exact e3, e4⟩
      · cases e1
    rw [hc0]
    clear HQE HAE hn0 hc0
    obtain ⟨C, hC⟩ : ∃ C : World → Prop, C = fun W => Below w4.heap.size w4 W := ⟨_, rfl⟩
    have F0 : Hid (∀ W, C W → W.cell? ⟨g, 0, none⟩ = some (.slice a n c)) := fun W hW => by rw [hC] at hW; exact (by have := (HM4.out.below hW).blk.cell 0; rw [← HN.out]; exact this)
    have F1 : Hid (∀ W, C W → W.cell? ⟨ge, 1, none⟩ = some (.string s)) := fun W hW => by rw [hC] at hW; exact (by rw [(HE4.out.below hW HE4.out.lt).cell]; exact HE.out.s)
    have F2 : Hid (∀ W, C W → W.cell? ⟨ge, 2, none⟩ = some (.int .i64 ((n : Int) + 1))) := fun W hW => by rw [hC] at hW; exact (by rw [(HE4.out.below hW HE4.out.lt).cell]; exact HE.out.id)
    have FR : Hid (∀ W, C W → W.ownsRow 0 50 4 (.slice a n c) n (alC 0 L)) := fun W hW => by rw [hC] at hW; exact (by have := (HM4.out.below hW).row; rw [HN.out] at this; exact this)
    have CG : Hid (∀ w w', C w → Grow w w' → C w') := fun W W' h1 h2 => by rw [hC] at h1 ⊢; exact h1.trans (h2.mono h1.size)
    have CE : Hid (∀ W, C W → Below w4.heap.size w4 W) := fun W h => by rw [hC] at h; exact h
    have C0 : Hid (C { w4 with drawn := w4.drawn + 1 }) := by rw [hC]; exact Below.drew (Below.refl _ _)
    clear hC
    go_wp2_with fail
    refine region_grow [13, 16] (by kernel_rfl) ?_
    have hCp : ∀ p : Prop, (∀ W, C W → p) ↔ p := fun p => ⟨fun h => h _ C0.out, fun h _ _ => h⟩
    generalize ({ w4 with drawn := w4.drawn + 1 } : World) = y0 at *
    have hCq := anyw_p y0
    refine segF 16 [0] rfl (by kernel_rfl) whole_blind (by decide +kernel) ?_
    change wpQuiet _ _ _ _ (_ :: []) _
    repeat (first
      | go_big_quiet_skip
      | (go_big_quiet_want
         first
         | (go_big_quiet_op
            go_big_quiet_on)))
    refine wpQuiet_nil ?_
    clear hCq
    refine segR 7 [2, 3, 4, 5, 7, 8, 9, 10, 11] rfl (by kernel_rfl) whole_blind CG.out C0.out (by decide +kernel) ?_
    change wpQuiet _ _ _ _ (_ :: _ :: _ :: _ :: _ :: _ :: _ :: _ :: _ :: []) _
    repeat (first
      | go_big_quiet_skip
      | (go_big_quiet_want
         first
         | (refine q_cell 28 (by simp) (.tmp 47) rfl g 0 rfl _ F0.out ?_
            simp only [Act.put, List.setIfInBounds_toArray, List.set_cons_zero, List.set_cons_succ]
            go_big_quiet_on)
         | (refine q_cell 3 (by simp) (.tmp 50) rfl ge 2 rfl _ F2.out ?_
            simp only [Act.put, List.setIfInBounds_toArray, List.set_cons_zero, List.set_cons_succ]
            go_big_quiet_on)
         | (refine q_cell 9 (by simp) (.tmp 52) rfl ge 1 rfl _ F1.out ?_
            simp only [Act.put, List.setIfInBounds_toArray, List.set_cons_zero, List.set_cons_succ]
            go_big_quiet_on)
         | (go_big_quiet_op
            go_big_quiet_on)))
    refine wpQuiet_nil ?_
    have HONE : Hid (∀ u ∈ alC 0 L, u.oneCell' = true) := alC_one (fun p hp => row_one (HM4.out.fld p hp)) 0
    refine one_ofR 6 rfl [1, 12] (by decide +kernel) (by simp) fun j hj => ?_
    simp only [List.mem_cons, List.not_mem_nil, or_false] at hj
    rcases hj with rfl | rfl
    · refine ⟨_, rfl, (by rfl), fun u1 hu1 K hK => ?_⟩
      have Cu1 : Hid (C u1) := CG.out _ _ C0.out hu1
      clear hu1
      refine oper_bs0 28 50 (by simp) rfl ?_
      obtain ⟨v1, ev1⟩ : ∃ v1, v1 = u1.alloc (.cells #[] 50) := ⟨_, rfl⟩
      have Gv1 : Grow u1 v1 := by rw [ev1]; exact (Grow.refl u1).alloc _
      have HNB : Hid (Blk v1 u1.heap.size 50 [] ∧ w4.heap.size ≤ u1.heap.size) := ⟨by rw [ev1]; exact blk_new _ _ _, (CE.out _ Cu1.out).size⟩
      rw [← ev1]
      clear ev1
      refine hK _ _ (.inr Gv1) ?_
      clear hK K
      simp only [Act.put, List.setIfInBounds_toArray, List.set_cons_zero, List.set_cons_succ]
      have Cv1 : Hid (C v1) := CG.out _ _ Cu1.out Gv1
      clear Gv1 Cu1
      generalize u1.heap.size = nb at *
      refine one_ofR 5 rfl [6, 12] (by decide +kernel) (by simp) fun j hj => ?_
      simp only [List.mem_cons, List.not_mem_nil, or_false] at hj
      rcases hj with rfl | rfl
      · refine ⟨_, rfl, (by rfl), fun u2 hu2 K hK => ?_⟩
        have Cu2 : Hid (C u2) := CG.out _ _ Cv1.out hu2
        have HNB : Hid (Blk u2 nb 50 [] ∧ w4.heap.size ≤ nb) := ⟨HNB.out.1.grow hu2, HNB.out.2⟩
        clear hu2
        have r2 := FR.out _ Cu2.out
        refine oper_appE (.tmp 44) (.tmp 48) 28 50 4 rfl (by decide) Try.underlying28 iRt nb rfl HNB.out.1 a n c rfl hnc (alC 0 L) (by rw [alC_len, HN.out]) (row_cells r2) HONE.out (by omega) ?_
        intro e6 v2 hr6 Gv2 ho6
        obtain ⟨ea, ecp, rfl, _, _⟩ := row_val hr6
        have HV6 : Hid (v2.ownsRow 0 50 4 (.slice ea n ecp) n (alC 0 L) ∧ ∀ x, (Value.slice ea n ecp).ownBlock = some x → w4.heap.size ≤ x) := ⟨hr6, fun x hx => by
          rcases ho6 with e | e
          · rw [hx] at e; injection e with e; subst e; exact HNB.out.2
          · rw [hx] at e; injection e with e; subst e; exact (CE.out _ Cu2.out).size⟩
        clear r2 hr6 ho6 HNB
        refine hK _ _ (.inr Gv2) ?_
        clear hK K
        simp only [Act.put, List.setIfInBounds_toArray, List.set_cons_zero, List.set_cons_succ]
        have Cv2 : Hid (C v2) := CG.out _ _ Cu2.out Gv2
        clear Gv2 Cu2
        refine one_ofR 4 rfl [12] (by decide +kernel) (by simp) fun j hj => ?_
        obtain rfl := List.mem_singleton.1 hj
        refine ⟨_, rfl, (by rfl), fun u3 hu3 K hK => ?_⟩
        have Cu3 : Hid (C u3) := CG.out _ _ Cv2.out hu3
        have HV6 : Hid (u3.ownsRow 0 50 4 (.slice ea n ecp) n (alC 0 L) ∧ ∀ x, (Value.slice ea n ecp).ownBlock = some x → w4.heap.size ≤ x) := ⟨own_upd HV6.out.1 (Upd.of_below Non hu3) (fun _ _ q => q), HV6.out.2⟩
        clear hu3
        refine bs_one 28 50 (.tmp 54) rfl Try.underlying28 4 (by decide) (by decide) _ szRt zvRt (tlC ((n : Int) + 1) s false (.slice none 0 0)) rfl rfl ?_
        obtain ⟨v3, ev3⟩ : ∃ v3, v3 = u3.alloc (.cells (tlC ((n : Int) + 1) s false (.slice none 0 0)).toArray 50) := ⟨_, rfl⟩
        have Gv3 : Grow u3 v3 := by rw [ev3]; exact (Grow.refl u3).alloc _
        have HNB2 : Hid (Blk v3 u3.heap.size 50 (tlC ((n : Int) + 1) s false (.slice none 0 0))) := by show Blk _ _ _ _; rw [ev3]; exact blk_new _ _ _
        rw [← ev3]
        clear ev3
        refine hK _ _ (.inr Gv3) ?_
        clear hK K
        simp only [Act.put, List.setIfInBounds_toArray, List.set_cons_zero, List.set_cons_succ]
        have Cv3 : Hid (C v3) := CG.out _ _ Cu3.out Gv3
        have HV6 : Hid (v3.ownsRow 0 50 4 (.slice ea n ecp) n (alC 0 L) ∧ ∀ x, (Value.slice ea n ecp).ownBlock = some x → w4.heap.size ≤ x) := ⟨own_upd HV6.out.1 (Upd.of_below Non Gv3) (fun _ _ q => q), HV6.out.2⟩
        clear Gv3 Cu3
        generalize u3.heap.size = nb2 at *
        refine one_ofR 3 rfl [13] (by decide +kernel) (by simp) fun j hj => ?_
        obtain rfl := List.mem_singleton.1 hj
        refine ⟨_, rfl, (by rfl), fun y5 hy5 K hK => ?_⟩
        have Cy5 : Hid (C y5) := CG.out _ _ Cv3.out hy5
        have HV6' := HV6.out
        have HNB2' := HNB2.out.grow hy5
        have r5 := own_upd HV6.out.1 (Upd.of_below Non hy5) (fun _ _ q => q)
        clear hy5
        refine oper_app (.tmp 49) (.tmp 55) 28 50 4 rfl (by decide) Try.underlying28 iRt _ n (alC 0 L) rfl r5 (some ⟨nb2, 0, none⟩) 1 1 rfl (by simp) (tlC ((n : Int) + 1) s false (.slice none 0 0)) rfl (fun ad e j u hj => by
          injection e with e
          subst e
          have := HNB2'.cell j
          rw [hj] at this
          rw [Addr.add_lit, Nat.zero_add]
          exact this) (tl_one rfl) (by omega) ?_
        intro v' y6 hr13 hg13 ho13
        clear HV6' HNB2' r5
        refine hK _ _ (.inl (by simp)) ?_
        clear hK K
        simp only [Act.put, List.setIfInBounds_toArray, List.set_cons_zero, List.set_cons_succ]
        obtain ⟨a', c', rfl, _, _⟩ := row_val hr13
        have HR6 : Hid (y6.ownsRow 0 50 4 (.slice a' (n + 1) c') (n + 1) (alC 0 L ++ tlC ((n : Int) + 1) s false (.slice none 0 0)) ∧ Below w4.heap.size w4 y6 ∧ ∀ x, (Value.slice a' (n + 1) c').ownBlock = some x → w4.heap.size ≤ x) := by
          refine ⟨hr13, (CE.out _ Cy5.out).grown hg13 (CE.out _ Cy5.out).size (fun r e => HV6.out.2 r e), fun x hx => ?_⟩
          rcases ho13 with e | e
          · rw [e] at hx; exact HV6.out.2 x hx
          · rw [hx] at e; injection e with e; subst e; exact (CE.out _ Cy5.out).size
        clear hr13 hg13 ho13 HV6 HNB2 Cy5 CE CG F0 F1 F2 FR
        have hCq := anyw_p y6
        refine segF 1 [14, 15] rfl (by kernel_rfl) whole_blind (by decide +kernel) ?_
        change wpQuiet _ _ _ _ (_ :: _ :: []) _
        repeat (first
          | go_big_quiet_skip
          | (go_big_quiet_want
             first
             | (go_big_quiet_op
                go_big_quiet_on)))
        refine wpQuiet_nil ?_
        clear hCq
        refine one_ofR 0 rfl [16] (by decide +kernel) (by simp) fun j hj => ?_
        obtain rfl := List.mem_singleton.1 hj
        refine ⟨_, rfl, (by rfl), fun y7 hy7 K hK => ?_⟩
        have HR7 : Hid (y7.ownsRow 0 50 4 (.slice a' (n + 1) c') (n + 1) (alC 0 L ++ tlC ((n : Int) + 1) s false (.slice none 0 0)) ∧ Below w4.heap.size w4 y7) := ⟨own_upd HR6.out.1 (Upd.of_below Non hy7) (fun _ _ q => q), HR6.out.2.1.trans (hy7.mono HR6.out.2.1.size)⟩
        have HG7 : Hid (Blk y7 g 30 [.slice a n c]) := by have := (HM4.out.below HR7.out.2).blk; rw [HN.out] at this; exact this
        clear hy7
        refine oper_one 28 (.tmp 58) (.tmp 56) rfl g 0 30 _ (.slice a' (n + 1) c') rfl rfl rfl rfl (by show 0 < 1; decide) HG7.out s28 ?_
        intro y8 B8 G8
        refine hK _ _ (.inl (by simp)) ?_
        clear hK K
        simp only [Act.put, List.setIfInBounds_toArray, List.set_cons_zero, List.set_cons_succ]
        have HF : Hid (Rfc y8 (Nw S w y8) g (addA (strip L) ((n : Int) + 1) s) ∧ Upd S w y8) := by
          rw [HQ.out]
          have u8 : Upd (fun x => x = g) w y8 := ((Upd.of_below (fun x => x = g) HB4.out).trans (Upd.of_below Non HR7.out.2) (fun x q => q.elim)).trans (Upd.of_by G8 (S := fun x => x = g) (fun x hx => (Option.some.inj hx).symm)) (fun x hx _ => hx)
          have r8 : y8.ownsRow 0 50 4 (.slice a' (n + 1) c') (n + 1) (alC 0 L ++ tlC ((n : Int) + 1) s false (.slice none 0 0)) := HR7.out.1.kept G8 (.inr (fun e => tag_ne HR7.out.1 HG7.out (by decide) e))
          have m8 : RM y8 g (.slice a' (n + 1) c') (L ++ [(⟨s, [], false⟩, .slice none 0 0)]) := HM.out.added (by rw [HN.out]; omega) hs40 u8 B8 (by rw [HN.out]; exact r8)
          refine ⟨⟨_, _, m8, by simp [strip], HI.out.app (fun x hx => .inl hx) (fun x hx => .inr ⟨Nat.le_trans HB4.out.size (HR6.out.2.2 x hx), row_lt r8 hx⟩)⟩, u8.mono (fun x hx _ => ?_)⟩
          rw [hx]; exact HI.out.g
        clear B8 G8 HR7 HG7 HR6 HM HM4 HI HE HE4
        refine doneR (by kernel_rfl) fun y9 hy => ?_
        have HF9 : Hid (Rfc y9 (Nw S w y9) g (addA (strip L) ((n : Int) + 1) s) ∧ Upd S w y9) :=
          ⟨(HF.out.1.below hy).mono (fun x hx => hx.imp (fun q => q) (fun q => ⟨q.1, Nat.lt_of_lt_of_le q.2 hy.size⟩)), HF.out.2.trans (Upd.of_below Non hy) (fun x q => q.elim)⟩
        clear hy HF
        go_wp2
        go_ret
        exact ⟨by rw [HEV.out]; rfl, HF9.out⟩
      · refine ⟨_, rfl, (by rfl), fun u4 hu4 K hK => ?_⟩
        have Cu4 : Hid (C u4) := CG.out _ _ Cv1.out hu4
        have HNB : Hid (Blk u4 nb 50 [] ∧ w4.heap.size ≤ nb) := ⟨HNB.out.1.grow hu4, HNB.out.2⟩
        clear hu4
        refine bs_one 28 50 (.tmp 54) rfl Try.underlying28 4 (by decide) (by decide) _ szRt zvRt (tlC ((n : Int) + 1) s false (.slice none 0 0)) rfl rfl ?_
        obtain ⟨v4, ev4⟩ : ∃ v4, v4 = u4.alloc (.cells (tlC ((n : Int) + 1) s false (.slice none 0 0)).toArray 50) := ⟨_, rfl⟩
        have Gv4 : Grow u4 v4 := by rw [ev4]; exact (Grow.refl u4).alloc _
        have HNB2 : Hid (Blk v4 u4.heap.size 50 (tlC ((n : Int) + 1) s false (.slice none 0 0))) := by show Blk _ _ _ _; rw [ev4]; exact blk_new _ _ _
        rw [← ev4]
        clear ev4
        refine hK _ _ (.inr Gv4) ?_
        clear hK K
        simp only [Act.put, List.setIfInBounds_toArray, List.set_cons_zero, List.set_cons_succ]
        have Cv4 : Hid (C v4) := CG.out _ _ Cu4.out Gv4
        have HNB : Hid (Blk v4 nb 50 [] ∧ w4.heap.size ≤ nb) := ⟨HNB.out.1.grow Gv4, HNB.out.2⟩
        clear Gv4 Cu4
        generalize u4.heap.size = nb2 at *
        refine one_ofR 4 rfl [6] (by decide +kernel) (by simp) fun j hj => ?_
        obtain rfl := List.mem_singleton.1 hj
        refine ⟨_, rfl, (by rfl), fun u5 hu5 K hK => ?_⟩
        have Cu5 : Hid (C u5) := CG.out _ _ Cv4.out hu5
        have HNB : Hid (Blk u5 nb 50 [] ∧ w4.heap.size ≤ nb) := ⟨HNB.out.1.grow hu5, HNB.out.2⟩
        have HNB2 : Hid (Blk u5 nb2 50 (tlC ((n : Int) + 1) s false (.slice none 0 0))) := HNB2.out.grow hu5
        clear hu5
        have r5 := FR.out _ Cu5.out
        refine oper_appE (.tmp 44) (.tmp 48) 28 50 4 rfl (by decide) Try.underlying28 iRt nb rfl HNB.out.1 a n c rfl hnc (alC 0 L) (by rw [alC_len, HN.out]) (row_cells r5) HONE.out (by omega) ?_
        intro e6 v5 hr6 Gv5 ho6
        obtain ⟨ea, ecp, rfl, _, _⟩ := row_val hr6
        have HV6 : Hid (v5.ownsRow 0 50 4 (.slice ea n ecp) n (alC 0 L) ∧ ∀ x, (Value.slice ea n ecp).ownBlock = some x → w4.heap.size ≤ x) := ⟨hr6, fun x hx => by
          rcases ho6 with e | e
          · rw [hx] at e; injection e with e; subst e; exact HNB.out.2
          · rw [hx] at e; injection e with e; subst e; exact (CE.out _ Cu5.out).size⟩
        clear r5 hr6 ho6 HNB
        refine hK _ _ (.inr Gv5) ?_
        clear hK K
        simp only [Act.put, List.setIfInBounds_toArray, List.set_cons_zero, List.set_cons_succ]
        have Cv5 : Hid (C v5) := CG.out _ _ Cu5.out Gv5
        have HNB2 : Hid (Blk v5 nb2 50 (tlC ((n : Int) + 1) s false (.slice none 0 0))) := HNB2.out.grow Gv5
        clear Gv5 Cu5
        refine one_ofR 3 rfl [13] (by decide +kernel) (by simp) fun j hj => ?_
        obtain rfl := List.mem_singleton.1 hj
        refine ⟨_, rfl, (by rfl), fun y5 hy5 K hK => ?_⟩
        have Cy5 : Hid (C y5) := CG.out _ _ Cv5.out hy5
        have HV6' := HV6.out
        have HNB2' := HNB2.out.grow hy5
        have r5 := own_upd HV6.out.1 (Upd.of_below Non hy5) (fun _ _ q => q)
        clear hy5
        refine oper_app (.tmp 49) (.tmp 55) 28 50 4 rfl (by decide) Try.underlying28 iRt _ n (alC 0 L) rfl r5 (some ⟨nb2, 0, none⟩) 1 1 rfl (by simp) (tlC ((n : Int) + 1) s false (.slice none 0 0)) rfl (fun ad e j u hj => by
          injection e with e
          subst e
          have := HNB2'.cell j
          rw [hj] at this
          rw [Addr.add_lit, Nat.zero_add]
          exact this) (tl_one rfl) (by omega) ?_
        intro v' y6 hr13 hg13 ho13
        clear HV6' HNB2' r5
        refine hK _ _ (.inl (by simp)) ?_
        clear hK K
        simp only [Act.put, List.setIfInBounds_toArray, List.set_cons_zero, List.set_cons_succ]
        obtain ⟨a', c', rfl, _, _⟩ := row_val hr13
        have HR6 : Hid (y6.ownsRow 0 50 4 (.slice a' (n + 1) c') (n + 1) (alC 0 L ++ tlC ((n : Int) + 1) s false (.slice none 0 0)) ∧ Below w4.heap.size w4 y6 ∧ ∀ x, (Value.slice a' (n + 1) c').ownBlock = some x → w4.heap.size ≤ x) := by
          refine ⟨hr13, (CE.out _ Cy5.out).grown hg13 (CE.out _ Cy5.out).size (fun r e => HV6.out.2 r e), fun x hx => ?_⟩
          rcases ho13 with e | e
          · rw [e] at hx; exact HV6.out.2 x hx
          · rw [hx] at e; injection e with e; subst e; exact (CE.out _ Cy5.out).size
        clear hr13 hg13 ho13 HV6 HNB2 Cy5 CE CG F0 F1 F2 FR
        have hCq := anyw_p y6
        refine segF 1 [14, 15] rfl (by kernel_rfl) whole_blind (by decide +kernel) ?_
        change wpQuiet _ _ _ _ (_ :: _ :: []) _
        repeat (first
          | go_big_quiet_skip
          | (go_big_quiet_want
             first
             | (go_big_quiet_op
                go_big_quiet_on)))
        refine wpQuiet_nil ?_
        clear hCq
        refine one_ofR 0 rfl [16] (by decide +kernel) (by simp) fun j hj => ?_
        obtain rfl := List.mem_singleton.1 hj
        refine ⟨_, rfl, (by rfl), fun y7 hy7 K hK => ?_⟩
        have HR7 : Hid (y7.ownsRow 0 50 4 (.slice a' (n + 1) c') (n + 1) (alC 0 L ++ tlC ((n : Int) + 1) s false (.slice none 0 0)) ∧ Below w4.heap.size w4 y7) := ⟨own_upd HR6.out.1 (Upd.of_below Non hy7) (fun _ _ q => q), HR6.out.2.1.trans (hy7.mono HR6.out.2.1.size)⟩
        have HG7 : Hid (Blk y7 g 30 [.slice a n c]) := by have := (HM4.out.below HR7.out.2).blk; rw [HN.out] at this; exact this
        clear hy7
        refine oper_one 28 (.tmp 58) (.tmp 56) rfl g 0 30 _ (.slice a' (n + 1) c') rfl rfl rfl rfl (by show 0 < 1; decide) HG7.out s28 ?_
        intro y8 B8 G8
        refine hK _ _ (.inl (by simp)) ?_
        clear hK K
        simp only [Act.put, List.setIfInBounds_toArray, List.set_cons_zero, List.set_cons_succ]
        have HF : Hid (Rfc y8 (Nw S w y8) g (addA (strip L) ((n : Int) + 1) s) ∧ Upd S w y8) := by
          rw [HQ.out]
          have u8 : Upd (fun x => x = g) w y8 := ((Upd.of_below (fun x => x = g) HB4.out).trans (Upd.of_below Non HR7.out.2) (fun x q => q.elim)).trans (Upd.of_by G8 (S := fun x => x = g) (fun x hx => (Option.some.inj hx).symm)) (fun x hx _ => hx)
          have r8 : y8.ownsRow 0 50 4 (.slice a' (n + 1) c') (n + 1) (alC 0 L ++ tlC ((n : Int) + 1) s false (.slice none 0 0)) := HR7.out.1.kept G8 (.inr (fun e => tag_ne HR7.out.1 HG7.out (by decide) e))
          have m8 : RM y8 g (.slice a' (n + 1) c') (L ++ [(⟨s, [], false⟩, .slice none 0 0)]) := HM.out.added (by rw [HN.out]; omega) hs40 u8 B8 (by rw [HN.out]; exact r8)
          refine ⟨⟨_, _, m8, by simp [strip], HI.out.app (fun x hx => .inl hx) (fun x hx => .inr ⟨Nat.le_trans HB4.out.size (HR6.out.2.2 x hx), row_lt r8 hx⟩)⟩, u8.mono (fun x hx _ => ?_)⟩
          rw [hx]; exact HI.out.g
        clear B8 G8 HR7 HG7 HR6 HM HM4 HI HE HE4
        refine doneR (by kernel_rfl) fun y9 hy => ?_
        have HF9 : Hid (Rfc y9 (Nw S w y9) g (addA (strip L) ((n : Int) + 1) s) ∧ Upd S w y9) :=
          ⟨(HF.out.1.below hy).mono (fun x hx => hx.imp (fun q => q) (fun q => ⟨q.1, Nat.lt_of_lt_of_le q.2 hy.size⟩)), HF.out.2.trans (Upd.of_below Non hy) (fun x q => q.elim)⟩
        clear hy HF
        go_wp2
        go_ret
        exact ⟨by rw [HEV.out]; rfl, HF9.out⟩
    · refine ⟨_, rfl, (by rfl), fun u6 hu6 K hK => ?_⟩
      have Cu6 : Hid (C u6) := CG.out _ _ C0.out hu6
      clear hu6
      refine bs_one 28 50 (.tmp 54) rfl Try.underlying28 4 (by decide) (by decide) _ szRt zvRt (tlC ((n : Int) + 1) s false (.slice none 0 0)) rfl rfl ?_
      obtain ⟨v6, ev6⟩ : ∃ v6, v6 = u6.alloc (.cells (tlC ((n : Int) + 1) s false (.slice none 0 0)).toArray 50) := ⟨_, rfl⟩
      have Gv6 : Grow u6 v6 := by rw [ev6]; exact (Grow.refl u6).alloc _
      have HNB2 : Hid (Blk v6 u6.heap.size 50 (tlC ((n : Int) + 1) s false (.slice none 0 0))) := by show Blk _ _ _ _; rw [ev6]; exact blk_new _ _ _
      rw [← ev6]
      clear ev6
      refine hK _ _ (.inr Gv6) ?_
      clear hK K
      simp only [Act.put, List.setIfInBounds_toArray, List.set_cons_zero, List.set_cons_succ]
      have Cv6 : Hid (C v6) := CG.out _ _ Cu6.out Gv6
      clear Gv6 Cu6
      generalize u6.heap.size = nb2 at *
      refine one_ofR 5 rfl [1] (by decide +kernel) (by simp) fun j hj => ?_
      obtain rfl := List.mem_singleton.1 hj
      refine ⟨_, rfl, (by rfl), fun u7 hu7 K hK => ?_⟩
      have Cu7 : Hid (C u7) := CG.out _ _ Cv6.out hu7
      have HNB2 : Hid (Blk u7 nb2 50 (tlC ((n : Int) + 1) s false (.slice none 0 0))) := HNB2.out.grow hu7
      clear hu7
      refine oper_bs0 28 50 (by simp) rfl ?_
      obtain ⟨v7, ev7⟩ : ∃ v7, v7 = u7.alloc (.cells #[] 50) := ⟨_, rfl⟩
      have Gv7 : Grow u7 v7 := by rw [ev7]; exact (Grow.refl u7).alloc _
      have HNB : Hid (Blk v7 u7.heap.size 50 [] ∧ w4.heap.size ≤ u7.heap.size) := ⟨by rw [ev7]; exact blk_new _ _ _, (CE.out _ Cu7.out).size⟩
      rw [← ev7]
      clear ev7
      refine hK _ _ (.inr Gv7) ?_
      clear hK K
      simp only [Act.put, List.setIfInBounds_toArray, List.set_cons_zero, List.set_cons_succ]
      have Cv7 : Hid (C v7) := CG.out _ _ Cu7.out Gv7
      have HNB2 : Hid (Blk v7 nb2 50 (tlC ((n : Int) + 1) s false (.slice none 0 0))) := HNB2.out.grow Gv7
      clear Gv7 Cu7
      generalize u7.heap.size = nb at *
      refine one_ofR 4 rfl [6] (by decide +kernel) (by simp) fun j hj => ?_
      obtain rfl := List.mem_singleton.1 hj
      refine ⟨_, rfl, (by rfl), fun u8 hu8 K hK => ?_⟩
      have Cu8 : Hid (C u8) := CG.out _ _ Cv7.out hu8
      have HNB : Hid (Blk u8 nb 50 [] ∧ w4.heap.size ≤ nb) := ⟨HNB.out.1.grow hu8, HNB.out.2⟩
      have HNB2 : Hid (Blk u8 nb2 50 (tlC ((n : Int) + 1) s false (.slice none 0 0))) := HNB2.out.grow hu8
      clear hu8
      have r8 := FR.out _ Cu8.out
      refine oper_appE (.tmp 44) (.tmp 48) 28 50 4 rfl (by decide) Try.underlying28 iRt nb rfl HNB.out.1 a n c rfl hnc (alC 0 L) (by rw [alC_len, HN.out]) (row_cells r8) HONE.out (by omega) ?_
      intro e6 v8 hr6 Gv8 ho6
      obtain ⟨ea, ecp, rfl, _, _⟩ := row_val hr6
      have HV6 : Hid (v8.ownsRow 0 50 4 (.slice ea n ecp) n (alC 0 L) ∧ ∀ x, (Value.slice ea n ecp).ownBlock = some x → w4.heap.size ≤ x) := ⟨hr6, fun x hx => by
        rcases ho6 with e | e
        · rw [hx] at e; injection e with e; subst e; exact HNB.out.2
        · rw [hx] at e; injection e with e; subst e; exact (CE.out _ Cu8.out).size⟩
      clear r8 hr6 ho6 HNB
      refine hK _ _ (.inr Gv8) ?_
      clear hK K
      simp only [Act.put, List.setIfInBounds_toArray, List.set_cons_zero, List.set_cons_succ]
      have Cv8 : Hid (C v8) := CG.out _ _ Cu8.out Gv8
      have HNB2 : Hid (Blk v8 nb2 50 (tlC ((n : Int) + 1) s false (.slice none 0 0))) := HNB2.out.grow Gv8
      clear Gv8 Cu8
      refine one_ofR 3 rfl [13] (by decide +kernel) (by simp) fun j hj => ?_
      obtain rfl := List.mem_singleton.1 hj
      refine ⟨_, rfl, (by rfl), fun y5 hy5 K hK => ?_⟩
      have Cy5 : Hid (C y5) := CG.out _ _ Cv8.out hy5
      have HV6' := HV6.out
      have HNB2' := HNB2.out.grow hy5
      have r5 := own_upd HV6.out.1 (Upd.of_below Non hy5) (fun _ _ q => q)
      clear hy5
      refine oper_app (.tmp 49) (.tmp 55) 28 50 4 rfl (by decide) Try.underlying28 iRt _ n (alC 0 L) rfl r5 (some ⟨nb2, 0, none⟩) 1 1 rfl (by simp) (tlC ((n : Int) + 1) s false (.slice none 0 0)) rfl (fun ad e j u hj => by
        injection e with e
        subst e
        have := HNB2'.cell j
        rw [hj] at this
        rw [Addr.add_lit, Nat.zero_add]
        exact this) (tl_one rfl) (by omega) ?_
      intro v' y6 hr13 hg13 ho13
      clear HV6' HNB2' r5
      refine hK _ _ (.inl (by simp)) ?_
      clear hK K
      simp only [Act.put, List.setIfInBounds_toArray, List.set_cons_zero, List.set_cons_succ]
      obtain ⟨a', c', rfl, _, _⟩ := row_val hr13
      have HR6 : Hid (y6.ownsRow 0 50 4 (.slice a' (n + 1) c') (n + 1) (alC 0 L ++ tlC ((n : Int) + 1) s false (.slice none 0 0)) ∧ Below w4.heap.size w4 y6 ∧ ∀ x, (Value.slice a' (n + 1) c').ownBlock = some x → w4.heap.size ≤ x) := by
        refine ⟨hr13, (CE.out _ Cy5.out).grown hg13 (CE.out _ Cy5.out).size (fun r e => HV6.out.2 r e), fun x hx => ?_⟩
        rcases ho13 with e | e
        · rw [e] at hx; exact HV6.out.2 x hx
        · rw [hx] at e; injection e with e; subst e; exact (CE.out _ Cy5.out).size
      clear hr13 hg13 ho13 HV6 HNB2 Cy5 CE CG F0 F1 F2 FR
      have hCq := anyw_p y6
      refine segF 1 [14, 15] rfl (by kernel_rfl) whole_blind (by decide +kernel) ?_
      change wpQuiet _ _ _ _ (_ :: _ :: []) _
      repeat (first
        | go_big_quiet_skip
        | (go_big_quiet_want
           first
           | (go_big_quiet_op
              go_big_quiet_on)))
      refine wpQuiet_nil ?_
      clear hCq
      refine one_ofR 0 rfl [16] (by decide +kernel) (by simp) fun j hj => ?_
      obtain rfl := List.mem_singleton.1 hj
      refine ⟨_, rfl, (by rfl), fun y7 hy7 K hK => ?_⟩
      have HR7 : Hid (y7.ownsRow 0 50 4 (.slice a' (n + 1) c') (n + 1) (alC 0 L ++ tlC ((n : Int) + 1) s false (.slice none 0 0)) ∧ Below w4.heap.size w4 y7) := ⟨own_upd HR6.out.1 (Upd.of_below Non hy7) (fun _ _ q => q), HR6.out.2.1.trans (hy7.mono HR6.out.2.1.size)⟩
      have HG7 : Hid (Blk y7 g 30 [.slice a n c]) := by have := (HM4.out.below HR7.out.2).blk; rw [HN.out] at this; exact this
      clear hy7
      refine oper_one 28 (.tmp 58) (.tmp 56) rfl g 0 30 _ (.slice a' (n + 1) c') rfl rfl rfl rfl (by show 0 < 1; decide) HG7.out s28 ?_
      intro y8 B8 G8
      refine hK _ _ (.inl (by simp)) ?_
      clear hK K
      simp only [Act.put, List.setIfInBounds_toArray, List.set_cons_zero, List.set_cons_succ]
      have HF : Hid (Rfc y8 (Nw S w y8) g (addA (strip L) ((n : Int) + 1) s) ∧ Upd S w y8) := by
        rw [HQ.out]
        have u8 : Upd (fun x => x = g) w y8 := ((Upd.of_below (fun x => x = g) HB4.out).trans (Upd.of_below Non HR7.out.2) (fun x q => q.elim)).trans (Upd.of_by G8 (S := fun x => x = g) (fun x hx => (Option.some.inj hx).symm)) (fun x hx _ => hx)
        have r8 : y8.ownsRow 0 50 4 (.slice a' (n + 1) c') (n + 1) (alC 0 L ++ tlC ((n : Int) + 1) s false (.slice none 0 0)) := HR7.out.1.kept G8 (.inr (fun e => tag_ne HR7.out.1 HG7.out (by decide) e))
        have m8 : RM y8 g (.slice a' (n + 1) c') (L ++ [(⟨s, [], false⟩, .slice none 0 0)]) := HM.out.added (by rw [HN.out]; omega) hs40 u8 B8 (by rw [HN.out]; exact r8)
        refine ⟨⟨_, _, m8, by simp [strip], HI.out.app (fun x hx => .inl hx) (fun x hx => .inr ⟨Nat.le_trans HB4.out.size (HR6.out.2.2 x hx), row_lt r8 hx⟩)⟩, u8.mono (fun x hx _ => ?_)⟩
        rw [hx]; exact HI.out.g
      clear B8 G8 HR7 HG7 HR6 HM HM4 HI HE HE4
      refine doneR (by kernel_rfl) fun y9 hy => ?_
      have HF9 : Hid (Rfc y9 (Nw S w y9) g (addA (strip L) ((n : Int) + 1) s) ∧ Upd S w y9) :=
        ⟨(HF.out.1.below hy).mono (fun x hx => hx.imp (fun q => q) (fun q => ⟨q.1, Nat.lt_of_lt_of_le q.2 hy.size⟩)), HF.out.2.trans (Upd.of_below Non hy) (fun x q => q.elim)⟩
      clear hy HF
      go_wp2
      go_ret
      exact ⟨by rw [HEV.out]; rfl, HF9.out⟩
#print axioms rap_add
end Go.Proofs.Ytbkogaencjmmgaa
