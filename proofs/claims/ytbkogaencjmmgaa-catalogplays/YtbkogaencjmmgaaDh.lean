/-
  Copy.
-/
import Derived.Test.YtbkogaencjmmgaaDg
namespace Go.Proofs.Ytbkogaencjmmgaa
open Go.RowKit Go.MapKept
set_option linter.unusedVariables false
set_option linter.unusedSimpArgs false
abbrev Apt (L : List TV) : Prop := L.Pairwise (fun p q => ∀ x, p.2.ownBlock = some x → q.2.ownBlock ≠ some x)
/-- Rows that were copied. -/
structure ClR (B : Nat) (w wr : World) (N M : List TV) : Prop where
  bl : Below B w wr
  st : strip M = strip N
  fld : ∀ p ∈ M, wr.ownsRow 0 9 1 p.2 p.1.fs.length (sts p.1.fs)
  new : ∀ p ∈ M, ∀ x, p.2.ownBlock = some x → B ≤ x
  apart : Apt M
theorem one_tbs {L : List TV} (h : ∀ p ∈ L, p.2.oneCell' = true) : ∀ u ∈ tbs L, u.oneCell' = true := by
  intro u hu
  simp only [tbs, List.mem_flatMap, List.mem_cons, List.not_mem_nil, or_false] at hu
  obtain ⟨p, hp, rfl | rfl⟩ := hu
  · rfl
  · exact h p hp
set_option maxRecDepth 8000 in
set_option maxHeartbeats 2000000 in
theorem cloned_any (tv : Value) (L : List TV) (hn : L.length ≤ 64) (w : World) (hr : w.ownsRow 0 87 2 tv L.length (tbs L)) (hf : ∀ p ∈ L, w.ownsRow 0 9 1 p.2 p.1.fs.length (sts p.1.fs)) (hk : ∀ p ∈ L, p.1.fs.length ≤ 16) :
    Calls Try.prog 30 #[tv] w fun e w' => ∃ v', e = .returned v' ∧ Hid (∃ M, ClR w.heap.size w w' L M ∧ w'.ownsRow 0 87 2 v' L.length (tbs M) ∧ ∀ x, v'.ownBlock = some x → w.heap.size ≤ x) := by
  have HF : Hid (∀ W, Below w.heap.size w W → ∀ p ∈ L, W.ownsRow 0 9 1 p.2 p.1.fs.length (sts p.1.fs)) := fun W hW p hp => own_upd (hf p hp) (Upd.of_below Non hW) (fun _ _ q => q)
  have HK : Hid (∀ p ∈ L, p.1.fs.length ≤ 16) := hk
  have K := cloneT_any tv L.length (tbs L) (by omega) (one_tbs fun p hp => row_one (hf p hp)) w hr
  obtain ⟨n, hn'⟩ : ∃ n, L.length = n := ⟨_, rfl⟩
  have HN : Hid (L.length = n) := hn'
  rw [hn'] at K hn
  rw [hn']
  clear hf hk hn' hr
  go_enter Try.func30, Try.ntmps30
  go_wp2_with fail
  refine K.mono ?_
  clear K
  rintro e w1 ⟨v', rfl, H⟩
  obtain ⟨a, c, rfl, hnc, hrv⟩ := row_val H.out.1
  have HNW : Hid (∀ x, (Value.slice a n c).ownBlock = some x → w.heap.size ≤ x) := H.out.2.1
  have HB1 : Hid (Below w.heap.size w w1) := H.out.2.2
  have HL1 : Hid ((tbs L).length = n * 2) := H.out.1.1
  by_cases h0 : n = 0
  · subst h0
    have hL : L = [] := List.eq_nil_of_length_eq_zero HN.out
    have HX : Hid (∃ M, ClR w.heap.size w w1 L M ∧ w1.ownsRow 0 87 2 (.slice a 0 c) 0 (tbs M) ∧ ∀ x, (Value.slice a 0 c).ownBlock = some x → w.heap.size ≤ x) := by
      refine ⟨[], ⟨HB1.out, by rw [hL], by simp, by simp, List.Pairwise.nil⟩, ?_, HNW.out⟩
      have := H.out.1
      rw [hL] at this
      exact this
    clear H hrv HN HL1
    go_wp2
    go_loopw [9] (fun i wr => i = .int .i64 0 ∧ wr = w1) (fun _ _ => 0)
    case atStart => exact ⟨rfl, rfl⟩
    case round =>
      obtain ⟨rfl, rfl⟩ := hrel
      go_wp2
      go_ret
      exact ⟨_, rfl, HX.out⟩
  obtain ⟨bo, sp, rfl, hbb, hbl, hcm⟩ : ∃ b sp, a = some ⟨b, 0, none⟩ ∧ Blk w1 b 87 (tbs L ++ sp) ∧ (tbs L ++ sp).length = c * 2 ∧ c ≤ maxLen := by
    rcases hrv with ⟨h1, _⟩ | h1
    · exact absurd h1 h0
    · exact h1
  have hbo : w.heap.size ≤ bo := HNW.out bo rfl
  have HS : Hid (ClR w.heap.size w w1 (L.take 0) [] ∧ Blk w1 bo 87 (tbs ([] ++ L.drop 0) ++ sp)) := ⟨⟨HB1.out, rfl, by simp, by simp, List.Pairwise.nil⟩, hbb⟩
  have HCL : Hid ((tbs L ++ sp).length = c * 2 ∧ c ≤ maxLen ∧ n ≤ c) := ⟨hbl, hcm, hnc⟩
  clear H hrv hbb hbl hcm hnc
  go_wp2
  go_loopw [9] (fun i wr => ∃ q : Nat, q ≤ n ∧ i = .int .i64 (q : Int) ∧ Hid (∃ M, ClR w.heap.size w wr (L.take q) M ∧ Blk wr bo 87 (tbs (M ++ L.drop q) ++ sp))) (fun i _ => n - (intOf i).toNat)
  case atStart => exact ⟨0, by omega, rfl, [], HS.out⟩
  case round =>
    obtain ⟨q, hq, rfl, HL⟩ := hrel
    obtain ⟨M, hC, hB⟩ := HL.out
    have HC : Hid (ClR w.heap.size w wr (L.take q) M) := hC
    have HBL : Hid (Blk wr bo 87 (tbs (M ++ L.drop q) ++ sp)) := hB
    have hMl : M.length = q := by rw [← strip_len, hC.st, strip_len, List.length_take, HN.out]; omega
    have HML : Hid (M.length = q) := hMl
    clear HS HL hC hB hMl
    by_cases hlt : q < n
    case neg =>
      have hlt' : ¬ (q : Int) < (n : Int) := by omega
      have HX : Hid (∃ M, ClR w.heap.size w wr L M ∧ wr.ownsRow 0 87 2 (.slice (some ⟨bo, 0, none⟩) n c) n (tbs M) ∧ ∀ x, (Value.slice (some ⟨bo, 0, none⟩) n c).ownBlock = some x → w.heap.size ≤ x) := by
        have e1 : L.take q = L := List.take_of_length_le (by rw [HN.out]; omega)
        have e2 : L.drop q = [] := List.drop_of_length_le (by rw [HN.out]; omega)
        have h1 := HC.out
        have h2 := HBL.out
        rw [e1] at h1
        rw [e2, List.append_nil] at h2
        refine ⟨M, h1, val_row (sp := sp) h2 HCL.out.2.2 ?_ HCL.out.2.1 ?_, HNW.out⟩
        · rw [← HCL.out.1, List.length_append, List.length_append, tbs_len, tbs_len, HML.out, HN.out]; omega
        · rw [tbs_len, HML.out]; omega
      clear HC HBL
      go_wp2
      go_ret
      exact ⟨_, rfl, HX.out⟩
    have hlt' : (q : Int) < (n : Int) := by omega
    obtain ⟨⟨⟨nm, fs, gn⟩, fv⟩, hp⟩ : ∃ p, L[q]? = some p := ⟨_, List.getElem?_eq_getElem (by rw [HN.out]; exact hlt)⟩
    have hm := List.mem_of_getElem? hp
    have hk16 : fs.length ≤ 16 := HK.out _ hm
    have hfr := HF.out wr HC.out.bl _ hm
    have hdr : L.drop q = (⟨nm, fs, gn⟩, fv) :: L.drop (q + 1) := by
      obtain ⟨hl, e⟩ := List.getElem?_eq_some_iff.1 hp
      rw [List.drop_eq_getElem_cons hl, e]
    have htk : L.take (q + 1) = L.take q ++ [(⟨nm, fs, gn⟩, fv)] := by rw [List.take_add_one, hp]; rfl
    have HTK : Hid (L.take (q + 1) = L.take q ++ [(⟨nm, fs, gn⟩, fv)]) := htk
    have HBL2 : Hid (Blk wr bo 87 (tbs M ++ (.string nm :: fv :: (tbs (L.drop (q + 1)) ++ sp)))) := by
      have := HBL.out
      rw [hdr] at this
      exact tb_blk this
    have c1 : wr.cell? ⟨bo, q * 2 + 1, none⟩ = some fv := by
      have := HBL2.out.cell (q * 2 + 1)
      rw [this, ← HML.out, ← tbs_len, List.getElem?_append_right (by omega), Nat.add_sub_cancel_left]
      rfl
    have hfv : ∃ fa fc, fv = .slice fa fs.length fc := by
      obtain ⟨fa, fc, e, _⟩ := row_val hfr
      exact ⟨fa, fc, e⟩
    have K := cloneS_any fv fs.length (sts fs) (by omega) (fun u hu => by simp only [sts, List.mem_map] at hu; obtain ⟨x, _, rfl⟩ := hu; rfl) wr hfr
    obtain ⟨fa, fc, rfl⟩ := hfv
    have hx1 : ¬ ((q : Int) < 0) := by omega
    have hx2 : ¬ ((n : Int) ≤ (q : Int)) := by omega
    clear hp hm hfr hdr htk HBL
    go_wp2_with fail
    refine K.mono ?_
    clear K
    rintro e w2 ⟨v2, rfl, H⟩
    obtain ⟨va, vc, rfl, _, _⟩ := row_val H.out.1
    have HV : Hid (w2.ownsRow 0 9 1 (.slice va fs.length vc) fs.length (sts fs) ∧ (∀ x, (Value.slice va fs.length vc).ownBlock = some x → wr.heap.size ≤ x) ∧ Below wr.heap.size wr w2) := H.out
    have HB2 : Hid (Blk w2 bo 87 (tbs M ++ (.string nm :: .slice fa fs.length fc :: (tbs (L.drop (q + 1)) ++ sp)))) := HBL2.out.below HV.out.2.2 HBL2.out.lt
    clear H HBL2 c1
    go_wp2_with (refine st_one rfl 33 (.tmp 21) (.tmp 19) rfl bo (q * 2 + 1) 87 _ (.slice va fs.length vc) (by first | rfl | simp) rfl rfl rfl (by simp [tbs_len, HML.out]) HB2.out s33 ?_)
    intro w3 B3 G3
    rw [← HML.out, tb_set, HML.out] at B3
    have HX : Hid (∃ M, ClR w.heap.size w w3 (L.take (q + 1)) M ∧ Blk w3 bo 87 (tbs (M ++ L.drop (q + 1)) ++ sp)) := by
      have hsz : w.heap.size ≤ wr.heap.size := HC.out.bl.size
      refine ⟨M ++ [(⟨nm, fs, gn⟩, .slice va fs.length vc)], ⟨(HC.out.bl.trans (HV.out.2.2.mono hsz)).grown G3 (Nat.le_trans hsz HV.out.2.2.size) (fun r e => by injection e with e; omega), ?_, fun p hp => ?_, fun p hp x hx => ?_, ?_⟩, ?_⟩
      · rw [HTK.out, strip_app, strip_app, HC.out.st]; rfl
      · have key : ∀ {p : TV}, w2.ownsRow 0 9 1 p.2 p.1.fs.length (sts p.1.fs) → w3.ownsRow 0 9 1 p.2 p.1.fs.length (sts p.1.fs) := fun {p} h1 => by
          refine h1.kept G3 ?_
          cases e : p.2.ownBlock with
          | none => exact .inl rfl
          | some x => exact .inr (fun e' => tag_ne h1 HB2.out (by decide) (by rw [e, e']))
        rcases List.mem_append.1 hp with hp | hp
        · exact key (own_upd (HC.out.fld p hp) (Upd.of_below Non HV.out.2.2) (fun _ _ q => q))
        · obtain rfl := List.mem_singleton.1 hp
          exact key HV.out.1
      · rcases List.mem_append.1 hp with hp | hp
        · exact HC.out.new p hp x hx
        · obtain rfl := List.mem_singleton.1 hp
          exact Nat.le_trans hsz (HV.out.2.1 x hx)
      · show List.Pairwise _ _
        rw [List.pairwise_append]
        refine ⟨HC.out.apart, List.pairwise_singleton _ _, fun p hp r hr x hx e => ?_⟩
        obtain rfl := List.mem_singleton.1 hr
        have h1 := row_lt (HC.out.fld p hp) hx
        have h2 := HV.out.2.1 x e
        omega
      · have e1 : tbs (M ++ [((⟨nm, fs, gn⟩, .slice va fs.length vc) : TV)] ++ L.drop (q + 1)) ++ sp = tbs M ++ (.string nm :: .slice va fs.length vc :: (tbs (L.drop (q + 1)) ++ sp)) := by
          rw [tbs_app, tbs_app, tbs_cons]; simp [tbs]
        rw [e1]
        exact B3
    clear B3 G3 HB2 HV HC
    go_wp2
    go_roundw
    case rel => exact ⟨q + 1, by omega, by go_num, HX.out⟩
    case measure => simp [intOf]; omega
theorem oper_box {o : Oper} {a : Act} {w : World} {K : Act → World → Prop} {Q : Exit → Act → World → Prop} (t : TypeId) (x : Operand) (ho : o.op = .box t x) (cs : List Value) (hx : a.eval x = .agg cs.toArray)
    (h : K (a.put o.dst (.pointer (some ⟨w.heap.size, 0, none⟩))) (w.alloc (.cells cs.toArray t))) : Oper.wp Try.prog o a w K Q := by
  unfold Oper.wp execOp
  simp only [ho, hx, Value.cells, Sem.run_bind, Instr.box, newVar, newRow, run_newObj_alloc, Sem.run_pure, Result.andThen_ok]
  exact h
set_option maxRecDepth 8000 in
set_option maxHeartbeats 2000000 in
theorem copy_any (S : Nat → Prop) (g : Nat) (A : List Tb) (w : World) (h : Cat w S g A) :
    Calls Try.prog 19 #[.pointer (some ⟨g, 0, none⟩)] w fun e w' => ∃ go, e = .returned (.pointer (some ⟨go, 0, none⟩)) ∧ Hid (Cat w' (fun x => w.heap.size ≤ x) go A ∧ Below w.heap.size w w') := by
  obtain ⟨tv, dm, mv, L, hM, rfl, hI⟩ := h
  have HM : Hid (∀ W, Below w.heap.size w W → CM W g tv dm mv L) := fun W hW => hM.below hW
  have HM0 : Hid (CM w g tv dm mv L) := hM
  have hl64 : L.length ≤ 64 := by have := hM.ok.len; rw [strip_len] at this; exact this
  have HK : Hid (∀ p ∈ L, p.1.fs.length ≤ 16) := fun p hp => (hM.ok.ok p.1 (by simp only [strip, List.mem_map]; exact ⟨p, hp, rfl⟩)).len
  obtain ⟨a, c, htv, _, _⟩ := row_val hM.row
  subst htv
  have hmv : (∃ r, mv = .map r) := by
    rcases hM.map with ⟨e, _⟩ | ⟨b, _, _, e, _⟩
    · exact ⟨_, e⟩
    · exact ⟨_, e⟩
  obtain ⟨mr, rfl⟩ := hmv
  obtain ⟨n, hn⟩ : ∃ n, L.length = n := ⟨_, rfl⟩
  have HN : Hid (L.length = n) := hn
  rw [hn] at hl64
  clear hM hI hn
  go_enter Try.func19, Try.ntmps19
  obtain ⟨C, hC⟩ : ∃ C : World → Prop, C = fun W => Below w.heap.size w W := ⟨_, rfl⟩
  have F0 : Hid (∀ W, C W → W.cell? ⟨g, 0, none⟩ = some (.slice a n c)) := fun W hW => by rw [hC] at hW; exact (by have := (HM.out W hW).blk.cell 0; rw [← HN.out]; exact this)
  have F1 : Hid (∀ W, C W → W.cell? ⟨g, 1, none⟩ = some (.int .u64 (dm : Int))) := fun W hW => by rw [hC] at hW; exact ((HM.out W hW).blk.cell 1)
  have F2 : Hid (∀ W, C W → W.cell? ⟨g, 2, none⟩ = some (.map mr)) := fun W hW => by rw [hC] at hW; exact ((HM.out W hW).blk.cell 2)
  have CG : Hid (∀ w w', C w → Grow w w' → C w') := fun W W' h1 h2 => by rw [hC] at h1 ⊢; exact h1.trans (h2.mono h1.size)
  have CE : Hid (∀ W, C W → Below w.heap.size w W) := fun W h => by rw [hC] at h; exact h
  have C0 : Hid (C { w with drawn := w.drawn + 1 }) := by rw [hC]; exact Below.drew (Below.refl _ _)
  clear hC
  go_wp2_with fail
  refine region_grow [] (by kernel_rfl) ?_
  have hCp : ∀ p : Prop, (∀ W, C W → p) ↔ p := fun p => ⟨fun h => h _ C0.out, fun h _ _ => h⟩
  generalize ({ w with drawn := w.drawn + 1 } : World) = y0 at *
  refine segR 5 [0, 1, 2, 3, 5, 6, 7, 8, 9, 10, 11, 12] rfl (by kernel_rfl) whole_blind CG.out C0.out (by decide +kernel) ?_
  change wpQuiet _ _ _ _ (_ :: _ :: _ :: _ :: _ :: _ :: _ :: _ :: _ :: _ :: _ :: _ :: []) _
  repeat (first
    | go_big_quiet_skip
    | (go_big_quiet_want
       first
       | (refine q_cell 66 (by simp) (.tmp 7) rfl g 0 rfl _ F0.out ?_
          simp only [Act.put, List.setIfInBounds_toArray, List.set_cons_zero, List.set_cons_succ]
          go_big_quiet_on)
       | (refine q_cell 67 (by simp) (.tmp 12) rfl g 1 rfl _ F1.out ?_
          simp only [Act.put, List.setIfInBounds_toArray, List.set_cons_zero, List.set_cons_succ]
          go_big_quiet_on)
       | (refine q_cell 68 (by simp) (.tmp 16) rfl g 2 rfl _ F2.out ?_
          simp only [Act.put, List.setIfInBounds_toArray, List.set_cons_zero, List.set_cons_succ]
          go_big_quiet_on)
       | (go_big_quiet_op
          go_big_quiet_on)))
  refine wpQuiet_nil ?_
  refine one_ofR 4 rfl [4] (by decide +kernel) (by simp) fun j hj => ?_
  obtain rfl := List.mem_singleton.1 hj
  refine ⟨_, rfl, (by rfl), fun y1 hy1 K hK => ?_⟩
  have C1 : Hid (C y1) := CG.out _ _ C0.out hy1
  clear hy1
  have hM1 := HM.out y1 (CE.out _ C1.out)
  have K1 := cloned_any (.slice a L.length c) L (by rw [HN.out]; exact hl64) y1 hM1.row hM1.fld HK.out
  rw [HN.out] at K1
  refine oper_calls 30 _ _ rfl #[.slice a n c] (by rw [List.map_toArray]; rfl) (enters Try.func30 (by kernel_rfl) rfl) (fun v w' => Hid (∃ M, ClR y1.heap.size y1 w' L M ∧ w'.ownsRow 0 87 2 v n (tbs M) ∧ ∀ x, v.ownBlock = some x → y1.heap.size ≤ x)) (K1.mono (by rintro e w' ⟨v', rfl, h⟩; exact ⟨_, rfl, h⟩)) ?_
  clear K1 hM1
  rintro tv2 y2 H2
  obtain ⟨M, hC2, hR2, hN2⟩ := H2.out
  have G2 : Grow y1 y2 := hC2.bl
  refine hK _ _ (.inr G2) ?_
  clear hK K
  simp only [Act.put, List.setIfInBounds_toArray, List.set_cons_zero, List.set_cons_succ]
  obtain ⟨ta, tc, rfl, _, _⟩ := row_val hR2
  have HR2 : Hid (ClR y1.heap.size y1 y2 L M ∧ y2.ownsRow 0 87 2 (.slice ta n tc) n (tbs M) ∧ ∀ x, (Value.slice ta n tc).ownBlock = some x → y1.heap.size ≤ x) := ⟨hC2, hR2, hN2⟩
  have HS1 : Hid (w.heap.size ≤ y1.heap.size) := (CE.out _ C1.out).size
  have C2 : Hid (C y2) := CG.out _ _ C1.out G2
  clear hC2 hR2 hN2 H2 G2 C1 C0
  refine one_ofR 3 rfl [13] (by decide +kernel) (by simp) fun j hj => ?_
  obtain rfl := List.mem_singleton.1 hj
  refine ⟨_, rfl, (by rfl), fun y3 hy3 K hK => ?_⟩
  have C3 : Hid (C y3) := CG.out _ _ C2.out hy3
  have G23 : Hid (Grow y2 y3) := hy3
  clear hy3
  have hM3 := HM.out y3 (CE.out _ C3.out)
  have K3 := mclone_any (.map mr) _ y3 hM3.map
  refine oper_calls 31 _ _ rfl #[.map mr] (by rw [List.map_toArray]; rfl) (enters Try.func31 (by kernel_rfl) rfl) (fun v w' => Hid (MapS w' v (fun id s => hasB (strip L) id s = true) ∧ (∀ x, v = .map (some x) → y3.heap.size ≤ x) ∧ Below y3.heap.size y3 w')) (K3.mono (by rintro e w' ⟨v', rfl, h⟩; exact ⟨_, rfl, h⟩)) ?_
  clear K3 hM3
  rintro mv2 y4 H4
  have G4 : Grow y3 y4 := H4.out.2.2
  refine hK _ _ (.inr G4) ?_
  clear hK K
  simp only [Act.put, List.setIfInBounds_toArray, List.set_cons_zero, List.set_cons_succ]
  have hmv2 : ∃ r, mv2 = .map r := by
    rcases H4.out.1 with ⟨e, _⟩ | ⟨b, _, _, e, _⟩
    · exact ⟨_, e⟩
    · exact ⟨_, e⟩
  obtain ⟨mr2, rfl⟩ := hmv2
  have HMP : Hid (MapS y4 (.map mr2) (fun id s => hasB (strip L) id s = true) ∧ (∀ x, Value.map mr2 = .map (some x) → w.heap.size ≤ x)) := ⟨H4.out.1, fun x hx => Nat.le_trans (CE.out _ C3.out).size (H4.out.2.1 x hx)⟩
  have HG24 : Hid (Grow y2 y4) := G23.out.trans G4
  have C4 : Hid (C y4) := CG.out _ _ C3.out G4
  clear H4 G4 G23 C3 C2
  have hCq := anyw_p y4
  refine segF 2 [14] rfl (by kernel_rfl) whole_blind (by decide +kernel) ?_
  change wpQuiet _ _ _ _ (_ :: []) _
  repeat (first
    | go_big_quiet_skip
    | (go_big_quiet_want
       first
       | (go_big_quiet_op
          go_big_quiet_on)))
  refine wpQuiet_nil ?_
  clear hCq
  refine one_ofR 1 rfl [15] (by decide +kernel) (by simp) fun j hj => ?_
  obtain rfl := List.mem_singleton.1 hj
  refine ⟨_, rfl, (by rfl), fun y5 hy5 K hK => ?_⟩
  have C5 : Hid (C y5) := CG.out _ _ C4.out hy5
  have HG25 : Hid (Grow y2 y5) := HG24.out.trans hy5
  have HMP5 : Hid (MapS y5 (.map mr2) (fun id s => hasB (strip L) id s = true)) := HMP.out.1.upd (Upd.of_below Non hy5) (fun _ _ q => q)
  clear hy5 HG24
  refine oper_box 70 (.tmp 19) rfl [.slice ta n tc, .int .u64 (dm : Int), .map mr2] rfl ?_
  obtain ⟨y6, hy6⟩ : ∃ y6, y6 = y5.alloc (.cells [.slice ta n tc, .int .u64 (dm : Int), .map mr2].toArray 70) := ⟨_, rfl⟩
  have G6 : Grow y5 y6 := by rw [hy6]; exact (Grow.refl y5).alloc _
  have HB6 : Hid (Blk y6 y5.heap.size 70 [.slice ta n tc, .int .u64 (dm : Int), .map mr2]) := by show Blk _ _ _ _; rw [hy6]; exact blk_new _ _ _
  rw [← hy6]
  clear hy6
  refine hK _ _ (.inr G6) ?_
  clear hK K
  simp only [Act.put, List.setIfInBounds_toArray, List.set_cons_zero, List.set_cons_succ]
  have HF : Hid (Cat y6 (fun x => w.heap.size ≤ x) y5.heap.size (strip L) ∧ Below w.heap.size w y6) := by
    have g26 : Grow y2 y6 := HG25.out.trans G6
    have hw5 := CE.out _ C5.out
    obtain ⟨h1, h2, h3⟩ := HR2.out
    have m6 : CM y6 y5.heap.size (.slice ta n tc) dm (.map mr2) M := by
      refine ⟨HB6.out, ?_, fun p hp => own_upd (h1.fld p hp) (Upd.of_below Non g26) (fun _ _ q => q), ?_, fun i => ?_, ?_, h1.apart⟩
      · have e : M.length = n := by rw [← strip_len, h1.st, strip_len, HN.out]
        rw [e]
        exact own_upd h2 (Upd.of_below Non g26) (fun _ _ q => q)
      · rw [h1.st]
        exact HMP5.out.upd (Upd.of_below Non G6) (fun _ _ q => q)
      · rw [h1.st]; exact HM0.out.bits i
      · rw [h1.st]; exact HM0.out.ok
    refine ⟨⟨_, dm, _, M, m6, h1.st, ⟨hw5.size, fun x hx => Nat.le_trans HS1.out (h3 x hx), fun p hp x hx => Nat.le_trans HS1.out (h1.new p hp x hx), HMP.out.2⟩⟩, hw5.trans (G6.mono hw5.size)⟩
  generalize y5.heap.size = go at *
  clear HB6 G6 HMP HMP5 HR2 HG25 C5 C4 CE CG F0 F1 F2 HM HM0
  have hCq := anyw_p y6
  refine segF 0 [16] rfl (by kernel_rfl) whole_blind (by decide +kernel) ?_
  change wpQuiet _ _ _ _ (_ :: []) _
  repeat (first
    | go_big_quiet_skip
    | (go_big_quiet_want
       first
       | (go_big_quiet_op
          go_big_quiet_on)))
  refine wpQuiet_nil ?_
  clear hCq
  refine doneR (by kernel_rfl) fun y9 hy => ?_
  have HF9 : Hid (Cat y9 (fun x => w.heap.size ≤ x) go (strip L) ∧ Below w.heap.size w y9) := ⟨HF.out.1.below hy, HF.out.2.trans (hy.mono HF.out.2.size)⟩
  clear hy HF
  go_wp2
  go_ret
  exact ⟨go, rfl, HF9.out⟩
#print axioms copy_any
end Go.Proofs.Ytbkogaencjmmgaa
