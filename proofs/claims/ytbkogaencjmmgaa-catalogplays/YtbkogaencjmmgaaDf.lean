/-
  The document's Copy.
-/
import Derived.Test.YtbkogaencjmmgaaDe
namespace Go.Proofs.Ytbkogaencjmmgaa
open Go.RowKit Go.MapKept
set_option linter.unusedVariables false
set_option linter.unusedSimpArgs false
theorem RM.push {w W : World} {g : Nat} {lv lv' : Value} {L : List TV} {t : Tb} {fv : Value} (h : RM w g lv L) (hl : L.length < 64) (ok : OkT t) (u : Upd (fun x => x = g ∨ lv.ownBlock = some x) w W) (hb : Blk W g 30 [lv'])
    (hr : W.ownsRow 0 50 4 lv' (L.length + 1) (alC 0 L ++ tlC ((L.length : Int) + 1) t.name t.gone fv)) (hf : W.ownsRow 0 9 1 fv t.fs.length (sts t.fs)) : RM W g lv' (L ++ [(t, fv)]) := by
  refine ⟨hb, ?_, fun p hp => ?_, ⟨?_, ?_⟩⟩
  · rw [List.length_append, alC_app, Nat.zero_add]; simpa [alC] using hr
  · rcases List.mem_append.1 hp with hp | hp
    · refine own_upd (h.fld p hp) u fun x hx => ?_
      rintro (rfl | e)
      · exact tag_ne (h.fld p hp) h.blk (by decide) hx
      · exact tag_ne2 (h.fld p hp) h.row (by decide) hx e
    · obtain rfl := List.mem_singleton.1 hp
      exact hf
  · rw [strip_len, List.length_append]; simp; omega
  · rw [strip_app]
    intro t' ht
    rcases List.mem_append.1 ht with ht | ht
    · exact h.ok.ok t' ht
    · obtain rfl := List.mem_singleton.1 ht
      exact ok
/-- A copy while it is made. -/
structure CpR (B : Nat) (w wr : World) (go : Nat) (A : List Tb) (q : Nat) (lv : Value) (M : List TV) : Prop where
  bl : Below B w wr
  rm : RM wr go lv M
  st : strip M = A.take q
  inn : InR (fun x => B ≤ x) go lv M
set_option maxRecDepth 8000 in
set_option maxHeartbeats 4000000 in
theorem rcopy_any (S : Nat → Prop) (g : Nat) (A : List Tb) (w : World) (h : Rfc w S g A) :
    Calls Try.prog 20 #[.pointer (some ⟨g, 0, none⟩)] w fun e w' => ∃ go, e = .returned (.pointer (some ⟨go, 0, none⟩)) ∧ Hid (Rfc w' (fun x => w.heap.size ≤ x) go A ∧ Below w.heap.size w w') := by
  obtain ⟨lv, L, hM, rfl, hI⟩ := h
  have HM : Hid (∀ W, Below w.heap.size w W → RM W g lv L) := fun W hb => hM.below hb
  have HOK : Hid (OkA (strip L)) := hM.ok
  obtain ⟨a, c, rfl, hv⟩ := hM.val
  obtain ⟨n, hn⟩ : ∃ n, L.length = n := ⟨_, rfl⟩
  have HN : Hid (L.length = n) := hn
  have HNS : Hid ((strip L).length = n) := (strip_len L).trans hn
  have hn64 : n ≤ 64 := by have := hM.ok.len; rw [HNS.out] at this; exact this
  have HV : Hid (n = 0 ∨ ∃ b, a = some ⟨b, 0, none⟩ ∧ ∀ W, Below w.heap.size w W → ∀ k p, L[k]? = some p → W.rangeAt b (k * 4) (tlC ((k : Int) + 1) p.1.name p.1.gone p.2)) := by
    rw [hn] at hv
    rcases hv with h0 | ⟨b, sp, e, hb, _⟩
    · exact .inl h0
    · exact .inr ⟨b, e, fun W hW k p hp => rt_rng (hb.below hW hb.lt) hp⟩
  have HC : Hid (∀ W, Below w.heap.size w W → W.cell? ⟨g, 0, none⟩ = some (.slice a n c)) := fun W hW => by rw [← HN.out]; exact (HM.out W hW).blk.cell 0
  clear hM hI hn hv
  go_enter Try.func20, Try.ntmps20
  go_wp2_with (refine al_box rfl 30 (.tmp 6) rfl [.slice none 0 0] rfl ?_)
  intro go w1 l1 B1 G1
  have HS : Hid (CpR w.heap.size w w1 go (strip L) 0 (.slice none 0 0) []) := ⟨below_none (Below.refl _ _) (Nat.le_refl _) G1, ⟨B1, World.ownsRow_nil _ _ _ _, by simp, ⟨by simp [strip], by simp [strip]⟩⟩, rfl, ⟨l1, by simp [Value.ownBlock], by simp⟩⟩
  clear B1 G1 l1
  go_wp2
  go_loopw [4] (fun i wr => ∃ q : Nat, q ≤ n ∧ i = .int .i64 (q : Int) ∧ Hid (∃ lv' M, CpR w.heap.size w wr go (strip L) q lv' M)) (fun i _ => n - (intOf i).toNat)
  case atStart => exact ⟨0, by omega, rfl, _, _, HS.out⟩
  case round =>
    obtain ⟨q, hq, rfl, HL⟩ := hrel
    obtain ⟨lv', M, hCp⟩ := HL.out
    have HP : Hid (CpR w.heap.size w wr go (strip L) q lv' M) := hCp
    have c0 := HC.out wr hCp.bl
    clear HS HL hCp
    by_cases hlt : q < n
    case neg =>
      have hlt' : ¬ (q : Int) < (n : Int) := by omega
      have HF : Hid (Rfc wr (fun x => w.heap.size ≤ x) go (strip L) ∧ Below w.heap.size w wr) := ⟨⟨lv', M, HP.out.rm, by rw [HP.out.st, List.take_of_length_le (by rw [HNS.out]; omega)], HP.out.inn⟩, HP.out.bl⟩
      clear HP
      go_wp2
      go_ret
      exact ⟨go, rfl, HF.out⟩
    have hlt' : (q : Int) < (n : Int) := by omega
    obtain ⟨⟨⟨nm, fs, gn⟩, fv⟩, hp⟩ : ∃ p, L[q]? = some p := ⟨_, List.getElem?_eq_getElem (by rw [HN.out]; exact hlt)⟩
    have hA : (strip L)[q]? = some ⟨nm, fs, gn⟩ := by simp [strip, hp]
    have HTK : Hid ((strip L).take (q + 1) = (strip L).take q ++ [⟨nm, fs, gn⟩]) := by show _ = _; rw [List.take_add_one, hA]; rfl
    have HOT : Hid (OkT ⟨nm, fs, gn⟩) := HOK.out.ok _ (List.mem_of_getElem? hA)
    obtain ⟨b, rfl, hr⟩ := HV.out.resolve_left (by omega)
    have hfv : ∃ fa fc, fv = .slice fa fs.length fc := by
      obtain ⟨fa, fc, e, _⟩ := row_val ((HM.out wr HP.out.bl).fld _ (List.mem_of_getElem? hp))
      exact ⟨fa, fc, e⟩
    obtain ⟨fa, fc, rfl⟩ := hfv
    have HFR : Hid (∀ W, Below w.heap.size w W → W.ownsRow 0 9 1 (.slice fa fs.length fc) fs.length (sts fs)) := fun W hW => (HM.out W hW).fld _ (List.mem_of_getElem? hp)
    have HR : Hid (wr.rangeAt b (q * 4) (tlC ((q : Int) + 1) nm gn (.slice fa fs.length fc))) := hr wr HP.out.bl q _ hp
    have hx1 : ¬ ((q : Int) < 0) := by omega
    have hx2 : ¬ ((n : Int) ≤ (q : Int)) := by omega
    obtain ⟨m, hm⟩ : ∃ m, fs.length = m := ⟨_, rfl⟩
    have HFM : Hid (fs.length = m) := hm
    rw [hm] at HR HFR
    have hm16 : m ≤ 16 := by have := HOT.out.len; rw [← hm]; exact this
    have hMl : M.length = q := by rw [← strip_len, HP.out.st, List.length_take, HNS.out]; omega
    have HML : Hid (M.length = q) := hMl
    have hnc : fa = none → m = 0 ∧ fc = 0 := fun e => by
      have := HFR.out wr HP.out.bl
      rw [e] at this
      rcases this.2 with ⟨e1, e2⟩ | ⟨_, _, _, e1, _⟩
      · injection e1 with _ e3 e4
        exact ⟨e3, e4⟩
      · cases e1
    have HONE : Hid (∀ u ∈ sts fs, u.oneCell' = true) := fun u hu => by simp only [sts, List.mem_map] at hu; obtain ⟨x, _, rfl⟩ := hu; rfl
    clear hp hA hr hm hMl
    go_wp2_with (first | (refine ld_w rfl 50 (.tmp 22) rfl b (q * 4) (by first | rfl | simp) _ _ HR.out Try.underlying50 rfl (sRt' _ _ _ _) ?_) | (refine al_zero rfl 50 rfl _ sTb4 ?_))
    intro g5 w2 l2 B2 G2
    have h12 : Below wr.heap.size wr w2 := below_none (Below.refl _ _) (Nat.le_refl _) G2
    have HB2 : Hid (Below wr.heap.size wr w2) := h12
    have H52 : Hid (Blk w2 g5 50 (tlC 0 ⟨#[]⟩ false (.slice none 0 0))) := B2
    have HL5 : Hid (wr.heap.size ≤ g5) := l2
    clear B2 G2 h12 l2 HR
    go_wp2_with (refine st_all rfl 50 (.tmp 5) (.tmp 23) rfl g5 50 _ (tlC ((q : Int) + 1) nm gn (.slice fa m fc)) rfl rfl H52.out rfl (sRt' _ _ _ _) (tl_one rfl) ?_)
    intro w3 B3 G3
    have HB3 : Hid (Below wr.heap.size wr w3) := HB2.out.grown G3 HB2.out.size (fun r e => by injection e with e; subst e; exact HL5.out)
    have H53 : Hid (Blk w3 g5 50 (tlC ((q : Int) + 1) nm gn (.slice fa m fc))) := B3
    have a53 : (w3.alloc (.cells #[] 9)).cell? ⟨g5, 3, none⟩ = some (.slice fa m fc) := (H53.out.alloc _).cell 3
    have hrow : (w3.alloc (.cells #[] 9)).ownsRow 0 9 1 (.slice fa m fc) m (sts fs) := HFR.out _ ((HP.out.bl.trans (HB3.out.mono HP.out.bl.size)).alloc (Nat.le_trans HP.out.bl.size HB3.out.size) _)
    have HROW : Hid ((w3.alloc (.cells #[] 9)).ownsRow 0 9 1 (.slice fa m fc) m (sts fs)) := hrow
    have HNB : Hid (Blk (w3.alloc (.cells #[] 9)) w3.heap.size 9 []) := blk_new _ _ _
    have HH5 : Hid (Blk (w3.alloc (.cells #[] 9)) g5 50 (tlC ((q : Int) + 1) nm gn (.slice fa m fc))) := H53.out.alloc _
    have HBA : Hid (Below wr.heap.size wr (w3.alloc (.cells #[] 9)) ∧ wr.heap.size ≤ w3.heap.size) := ⟨HB3.out.alloc HB3.out.size _, HB3.out.size⟩
    clear B3 G3 HB2 H52 H53 HB3 hrow
    go_wp2_with (refine wl_appE rfl (.tmp 24) (.tmp 26) 33 9 1 rfl (by decide) Try.underlying33 iSt _ rfl HNB.out fa m fc rfl hnc (sts fs) (by rw [← HFM.out]; simp [sts]) (row_cells HROW.out) HONE.out (by omega) ?_)
    intro fv' w4 hr4 G4 ho4
    obtain ⟨fa', fc', rfl, _, _⟩ := row_val hr4
    have HF4 : Hid (w4.ownsRow 0 9 1 (.slice fa' m fc') m (sts fs) ∧ ∀ x, (Value.slice fa' m fc').ownBlock = some x → wr.heap.size ≤ x) := ⟨hr4, fun x hx => by
      rcases ho4 with e | e
      · rw [hx] at e; injection e with e; subst e; exact HBA.out.2
      · rw [hx] at e; injection e with e; have := HBA.out.2; first | omega | (simp at e; omega)⟩
    have HB4 : Hid (Below wr.heap.size wr w4) := HBA.out.1.trans (G4.mono HBA.out.1.size)
    have H54 : Hid (Blk w4 g5 50 (tlC ((q : Int) + 1) nm gn (.slice fa m fc))) := HH5.out.grow G4
    clear hr4 G4 ho4 HROW HNB HH5 HBA a53
    go_wp2_with (refine st_one rfl 33 (.tmp 28) (.tmp 27) rfl g5 3 50 _ (.slice fa' m fc') rfl rfl rfl rfl (by show 3 < 4; decide) H54.out s33 ?_)
    intro w5 B5 G5
    have HB5 : Hid (Below wr.heap.size wr w5) := HB4.out.grown G5 HB4.out.size (fun r e => by injection e with e; subst e; exact HL5.out)
    have H55 : Hid (Blk w5 g5 50 (tlC ((q : Int) + 1) nm gn (.slice fa' m fc'))) := B5
    have HF5 : Hid (w5.ownsRow 0 9 1 (.slice fa' m fc') m (sts fs) ∧ ∀ x, (Value.slice fa' m fc').ownBlock = some x → wr.heap.size ≤ x) := ⟨HF4.out.1.kept G5 (.inr (fun e => tag_ne HF4.out.1 H54.out (by decide) e)), HF4.out.2⟩
    clear B5 G5 HB4 H54 HF4
    have HMM : Hid (∀ W, Below wr.heap.size wr W → RM W go lv' M) := fun W hW => HP.out.rm.below hW
    obtain ⟨la, lc, hlv', _⟩ := row_val HP.out.rm.row
    rw [HML.out] at hlv'
    subst hlv'
    have HWL : Hid (go < wr.heap.size) := HP.out.rm.blk.lt
    obtain ⟨C, hC⟩ : ∃ C : World → Prop, C = fun W => Below w5.heap.size w5 W := ⟨_, rfl⟩
    have F0 : Hid (∀ W, C W → W.cell? ⟨go, 0, none⟩ = some (.slice la q lc)) := fun W hW => by rw [hC] at hW; exact ((HMM.out W (HB5.out.trans (hW.mono HB5.out.size))).blk.cell 0)
    have F5 : Hid (∀ W, C W → W.rangeAt g5 0 (tlC ((q : Int) + 1) nm gn (.slice fa' m fc'))) := fun W hW => by rw [hC] at hW; exact ((H55.out.below hW H55.out.lt).all)
    have CG : Hid (∀ w w', C w → Grow w w' → C w') := fun W W' h1 h2 => by rw [hC] at h1 ⊢; exact h1.trans (h2.mono h1.size)
    have CE : Hid (∀ W, C W → Below w5.heap.size w5 W) := fun W h => by rw [hC] at h; exact h
    have C0 : Hid (C { w5 with drawn := w5.drawn + 1 }) := by rw [hC]; exact Below.drew (Below.refl _ _)
    clear hC
    go_wp2_with fail
    refine region_grow [7, 10] (by kernel_rfl) ?_
    have hCp : ∀ p : Prop, (∀ W, C W → p) ↔ p := fun p => ⟨fun h => h _ C0.out, fun h _ _ => h⟩
    generalize ({ w5 with drawn := w5.drawn + 1 } : World) = y0 at *
    have hCq := anyw_p y0
    refine segF 10 [0] rfl (by kernel_rfl) whole_blind (by decide +kernel) ?_
    change wpQuiet _ _ _ _ (_ :: []) _
    repeat (first
      | go_big_quiet_skip
      | (go_big_quiet_want
         first
         | (go_big_quiet_op
            go_big_quiet_on)))
    refine wpQuiet_nil ?_
    clear hCq
    refine segR 5 [1, 2, 3, 4, 5] rfl (by kernel_rfl) whole_blind CG.out C0.out (by decide +kernel) ?_
    change wpQuiet _ _ _ _ (_ :: _ :: _ :: _ :: _ :: []) _
    repeat (first
      | go_big_quiet_skip
      | (go_big_quiet_want
         first
         | (refine q_cell 28 (by simp) (.tmp 32) rfl go 0 rfl _ F0.out ?_
            simp only [Act.put, List.setIfInBounds_toArray, List.set_cons_zero, List.set_cons_succ]
            go_big_quiet_on)
         | (refine q_load 50 (.tmp 5) rfl g5 0 rfl _ _ F5.out Try.underlying50 rfl (sRt' _ _ _ _) ?_
            simp only [Act.put, List.setIfInBounds_toArray, List.set_cons_zero, List.set_cons_succ]
            go_big_quiet_on)
         | (go_big_quiet_op
            go_big_quiet_on)))
    refine wpQuiet_nil ?_
    refine one_ofR 4 rfl [6] (by decide +kernel) (by simp) fun j hj => ?_
    obtain rfl := List.mem_singleton.1 hj
    refine ⟨_, rfl, (by rfl), fun y3 hy3 K hK => ?_⟩
    have C3 : Hid (C y3) := CG.out _ _ C0.out hy3
    clear hy3
    refine bs_one 28 50 (.tmp 34) rfl Try.underlying28 4 (by decide) (by decide) _ szRt zvRt (tlC ((q : Int) + 1) nm gn (.slice fa' m fc')) rfl rfl ?_
    obtain ⟨y4, hy4⟩ : ∃ y4, y4 = y3.alloc (.cells (tlC ((q : Int) + 1) nm gn (.slice fa' m fc')).toArray 50) := ⟨_, rfl⟩
    have G4 : Grow y3 y4 := by rw [hy4]; exact (Grow.refl y3).alloc _
    have HNB : Hid (Blk y4 y3.heap.size 50 (tlC ((q : Int) + 1) nm gn (.slice fa' m fc'))) := by show Blk _ _ _ _; rw [hy4]; exact blk_new _ _ _
    rw [← hy4]
    clear hy4
    refine hK _ _ (.inr G4) ?_
    clear hK K
    simp only [Act.put, List.setIfInBounds_toArray, List.set_cons_zero, List.set_cons_succ]
    have C4 : Hid (C y4) := CG.out _ _ C3.out G4
    clear G4 C3 C0
    generalize y3.heap.size = nb at *
    refine one_ofR 3 rfl [7] (by decide +kernel) (by simp) fun j hj => ?_
    obtain rfl := List.mem_singleton.1 hj
    refine ⟨_, rfl, (by rfl), fun y5 hy5 K hK => ?_⟩
    have C5 : Hid (C y5) := CG.out _ _ C4.out hy5
    have HNB5 : Hid (Blk y5 nb 50 (tlC ((q : Int) + 1) nm gn (.slice fa' m fc'))) := HNB.out.grow hy5
    clear hy5 C4 HNB
    have hW5 := HB5.out.trans ((CE.out _ C5.out).mono HB5.out.size)
    have r5 : y5.ownsRow 0 50 4 (.slice la q lc) q (alC 0 M) := by have := (HMM.out _ hW5).row; rw [HML.out] at this; exact this
    refine oper_app (.tmp 33) (.tmp 35) 28 50 4 rfl (by decide) Try.underlying28 iRt (.slice la q lc) q (alC 0 M) rfl r5 (some ⟨nb, 0, none⟩) 1 1 rfl (by simp) (tlC ((q : Int) + 1) nm gn (.slice fa' m fc')) rfl (fun ad e j u hj => by
      injection e with e
      subst e
      have := HNB5.out.cell j
      rw [hj] at this
      rw [Addr.add_lit, Nat.zero_add]
      exact this) (tl_one rfl) (by omega) ?_
    intro v' y6 hr6 hg6 ho6
    refine hK _ _ (.inl (by simp)) ?_
    clear hK K
    simp only [Act.put, List.setIfInBounds_toArray, List.set_cons_zero, List.set_cons_succ]
    obtain ⟨a', c', rfl, _, _⟩ := row_val hr6
    have HR6 : Hid (y6.ownsRow 0 50 4 (.slice a' (q + 1) c') (q + 1) (alC 0 M ++ tlC ((q : Int) + 1) nm gn (.slice fa' m fc'))) := hr6
    have HU6 : Hid (Upd (fun x => x = go ∨ (Value.slice la q lc).ownBlock = some x) wr y6 ∧ y5.grownBy y6 (Value.slice la q lc).ownBlock) := ⟨(Upd.of_below _ hW5).trans (Upd.of_by hg6 (S := fun x => x = go ∨ (Value.slice la q lc).ownBlock = some x) (fun x hx => .inr hx)) (fun x hx _ => hx), hg6⟩
    have HO6 : Hid (∀ x, (Value.slice a' (q + 1) c').ownBlock = some x → w.heap.size ≤ x) := fun x hx => by
      rcases ho6 with e | e
      · rw [e] at hx; exact HP.out.inn.lv x hx
      · rw [hx] at e; injection e with e; subst e; exact Nat.le_trans HP.out.bl.size hW5.size
    have HG6 : Hid (Blk y6 go 30 [.slice la q lc]) := (HMM.out _ hW5).blk.kept hg6 (fun e => tag_ne r5 (HMM.out _ hW5).blk (by decide) e.symm)
    have HF6 : Hid (y6.ownsRow 0 9 1 (.slice fa' m fc') m (sts fs)) := by
      have h1 := own_upd HF5.out.1 (Upd.of_below Non (CE.out _ C5.out)) (fun _ _ q => q)
      refine h1.kept hg6 ?_
      cases e : (Value.slice fa' m fc').ownBlock with
      | none => exact .inl rfl
      | some x => exact .inr (fun e' => tag_ne2 h1 r5 (by decide) e e'.symm)
    clear r5 hW5 hr6 hg6 ho6 HNB5 C5 CE CG F0 F5
    have hCq := anyw_p y6
    refine segF 1 [8, 9] rfl (by kernel_rfl) whole_blind (by decide +kernel) ?_
    change wpQuiet _ _ _ _ (_ :: _ :: []) _
    repeat (first
      | go_big_quiet_skip
      | (go_big_quiet_want
         first
         | (go_big_quiet_op
            go_big_quiet_on)))
    refine wpQuiet_nil ?_
    clear hCq
    refine one_ofR 0 rfl [10] (by decide +kernel) (by simp) fun j hj => ?_
    obtain rfl := List.mem_singleton.1 hj
    refine ⟨_, rfl, (by rfl), fun y7 hy7 K hK => ?_⟩
    have HR7 : Hid (y7.ownsRow 0 50 4 (.slice a' (q + 1) c') (q + 1) (alC 0 M ++ tlC ((q : Int) + 1) nm gn (.slice fa' m fc'))) := own_upd HR6.out (Upd.of_below Non hy7) (fun _ _ q => q)
    have HG7 : Hid (Blk y7 go 30 [.slice la q lc]) := HG6.out.grow hy7
    have HF7 : Hid (y7.ownsRow 0 9 1 (.slice fa' m fc') m (sts fs)) := own_upd HF6.out (Upd.of_below Non hy7) (fun _ _ q => q)
    have HU7 : Hid (Upd (fun x => x = go ∨ (Value.slice la q lc).ownBlock = some x) wr y7) := HU6.out.1.trans (Upd.of_below Non hy7) (fun x q => q.elim)
    clear hy7 HR6 HG6 HF6 HU6
    refine oper_one 28 (.tmp 38) (.tmp 36) rfl go 0 30 _ (.slice a' (q + 1) c') rfl rfl rfl rfl (by show 0 < 1; decide) HG7.out s28 ?_
    intro y8 B8 G8
    refine hK _ _ (.inl (by simp)) ?_
    clear hK K
    simp only [Act.put, List.setIfInBounds_toArray, List.set_cons_zero, List.set_cons_succ]
    have HF : Hid (∃ lv' M, CpR w.heap.size w y8 go (strip L) (q + 1) lv' M) := by
      have u8 : Upd (fun x => x = go ∨ (Value.slice la q lc).ownBlock = some x) wr y8 := HU7.out.trans (Upd.of_by G8 (S := fun x => x = go) (fun x hx => (Option.some.inj hx).symm)) (fun x hx _ => .inl hx)
      have r8 : y8.ownsRow 0 50 4 (.slice a' (q + 1) c') (q + 1) (alC 0 M ++ tlC ((q : Int) + 1) nm gn (.slice fa' m fc')) := HR7.out.kept G8 (.inr (fun e => tag_ne HR7.out HG7.out (by decide) e))
      have f8 : y8.ownsRow 0 9 1 (.slice fa' m fc') m (sts fs) := HF7.out.kept G8 (.inr (fun e => tag_ne HF7.out HG7.out (by decide) e))
      have m8 : RM y8 go (.slice a' (q + 1) c') (M ++ [(⟨nm, fs, gn⟩, .slice fa' m fc')]) := (HMM.out wr (Below.refl _ _)).push (by rw [HML.out]; omega) HOT.out u8 B8 (by rw [HML.out]; exact r8) (by rw [HFM.out]; exact f8)
      refine ⟨_, _, ⟨Upd.below HP.out.bl u8 (Nat.le_refl _) (fun x hx => ?_), m8, ?_, ⟨HP.out.inn.g, HO6.out, fun p hp x hx => ?_⟩⟩⟩
      · rcases hx with rfl | hx
        · exact HP.out.inn.g
        · exact HP.out.inn.lv x hx
      · rw [strip_app, HP.out.st, HTK.out]; rfl
      · rcases List.mem_append.1 hp with hp | hp
        · exact HP.out.inn.fld p hp x hx
        · obtain rfl := List.mem_singleton.1 hp
          exact Nat.le_trans HP.out.bl.size (HF5.out.2 x hx)
    clear B8 G8 HR7 HG7 HF7 HU7 HO6 HF5 H55 HB5 HMM HP
    refine doneR (by kernel_rfl) fun y9 hy => ?_
    have HF9 : Hid (∃ lv' M, CpR w.heap.size w y9 go (strip L) (q + 1) lv' M) := by
      obtain ⟨lv2, M2, h2⟩ := HF.out
      exact ⟨lv2, M2, ⟨h2.bl.trans (hy.mono h2.bl.size), h2.rm.below hy, h2.st, h2.inn⟩⟩
    clear hy HF
    go_wp2
    go_roundw
    case rel => exact ⟨q + 1, by omega, by go_num, HF9.out⟩
    case measure => simp [intOf]; omega
#print axioms rcopy_any
end Go.Proofs.Ytbkogaencjmmgaa
