/-
  The document's own Append.
-/
import Derived.Test.YtmpnceicodfifaaGreatFil
namespace Go.Proofs.YtmpnceicodfifaaGreat
open Go.RowKit Go.Maps
set_option linter.unusedVariables false
set_option maxRecDepth 8000 in
set_option maxHeartbeats 4000000 in
theorem rappend_any {w : World} {br : Nat} {R : Nat → Prop} {a : Ab} (h : Ref w br R a) (hl : Lim a) (s : ByteArray) (a0 : Option Addr) (cap : Nat) (l : List Nat) (hby0 : Byt w a0 l) (hnil0 : a0 = none → cap = 0) (hll : l.length ≤ 1073741824) :
    Calls Tryz.prog 27 #[.pointer (some ⟨br, 0, none⟩), .string s, .slice a0 l.length cap] w (RefA br w R (aDo [s] (aExt a.room s.data.toList l) a)) := by
  have HM : Hid (Calls Tryz.prog 60 #[.pointer (some ⟨br, 0, none⟩), .slice (some ⟨w.heap.size, 0, none⟩) 1 1] (w.alloc (.cells #[.string s] 9)) fun e w' => e = .returned (.int .i64 (mayE a.fuse [s])) ∧ Hid (Ref w' br R a ∧ Below w.heap.size w w')) := may_new h [s] (by simp) 1 rfl _ rfl
  have hml := may_le a.fuse [s]
  by_cases hm : mayE a.fuse [s] = 0
  case neg =>
    have HA : Hid (aDo [s] (aExt a.room s.data.toList l) a = (mayE a.fuse [s], a)) := do_may hm
    have hmn : (mayE a.fuse [s] != 0) = true := by simpa using hm
    generalize mayE a.fuse [s] = m at *
    clear h hl hby0
    go_enter Tryz.func27, Tryz.ntmps27
    go_wp2_with (go_at_call 60; refine HM.out.mono ?_; rintro e w1 ⟨rfl, h1⟩)
    go_ret
    unfold RefA
    rw [HA.out]
    exact ⟨rfl, R, h1.out.1, went_below h1.out.2⟩
  rw [hm] at HM
  have hA := do_act (act := aExt a.room s.data.toList l) hm
  have HF : Hid (Lim a) := hl
  have HS2 : Hid (∀ w1, Ref w1 br R a ∧ Below w.heap.size w w1 → Calls Tryz.prog 61 #[.pointer (some ⟨br, 0, none⟩), .string s] w1 fun e w' => e = .returned (.tuple #[.int .i64 (idx s.data.toList a.fs : Nat), .bool (get a.fs s.data.toList).isSome]) ∧ Hid (Ref w' br R a ∧ Below w.heap.size w w')) := fun w1 h1 => spot_r hl s h1
  have HU : Hid (∀ w2 q, Ref w2 br R a → Calls Tryz.prog 45 #[.pointer (some ⟨br, 0, none⟩)] (w2.drewN q) fun e w' => e = .returned (.int .i64 (total a.fs : Nat)) ∧ w' = w2.drewN q) := fun w2 q h2 => by
    have h3 : Ref (w2.drewN q) br R a := h2.below ⟨rfl, rfl, rfl, Nat.le_refl _, fun _ _ => rfl⟩
    obtain ⟨its, aL, cL, hs⟩ := h3.seen
    exact used_any hs (Ref.len (w := w) (br := br) (R := R) hl hs.fs) hl.tot
  have htot := hl.tot
  have hroom0 := hl.fine.room0
  have hroom1 := hl.fine.room1
  have HB0 : Hid (Byt w a0 l) := hby0
  obtain ⟨bI, hbI⟩ : ∃ bI, (get a.fs s.data.toList).isSome = bI := ⟨_, rfl⟩
  rw [hbI] at HS2
  have hi_le := idx_le s.data.toList a.fs
  by_cases hroom : a.room < (total a.fs : Int) + (l.length : Int)
  · have hact : aExt a.room s.data.toList l a.fs = (6, a.fs) := by unfold aExt; rw [if_pos (.inl (by omega))]
    have HA : Hid (aDo [s] (aExt a.room s.data.toList l) a = (6, a)) := by show _ = _; rw [hA, hact, fuse_err (by simp)]
    have hdec : decide (a.room < (total a.fs : Int) + (l.length : Int)) = true := by simpa using hroom
    clear h hl hby0 hA hact HF hbI
    generalize idx s.data.toList a.fs = i at *
    generalize total a.fs = tt at *
    go_enter Tryz.func27, Tryz.ntmps27
    go_wp2_with (first
      | (go_at_call 60; refine HM.out.mono ?_; rintro e w1 ⟨rfl, h1⟩)
      | (go_at_call 61; refine (HS2.out _ h1.out).mono ?_; rintro e w2 ⟨rfl, h2⟩; obtain ⟨its, aL, cL, hs⟩ := h2.out.1.seen; have c0 := hs.c0; have c1 := hs.c1; clear hs))
    go_quiet (exact Calls.quiet_of_same (HU.out _ _ h2.out.1))
    go_wp2
    go_ret
    unfold RefA
    rw [HA.out]
    have b3 : Below w.heap.size w (w2.drewN nq) := ⟨h2.out.2.os, h2.out.2.tape, h2.out.2.output, h2.out.2.size, h2.out.2.block⟩
    exact ⟨rfl, R, h2.out.1.below ⟨rfl, rfl, rfl, Nat.le_refl _, fun _ _ => rfl⟩, went_below b3⟩
  have hdec : decide (a.room < (total a.fs : Int) + (l.length : Int)) = false := by simpa using hroom
  cases hg : get a.fs s.data.toList with
  | some y =>
    have hsp := spot_some hl.ris hg
    have hact : aExt a.room s.data.toList l a.fs = (0, fupd s.data.toList ⟨y.b ++ l, y.k⟩ a.fs) := by
      unfold aExt; rw [if_neg (by rw [hg]; simp; omega), hg]
    have HA : Hid (aDo [s] (aExt a.room s.data.toList l) a = (0, ⟨a.room, fuseAfter a.fuse 0, (aExt a.room s.data.toList l a.fs).2⟩)) := by show _ = _; rw [hA, hact]
    obtain ⟨fs2, hfs2⟩ : ∃ fs2, fs2 = a.fs := ⟨_, rfl⟩
    have HUP : Hid ((aExt a.room s.data.toList l a.fs).2 = fs2.set (idx s.data.toList a.fs) (s.data.toList, ⟨y.b ++ l, y.k⟩)) := by show _ = _; rw [hact, hfs2]; exact fupd_spot hl.ris _ hg
    have HSP : Hid (a.fs[idx s.data.toList a.fs]? = some (s.data.toList, y)) := hsp
    have hyl := hl.len hsp
    rw [hg] at hbI
    have hbI' : bI = true := hbI.symm
    subst hbI'
    have HFS : Hid (fs2 = a.fs) := hfs2
    clear h hl hby0 hA hact hbI hsp hg hfs2
    generalize idx s.data.toList a.fs = i at *
    generalize total a.fs = tt at *
    go_enter Tryz.func27, Tryz.ntmps27
    go_wp2_with (first
      | (go_at_call 60; refine HM.out.mono ?_; rintro e w1 ⟨rfl, h1⟩)
      | (go_at_call 61; refine (HS2.out _ h1.out).mono ?_; rintro e w2 ⟨rfl, h2⟩; obtain ⟨its, aL, cL, hs⟩ := h2.out.1.seen; have c0 := hs.c0; have c1 := hs.c1; clear hs))
    go_quiet (exact Calls.quiet_of_same (HU.out _ _ h2.out.1))
    have b3 : Below w.heap.size w (w2.drewN nq) := ⟨h2.out.2.os, h2.out.2.tape, h2.out.2.output, h2.out.2.size, h2.out.2.block⟩
    have h9 : Ref (w2.drewN nq) br R a := h2.out.1.below ⟨rfl, rfl, rfl, Nat.le_refl _, fun _ _ => rfl⟩
    obtain ⟨R2, hR2⟩ : ∃ R2, R2 = R := ⟨_, rfl⟩
    have HG2 : Hid (Went w (w2.drewN nq) R R2) := by rw [hR2]; exact went_below b3
    have HB2 : Hid (Byt (w2.drewN nq) a0 l) := HB0.out.below b3
    clear h1 h2 HM HS2 HU c0 c1 b3
    generalize w2.drewN nq = w9 at *
    go_wp2
    obtain ⟨its, g, cL, x, ax, cx, hri, hfs, hR, hil, hx, hxn, hxb, hxk, ev, hle, hmx, hbc, hby, hnil, c1, f1, f2, hz, ho⟩ := h9.at HSP.out
    rw [← HFS.out] at hfs
    rw [← hR2] at hR
    clear h9 HSP HFS hR2
    rw [hxb] at hby f1 hbc
    unfold maxLen at hmx
    obtain ⟨C, hCd⟩ : ∃ C : World → Prop, C = fun W => Below w9.heap.size w9 W := ⟨_, rfl⟩
    have kc : Hid (∀ W, C W → W.cell? ⟨br, 1, none⟩ = some (.slice (some ⟨g, 0, none⟩) its.length cL)) := fun W h => by
      rw [hCd] at h
      exact (Below.cell h (p := ⟨br, 1, none⟩) (cell_lt c1)).trans c1
    have kf : Hid (∀ W, C W → W.cell? ⟨g, i * 3 + 1, none⟩ = some (.slice ax y.b.length cx)) := fun W h => by
      rw [hCd] at h
      exact (Below.cell h (p := ⟨g, i * 3 + 1, none⟩) (cell_lt f1)).trans f1
    have kb : Hid (∀ W, Below w9.heap.size w9 W → C W) := fun W h => by rw [hCd]; exact h
    have ky : Hid (∀ W, Below w9.heap.size w9 W → Byt W ax y.b) := fun W h => hby.below h
    have kl : Hid (∀ W, Below w9.heap.size w9 W → Byt W a0 l) := fun W h => HB2.out.below h
    have z0 : Hid (C { w9 with drawn := w9.drawn + 1 }) := kb.out _ ⟨rfl, rfl, rfl, Nat.le_refl _, fun _ _ => rfl⟩
    have d0 : Hid (Below w9.heap.size w9 { w9 with drawn := w9.drawn + 1 }) := ⟨rfl, rfl, rfl, Nat.le_refl _, fun _ _ => rfl⟩
    have hCp : ∀ p : Prop, (∀ W, C W → p) ↔ p := fun p => ⟨fun h => h _ z0.out, fun h _ _ => h⟩
    have hgl := cell_lt f1
    have HZ : Hid (∀ j, w9.frozen? ⟨g, j, none⟩ = false) := hz
    have HC1 : Hid (w9.cell? ⟨g, i * 3 + 1, none⟩ = some (.slice ax y.b.length cx)) := f1
    have HRI : Hid (RI w9 br a.room a.fuse (.slice (some ⟨g, 0, none⟩) its.length cL) its ∧ fs2 = its.map It.fl ∧ R2 = rfoot br (.slice (some ⟨g, 0, none⟩) its.length cL) its ∧ its[i]? = some x ∧ x.nm = s.data.toList ∧ x.k = y.k) := ⟨hri, hfs, hR, hx, hxn, hxk⟩
    clear hri hfs hR hx hxn hxk ho hz hby hCd c1 f1 f2 ev hxb
    refine region_calm C 19 (by kernel_rfl) ?_
    generalize ({ w9 with drawn := w9.drawn + 1 } : World) = W0 at *
    refine seg 6 [0, 1, 2, 3, 4, 6, 7, 8, 9, 10, 11, 12, 13, 15] rfl (by kernel_rfl) whole_blind z0.out (by kernel_rfl) ?_
    change wpQuiet _ _ _ _ (_ :: _ :: _ :: _ :: _ :: _ :: _ :: _ :: _ :: _ :: _ :: _ :: _ :: _ :: []) _
    repeat (first
      | go_big_quiet_skip
      | (go_big_quiet_want
         first
         | (refine q_load 50 (.tmp 74) rfl br 1 rfl _ _ _ (.inr rfl) kc.out ?_
            simp only [Act.put, List.setIfInBounds_toArray, List.set_cons_zero, List.set_cons_succ]
            go_big_quiet_on)
         | (refine q_load 50 (.tmp 80) rfl br 1 rfl _ _ _ (.inr rfl) kc.out ?_
            simp only [Act.put, List.setIfInBounds_toArray, List.set_cons_zero, List.set_cons_succ]
            go_big_quiet_on)
         | (refine q_load 32 (.tmp 84) rfl g (i * 3 + 1) rfl _ _ _ (.inl rfl) kf.out ?_
            simp only [Act.put, List.setIfInBounds_toArray, List.set_cons_zero, List.set_cons_succ]
            go_big_quiet_on)
         | (go_big_quiet_op
            go_big_quiet_on)))
    refine wpQuiet_nil ?_
    refine lone_do (i := 5) 5 rfl (by kernel_rfl) rfl (by rfl) ?_
    intro K hK
    refine oper_empty rfl ?_
    have s0 : w9.heap.size ≤ W0.heap.size := d0.out.size
    have b1 : Below w9.heap.size w9 (W0.alloc (.cells #[] 5)) := d0.out.alloc s0 _
    have oe := own_empty W0 w9.heap.size s0
    refine hK _ _ (kb.out _ b1) ?_
    clear hK K
    simp only [Act.put, List.setIfInBounds_toArray, List.set_cons_zero, List.set_cons_succ]
    refine lone_do (i := 14) 4 rfl (by kernel_rfl) rfl (by rfl) ?_
    intro K hK
    refine oper_app (.tmp 77) (.tmp 85) rfl w9.heap.size _ [] rfl oe ax _ cx y.b rfl rfl (ky.out _ b1) hnil (by simp only [List.length_nil]; omega) (by simp; omega) ?_
    intro v4 w4 o4 g4 _
    have b4 : Below w9.heap.size w9 w4 := below_app b1 (by simp; omega) oe g4
    refine hK _ _ (kb.out _ b4) ?_
    clear hK K g4
    have o4' : Own w4 w9.heap.size v4 y.b := by simpa using o4
    clear o4 oe b1
    simp only [Act.put, List.setIfInBounds_toArray, List.set_cons_zero, List.set_cons_succ]
    refine lone_do (i := 16) 3 rfl (by kernel_rfl) rfl (by rfl) ?_
    intro K hK
    refine oper_app (.tmp 86) (.tmp 87) rfl w9.heap.size _ y.b rfl o4' a0 _ cap l rfl rfl (kl.out _ b4) hnil0 (by omega) b4.size ?_
    intro v5 w5 o5 g5 _
    have b5 : Below w9.heap.size w9 w5 := below_app b4 b4.size o4' g5
    refine hK _ _ (kb.out _ b5) ?_
    clear hK K g5 o4' b4
    obtain ⟨p5, c5, rfl, _⟩ := o5.shape
    simp only [Act.put, List.setIfInBounds_toArray, List.set_cons_zero, List.set_cons_succ]
    refine lone_calm (i := 17) 2 rfl (by kernel_rfl) rfl rfl (kb.out _ b5) ?_
    repeat (first
      | go_big_quiet_skip
      | (go_big_quiet_want
         go_big_quiet_op
         go_big_quiet_on))
    refine wpQuiet_nil ?_
    refine lone_calm (i := 18) 1 rfl (by kernel_rfl) rfl rfl (kb.out _ b5) ?_
    repeat (first
      | go_big_quiet_skip
      | (go_big_quiet_want
         go_big_quiet_op
         go_big_quiet_on))
    refine wpQuiet_nil ?_
    refine lone_last (i := 19) 0 rfl rfl (by kernel_rfl) rfl (by rfl) ?_
    intro K hK
    have c5' : w5.cell? ⟨g, i * 3 + 1, none⟩ = some (.slice ax y.b.length cx) := (b5.cell (p := ⟨g, i * 3 + 1, none⟩) hgl).trans HC1.out
    have z5 : w5.frozen? ⟨g, i * 3 + 1, none⟩ = false := (b5.frozen (p := ⟨g, i * 3 + 1, none⟩) hgl).trans (HZ.out _)
    refine oper_store 32 (.tmp 90) (.tmp 88) rfl g (i * 3 + 1) _ p5 _ c5 rfl rfl (.inl rfl) c5' z5 ?_
    refine hK _ _ ?_
    clear hK K
    simp only [Act.put]
    refine anyC_done (by kernel_rfl) ⟨rfl, ?_⟩
    obtain ⟨hri, hfs, hR, hx, hxn, hxk⟩ := HRI.out
    obtain ⟨hri6, hk6⟩ := (hri.below b5).set1 rfl hx (own_mono0 o5)
    have HQ : Hid (Calls Tryz.prog 62 #[.pointer (some ⟨br, 0, none⟩)] (w5.setCell ⟨g, i * 3 + 1, none⟩ (.slice p5 (y.b ++ l).length c5)) fun e w' => e = .returned (.int .i64 0) ∧ Hid (∃ R', Ref w' br R' ⟨a.room, fuseAfter a.fuse 0, (aExt a.room s.data.toList l a.fs).2⟩ ∧ Went w w' R R')) := by
      have hfs8 : fs2.set i (s.data.toList, ⟨y.b ++ l, y.k⟩) = (its.set i ⟨x.nm, y.b ++ l, x.k, .slice p5 (y.b ++ l).length c5⟩).map It.fl := by
        rw [fl_set, ← hfs]; simp only [It.fl, hxn, hxk]
      have hrf := hri6.ref hfs8
      refine (did_any hrf HF.out.fine.fuse0 HF.out.fine.fuse1).mono ?_
      rintro e w' ⟨rfl, q1, q2⟩
      refine ⟨rfl, _, by rw [HUP.out]; exact q1, ?_⟩
      have k5 : Kept (fun j => j = g) w9 (w5.setCell ⟨g, i * 3 + 1, none⟩ (.slice p5 (y.b ++ l).length c5)) := (Kept.of_below (S := fun j => j = g) b5).trans hk6 (fun _ _ e => e)
      have g2 : Went w9 (w5.setCell ⟨g, i * 3 + 1, none⟩ (.slice p5 (y.b ++ l).length c5)) R2 (rfoot br (.slice (some ⟨g, 0, none⟩) its.length cL) (its.set i ⟨x.nm, y.b ++ l, x.k, .slice p5 (y.b ++ l).length c5⟩)) := by
        refine ⟨k5.mono fun j _ e => by rw [hR, e]; exact .inr (.inl rfl), fun j hj => ?_⟩
        rcases foot_set hj with e | e
        · left; rw [hR]; exact e
        · right; exact (own_lt o5 e).1
      exact (HG2.out.trans g2).trans q2
    clear hri hri6 hfs hR hx hxn hxk hk6 HRI o5 b5 c5' z5 z0 d0 kc kf kb ky kl hCp HZ HC1 HUP HF HG2 HB2
    generalize w5.setCell ⟨g, i * 3 + 1, none⟩ (.slice p5 (y.b ++ l).length c5) = w6 at *
    go_wp2_with (go_at_call 62; refine HQ.out.mono ?_; rintro e w8 ⟨rfl, hp⟩)
    go_ret
    unfold RefA
    rw [HA.out]
    exact ⟨rfl, hp.out⟩
  | none =>
    rw [hg] at hbI
    have hbI' : bI = false := hbI.symm
    subst hbI'
    by_cases hfull : 4096 ≤ a.fs.length
    · have hact : aExt a.room s.data.toList l a.fs = (6, a.fs) := by unfold aExt; rw [if_pos (.inr ⟨hg, hfull⟩)]
      have HA : Hid (aDo [s] (aExt a.room s.data.toList l) a = (6, a)) := by show _ = _; rw [hA, hact, fuse_err (by simp)]
      have HFL : Hid (4096 ≤ a.fs.length) := hfull
      clear h hl hby0 hA hact HF hbI
      generalize idx s.data.toList a.fs = i at *
      generalize total a.fs = tt at *
      go_enter Tryz.func27, Tryz.ntmps27
      go_wp2_with (first
        | (go_at_call 60; refine HM.out.mono ?_; rintro e w1 ⟨rfl, h1⟩)
        | (go_at_call 61; refine (HS2.out _ h1.out).mono ?_; rintro e w2 ⟨rfl, h2⟩; obtain ⟨its, aL, cL, hs⟩ := h2.out.1.seen; have c0 := hs.c0; have c1 := hs.c1; have hdl : decide ((4096 : Int) ≤ (its.length : Int)) = true := (by have := HFL.out; rw [hs.fs, List.length_map] at this; simp; omega); clear hs))
      go_quiet (exact Calls.quiet_of_same (HU.out _ _ h2.out.1))
      go_wp2
      go_ret
      unfold RefA
      rw [HA.out]
      have b3 : Below w.heap.size w (w2.drewN nq) := ⟨h2.out.2.os, h2.out.2.tape, h2.out.2.output, h2.out.2.size, h2.out.2.block⟩
      exact ⟨rfl, R, h2.out.1.below ⟨rfl, rfl, rfl, Nat.le_refl _, fun _ _ => rfl⟩, went_below b3⟩
    have hact : aExt a.room s.data.toList l a.fs = (0, ins (s.data.toList, ⟨l, 0⟩) a.fs) := by
      unfold aExt; rw [if_neg (by rw [hg]; simp; omega), hg]
    have HA : Hid (aDo [s] (aExt a.room s.data.toList l) a = (0, ⟨a.room, fuseAfter a.fuse 0, (aExt a.room s.data.toList l a.fs).2⟩)) := by show _ = _; rw [hA, hact]
    obtain ⟨y, hy⟩ : ∃ y : Fl, y = ⟨[], 0⟩ := ⟨_, rfl⟩
    obtain ⟨fs2, hfs2⟩ : ∃ fs2, fs2 = a.fs.take (idx s.data.toList a.fs) ++ (s.data.toList, y) :: a.fs.drop (idx s.data.toList a.fs) := ⟨_, rfl⟩
    have hlen1 : (a.fs.take (idx s.data.toList a.fs)).length = idx s.data.toList a.fs := by rw [List.length_take]; omega
    have HUP : Hid ((aExt a.room s.data.toList l a.fs).2 = fs2.set (idx s.data.toList a.fs) (s.data.toList, ⟨y.b ++ l, y.k⟩)) := by
      show _ = _
      rw [hact, hfs2, List.set_append_right _ _ (by omega), hlen1, Nat.sub_self, hy, ins_spot hl.ris _ hg]; rfl
    have HSP : Hid (fs2[idx s.data.toList a.fs]? = some (s.data.toList, y)) := by
      show _ = _
      rw [hfs2, List.getElem?_append_right (by omega), hlen1, Nat.sub_self]; rfl
    have hyl : y.b.length ≤ 1073741824 := by rw [hy]; simp
    have HFS : Hid (fs2 = a.fs.take (idx s.data.toList a.fs) ++ (s.data.toList, y) :: a.fs.drop (idx s.data.toList a.fs) ∧ y = ⟨[], 0⟩) := ⟨hfs2, hy⟩
    have HIL : Hid (idx s.data.toList a.fs ≤ a.fs.length) := hi_le
    have HNF : Hid (a.fs.length < 4096) := by show _ < _; omega
    clear h hl hby0 hA hact hbI hg hfs2 hlen1 hy
    generalize idx s.data.toList a.fs = i at *
    generalize total a.fs = tt at *
    go_enter Tryz.func27, Tryz.ntmps27
    go_wp2_with (first
      | (go_at_call 60; refine HM.out.mono ?_; rintro e w1 ⟨rfl, h1⟩)
      | (go_at_call 61; refine (HS2.out _ h1.out).mono ?_; rintro e w2 ⟨rfl, h2⟩; obtain ⟨its, aL, cL, hs⟩ := h2.out.1.seen; have c0 := hs.c0; have c1 := hs.c1; have hdl : decide ((4096 : Int) ≤ (its.length : Int)) = false := (by have := HNF.out; rw [hs.fs, List.length_map] at this; simp; omega); clear hs))
    go_quiet (exact Calls.quiet_of_same (HU.out _ _ h2.out.1))
    have b3 : Below w.heap.size w (w2.drewN nq) := ⟨h2.out.2.os, h2.out.2.tape, h2.out.2.output, h2.out.2.size, h2.out.2.block⟩
    have h9 : Ref (w2.drewN nq) br R a := h2.out.1.below ⟨rfl, rfl, rfl, Nat.le_refl _, fun _ _ => rfl⟩
    have HG9 : Hid (Went w (w2.drewN nq) R R) := went_below b3
    have HB9 : Hid (Byt (w2.drewN nq) a0 l) := HB0.out.below b3
    clear h1 h2 HM HS2 HU c0 c1 b3 hdl
    generalize w2.drewN nq = w9 at *
    obtain ⟨vL, its9, hri9, hfs9, hR9⟩ := h9.ri
    obtain ⟨aL9, cL9, hv9, hs9, _⟩ := hri9.shape hfs9
    have c1 := hs9.c1
    have hil9 : i ≤ its9.length := by have := HIL.out; rw [hfs9, List.length_map] at this; exact this
    have hn9 : its9.length < 4096 := by have := HNF.out; rw [hfs9, List.length_map] at this; exact this
    have hcl9 := hs9.le
    have hicL : i ≤ cL9 := by omega
    have hnil9 := hs9.nil
    have HSRC : Hid (FSrc w9 aL9 its9) := hs9.src
    have HSLC : Hid (Slc its9) := hri9.slc
    have hbr := cell_lt c1
    have HC9 : Hid (w9.cell? ⟨br, 1, none⟩ = some (.slice aL9 its9.length cL9)) := c1
    have HV9 : Hid (vL = .slice aL9 its9.length cL9) := hv9
    have HRI9 : Hid (RI w9 br a.room a.fuse vL its9 ∧ a.fs = its9.map It.fl ∧ R = rfoot br vL its9) := ⟨hri9, hfs9, hR9⟩
    clear hri9 hfs9 hR9 hv9 hs9 h9
    have oe : OwnF (w9.alloc (.cells #[] 57)) w9.heap.size (.slice (some ⟨w9.heap.size, 0, none⟩) 0 0) [] := ownF_empty w9 _ (Nat.le_refl _)
    have b0 : Below w9.heap.size w9 (w9.alloc (.cells #[] 57)) := (Below.refl _ _).alloc (Nat.le_refl _) _
    have hlt9 : (its9.take i).length = i := by rw [List.length_take]; omega
    go_wp2_with (first
      | (refine sl_to rfl 50 (.tmp 52) (.tmp 53) rfl 57 Tryz.underlying50 3 Tryz.sizeOf57 aL9 its9.length cL9 i rfl rfl hicL ?_)
      | (at_builtin; go_must (refine app_files rfl (.tmp 48) (.tmp 54) rfl w9.heap.size _ [] rfl oe aL9 _ cL9 (its9.take i) hlt9.symm rfl ((HSRC.out.below b0).take i) hnil9 (HSLC.out.take i) (by simp only [List.length_nil]; omega) (by simp) ?_)))
    intro v1 w10 o1 g1 _
    have b10 : Below w9.heap.size w9 w10 := below_appf b0 (by simp) oe g1
    have s10 := b10.size
    clear g1 oe b0
    have o1' : OwnF (w10.alloc (.cells #[.string s, .slice none 0 0, .int .i64 0] 57)) w9.heap.size v1 (its9.take i) := by
      have := o1.below ((Below.refl w10.heap.size w10).alloc (Nat.le_refl _) (.cells #[.string s, .slice none 0 0, .int .i64 0] 57))
      simpa using this
    have b10' : Below w9.heap.size w9 (w10.alloc (.cells #[.string s, .slice none 0 0, .int .i64 0] 57)) := b10.alloc s10 _
    have hone : FSrc (w10.alloc (.cells #[.string s, .slice none 0 0, .int .i64 0] 57)) (some ⟨w10.heap.size, 0, none⟩) [⟨s.data.toList, [], 0, .slice none 0 0⟩] := by
      have := src_one w10 ⟨s.data.toList, [], 0, .slice none 0 0⟩
      simp only [bsOf_self] at this
      exact this
    have hsl1 : Slc [⟨s.data.toList, [], 0, .slice none 0 0⟩] := fun x hx => by
      have : x = ⟨s.data.toList, [], 0, .slice none 0 0⟩ := by simpa using hx
      rw [this]; exact ⟨_, _, _, rfl⟩
    clear o1
    go_wp2_with (at_builtin; go_must (refine app_files rfl (.tmp 56) (.tmp 59) rfl w9.heap.size _ (its9.take i) rfl o1' _ _ _ [⟨s.data.toList, [], 0, .slice none 0 0⟩] rfl rfl hone (by simp) hsl1 (by rw [hlt9]; simp; omega) b10'.size ?_))
    intro v2 w11 o2 g2 _
    have b11 : Below w9.heap.size w9 w11 := below_appf b10' b10'.size o1' g2
    have s11 := b11.size
    clear g2 o1' b10' hone hsl1 b10 s10
    have c1' : w11.cell? ⟨br, 1, none⟩ = some (.slice aL9 its9.length cL9) := (b11.cell (p := ⟨br, 1, none⟩) hbr).trans c1
    have hdl9 : (its9.drop i).length = its9.length - i := by rw [List.length_drop]
    have hsr := from_src (HSRC.out.below b11) hcl9 hil9
    have hnf := from_nil (n := i) hnil9
    clear c1
    go_wp2_with (first
      | (refine sl_fromf rfl 50 (.tmp 66) (.tmp 67) rfl 57 Tryz.underlying50 3 Tryz.sizeOf57 aL9 its9.length cL9 i rfl rfl hil9 ?_; intro A' hA'; rw [← hA'] at hsr hnf; clear hA')
      | (at_builtin; go_must (refine app_files rfl (.tmp 62) (.tmp 68) rfl w9.heap.size _ _ rfl o2 _ _ _ (its9.drop i) hdl9.symm rfl hsr hnf (HSLC.out.drop i) (by simp only [List.length_append, hlt9, hdl9, List.length_cons, List.length_nil]; omega) s11 ?_)))
    intro v3 w12 o3' g3 _
    have b12 : Below w9.heap.size w9 w12 := below_appf b11 s11 o2 g3
    have o3 : OwnF w12 w9.heap.size v3 (its9.take i ++ ⟨s.data.toList, [], 0, .slice none 0 0⟩ :: its9.drop i) := by simpa using o3'
    clear g3 o2 b11 s11 hsr hnf c1' o3'
    obtain ⟨hri9, hfs9, hR9⟩ := HRI9.out
    obtain ⟨hri13, hg13⟩ := hri9.newRow b12 o3 (fun x hx => by
      rcases List.mem_append.1 hx with h | h
      · exact .inl ⟨x, List.mem_of_mem_take h, rfl, rfl⟩
      · rcases List.mem_cons.1 h with h | h
        · rw [h]; exact .inr ⟨rfl, rfl⟩
        · exact .inl ⟨x, List.mem_of_mem_drop h, rfl, rfl⟩)
    have hfs13 : fs2 = (its9.take i ++ ⟨s.data.toList, [], 0, .slice none 0 0⟩ :: its9.drop i).map It.fl := by
      rw [HFS.out.1, HFS.out.2, hfs9, List.map_append, List.map_cons, List.map_take, List.map_drop]
      rfl
    have h13 := hri13.ref hfs13
    obtain ⟨R2, hR2⟩ : ∃ R2, R2 = rfoot br v3 (its9.take i ++ ⟨s.data.toList, [], 0, .slice none 0 0⟩ :: its9.drop i) := ⟨_, rfl⟩
    rw [← hR9, ← hR2] at hg13
    rw [← hR2] at h13
    have c12 : w12.cell? ⟨br, 1, none⟩ = some (.slice aL9 its9.length cL9) := (b12.cell (p := ⟨br, 1, none⟩) hbr).trans HC9.out
    have bk12 := (hri9.below b12).blk
    have z12 : w12.frozen? ⟨br, 1, none⟩ = false := bk12.frozen 1
    rw [HV9.out] at bk12
    have HG2 : Hid (Went w (w12.setCell ⟨br, 1, none⟩ v3) R R2) := HG9.out.trans hg13
    have HB2 : Hid (Byt (w12.setCell ⟨br, 1, none⟩ v3) a0 l) := (HB9.out.below b12).setBr bk12 1 v3
    obtain ⟨a3, c3, rfl, _⟩ := o3.shape
    have H13 : Hid (Ref (w12.setCell ⟨br, 1, none⟩ (.slice a3 (its9.take i ++ ⟨s.data.toList, [], 0, .slice none 0 0⟩ :: its9.drop i).length c3)) br R2 ⟨a.room, a.fuse, fs2⟩) := h13
    clear h13 hri9 hfs9 hR9 hri13 hg13 hfs13 o3 b12 HRI9 HSRC HSLC HFS HIL HNF HB9 HG9 hR2 bk12 HC9 HV9
    generalize (its9.take i ++ ⟨s.data.toList, [], 0, .slice none 0 0⟩ :: its9.drop i).length = n3 at *
    go_wp2
    generalize w12.setCell ⟨br, 1, none⟩ (.slice a3 n3 c3) = w13 at *
    obtain ⟨its, g, cL, x, ax, cx, hri, hfs, hR, hil, hx, hxn, hxb, hxk, ev, hle, hmx, hbc, hby, hnil, c1, f1, f2, hz, ho⟩ := H13.out.at HSP.out
    clear H13 HSP c12 z12
    rw [hxb] at hby f1 hbc
    unfold maxLen at hmx
    obtain ⟨C, hCd⟩ : ∃ C : World → Prop, C = fun W => Below w13.heap.size w13 W := ⟨_, rfl⟩
    have kc : Hid (∀ W, C W → W.cell? ⟨br, 1, none⟩ = some (.slice (some ⟨g, 0, none⟩) its.length cL)) := fun W h => by
      rw [hCd] at h
      exact (Below.cell h (p := ⟨br, 1, none⟩) (cell_lt c1)).trans c1
    have kf : Hid (∀ W, C W → W.cell? ⟨g, i * 3 + 1, none⟩ = some (.slice ax y.b.length cx)) := fun W h => by
      rw [hCd] at h
      exact (Below.cell h (p := ⟨g, i * 3 + 1, none⟩) (cell_lt f1)).trans f1
    have kb : Hid (∀ W, Below w13.heap.size w13 W → C W) := fun W h => by rw [hCd]; exact h
    have ky : Hid (∀ W, Below w13.heap.size w13 W → Byt W ax y.b) := fun W h => hby.below h
    have kl : Hid (∀ W, Below w13.heap.size w13 W → Byt W a0 l) := fun W h => HB2.out.below h
    have z0 : Hid (C { w13 with drawn := w13.drawn + 1 }) := kb.out _ ⟨rfl, rfl, rfl, Nat.le_refl _, fun _ _ => rfl⟩
    have d0 : Hid (Below w13.heap.size w13 { w13 with drawn := w13.drawn + 1 }) := ⟨rfl, rfl, rfl, Nat.le_refl _, fun _ _ => rfl⟩
    have hCp : ∀ p : Prop, (∀ W, C W → p) ↔ p := fun p => ⟨fun h => h _ z0.out, fun h _ _ => h⟩
    have hgl := cell_lt f1
    have HZ : Hid (∀ j, w13.frozen? ⟨g, j, none⟩ = false) := hz
    have HC1 : Hid (w13.cell? ⟨g, i * 3 + 1, none⟩ = some (.slice ax y.b.length cx)) := f1
    have HRI : Hid (RI w13 br a.room a.fuse (.slice (some ⟨g, 0, none⟩) its.length cL) its ∧ fs2 = its.map It.fl ∧ R2 = rfoot br (.slice (some ⟨g, 0, none⟩) its.length cL) its ∧ its[i]? = some x ∧ x.nm = s.data.toList ∧ x.k = y.k) := ⟨hri, hfs, hR, hx, hxn, hxk⟩
    clear hri hfs hR hx hxn hxk ho hz hby hCd c1 f1 f2 ev hxb
    refine region_calm C 19 (by kernel_rfl) ?_
    generalize ({ w13 with drawn := w13.drawn + 1 } : World) = W0 at *
    refine seg 6 [0, 1, 2, 3, 4, 6, 7, 8, 9, 10, 11, 12, 13, 15] rfl (by kernel_rfl) whole_blind z0.out (by kernel_rfl) ?_
    change wpQuiet _ _ _ _ (_ :: _ :: _ :: _ :: _ :: _ :: _ :: _ :: _ :: _ :: _ :: _ :: _ :: _ :: []) _
    repeat (first
      | go_big_quiet_skip
      | (go_big_quiet_want
         first
         | (refine q_load 50 (.tmp 74) rfl br 1 rfl _ _ _ (.inr rfl) kc.out ?_
            simp only [Act.put, List.setIfInBounds_toArray, List.set_cons_zero, List.set_cons_succ]
            go_big_quiet_on)
         | (refine q_load 50 (.tmp 80) rfl br 1 rfl _ _ _ (.inr rfl) kc.out ?_
            simp only [Act.put, List.setIfInBounds_toArray, List.set_cons_zero, List.set_cons_succ]
            go_big_quiet_on)
         | (refine q_load 32 (.tmp 84) rfl g (i * 3 + 1) rfl _ _ _ (.inl rfl) kf.out ?_
            simp only [Act.put, List.setIfInBounds_toArray, List.set_cons_zero, List.set_cons_succ]
            go_big_quiet_on)
         | (go_big_quiet_op
            go_big_quiet_on)))
    refine wpQuiet_nil ?_
    refine lone_do (i := 5) 5 rfl (by kernel_rfl) rfl (by rfl) ?_
    intro K hK
    refine oper_empty rfl ?_
    have s0 : w13.heap.size ≤ W0.heap.size := d0.out.size
    have b1 : Below w13.heap.size w13 (W0.alloc (.cells #[] 5)) := d0.out.alloc s0 _
    have oe := own_empty W0 w13.heap.size s0
    refine hK _ _ (kb.out _ b1) ?_
    clear hK K
    simp only [Act.put, List.setIfInBounds_toArray, List.set_cons_zero, List.set_cons_succ]
    refine lone_do (i := 14) 4 rfl (by kernel_rfl) rfl (by rfl) ?_
    intro K hK
    refine oper_app (.tmp 77) (.tmp 85) rfl w13.heap.size _ [] rfl oe ax _ cx y.b rfl rfl (ky.out _ b1) hnil (by simp only [List.length_nil]; omega) (by simp; omega) ?_
    intro v4 w4 o4 g4 _
    have b4 : Below w13.heap.size w13 w4 := below_app b1 (by simp; omega) oe g4
    refine hK _ _ (kb.out _ b4) ?_
    clear hK K g4
    have o4' : Own w4 w13.heap.size v4 y.b := by simpa using o4
    clear o4 oe b1
    simp only [Act.put, List.setIfInBounds_toArray, List.set_cons_zero, List.set_cons_succ]
    refine lone_do (i := 16) 3 rfl (by kernel_rfl) rfl (by rfl) ?_
    intro K hK
    refine oper_app (.tmp 86) (.tmp 87) rfl w13.heap.size _ y.b rfl o4' a0 _ cap l rfl rfl (kl.out _ b4) hnil0 (by omega) b4.size ?_
    intro v5 w5 o5 g5 _
    have b5 : Below w13.heap.size w13 w5 := below_app b4 b4.size o4' g5
    refine hK _ _ (kb.out _ b5) ?_
    clear hK K g5 o4' b4
    obtain ⟨p5, c5, rfl, _⟩ := o5.shape
    simp only [Act.put, List.setIfInBounds_toArray, List.set_cons_zero, List.set_cons_succ]
    refine lone_calm (i := 17) 2 rfl (by kernel_rfl) rfl rfl (kb.out _ b5) ?_
    repeat (first
      | go_big_quiet_skip
      | (go_big_quiet_want
         go_big_quiet_op
         go_big_quiet_on))
    refine wpQuiet_nil ?_
    refine lone_calm (i := 18) 1 rfl (by kernel_rfl) rfl rfl (kb.out _ b5) ?_
    repeat (first
      | go_big_quiet_skip
      | (go_big_quiet_want
         go_big_quiet_op
         go_big_quiet_on))
    refine wpQuiet_nil ?_
    refine lone_last (i := 19) 0 rfl rfl (by kernel_rfl) rfl (by rfl) ?_
    intro K hK
    have c5' : w5.cell? ⟨g, i * 3 + 1, none⟩ = some (.slice ax y.b.length cx) := (b5.cell (p := ⟨g, i * 3 + 1, none⟩) hgl).trans HC1.out
    have z5 : w5.frozen? ⟨g, i * 3 + 1, none⟩ = false := (b5.frozen (p := ⟨g, i * 3 + 1, none⟩) hgl).trans (HZ.out _)
    refine oper_store 32 (.tmp 90) (.tmp 88) rfl g (i * 3 + 1) _ p5 _ c5 rfl rfl (.inl rfl) c5' z5 ?_
    refine hK _ _ ?_
    clear hK K
    simp only [Act.put]
    refine anyC_done (by kernel_rfl) ⟨rfl, ?_⟩
    obtain ⟨hri, hfs, hR, hx, hxn, hxk⟩ := HRI.out
    obtain ⟨hri6, hk6⟩ := (hri.below b5).set1 rfl hx (own_mono0 o5)
    have HQ : Hid (Calls Tryz.prog 62 #[.pointer (some ⟨br, 0, none⟩)] (w5.setCell ⟨g, i * 3 + 1, none⟩ (.slice p5 (y.b ++ l).length c5)) fun e w' => e = .returned (.int .i64 0) ∧ Hid (∃ R', Ref w' br R' ⟨a.room, fuseAfter a.fuse 0, (aExt a.room s.data.toList l a.fs).2⟩ ∧ Went w w' R R')) := by
      have hfs8 : fs2.set i (s.data.toList, ⟨y.b ++ l, y.k⟩) = (its.set i ⟨x.nm, y.b ++ l, x.k, .slice p5 (y.b ++ l).length c5⟩).map It.fl := by
        rw [fl_set, ← hfs]; simp only [It.fl, hxn, hxk]
      have hrf := hri6.ref hfs8
      refine (did_any hrf HF.out.fine.fuse0 HF.out.fine.fuse1).mono ?_
      rintro e w' ⟨rfl, q1, q2⟩
      refine ⟨rfl, _, by rw [HUP.out]; exact q1, ?_⟩
      have k5 : Kept (fun j => j = g) w13 (w5.setCell ⟨g, i * 3 + 1, none⟩ (.slice p5 (y.b ++ l).length c5)) := (Kept.of_below (S := fun j => j = g) b5).trans hk6 (fun _ _ e => e)
      have g2 : Went w13 (w5.setCell ⟨g, i * 3 + 1, none⟩ (.slice p5 (y.b ++ l).length c5)) R2 (rfoot br (.slice (some ⟨g, 0, none⟩) its.length cL) (its.set i ⟨x.nm, y.b ++ l, x.k, .slice p5 (y.b ++ l).length c5⟩)) := by
        refine ⟨k5.mono fun j _ e => by rw [hR, e]; exact .inr (.inl rfl), fun j hj => ?_⟩
        rcases foot_set hj with e | e
        · left; rw [hR]; exact e
        · right; exact (own_lt o5 e).1
      exact (HG2.out.trans g2).trans q2
    clear hri hri6 hfs hR hx hxn hxk hk6 HRI o5 b5 c5' z5 z0 d0 kc kf kb ky kl hCp HZ HC1 HUP HF HG2 HB2
    generalize w5.setCell ⟨g, i * 3 + 1, none⟩ (.slice p5 (y.b ++ l).length c5) = w6 at *
    go_wp2_with (go_at_call 62; refine HQ.out.mono ?_; rintro e w8 ⟨rfl, hp⟩)
    go_ret
    unfold RefA
    rw [HA.out]
    exact ⟨rfl, hp.out⟩
end Go.Proofs.YtmpnceicodfifaaGreat
