/-
  The document's own Truncate.
-/
import Derived.Test.YtmpnceicodfifaaGreatOpr
namespace Go.Proofs.YtmpnceicodfifaaGreat
open Go.RowKit Go.Maps
set_option linter.unusedVariables false
theorem run_min {P : Program} (ats : Array TypeId) (ty : TypeId) (x y : Int) (W : World) : (Builtin.min_ ats ty #[.int .i64 x, .int .i64 y]).run P W = .ok (.int .i64 (if y < x then y else x)) W := by
  simp [Builtin.min_, Builtin.min2]
theorem spot_r {w w1 : World} {br : Nat} {R : Nat → Prop} {a : Ab} (hl : Lim a) (s : ByteArray) (h1 : Ref w1 br R a ∧ Below w.heap.size w w1) : Calls Tryz.prog 61 #[.pointer (some ⟨br, 0, none⟩), .string s] w1 fun e w' => e = .returned (.tuple #[.int .i64 (idx s.data.toList a.fs : Nat), .bool (get a.fs s.data.toList).isSome]) ∧ Hid (Ref w' br R a ∧ Below w.heap.size w w') := by
  obtain ⟨its, aL, cL, hs⟩ := h1.1.seen
  refine (spot_b hs s hl.ris (Ref.len (w := w) (br := br) (R := R) hl hs.fs)).mono ?_
  rintro e w' ⟨rfl, b'⟩
  exact ⟨rfl, h1.1.below b', h1.2.trans (b'.mono h1.2.size)⟩
/-- The i-th file of the document's own disk, opened. -/
theorem Ref.at {w : World} {br : Nat} {R : Nat → Prop} {a : Ab} (h : Ref w br R a) {i : Nat} {nm : Nm} {y : Fl} (hi : a.fs[i]? = some (nm, y)) : ∃ its g cL x ax cx, RI w br a.room a.fuse (.slice (some ⟨g, 0, none⟩) its.length cL) its ∧ a.fs = its.map It.fl ∧ R = rfoot br (.slice (some ⟨g, 0, none⟩) its.length cL) its ∧ i < its.length ∧ its[i]? = some x ∧ x.nm = nm ∧ x.b = y.b ∧ x.k = y.k ∧
    x.v = .slice ax x.b.length cx ∧ its.length ≤ cL ∧ cL ≤ maxLen ∧ x.b.length ≤ cx ∧ Byt w ax x.b ∧ (ax = none → cx = 0) ∧ w.cell? ⟨br, 1, none⟩ = some (.slice (some ⟨g, 0, none⟩) its.length cL) ∧ w.cell? ⟨g, i * 3 + 1, none⟩ = some (.slice ax x.b.length cx) ∧ w.cell? ⟨g, i * 3 + 2, none⟩ = some (.int .i64 (x.k : Int)) ∧ (∀ j, w.frozen? ⟨g, j, none⟩ = false) ∧ Own w 0 x.v x.b := by
  obtain ⟨vL, its, hri, hfs, hR⟩ := h.ri
  have hil : i < its.length := by
    have := (List.getElem?_eq_some_iff.1 hi).1
    rw [hfs] at this
    simpa using this
  obtain ⟨g, cL, x, ax, cx, rfl, hx, ev, hle, hmx, hbc, hby, hnil, c1, f0, f1, f2, hz, ho⟩ := hri.file hil
  have hxy := hi
  rw [hfs, List.getElem?_map, hx] at hxy
  have hxy := Option.some.inj hxy
  simp only [It.fl, Prod.mk.injEq] at hxy
  exact ⟨its, g, cL, x, ax, cx, hri, hfs, hR, hil, hx, hxy.1, by rw [← hxy.2], by rw [← hxy.2], ev, hle, hmx, hbc, hby, hnil, c1, f1, f2, hz, ho⟩
theorem Lim.len {a : Ab} (h : Lim a) {i : Nat} {nm : Nm} {y : Fl} (hi : a.fs[i]? = some (nm, y)) : y.b.length ≤ 1073741824 := by
  have h1 := total_take a.fs i _ hi
  have h2 := total_take_le a.fs (i + 1)
  have h3 := h.tot
  simp only at h1
  omega
theorem foot_set {br : Nat} {vL : Value} {its : List It} {i : Nat} {y : It} {j : Nat} (h : rfoot br vL (its.set i y) j) : rfoot br vL its j ∨ y.v.ownBlock = some j := by
  rcases h with e | e | ⟨z, hz, e⟩
  · exact .inl (.inl e)
  · exact .inl (.inr (.inl e))
  · rcases mem_set hz with hz | rfl
    · exact .inl (.inr (.inr ⟨z, hz, e⟩))
    · exact .inr e
theorem own_mono0 {w : World} {base : Nat} {v : Value} {l : List Nat} (h : Own w base v l) : Own w 0 v l := by
  rcases h with ⟨h1, ⟨rfl, h0⟩ | ⟨g, cap, cur, rfl, hg, hh, hle, hm, h5⟩⟩
  · exact ⟨h1, .inl ⟨rfl, h0⟩⟩
  · exact ⟨h1, .inr ⟨g, cap, cur, rfl, Nat.zero_le _, hh, hle, hm, h5⟩⟩
theorem icell_at {w : World} {br : Nat} {room fuse : Int} {its : List It} {g n cL : Nat} (h : RI w br room fuse (.slice (some ⟨g, 0, none⟩) n cL) its) (hn : n = its.length) {i : Nat} {x : It} (hx : its[i]? = some x) : w.cell? ⟨g, i * 3 + 1, none⟩ = some x.v ∧ w.cell? ⟨g, i * 3 + 2, none⟩ = some (.int .i64 (x.k : Int)) := by
  subst hn
  have hlt := (List.getElem?_eq_some_iff.1 hx).1
  obtain ⟨_, g1, g2⟩ := icells_get its i x hx
  exact ⟨(World.ownsRow.cellAt h.own (i * 3 + 1) (by omega)).trans g1, (World.ownsRow.cellAt h.own (i * 3 + 2) (by omega)).trans g2⟩
set_option maxRecDepth 8000 in
set_option maxHeartbeats 4000000 in
theorem rtrunc_any {w : World} {br : Nat} {R : Nat → Prop} {a : Ab} (h : Ref w br R a) (hl : Lim a) (s : ByteArray) (n : Int) :
    Calls Tryz.prog 32 #[.pointer (some ⟨br, 0, none⟩), .string s, .int .i64 n] w (RefA br w R (aDo [s] (aTrunc s.data.toList n) a)) := by
  have HM : Hid (Calls Tryz.prog 60 #[.pointer (some ⟨br, 0, none⟩), .slice (some ⟨w.heap.size, 0, none⟩) 1 1] (w.alloc (.cells #[.string s] 9)) fun e w' => e = .returned (.int .i64 (mayE a.fuse [s])) ∧ Hid (Ref w' br R a ∧ Below w.heap.size w w')) := may_new h [s] (by simp) 1 rfl _ rfl
  have hml := may_le a.fuse [s]
  by_cases hm : mayE a.fuse [s] = 0
  case neg =>
    have HA : Hid (aDo [s] (aTrunc s.data.toList n) a = (mayE a.fuse [s], a)) := do_may hm
    have hmn : (mayE a.fuse [s] != 0) = true := by simpa using hm
    generalize mayE a.fuse [s] = m at *
    clear h hl
    go_enter Tryz.func32, Tryz.ntmps32
    go_wp2_with (go_at_call 60; refine HM.out.mono ?_; rintro e w1 ⟨rfl, h1⟩)
    go_ret
    unfold RefA
    rw [HA.out]
    exact ⟨rfl, R, h1.out.1, went_below h1.out.2⟩
  rw [hm] at HM
  have hA := do_act (act := aTrunc s.data.toList n) hm
  have HF : Hid (Lim a) := hl
  cases hg : get a.fs s.data.toList with
  | none =>
    have hact : aTrunc s.data.toList n a.fs = (7, a.fs) := by unfold aTrunc; rw [hg]
    have HA : Hid (aDo [s] (aTrunc s.data.toList n) a = (7, a)) := by show _ = _; rw [hA, hact, fuse_err (by simp)]
    have HS2 : Hid (∀ w1, Ref w1 br R a ∧ Below w.heap.size w w1 → Calls Tryz.prog 61 #[.pointer (some ⟨br, 0, none⟩), .string s] w1 fun e w' => e = .returned (.tuple #[.int .i64 (idx s.data.toList a.fs : Nat), .bool false]) ∧ Hid (Ref w' br R a ∧ Below w.heap.size w w')) := fun w1 h1 => by
      have := spot_r hl s h1
      rw [hg] at this
      exact this
    clear h hl hA hact
    go_enter Tryz.func32, Tryz.ntmps32
    go_wp2_with (first
      | (go_at_call 60; refine HM.out.mono ?_; rintro e w1 ⟨rfl, h1⟩)
      | (go_at_call 61; refine (HS2.out _ h1.out).mono ?_; rintro e w2 ⟨rfl, h2⟩))
    go_ret
    unfold RefA
    rw [HA.out]
    exact ⟨rfl, R, h2.out.1, went_below h2.out.2⟩
  | some y =>
    have hsp := spot_some hl.ris hg
    have HS2 : Hid (∀ w1, Ref w1 br R a ∧ Below w.heap.size w w1 → Calls Tryz.prog 61 #[.pointer (some ⟨br, 0, none⟩), .string s] w1 fun e w' => e = .returned (.tuple #[.int .i64 (idx s.data.toList a.fs : Nat), .bool true]) ∧ Hid (Ref w' br R a ∧ Below w.heap.size w w')) := fun w1 h1 => by
      have := spot_r hl s h1
      rw [hg] at this
      exact this
    have HSP : Hid (a.fs[idx s.data.toList a.fs]? = some (s.data.toList, y)) := hsp
    have hyl := hl.len hsp
    by_cases hbad : n < 0 ∨ n > ((y.b.length : Nat) : Int)
    · have hact : aTrunc s.data.toList n a.fs = (1, a.fs) := by unfold aTrunc; rw [hg]; simp only; rw [if_pos hbad]
      have HA : Hid (aDo [s] (aTrunc s.data.toList n) a = (1, a)) := by show _ = _; rw [hA, hact, fuse_err (by simp)]
      clear h hl hA hact hsp
      generalize idx s.data.toList a.fs = i at *
      by_cases hneg : n < 0
      · go_enter Tryz.func32, Tryz.ntmps32
        go_wp2_with (first
          | (go_at_call 60; refine HM.out.mono ?_; rintro e w1 ⟨rfl, h1⟩)
          | (go_at_call 61; refine (HS2.out _ h1.out).mono ?_; rintro e w2 ⟨rfl, h2⟩))
        go_ret
        unfold RefA
        rw [HA.out]
        exact ⟨rfl, R, h2.out.1, went_below h2.out.2⟩
      · have hgt : ((y.b.length : Nat) : Int) < n := hbad.resolve_left hneg
        clear hbad
        go_enter Tryz.func32, Tryz.ntmps32
        go_wp2_with (first
          | (go_at_call 60; refine HM.out.mono ?_; rintro e w1 ⟨rfl, h1⟩)
          | (go_at_call 61; refine (HS2.out _ h1.out).mono ?_; rintro e w2 ⟨rfl, h2⟩; obtain ⟨its, g, cL, x, ax, cx, _, _, _, hil, _, _, hxb, _, _, _, hmx, _, _, _, c1, f1, _⟩ := h2.out.1.at HSP.out; rw [hxb] at f1; unfold maxLen at hmx))
        go_ret
        unfold RefA
        rw [HA.out]
        exact ⟨rfl, R, h2.out.1, went_below h2.out.2⟩
    · obtain ⟨m, rfl⟩ : ∃ m : Nat, n = (m : Int) := Int.eq_ofNat_of_zero_le (by omega)
      have hmy : m ≤ y.b.length := by omega
      have hact : aTrunc s.data.toList (m : Int) a.fs = (0, fupd s.data.toList ⟨y.b.take m, min y.k m⟩ a.fs) := by
        unfold aTrunc; rw [hg]; simp only; rw [if_neg hbad]; rfl
      have HA : Hid (aDo [s] (aTrunc s.data.toList (m : Int)) a = (0, ⟨a.room, fuseAfter a.fuse 0, fupd s.data.toList ⟨y.b.take m, min y.k m⟩ a.fs⟩)) := by show _ = _; rw [hA, hact]
      have HUP : Hid (fupd s.data.toList ⟨y.b.take m, min y.k m⟩ a.fs = a.fs.set (idx s.data.toList a.fs) (s.data.toList, ⟨y.b.take m, min y.k m⟩)) := fupd_spot hl.ris _ hg
      have hkl := hl.fine.fs.lasts _ (mem_of_get hg)
      simp only at hkl
      clear h hl hA hact hsp hbad
      generalize idx s.data.toList a.fs = i at *
      go_enter Tryz.func32, Tryz.ntmps32
      go_wp2_with (first
        | (go_at_call 60; refine HM.out.mono ?_; rintro e w1 ⟨rfl, h1⟩)
        | (go_at_call 61; refine (HS2.out _ h1.out).mono ?_; rintro e w2 ⟨rfl, h2⟩; obtain ⟨its, g, cL, x, ax, cx, hri, hfs, hR, hil, hx, hxn, hxb, hxk, ev, hle, hmx, hbc, hby, hnil, c1, f1, f2, hz, ho⟩ := h2.out.1.at HSP.out; rw [hxb] at f1 hbc; unfold maxLen at hmx))
      rw [hxb] at hby
      have HW2 : Hid (Below w.heap.size w w2) := h2.out.2
      have HRI : Hid (RI w2 br a.room a.fuse (.slice (some ⟨g, 0, none⟩) its.length cL) its ∧ a.fs = its.map It.fl ∧ R = rfoot br (.slice (some ⟨g, 0, none⟩) its.length cL) its ∧ its[i]? = some x ∧ x.nm = s.data.toList ∧ x.k = y.k) := ⟨hri, hfs, hR, hx, hxn, hxk⟩
      obtain ⟨C, hCd⟩ : ∃ C : World → Prop, C = fun W => Below w2.heap.size w2 W := ⟨_, rfl⟩
      have kc : Hid (∀ W, C W → W.cell? ⟨br, 1, none⟩ = some (.slice (some ⟨g, 0, none⟩) its.length cL)) := fun W h => by
        rw [hCd] at h
        exact (Below.cell h (p := ⟨br, 1, none⟩) (cell_lt c1)).trans c1
      have kf : Hid (∀ W, C W → W.cell? ⟨g, i * 3 + 1, none⟩ = some (.slice ax y.b.length cx)) := fun W h => by
        rw [hCd] at h
        exact (Below.cell h (p := ⟨g, i * 3 + 1, none⟩) (cell_lt f1)).trans f1
      have kb : Hid (∀ W, Below w2.heap.size w2 W → C W) := fun W h => by rw [hCd]; exact h
      have ky : Hid (∀ W, Below w2.heap.size w2 W → Byt W ax (y.b.take m)) := fun W h => by
        rcases hby.below h with e | ⟨b, off, e, hc⟩
        · left; rw [e]; simp
        · refine .inr ⟨b, off, e, fun j hj => ?_⟩
          rw [List.length_take] at hj
          rw [hc j (by omega)]
          simp [List.getD_eq_getElem?_getD, show j < m by omega]
      have z0 : Hid (C { w2 with drawn := w2.drawn + 1 }) := kb.out _ ⟨rfl, rfl, rfl, Nat.le_refl _, fun _ _ => rfl⟩
      have d0 : Hid (Below w2.heap.size w2 { w2 with drawn := w2.drawn + 1 }) := ⟨rfl, rfl, rfl, Nat.le_refl _, fun _ _ => rfl⟩
      have hCp : ∀ p : Prop, (∀ W, C W → p) ↔ p := fun p => ⟨fun h => h _ z0.out, fun h _ _ => h⟩
      have hgl := cell_lt f1
      have HZ : Hid (∀ j, w2.frozen? ⟨g, j, none⟩ = false) := hz
      have HC1 : Hid (w2.cell? ⟨g, i * 3 + 1, none⟩ = some (.slice ax y.b.length cx)) := f1
      have hmc : m ≤ cx := by omega
      have hml2 : (y.b.take m).length = m := by rw [List.length_take]; omega
      clear hri hfs hR hx hxn hxk ho hz hby h2 h1 HM HS2 HSP hCd c1 f1 f2 ev hxb
      refine region_calm C 19 (by kernel_rfl) ?_
      have hs0 : ({ w2 with drawn := w2.drawn + 1 } : World).heap.size = w2.heap.size := rfl
      generalize ({ w2 with drawn := w2.drawn + 1 } : World) = W0 at *
      refine seg 5 [0, 1, 2, 3, 4, 6, 7, 8, 9, 10, 11, 12, 13, 14, 15] rfl (by kernel_rfl) whole_blind z0.out (by kernel_rfl) ?_
      change wpQuiet _ _ _ _ (_ :: _ :: _ :: _ :: _ :: _ :: _ :: _ :: _ :: _ :: _ :: _ :: _ :: _ :: _ :: []) _
      repeat (first
        | go_big_quiet_skip
        | (go_big_quiet_want
           first
           | (refine q_load 50 (.tmp 42) rfl br 1 rfl _ _ _ (.inr rfl) kc.out ?_
              simp only [Act.put, List.setIfInBounds_toArray, List.set_cons_zero, List.set_cons_succ]
              go_big_quiet_on)
           | (refine q_load 50 (.tmp 48) rfl br 1 rfl _ _ _ (.inr rfl) kc.out ?_
              simp only [Act.put, List.setIfInBounds_toArray, List.set_cons_zero, List.set_cons_succ]
              go_big_quiet_on)
           | (refine q_load 32 (.tmp 52) rfl g (i * 3 + 1) rfl _ _ _ (.inl rfl) kf.out ?_
              simp only [Act.put, List.setIfInBounds_toArray, List.set_cons_zero, List.set_cons_succ]
              go_big_quiet_on)
           | (refine q_to 32 5 Tryz.underlying32 1 Tryz.sizeOf5 (.tmp 53) (.tmp 54) rfl ax y.b.length cx m rfl rfl hmc ?_
              simp only [Act.put, List.setIfInBounds_toArray, List.set_cons_zero, List.set_cons_succ]
              go_big_quiet_on)
           | (go_big_quiet_op
              go_big_quiet_on)))
      refine wpQuiet_nil ?_
      refine lone_do (i := 5) 4 rfl (by kernel_rfl) rfl (by rfl) ?_
      intro K hK
      refine oper_empty rfl ?_
      have s0 : w2.heap.size ≤ W0.heap.size := d0.out.size
      have b1 : Below w2.heap.size w2 (W0.alloc (.cells #[] 5)) := d0.out.alloc s0 _
      have oe := own_empty W0 w2.heap.size s0
      refine hK _ _ (kb.out _ b1) ?_
      clear hK K
      simp only [Act.put, List.setIfInBounds_toArray, List.set_cons_zero, List.set_cons_succ]
      refine lone_do (i := 16) 3 rfl (by kernel_rfl) rfl (by rfl) ?_
      intro K hK
      refine oper_app (.tmp 45) (.tmp 55) rfl w2.heap.size _ [] rfl oe ax _ cx (y.b.take m) hml2.symm rfl (ky.out _ b1) hnil (by simp only [List.length_nil]; omega) (by simp; omega) ?_
      intro v5 w5 o5 g5 _
      have b5 : Below w2.heap.size w2 w5 := below_app b1 (by simp; omega) oe g5
      refine hK _ _ (kb.out _ b5) ?_
      clear hK K g5
      have o5' : Own w5 w2.heap.size v5 (y.b.take m) := by simpa using o5
      clear o5 oe b1
      obtain ⟨p5, c5, rfl, _⟩ := o5'.shape
      simp only [Act.put, List.setIfInBounds_toArray, List.set_cons_zero, List.set_cons_succ]
      refine lone_calm (i := 17) 2 rfl (by kernel_rfl) rfl rfl (kb.out _ b5) ?_
      repeat (first
        | go_big_quiet_skip
        | (go_big_quiet_want
           go_big_quiet_op
           go_big_quiet_on))
      refine wpQuiet_nil ?_
      refine lone_calm (i := 18) 1 rfl (by kernel_rfl) rfl rfl (kb.out _ b5) ?_
      repeat (first
        | go_big_quiet_skip
        | (go_big_quiet_want
           go_big_quiet_op
           go_big_quiet_on))
      refine wpQuiet_nil ?_
      refine lone_last (i := 19) 0 rfl rfl (by kernel_rfl) rfl (by rfl) ?_
      intro K hK
      have c5' : w5.cell? ⟨g, i * 3 + 1, none⟩ = some (.slice ax y.b.length cx) := (b5.cell (p := ⟨g, i * 3 + 1, none⟩) hgl).trans HC1.out
      have z5 : w5.frozen? ⟨g, i * 3 + 1, none⟩ = false := (b5.frozen (p := ⟨g, i * 3 + 1, none⟩) hgl).trans (HZ.out _)
      refine oper_store 32 (.tmp 58) (.tmp 56) rfl g (i * 3 + 1) _ p5 _ c5 rfl rfl (.inl rfl) c5' z5 ?_
      refine hK _ _ ?_
      clear hK K
      simp only [Act.put]
      refine anyC_done (by kernel_rfl) ⟨rfl, ?_⟩
      obtain ⟨hri, hfs, hR, hx, hxn, hxk⟩ := HRI.out
      have hlt : i < its.length := hil
      obtain ⟨hri6, hk6⟩ := (hri.below b5).set1 rfl hx (own_mono0 o5')
      have hx6 : (its.set i ⟨x.nm, y.b.take m, x.k, .slice p5 (y.b.take m).length c5⟩)[i]? = some ⟨x.nm, y.b.take m, x.k, .slice p5 (y.b.take m).length c5⟩ := by rw [List.getElem?_set_self hlt]
      have hln : its.length = (its.set i ⟨x.nm, y.b.take m, x.k, .slice p5 (y.b.take m).length c5⟩).length := by rw [List.length_set]
      obtain ⟨hri7, hk7⟩ := hri6.set2 hln hx6 (min y.k m)
      rw [List.set_set] at hri7
      have c1' := hri6.blk.cell 1
      have f2' := (icell_at hri6 hln hx6).2
      have z2' : (w5.setCell ⟨g, i * 3 + 1, none⟩ (.slice p5 (y.b.take m).length c5)).frozen? ⟨g, i * 3 + 2, none⟩ = false := World.ownsRow.frozenAt (by have := hri6.own; unfold OwnF at this; rw [← hln] at this; exact this) _
      simp only [List.getElem?_cons_succ, List.getElem?_cons_zero] at c1'
      have HQ : Hid (∀ W, W = ((w5.setCell ⟨g, i * 3 + 1, none⟩ (.slice p5 (y.b.take m).length c5)).setCell ⟨g, i * 3 + 2, none⟩ (.int .i64 ((min y.k m : Nat) : Int))).drew → Calls Tryz.prog 62 #[.pointer (some ⟨br, 0, none⟩)] W fun e w' => e = .returned (.int .i64 0) ∧ Hid (∃ R', Ref w' br R' ⟨a.room, fuseAfter a.fuse 0, fupd s.data.toList ⟨y.b.take m, min y.k m⟩ a.fs⟩ ∧ Went w w' R R')) := fun W hW => by
        have kd : Kept (fun _ => False) ((w5.setCell ⟨g, i * 3 + 1, none⟩ (.slice p5 (y.b.take m).length c5)).setCell ⟨g, i * 3 + 2, none⟩ (.int .i64 ((min y.k m : Nat) : Int))) W := by rw [hW]; exact Kept.drew _ _
        have hr8 := hri7.keptBy kd (fun _ _ h => h)
        have hfs8 : a.fs.set i (s.data.toList, ⟨y.b.take m, min y.k m⟩) = (its.set i ⟨x.nm, y.b.take m, min y.k m, .slice p5 (y.b.take m).length c5⟩).map It.fl := by
          rw [fl_set, ← hfs]; simp only [It.fl, hxn]
        have hrf := hr8.ref hfs8
        refine (did_any hrf HF.out.fine.fuse0 HF.out.fine.fuse1).mono ?_
        rintro e w' ⟨rfl, q1, q2⟩
        refine ⟨rfl, _, by rw [HUP.out]; exact q1, ?_⟩
        have g1 : Went w w2 R R := went_below HW2.out
        have k5 : Kept (fun j => j = g) w2 W := ((Kept.of_below (S := fun j => j = g) b5).trans hk6 (fun _ _ e => e)).trans (hk7.trans kd (fun _ _ h => h.elim)) (fun _ _ e => e)
        have g2 : Went w2 W R (rfoot br (.slice (some ⟨g, 0, none⟩) its.length cL) (its.set i ⟨x.nm, y.b.take m, min y.k m, .slice p5 (y.b.take m).length c5⟩)) := by
          refine ⟨k5.mono fun j _ e => by rw [hR, e]; exact .inr (.inl rfl), fun j hj => ?_⟩
          rcases foot_set hj with e | e
          · left; rw [hR]; exact e
          · right; exact (own_lt o5' e).1
        exact (g1.trans g2).trans q2
      have hmin := @run_min Tryz.prog
      have hcl := cell_lt c1'
      have hmk : min y.k m = min x.k m := by rw [hxk]
      rw [hmk] at HQ HA
      clear hri hri6 hri7 hfs hR hx hxn hxk hk6 hk7 hx6 HRI o5' b5 c5' z5 z0 d0 kc kf kb ky hCp HZ HC1 HUP HF HW2 hmk
      generalize w5.setCell ⟨g, i * 3 + 1, none⟩ (.slice p5 (y.b.take m).length c5) = w6 at *
      generalize x.k = xk at *
      clear hln
      rcases Nat.lt_or_ge m xk with hmk | hmk
      · have e : min xk m = m := by omega
        rw [e] at HQ HA
        have hmk' : (m : Int) < (xk : Int) := by omega
        clear e
        go_wp2
        go_region
        go_wp2_with (go_at_call 62; refine (HQ.out _ rfl).mono ?_; rintro e w8 ⟨rfl, hp⟩)
        go_ret
        unfold RefA
        rw [HA.out]
        exact ⟨rfl, hp.out⟩
      · have e : min xk m = xk := by omega
        rw [e] at HQ HA
        have hmk' : ¬ (m : Int) < (xk : Int) := by omega
        clear e
        go_wp2
        go_region
        go_wp2_with (go_at_call 62; refine (HQ.out _ rfl).mono ?_; rintro e w8 ⟨rfl, hp⟩)
        go_ret
        unfold RefA
        rw [HA.out]
        exact ⟨rfl, hp.out⟩
#print axioms rtrunc_any
end Go.Proofs.YtmpnceicodfifaaGreat
