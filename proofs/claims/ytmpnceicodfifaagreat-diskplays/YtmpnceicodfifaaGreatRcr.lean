/-
  The document's own Crash.
-/
import Derived.Test.YtmpnceicodfifaaGreatFil
namespace Go.Proofs.YtmpnceicodfifaaGreat
open Go.RowKit Go.Maps
set_option linter.unusedVariables false
theorem q_loadi {C : World → Prop} {a : Act} {o : Oper} {K : Act → Prop} (x : Operand) (ho : o.op = .load 3 x) (b k : Nat) (hx : a.eval x = .pointer (some ⟨b, k, none⟩)) (v : Int) (hS : ∀ w, C w → w.cell? ⟨b, k, none⟩ = some (.int .i64 v))
    (hk : K (a.put o.dst (.int .i64 v))) : o.quiet Tryz.prog a C K :=
  ⟨_, fun w hw => by
    have h := hS w hw
    unfold Oper.quietAt execOp
    simp only [ho, hx]
    go_simp, hk⟩
def cr (d : Nat) (fs : List (Nm × Fl)) (k : Nat) : List (Nm × Fl) := aCrash d (fs.take k) ++ fs.drop k
theorem acrash_length (d : Nat) (fs : List (Nm × Fl)) : (aCrash d fs).length = fs.length := by simp [aCrash]
theorem cr_at {d : Nat} {fs : List (Nm × Fl)} {k : Nat} {nm : Nm} {y : Fl} (h : fs[k]? = some (nm, y)) : (cr d fs k)[k]? = some (nm, y) ∧ cr d fs (k + 1) = (cr d fs k).set k (nm, ⟨y.b.take (spareF d y), spareF d y⟩) := by
  have hlt := (List.getElem?_eq_some_iff.1 h).1
  have hl : (aCrash d (fs.take k)).length = k := by rw [acrash_length, List.length_take]; omega
  have hd : fs.drop k = (nm, y) :: fs.drop (k + 1) := by
    rw [List.drop_eq_getElem_cons hlt]
    rw [List.getElem?_eq_getElem hlt] at h
    rw [Option.some.inj h]
  have ht : fs.take (k + 1) = fs.take k ++ [(nm, y)] := by
    rw [List.take_succ_eq_append_getElem hlt]
    rw [List.getElem?_eq_getElem hlt] at h
    rw [Option.some.inj h]
  unfold cr
  refine ⟨?_, ?_⟩
  · rw [List.getElem?_append_right (by omega), hl, Nat.sub_self, hd]; rfl
  · rw [List.set_append_right _ _ (by omega), hl, Nat.sub_self, hd, ht]
    simp [aCrash]
theorem cr_end (d : Nat) (fs : List (Nm × Fl)) (k : Nat) (h : fs.length ≤ k) : cr d fs k = aCrash d fs := by
  unfold cr; rw [List.take_of_length_le h, List.drop_eq_nil_of_le h, List.append_nil]
theorem cr_length (d : Nat) (fs : List (Nm × Fl)) (k : Nat) : (cr d fs k).length = fs.length := by
  unfold cr; rw [List.length_append, acrash_length, List.length_take, List.length_drop]; omega
set_option maxRecDepth 8000 in
set_option maxHeartbeats 4000000 in
theorem rcrash_any {w : World} {br : Nat} {R : Nat → Prop} {a : Ab} (h : Ref w br R a) (hl : Lim a) (n : Int) :
    Calls Tryz.prog 39 #[.pointer (some ⟨br, 0, none⟩), .int .i64 n] w fun e w' => e = .returned (.tuple #[]) ∧ ∃ R', Ref w' br R' ⟨a.room, -1, aCrash n.toNat a.fs⟩ ∧ Went w w' R R' := by
  have hmx := @run_max Tryz.prog
  have hv : (if (0 : Int) < n then n else 0) = ((n.toNat : Nat) : Int) := by
    split <;> omega
  have HE : Hid (Lim a) := hl
  have HH : Hid (Ref w br R a) := h
  have hfl : a.fs.length ≤ 4096 := hl.fine.fs.files
  generalize n.toNat = d at *
  clear h hl
  go_enter Tryz.func39, Tryz.ntmps39
  go_wp2
  go_loopw [4] (fun i wr => ∃ (k : Nat) (R' : Nat → Prop), k ≤ a.fs.length ∧ i = .int .i64 (k : Int) ∧ Ref wr br R' ⟨a.room, a.fuse, cr d a.fs k⟩ ∧ Went w wr R R') (fun i _ => a.fs.length - (intOf i).toNat)
  case atStart =>
    refine ⟨0, R, by omega, rfl, ?_, Went.refl _ _⟩
    have : cr d a.fs 0 = a.fs := by unfold cr; simp [aCrash]
    rw [this]
    exact HH.out
  case round =>
    obtain ⟨k, R', hk, rfl, hrf, hwt⟩ := hrel
    have HW : Hid (Went w wr R R') := hwt
    by_cases hlt : k < a.fs.length
    case neg =>
      have hrf2 := hrf
      rw [cr_end d a.fs k (by omega)] at hrf2
      obtain ⟨its, aL, cL, hs⟩ := hrf2.seen
      have c1 := hs.c1
      have c2 := hs.c2
      have z2 := hrf2.frozen 2
      have hlen : its.length = a.fs.length := by
        have := congrArg List.length hs.fs
        simp only [acrash_length, List.length_map] at this
        exact this.symm
      rw [hlen] at c1
      have HR : Hid (Ref (wr.setCell ⟨br, 2, none⟩ (.int .i64 (-1))) br R' ⟨a.room, -1, aCrash d a.fs⟩ ∧ Went w (wr.setCell ⟨br, 2, none⟩ (.int .i64 (-1))) R R') :=
        ⟨hrf2.setFuse _, hwt.trans (Went.of_kept (Kept.setCell (S := fun i => i = br) wr ⟨br, 2, none⟩ _ rfl) (fun i _ e => e ▸ hrf2.br_in))⟩
      clear hrf hrf2 hs hwt HW HH HE hlen
      generalize a.fs.length = nf at *
      go_wp2
      go_end0
      exact ⟨rfl, _, HR.out⟩
    obtain ⟨⟨nm, y⟩, hfx⟩ : ∃ p, a.fs[k]? = some p := ⟨_, List.getElem?_eq_getElem hlt⟩
    obtain ⟨hat, hnx⟩ := cr_at (d := d) hfx
    have hyl := HE.out.len hfx
    have hyk : y.k ≤ y.b.length := HE.out.fine.fs.lasts _ (List.mem_of_getElem? hfx)
    obtain ⟨its, g, cL, x, ax, cx, hri, hfs, hR, hil, hx, hxn, hxb, hxk, ev, hle, hmx2, hbc, hby, hnil, c1, f1, f2, hz, ho⟩ := hrf.at hat
    have hlen : its.length = a.fs.length := by
      have := congrArg List.length hfs
      simp only [cr_length, List.length_map] at this
      exact this.symm
    rw [hxb] at hby f1 hbc
    rw [hxk] at f2
    unfold maxLen at hmx2
    have hspl : spareF d y ≤ y.b.length := by
      unfold spareF
      have := Nat.mod_lt d (show 0 < y.b.length - y.k + 1 by omega)
      omega
    obtain ⟨m, hm⟩ : ∃ m : Nat, y.b.length = y.k + m := ⟨y.b.length - y.k, by omega⟩
    have hsub : ((y.b.length : Nat) : Int) - (y.k : Int) = (m : Int) := by omega
    have hsp : (y.k : Int) + ((d % (m + 1) : Nat) : Int) = ((spareF d y : Nat) : Int) := by
      unfold spareF
      rw [show y.b.length - y.k + 1 = m + 1 by omega]
      omega
    have hmod : (d : Int) % ((m : Int) + 1) = ((d % (m + 1) : Nat) : Int) := by
      rw [show ((m : Int) + 1) = ((m + 1 : Nat) : Int) by omega, Int.natCast_emod]
    have HRI : Hid (RI wr br a.room a.fuse (.slice (some ⟨g, 0, none⟩) its.length cL) its ∧ cr d a.fs k = its.map It.fl ∧ R' = rfoot br (.slice (some ⟨g, 0, none⟩) its.length cL) its ∧ its[k]? = some x ∧ x.nm = nm) := ⟨hri, hfs, hR, hx, hxn⟩
    have HNX : Hid (cr d a.fs (k + 1) = (cr d a.fs k).set k (nm, ⟨y.b.take (spareF d y), spareF d y⟩)) := hnx
    have HZ : Hid (∀ j, wr.frozen? ⟨g, j, none⟩ = false) := hz
    have hdl : decide ((k : Int) < (its.length : Int)) = true := by rw [hlen]; simpa using hlt
    have HBY : Hid (Byt wr ax y.b) := hby
    have hgl := cell_lt f1
    clear hri hfs hR hx hxn hnx hz ev hxb hxk ho hat hfx hrf hwt HH HE hby
    have hmm : m ≤ 1073741824 := by omega
    have hkk : y.k ≤ 1073741824 := by omega
    have hml2 : (y.b.take (spareF d y)).length = spareF d y := by rw [List.length_take]; omega
    have hil2 : k < its.length := hil
    have hmd : d % (m + 1) ≤ m := by have := Nat.mod_lt d (show 0 < m + 1 by omega); omega
    generalize hspe : spareF d y = sp at *
    clear hspe hlen hm
    generalize d % (m + 1) = r at *
    go_wp2
    go_quiet (fail)
    go_wp2
    have d0 : Hid (Below wr.heap.size wr { wr.drewN nq with drawn := (wr.drewN nq).drawn + 1 }) := ⟨rfl, rfl, rfl, Nat.le_refl _, fun _ _ => rfl⟩
    obtain ⟨C, hCd⟩ : ∃ C : World → Prop, C = fun W => Below wr.heap.size wr W := ⟨_, rfl⟩
    have kf : Hid (∀ W, C W → W.cell? ⟨g, k * 3 + 1, none⟩ = some (.slice ax y.b.length cx)) := fun W h => by
      rw [hCd] at h
      exact (Below.cell h (p := ⟨g, k * 3 + 1, none⟩) (cell_lt f1)).trans f1
    have kg : Hid (∀ W, C W → W.cell? ⟨g, k * 3 + 2, none⟩ = some (.int .i64 (y.k : Int))) := fun W h => by
      rw [hCd] at h
      exact (Below.cell h (p := ⟨g, k * 3 + 2, none⟩) (cell_lt f2)).trans f2
    have kb : Hid (∀ W, Below wr.heap.size wr W → C W) := fun W h => by rw [hCd]; exact h
    have ky : Hid (∀ W, Below wr.heap.size wr W → Byt W ax (y.b.take sp)) := fun W h => by
      rcases HBY.out.below h with e | ⟨b, off, e, hc⟩
      · left; rw [e]; simp
      · refine .inr ⟨b, off, e, fun j hj => ?_⟩
        rw [List.length_take] at hj
        rw [hc j (by omega)]
        simp [List.getD_eq_getElem?_getD, show j < sp by omega]
    have z0 : Hid (C { wr.drewN nq with drawn := (wr.drewN nq).drawn + 1 }) := kb.out _ d0.out
    have hCp : ∀ p : Prop, (∀ W, C W → p) ↔ p := fun p => ⟨fun h => h _ z0.out, fun h _ _ => h⟩
    have HC1 : Hid (wr.cell? ⟨g, k * 3 + 1, none⟩ = some (.slice ax y.b.length cx)) := f1
    have hmc : sp ≤ cx := by omega
    clear hCd c1 f1 f2 HBY
    refine region_calm C 19 (by kernel_rfl) ?_
    generalize ({ wr.drewN nq with drawn := (wr.drewN nq).drawn + 1 } : World) = W0 at *
    refine seg 5 [0, 2, 3, 4, 5, 6, 7, 8, 9, 10, 11, 12, 13, 14, 15] rfl (by kernel_rfl) whole_blind z0.out (by kernel_rfl) ?_
    change wpQuiet _ _ _ _ (_ :: _ :: _ :: _ :: _ :: _ :: _ :: _ :: _ :: _ :: _ :: _ :: _ :: _ :: _ :: []) _
    repeat (first
      | go_big_quiet_skip
      | (go_big_quiet_want
         first
         | (refine q_load 32 (.tmp 38) rfl g (k * 3 + 1) rfl _ _ _ (.inl rfl) kf.out ?_
            simp only [Act.put, List.setIfInBounds_toArray, List.set_cons_zero, List.set_cons_succ]
            go_big_quiet_on)
         | (refine q_loadi (.tmp 42) rfl g (k * 3 + 2) rfl _ kg.out ?_
            simp only [Act.put, List.setIfInBounds_toArray, List.set_cons_zero, List.set_cons_succ]
            go_big_quiet_on)
         | (refine q_to 32 5 Tryz.underlying32 1 Tryz.sizeOf5 (.tmp 39) (.tmp 48) rfl ax y.b.length cx sp rfl rfl hmc ?_
            simp only [Act.put, List.setIfInBounds_toArray, List.set_cons_zero, List.set_cons_succ]
            go_big_quiet_on)
         | (go_big_quiet_op
            go_big_quiet_on)))
    refine wpQuiet_nil ?_
    refine lone_do (i := 1) 4 rfl (by kernel_rfl) rfl (by rfl) ?_
    intro K hK
    refine oper_empty rfl ?_
    have s0 : wr.heap.size ≤ W0.heap.size := d0.out.size
    have b1 : Below wr.heap.size wr (W0.alloc (.cells #[] 5)) := d0.out.alloc s0 _
    have oe := own_empty W0 wr.heap.size s0
    refine hK _ _ (kb.out _ b1) ?_
    clear hK K
    simp only [Act.put, List.setIfInBounds_toArray, List.set_cons_zero, List.set_cons_succ]
    refine lone_do (i := 16) 3 rfl (by kernel_rfl) rfl (by rfl) ?_
    intro K hK
    refine oper_app (.tmp 35) (.tmp 49) rfl wr.heap.size _ [] rfl oe ax _ cx (y.b.take sp) hml2.symm rfl (ky.out _ b1) hnil (by simp only [List.length_nil]; omega) (by simp; omega) ?_
    intro v5 w5 o5 g5 _
    have b5 : Below wr.heap.size wr w5 := below_app b1 (by simp; omega) oe g5
    refine hK _ _ (kb.out _ b5) ?_
    clear hK K g5
    have o5' : Own w5 wr.heap.size v5 (y.b.take sp) := by simpa using o5
    clear o5 oe b1
    obtain ⟨p5, c5, rfl, _⟩ := o5'.shape
    simp only [Act.put, List.setIfInBounds_toArray, List.set_cons_zero, List.set_cons_succ]
    refine lone_calm (i := 17) 2 rfl (by kernel_rfl) rfl rfl (kb.out _ b5) ?_
    repeat (first
      | go_big_quiet_skip
      | (go_big_quiet_want
         go_big_quiet_op
         go_big_quiet_on))
    refine wpQuiet_nil ?_
    refine lone_calm (i := 18) 1 rfl (by kernel_rfl) rfl rfl (kb.out _ b5) ?_
    repeat (first
      | go_big_quiet_skip
      | (go_big_quiet_want
         go_big_quiet_op
         go_big_quiet_on))
    refine wpQuiet_nil ?_
    refine lone_last (i := 19) 0 rfl rfl (by kernel_rfl) rfl (by rfl) ?_
    intro K hK
    have c5' : w5.cell? ⟨g, k * 3 + 1, none⟩ = some (.slice ax y.b.length cx) := (b5.cell (p := ⟨g, k * 3 + 1, none⟩) hgl).trans HC1.out
    have z5 : w5.frozen? ⟨g, k * 3 + 1, none⟩ = false := (b5.frozen (p := ⟨g, k * 3 + 1, none⟩) hgl).trans (HZ.out _)
    refine oper_store 32 (.tmp 52) (.tmp 50) rfl g (k * 3 + 1) _ p5 _ c5 rfl rfl (.inl rfl) c5' z5 ?_
    refine hK _ _ ?_
    clear hK K
    simp only [Act.put]
    refine anyC_done (by kernel_rfl) ⟨rfl, ?_⟩
    obtain ⟨hri, hfs, hR, hx, hxn⟩ := HRI.out
    obtain ⟨hri6, hk6⟩ := (hri.below b5).set1 rfl hx (own_mono0 o5')
    have hx6 : (its.set k ⟨x.nm, y.b.take sp, x.k, .slice p5 (y.b.take sp).length c5⟩)[k]? = some ⟨x.nm, y.b.take sp, x.k, .slice p5 (y.b.take sp).length c5⟩ := by rw [List.getElem?_set_self hil2]
    have hln : its.length = (its.set k ⟨x.nm, y.b.take sp, x.k, .slice p5 (y.b.take sp).length c5⟩).length := by rw [List.length_set]
    obtain ⟨hri7, hk7⟩ := hri6.set2 hln hx6 sp
    rw [List.set_set] at hri7
    have f1' := (icell_at hri6 hln hx6).1
    have f2' := (icell_at hri6 hln hx6).2
    have z2' : (w5.setCell ⟨g, k * 3 + 1, none⟩ (.slice p5 (y.b.take sp).length c5)).frozen? ⟨g, k * 3 + 2, none⟩ = false := World.ownsRow.frozenAt (by have := hri6.own; unfold OwnF at this; rw [← hln] at this; exact this) _
    have HQ : Hid (∃ R2, Ref ((w5.setCell ⟨g, k * 3 + 1, none⟩ (.slice p5 (y.b.take sp).length c5)).setCell ⟨g, k * 3 + 2, none⟩ (.int .i64 (sp : Int))) br R2 ⟨a.room, a.fuse, cr d a.fs (k + 1)⟩ ∧ Went w ((w5.setCell ⟨g, k * 3 + 1, none⟩ (.slice p5 (y.b.take sp).length c5)).setCell ⟨g, k * 3 + 2, none⟩ (.int .i64 (sp : Int))) R R2) := by
      have hfs8 : cr d a.fs (k + 1) = (its.set k ⟨x.nm, y.b.take sp, sp, .slice p5 (y.b.take sp).length c5⟩).map It.fl := by
        rw [fl_set, ← hfs, HNX.out]; simp only [It.fl, hxn]
      refine ⟨_, hri7.ref hfs8, ?_⟩
      have k5 := ((Kept.of_below (S := fun j => j = g) b5).trans hk6 (fun _ _ e => e)).trans hk7 (fun _ _ e => e)
      refine HW.out.trans ⟨k5.mono fun j _ e => by rw [hR, e]; exact .inr (.inl rfl), fun j hj => ?_⟩
      rcases foot_set hj with e | e
      · left; rw [hR]; exact e
      · right; exact (own_lt o5' e).1
    have hil3 : k < a.fs.length := hlt
    simp only [hml2] at f1' f2' z2' HQ ⊢
    clear hri hri6 hri7 hfs hR hx hxn hk6 hk7 hx6 HRI o5' b5 c5' z5 z0 d0 kf kg kb ky hCp HZ HC1 HNX HW hln
    generalize w5.setCell ⟨g, k * 3 + 1, none⟩ (.slice p5 sp c5) = w6 at *
    go_wp2
    go_roundw
    case rel =>
      obtain ⟨R2, q1, q2⟩ := HQ.out
      exact ⟨k + 1, R2, hil3, by go_num, q1, q2⟩
    case measure => simp [intOf]; omega
#print axioms rcrash_any
end Go.Proofs.YtmpnceicodfifaaGreat
