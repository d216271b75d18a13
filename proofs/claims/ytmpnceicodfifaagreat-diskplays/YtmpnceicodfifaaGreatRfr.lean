/-
  The document's own remove, Remove.
-/
import Derived.Test.YtmpnceicodfifaaGreatRfp
namespace Go.Proofs.YtmpnceicodfifaaGreat
open Go.RowKit Go.Maps
set_option linter.unusedVariables false
theorem q_from {C : World → Prop} {a : Act} {o : Oper} {K : Act → Prop} (T elem : TypeId) (hu : Tryz.prog.underlying T = some (.slice elem)) (sz : Nat) (hsz : ∀ w, (Go.sizeOf elem).run Tryz.prog w = .ok sz w) (x y : Operand) (ho : o.op = .slice T x (some y) none none) (A A' : Option Addr) (len cap n : Nat)
    (hA : A' = (if cap = n then A else A.map fun p => p.add (n * sz))) (hx : a.eval x = .slice A len cap) (hy : a.eval y = .int .i64 (n : Int)) (hn : n ≤ len) (hk : K (a.put o.dst (.slice A' (len - n) (cap - n)))) : o.quiet Tryz.prog a C K :=
  q_val _ (fun w hw => by
    unfold execOp
    simp only [ho, hx, hy, Option.map_some, Option.map_none, run_from T elem hu sz hsz A len cap n hn w, Sem.run_bind, Result.andThen_ok, Sem.run_pure, hA]) hk
/-- What a step of the document's own disk that tells nothing leaves. -/
def RefU (br : Nat) (w : World) (R : Nat → Prop) (a' : Ab) (e : Ending) (w' : World) : Prop := e = .returned (.tuple #[]) ∧ Hid (∃ R', Ref w' br R' a' ∧ Went w w' R R' ∧ Kept (fun i => i = br) w w')
set_option maxRecDepth 8000 in
set_option maxHeartbeats 4000000 in
theorem rrem_any {w : World} {br : Nat} {R : Nat → Prop} {a : Ab} (h : Ref w br R a) (hris : Ris a.fs) (hlen : a.fs.length ≤ 4096) (s : ByteArray) :
    Calls Tryz.prog 67 #[.pointer (some ⟨br, 0, none⟩), .string s] w (RefU br w R ⟨a.room, a.fuse, del s.data.toList a.fs⟩) := by
  have HS : Hid (Calls Tryz.prog 61 #[.pointer (some ⟨br, 0, none⟩), .string s] w fun e w' => e = .returned (.tuple #[.int .i64 (idx s.data.toList a.fs : Nat), .bool (get a.fs s.data.toList).isSome]) ∧ Hid (Ref w' br R a ∧ Below w.heap.size w w')) := by
    obtain ⟨its, aL, cL, hs⟩ := h.seen
    refine (spot_b hs s hris (by have := hlen; rw [hs.fs, List.length_map] at this; exact this)).mono ?_
    rintro e w' ⟨rfl, b'⟩
    exact ⟨rfl, h.below b', b'⟩
  cases hg : get a.fs s.data.toList with
  | none =>
    rw [hg] at HS
    have HS2 : Hid (Calls Tryz.prog 61 #[.pointer (some ⟨br, 0, none⟩), .string s] w fun e w' => e = .returned (.tuple #[.int .i64 (idx s.data.toList a.fs : Nat), .bool false]) ∧ Hid (Ref w' br R a ∧ Below w.heap.size w w')) := HS.out
    have HD : Hid (del s.data.toList a.fs = a.fs) := del_of_none hg
    clear h HS
    go_enter Tryz.func67, Tryz.ntmps67
    go_wp2_with (go_at_call 61; refine HS2.out.mono ?_; rintro e w2 ⟨rfl, h2⟩)
    go_end0
    unfold RefU
    rw [HD.out]
    exact ⟨rfl, R, h2.out.1, went_below h2.out.2, Kept.of_below h2.out.2⟩
  | some y =>
    rw [hg] at HS
    have HS2 : Hid (Calls Tryz.prog 61 #[.pointer (some ⟨br, 0, none⟩), .string s] w fun e w' => e = .returned (.tuple #[.int .i64 (idx s.data.toList a.fs : Nat), .bool true]) ∧ Hid (Ref w' br R a ∧ Below w.heap.size w w')) := HS.out
    have HSP : Hid (a.fs[idx s.data.toList a.fs]? = some (s.data.toList, y)) := spot_some hris hg
    have HD : Hid (del s.data.toList a.fs = a.fs.take (idx s.data.toList a.fs) ++ a.fs.drop (idx s.data.toList a.fs + 1)) := del_spot hris hg
    have HL : Hid (a.fs.length ≤ 4096) := hlen
    clear h HS hg hris
    generalize idx s.data.toList a.fs = i at *
    go_enter Tryz.func67, Tryz.ntmps67
    go_wp2_with (go_at_call 61; refine HS2.out.mono ?_; rintro e w2 ⟨rfl, h2⟩)
    obtain ⟨its, g, cL, x, ax, cx, hri, hfs, hR, hil, hx, hxn, hxb, hxk, ev, hle, hmx, hbc, hby, hnil, c1, f1, f2, hz, ho⟩ := h2.out.1.at HSP.out
    have hn : its.length ≤ 4096 := by have := HL.out; rw [hfs, List.length_map] at this; exact this
    obtain ⟨aL, cL', ev2, hseen, _⟩ := hri.shape hfs
    injection ev2 with e1 e2 e3
    subst e1 e3
    have HW2 : Hid (Went w w2 R R) := went_below h2.out.2
    have HK2 : Hid (Kept (fun i => i = br) w w2) := Kept.of_below h2.out.2
    have HSRC : Hid (FSrc w2 (some ⟨g, 0, none⟩) its) := hseen.src
    have HSLC : Hid (Slc its) := hri.slc
    have HRI : Hid (RI w2 br a.room a.fuse (.slice (some ⟨g, 0, none⟩) its.length cL) its ∧ a.fs = its.map It.fl ∧ R = rfoot br (.slice (some ⟨g, 0, none⟩) its.length cL) its) := ⟨hri, hfs, hR⟩
    obtain ⟨C, hCd⟩ : ∃ C : World → Prop, C = fun W => Below w2.heap.size w2 W := ⟨_, rfl⟩
    have kc : Hid (∀ W, C W → W.cell? ⟨br, 1, none⟩ = some (.slice (some ⟨g, 0, none⟩) its.length cL)) := fun W h => by
      rw [hCd] at h
      exact (Below.cell h (p := ⟨br, 1, none⟩) (cell_lt c1)).trans c1
    have kb : Hid (∀ W, Below w2.heap.size w2 W → C W) := fun W h => by rw [hCd]; exact h
    have z0 : Hid (C { w2 with drawn := w2.drawn + 1 }) := kb.out _ ⟨rfl, rfl, rfl, Nat.le_refl _, fun _ _ => rfl⟩
    have d0 : Hid (Below w2.heap.size w2 { w2 with drawn := w2.drawn + 1 }) := ⟨rfl, rfl, rfl, Nat.le_refl _, fun _ _ => rfl⟩
    have hCp : ∀ p : Prop, (∀ W, C W → p) ↔ p := fun p => ⟨fun h => h _ z0.out, fun h _ _ => h⟩
    have hbr := cell_lt c1
    have HZ : Hid (w2.frozen? ⟨br, 1, none⟩ = false) := hri.blk.frozen 1
    have HC1 : Hid (w2.cell? ⟨br, 1, none⟩ = some (.slice (some ⟨g, 0, none⟩) its.length cL)) := c1
    have hic : i ≤ cL := by omega
    have hi1 : i + 1 ≤ its.length := by omega
    have hlt9 : (its.take i).length = i := by rw [List.length_take]; omega
    have hdl9 : (its.drop (i + 1)).length = its.length - (i + 1) := by rw [List.length_drop]
    obtain ⟨A', hA'⟩ : ∃ A', A' = (if cL = i + 1 then some (⟨g, 0, none⟩ : Addr) else (some (⟨g, 0, none⟩ : Addr)).map fun p => p.add ((i + 1) * 3)) := ⟨_, rfl⟩
    have HAS : Hid (∀ W, Below w2.heap.size w2 W → FSrc W A' (its.drop (i + 1))) := fun W h => by rw [hA']; exact from_src (HSRC.out.below h) hle hi1
    have HAN : Hid (A' = none → cL - (i + 1) = 0) := by rw [hA']; exact from_nil (fun e => by cases e)
    have HAA : Hid (A' = (if cL = i + 1 then some (⟨g, 0, none⟩ : Addr) else (some (⟨g, 0, none⟩ : Addr)).map fun p => p.add ((i + 1) * 3))) := hA'
    clear hri hfs hR hx hxn hxk ho hz hby hCd c1 f1 f2 ev hxb h2 hseen HS2 HSP hA'
    unfold maxLen at hmx
    refine region_calm C 19 (by kernel_rfl) ?_
    generalize ({ w2 with drawn := w2.drawn + 1 } : World) = W0 at *
    refine seg 6 [0, 2, 3, 4, 5, 6, 7, 9, 10, 11, 12, 13, 14, 15] rfl (by kernel_rfl) whole_blind z0.out (by kernel_rfl) ?_
    change wpQuiet _ _ _ _ (_ :: _ :: _ :: _ :: _ :: _ :: _ :: _ :: _ :: _ :: _ :: _ :: _ :: _ :: []) _
    repeat (first
      | go_big_quiet_skip
      | (go_big_quiet_want
         first
         | (refine q_load 50 (.tmp 17) rfl br 1 rfl _ _ _ (.inr rfl) kc.out ?_
            simp only [Act.put, List.setIfInBounds_toArray, List.set_cons_zero, List.set_cons_succ]
            go_big_quiet_on)
         | (refine q_load 50 (.tmp 24) rfl br 1 rfl _ _ _ (.inr rfl) kc.out ?_
            simp only [Act.put, List.setIfInBounds_toArray, List.set_cons_zero, List.set_cons_succ]
            go_big_quiet_on)
         | (refine q_to 50 57 Tryz.underlying50 3 Tryz.sizeOf57 (.tmp 18) (.tmp 19) rfl (some ⟨g, 0, none⟩) its.length cL i rfl rfl hic ?_
            simp only [Act.put, List.setIfInBounds_toArray, List.set_cons_zero, List.set_cons_succ]
            go_big_quiet_on)
         | (refine q_from 50 57 Tryz.underlying50 3 Tryz.sizeOf57 (.tmp 25) (.tmp 27) rfl (some ⟨g, 0, none⟩) A' its.length cL (i + 1) HAA.out rfl rfl hi1 ?_
            simp only [Act.put, List.setIfInBounds_toArray, List.set_cons_zero, List.set_cons_succ]
            go_big_quiet_on)
         | (go_big_quiet_op
            go_big_quiet_on)))
    refine wpQuiet_nil ?_
    refine lone_do (i := 1) 5 rfl (by kernel_rfl) rfl (by rfl) ?_
    intro K hK
    refine oper_empty57 rfl ?_
    have s0 : w2.heap.size ≤ W0.heap.size := d0.out.size
    have b1 : Below w2.heap.size w2 (W0.alloc (.cells #[] 57)) := d0.out.alloc s0 _
    have oe := ownF_empty W0 w2.heap.size s0
    refine hK _ _ (kb.out _ b1) ?_
    clear hK K
    simp only [Act.put, List.setIfInBounds_toArray, List.set_cons_zero, List.set_cons_succ]
    refine lone_do (i := 8) 4 rfl (by kernel_rfl) rfl (by rfl) ?_
    intro K hK
    refine oper_appf (.tmp 14) (.tmp 20) rfl w2.heap.size _ [] rfl oe _ _ _ (its.take i) hlt9.symm rfl ((HSRC.out.below b1).take i) (fun e => by cases e) (HSLC.out.take i) (by simp only [List.length_nil]; omega) (by simp; omega) ?_
    intro v4 w4 o4 g4 _
    have b4 : Below w2.heap.size w2 w4 := below_appf b1 (by simp; omega) oe g4
    refine hK _ _ (kb.out _ b4) ?_
    clear hK K g4
    have o4' : OwnF w4 w2.heap.size v4 (its.take i) := by simpa using o4
    clear o4 oe b1
    simp only [Act.put, List.setIfInBounds_toArray, List.set_cons_zero, List.set_cons_succ]
    refine lone_do (i := 16) 3 rfl (by kernel_rfl) rfl (by rfl) ?_
    intro K hK
    refine oper_appf (.tmp 21) (.tmp 28) rfl w2.heap.size _ (its.take i) rfl o4' A' _ _ (its.drop (i + 1)) hdl9.symm rfl (HAS.out _ b4) HAN.out (HSLC.out.drop _) (by omega) b4.size ?_
    intro v5 w5 o5 g5 _
    have b5 : Below w2.heap.size w2 w5 := below_appf b4 b4.size o4' g5
    refine hK _ _ (kb.out _ b5) ?_
    clear hK K g5 o4' b4
    obtain ⟨p5, c5, rfl, _⟩ := o5.shape
    simp only [Act.put, List.setIfInBounds_toArray, List.set_cons_zero, List.set_cons_succ]
    refine lone_calm (i := 17) 2 rfl (by kernel_rfl) rfl rfl (kb.out _ b5) ?_
    repeat (first
      | go_big_quiet_skip
      | (go_big_quiet_want
         go_big_quiet_op
         go_big_quiet_on))
    refine wpQuiet_nil ?_
    refine lone_calm (i := 18) 1 rfl (by kernel_rfl) rfl rfl (kb.out _ b5) ?_
    repeat (first
      | go_big_quiet_skip
      | (go_big_quiet_want
         go_big_quiet_op
         go_big_quiet_on))
    refine wpQuiet_nil ?_
    refine lone_last (i := 19) 0 rfl rfl (by kernel_rfl) rfl (by rfl) ?_
    intro K hK
    have c5' : w5.cell? ⟨br, 1, none⟩ = some (.slice (some ⟨g, 0, none⟩) its.length cL) := (b5.cell (p := ⟨br, 1, none⟩) hbr).trans HC1.out
    have z5 : w5.frozen? ⟨br, 1, none⟩ = false := (b5.frozen (p := ⟨br, 1, none⟩) hbr).trans HZ.out
    refine oper_store 50 (.tmp 31) (.tmp 29) rfl br 1 _ p5 _ c5 rfl rfl (.inr rfl) c5' z5 ?_
    refine hK _ _ ?_
    clear hK K
    simp only [Act.put]
    refine anyC_done (by kernel_rfl) ⟨rfl, ?_⟩
    obtain ⟨hri, hfs, hR⟩ := HRI.out
    obtain ⟨hri6, hg6⟩ := hri.newRow b5 o5 (fun x hx => by
      rcases List.mem_append.1 hx with h | h
      · exact .inl ⟨x, List.mem_of_mem_take h, rfl, rfl⟩
      · exact .inl ⟨x, List.mem_of_mem_drop h, rfl, rfl⟩)
    have HQ : Hid (∃ R', Ref (w5.setCell ⟨br, 1, none⟩ (.slice p5 (its.take i ++ its.drop (i + 1)).length c5)) br R' ⟨a.room, a.fuse, del s.data.toList a.fs⟩ ∧ Went w (w5.setCell ⟨br, 1, none⟩ (.slice p5 (its.take i ++ its.drop (i + 1)).length c5)) R R' ∧ Kept (fun i => i = br) w (w5.setCell ⟨br, 1, none⟩ (.slice p5 (its.take i ++ its.drop (i + 1)).length c5))) := by
      have hfs8 : del s.data.toList a.fs = (its.take i ++ its.drop (i + 1)).map It.fl := by
        rw [HD.out, hfs, List.map_append, List.map_take, List.map_drop]
      rw [← hR] at hg6
      exact ⟨_, hri6.ref hfs8, HW2.out.trans hg6, (HK2.out.trans (Kept.of_below (S := fun i => i = br) b5) (fun _ _ e => e)).trans (Kept.setCell (S := fun i => i = br) w5 ⟨br, 1, none⟩ _ rfl) (fun _ _ e => e)⟩
    clear hri hri6 hfs hR hg6 HRI o5 b5 c5' z5 z0 d0 kc kb hCp HZ HC1 HW2
    generalize (its.take i ++ its.drop (i + 1)).length = n5 at *
    go_wp2
    go_end0
    exact ⟨rfl, HQ.out⟩
set_option maxRecDepth 8000 in
set_option maxHeartbeats 4000000 in
theorem rremove_any {w : World} {br : Nat} {R : Nat → Prop} {a : Ab} (h : Ref w br R a) (hl : Lim a) (s : ByteArray) :
    Calls Tryz.prog 36 #[.pointer (some ⟨br, 0, none⟩), .string s] w (RefA br w R (aDo [s] (aRemove s.data.toList) a)) := by
  have HM : Hid (Calls Tryz.prog 60 #[.pointer (some ⟨br, 0, none⟩), .slice (some ⟨w.heap.size, 0, none⟩) 1 1] (w.alloc (.cells #[.string s] 9)) fun e w' => e = .returned (.int .i64 (mayE a.fuse [s])) ∧ Hid (Ref w' br R a ∧ Below w.heap.size w w')) := may_new h [s] (by simp) 1 rfl _ rfl
  have hml := may_le a.fuse [s]
  by_cases hm : mayE a.fuse [s] = 0
  case neg =>
    have HA : Hid (aDo [s] (aRemove s.data.toList) a = (mayE a.fuse [s], a)) := do_may hm
    have hmn : (mayE a.fuse [s] != 0) = true := by simpa using hm
    generalize mayE a.fuse [s] = m at *
    clear h hl
    go_enter Tryz.func36, Tryz.ntmps36
    go_wp2_with (go_at_call 60; refine HM.out.mono ?_; rintro e w1 ⟨rfl, h1⟩)
    go_ret
    unfold RefA
    rw [HA.out]
    exact ⟨rfl, R, h1.out.1, went_below h1.out.2⟩
  rw [hm] at HM
  have hA := do_act (act := aRemove s.data.toList) hm
  have HS2 : Hid (∀ w1, Ref w1 br R a ∧ Below w.heap.size w w1 → Calls Tryz.prog 61 #[.pointer (some ⟨br, 0, none⟩), .string s] w1 fun e w' => e = .returned (.tuple #[.int .i64 (idx s.data.toList a.fs : Nat), .bool (get a.fs s.data.toList).isSome]) ∧ Hid (Ref w' br R a ∧ Below w.heap.size w w')) := fun w1 h1 => spot_r hl s h1
  cases hg : get a.fs s.data.toList with
  | none =>
    have hact : aRemove s.data.toList a.fs = (7, a.fs) := by unfold aRemove; rw [hg]
    have HA : Hid (aDo [s] (aRemove s.data.toList) a = (7, a)) := by show _ = _; rw [hA, hact, fuse_err (by simp)]
    rw [hg] at HS2
    simp only [Option.isSome_none] at HS2
    clear h hl hA hact
    go_enter Tryz.func36, Tryz.ntmps36
    go_wp2_with (first
      | (go_at_call 60; refine HM.out.mono ?_; rintro e w1 ⟨rfl, h1⟩)
      | (go_at_call 61; refine (HS2.out _ h1.out).mono ?_; rintro e w2 ⟨rfl, h2⟩))
    go_ret
    unfold RefA
    rw [HA.out]
    exact ⟨rfl, R, h2.out.1, went_below h2.out.2⟩
  | some y =>
    have hact : aRemove s.data.toList a.fs = (0, del s.data.toList a.fs) := by unfold aRemove; rw [hg]
    have HA : Hid (aDo [s] (aRemove s.data.toList) a = (0, ⟨a.room, fuseAfter a.fuse 0, del s.data.toList a.fs⟩)) := by show _ = _; rw [hA, hact]
    rw [hg] at HS2
    simp only [Option.isSome_some] at HS2
    have HR : Hid (∀ w2, Ref w2 br R a ∧ Below w.heap.size w w2 → Calls Tryz.prog 67 #[.pointer (some ⟨br, 0, none⟩), .string s] w2 fun e w' => e = .returned (.tuple #[]) ∧ Hid (Calls Tryz.prog 62 #[.pointer (some ⟨br, 0, none⟩)] w' fun e w3 => e = .returned (.int .i64 0) ∧ Hid (∃ R', Ref w3 br R' ⟨a.room, fuseAfter a.fuse 0, del s.data.toList a.fs⟩ ∧ Went w w3 R R'))) := fun w2 h2 => by
      refine (rrem_any h2.1 hl.ris hl.fine.fs.files s).mono ?_
      rintro e w' ⟨rfl, R', q1, q2, _⟩
      refine ⟨rfl, (did_any q1 hl.fine.fuse0 hl.fine.fuse1).mono ?_⟩
      rintro e w3 ⟨rfl, q3, q4⟩
      exact ⟨rfl, _, q3, ((went_below h2.2).trans q2).trans q4⟩
    clear h hl hA hact
    go_enter Tryz.func36, Tryz.ntmps36
    go_wp2_with (first
      | (go_at_call 60; refine HM.out.mono ?_; rintro e w1 ⟨rfl, h1⟩)
      | (go_at_call 61; refine (HS2.out _ h1.out).mono ?_; rintro e w2 ⟨rfl, h2⟩)
      | (go_at_call 67; refine (HR.out _ h2.out).mono ?_; rintro e w3 ⟨rfl, h3⟩)
      | (go_at_call 62; refine h3.out.mono ?_; rintro e w4 ⟨rfl, h4⟩))
    go_ret
    unfold RefA
    rw [HA.out]
    exact ⟨rfl, h4.out⟩
end Go.Proofs.YtmpnceicodfifaaGreat
