/-
  The document's own Rename.
-/
import Derived.Test.YtmpnceicodfifaaGreatRfr
namespace Go.Proofs.YtmpnceicodfifaaGreat
open Go.RowKit Go.Maps
set_option linter.unusedVariables false
theorem RI.mkRow {w' : World} {br base : Nat} {room fuse : Int} {v2 v3 : Value} {its' : List It} (hb : Blk w' br 52 [.int .i64 room, v2, .int .i64 fuse]) (ho : OwnF w' base v3 its') (hrow : ∀ x ∈ its', Own w' 0 x.v x.b) :
    RI (w'.setCell ⟨br, 1, none⟩ v3) br room fuse v3 its' := by
  have hk : Kept (fun i => i = br) w' (w'.setCell ⟨br, 1, none⟩ v3) := Kept.setCell (S := fun i => i = br) w' ⟨br, 1, none⟩ _ rfl
  refine ⟨hb.set 1 v3, (ownF_mono0 ho).keptBy hk (fun g hg e => ?_), fun x hx => (hrow x hx).keptBy hk (fun g hg e => ?_)⟩
  · obtain ⟨_, hv⟩ := ho.blk hg
    exact hv.ne hb (by decide) e
  · obtain ⟨_, hv⟩ := (hrow x hx).blk hg
    exact hv.ne hb (by decide) e
set_option maxRecDepth 8000 in
set_option maxHeartbeats 4000000 in
theorem rrename_any {w : World} {br : Nat} {R : Nat → Prop} {a : Ab} (h : Ref w br R a) (hl : Lim a) (s t : ByteArray) :
    Calls Tryz.prog 34 #[.pointer (some ⟨br, 0, none⟩), .string s, .string t] w (RefA br w R (aDo [s, t] (aRename s.data.toList t.data.toList) a)) := by
  have HM : Hid (Calls Tryz.prog 60 #[.pointer (some ⟨br, 0, none⟩), .slice (some ⟨w.heap.size, 0, none⟩) 2 2] (w.alloc (.cells #[.string s, .string t] 9)) fun e w' => e = .returned (.int .i64 (mayE a.fuse [s, t])) ∧ Hid (Ref w' br R a ∧ Below w.heap.size w w')) := may_new h [s, t] (by simp) 2 rfl _ rfl
  have hml := may_le a.fuse [s, t]
  by_cases hm : mayE a.fuse [s, t] = 0
  case neg =>
    have HA : Hid (aDo [s, t] (aRename s.data.toList t.data.toList) a = (mayE a.fuse [s, t], a)) := do_may hm
    have hmn : (mayE a.fuse [s, t] != 0) = true := by simpa using hm
    generalize mayE a.fuse [s, t] = m at *
    clear h hl
    go_enter Tryz.func34, Tryz.ntmps34
    go_wp2_with (go_at_call 60; refine HM.out.mono ?_; rintro e w1 ⟨rfl, h1⟩)
    go_ret
    unfold RefA
    rw [HA.out]
    exact ⟨rfl, R, h1.out.1, went_below h1.out.2⟩
  rw [hm] at HM
  have hA := do_act (act := aRename s.data.toList t.data.toList) hm
  have HS2 : Hid (∀ w1, Ref w1 br R a ∧ Below w.heap.size w w1 → Calls Tryz.prog 61 #[.pointer (some ⟨br, 0, none⟩), .string s] w1 fun e w' => e = .returned (.tuple #[.int .i64 (idx s.data.toList a.fs : Nat), .bool (get a.fs s.data.toList).isSome]) ∧ Hid (Ref w' br R a ∧ Below w.heap.size w w')) := fun w1 h1 => spot_r hl s h1
  cases hg : get a.fs s.data.toList with
  | none =>
    have hact : aRename s.data.toList t.data.toList a.fs = (7, a.fs) := by unfold aRename; rw [hg]
    have HA : Hid (aDo [s, t] (aRename s.data.toList t.data.toList) a = (7, a)) := by show _ = _; rw [hA, hact, fuse_err (by simp)]
    rw [hg] at HS2
    simp only [Option.isSome_none] at HS2
    clear h hl hA hact
    go_enter Tryz.func34, Tryz.ntmps34
    go_wp2_with (first
      | (go_at_call 60; refine HM.out.mono ?_; rintro e w1 ⟨rfl, h1⟩)
      | (go_at_call 61; refine (HS2.out _ h1.out).mono ?_; rintro e w2 ⟨rfl, h2⟩))
    go_ret
    unfold RefA
    rw [HA.out]
    exact ⟨rfl, R, h2.out.1, went_below h2.out.2⟩
  | some y =>
    rw [hg] at HS2
    simp only [Option.isSome_some] at HS2
    by_cases hst : s = t
    · have hact : aRename s.data.toList t.data.toList a.fs = (0, a.fs) := by unfold aRename; rw [hg]; simp only; rw [if_pos (by rw [hst])]
      have HA : Hid (aDo [s, t] (aRename s.data.toList t.data.toList) a = (0, ⟨a.room, fuseAfter a.fuse 0, a.fs⟩)) := by show _ = _; rw [hA, hact]
      have HD : Hid (∀ w2, Ref w2 br R a ∧ Below w.heap.size w w2 → Calls Tryz.prog 62 #[.pointer (some ⟨br, 0, none⟩)] w2 fun e w3 => e = .returned (.int .i64 0) ∧ Hid (∃ R', Ref w3 br R' ⟨a.room, fuseAfter a.fuse 0, a.fs⟩ ∧ Went w w3 R R')) := fun w2 h2 => by
        refine (did_any h2.1 hl.fine.fuse0 hl.fine.fuse1).mono ?_
        rintro e w3 ⟨rfl, q3, q4⟩
        exact ⟨rfl, _, q3, (went_below h2.2).trans q4⟩
      have hee : (s.toList == t.toList) = true := by rw [hst]; simp
      clear h hl hA hact hst
      go_enter Tryz.func34, Tryz.ntmps34
      go_wp2_with (first
        | (go_at_call 60; refine HM.out.mono ?_; rintro e w1 ⟨rfl, h1⟩)
        | (go_at_call 61; refine (HS2.out _ h1.out).mono ?_; rintro e w2 ⟨rfl, h2⟩)
        | (go_at_call 62; refine (HD.out _ h2.out).mono ?_; rintro e w3 ⟨rfl, h3⟩))
      go_ret
      unfold RefA
      rw [HA.out]
      exact ⟨rfl, h3.out⟩
    have hne : s.data.toList ≠ t.data.toList := fun e => hst (bytes_eq e)
    have hact : aRename s.data.toList t.data.toList a.fs = (0, ins (t.data.toList, y) (del s.data.toList (del t.data.toList a.fs))) := by unfold aRename; rw [hg]; simp only; rw [if_neg hne]
    have HA : Hid (aDo [s, t] (aRename s.data.toList t.data.toList) a = (0, ⟨a.room, fuseAfter a.fuse 0, ins (t.data.toList, y) (del s.data.toList (del t.data.toList a.fs))⟩)) := by show _ = _; rw [hA, hact]
    have hdec : (s.toList == t.toList) = false := by rw [ByteArray.toList_eq, ByteArray.toList_eq]; simpa using hne
    have HSP : Hid (a.fs[idx s.data.toList a.fs]? = some (s.data.toList, y)) := spot_some hl.ris hg
    have HF : Hid (Lim a) := hl
    clear h hl hA hact hst hg
    generalize idx s.data.toList a.fs = i at *
    go_enter Tryz.func34, Tryz.ntmps34
    go_wp2_with (first
      | (go_at_call 60; refine HM.out.mono ?_; rintro e w1 ⟨rfl, h1⟩)
      | (go_at_call 61; refine (HS2.out _ h1.out).mono ?_; rintro e w2 ⟨rfl, h2⟩; obtain ⟨its, g, cL, x, ax, cx, hri, hfs, hR, hil, hx, hxn, hxb, hxk, ev, hle, hmx, hbc, hby, hnil, c1, f1, f2, hz, ho⟩ := h2.out.1.at HSP.out; have f0 := (icells_get its i x hx).1; have f0' : w2.cell? ⟨g, i * 3, none⟩ = some (.string (bsOf x.nm)) := (World.ownsRow.cellAt hri.own (i * 3) (by omega)).trans f0; rw [hxb] at f1; rw [hxk] at f2; rw [hxn] at f0'; unfold maxLen at hmx; have HX : Hid (Own w2 0 (.slice ax y.b.length cx) y.b ∧ ∀ j, (Value.slice ax y.b.length cx).ownBlock = some j → R j) := ⟨by rw [← hxb, ← ev]; exact ho, fun j hj => by rw [hR]; exact .inr (.inr ⟨x, List.mem_of_getElem? hx, by rw [ev, hxb]; exact hj⟩)⟩; have HW2 : Hid (Ref w2 br R a ∧ Below w.heap.size w w2) := h2.out; clear f0 hri hfs hR hx hxn hxb hxk ev hby ho hz hbc h2 HSP)
      | (go_at_call 67; fail))
    have hgl := cell_lt f1
    have hbr2 := cell_lt c1
    have b3 : Below w2.heap.size w2 (w2.alloc (.cells #[.string t, .slice ax y.b.length cx, .int .i64 (y.k : Int)] 57)) := (Below.refl _ _).alloc (Nat.le_refl _) _
    have HB3 : Hid (Blk (w2.alloc (.cells #[.string t, .slice ax y.b.length cx, .int .i64 (y.k : Int)] 57)) w2.heap.size 57 [.string t, .slice ax y.b.length cx, .int .i64 (y.k : Int)]) := blk_new w2 57 _
    have H3 : Hid (Ref (w2.alloc (.cells #[.string t, .slice ax y.b.length cx, .int .i64 (y.k : Int)] 57)) br R a ∧ Own (w2.alloc (.cells #[.string t, .slice ax y.b.length cx, .int .i64 (y.k : Int)] 57)) 0 (.slice ax y.b.length cx) y.b ∧ Below w.heap.size w (w2.alloc (.cells #[.string t, .slice ax y.b.length cx, .int .i64 (y.k : Int)] 57))) :=
      ⟨HW2.out.1.below b3, HX.out.1.keptBy (Kept.of_below (S := fun _ => False) b3) (fun _ _ h => h), HW2.out.2.trans (b3.mono HW2.out.2.size)⟩
    have hn2 : w.heap.size ≤ w2.heap.size := HW2.out.2.size
    have hnb : w2.heap.size ≠ br := by omega
    have HXR : Hid (∀ j, (Value.slice ax y.b.length cx).ownBlock = some j → R j) := HX.out.2
    clear b3 f1 f2 f0' c1 HM HS2 h1 HX HW2 hgl
    generalize hW3 : w2.alloc (.cells #[.string t, .slice ax y.b.length cx, .int .i64 (y.k : Int)] 57) = w3 at *
    generalize hN : w2.heap.size = n2 at *
    clear hW3 hN
    refine (rrem_any H3.out.1 HF.out.ris HF.out.fine.fs.files s).mono ?_
    rintro e w4 ⟨rfl, h4⟩
    go_wp2_with fail
    obtain ⟨R1, q1, q2, q3⟩ := h4.out
    have hris1 := ris_del HF.out.ris s.data.toList
    have hlen1 : (del s.data.toList a.fs).length ≤ 4096 := Nat.le_trans (List.length_filter_le _ _) HF.out.fine.fs.files
    refine (rrem_any q1 hris1 hlen1 t).mono ?_
    rintro e w5 ⟨rfl, h5⟩
    obtain ⟨R2, q4, q5, q6⟩ := h5.out
    have hris2 := ris_del hris1 t.data.toList
    have hlen2 : (del t.data.toList (del s.data.toList a.fs)).length ≤ 4096 := Nat.le_trans (List.length_filter_le _ _) hlen1
    obtain ⟨fs6, hfs6⟩ : ∃ fs6, fs6 = del t.data.toList (del s.data.toList a.fs) := ⟨_, rfl⟩
    simp only at q4
    rw [← hfs6] at q4 hris2 hlen2
    have HSP6 : Hid (Calls Tryz.prog 61 #[.pointer (some ⟨br, 0, none⟩), .string t] w5 fun e w' => e = .returned (.tuple #[.int .i64 (idx t.data.toList fs6 : Nat), .bool (get fs6 t.data.toList).isSome]) ∧ Hid (Ref w' br R2 ⟨a.room, a.fuse, fs6⟩ ∧ Below w5.heap.size w5 w')) := by
      obtain ⟨its, aL, cL, hs⟩ := q4.seen
      refine (spot_b hs t hris2 (by have := hlen2; have e := hs.fs; simp only at e; rw [e, List.length_map] at this; exact this)).mono ?_
      rintro e w' ⟨rfl, b'⟩
      exact ⟨rfl, q4.below b', b'⟩
    have k35 : Kept (fun j => j = br) w3 w5 := q3.trans q6 (fun _ _ e => e)
    have H5 : Hid (Blk w5 n2 57 [.string t, .slice ax y.b.length cx, .int .i64 (y.k : Int)] ∧ Own w5 0 (.slice ax y.b.length cx) y.b ∧ Kept (fun j => j = br) w3 w5 ∧ (∀ j, R2 j → R j ∨ w.heap.size ≤ j)) := by
      have hs3 := H3.out.2.2.size
      refine ⟨HB3.out.keptBy k35 hnb, H3.out.2.1.keptBy k35 (fun j hj e => ?_), k35, fun j hj => ?_⟩
      · obtain ⟨_, hv⟩ := H3.out.2.1.blk hj
        obtain ⟨vL, its, hri, _, _⟩ := H3.out.1.ri
        exact hv.ne hri.blk (by decide) e
      · rcases q5.new j hj with e | e
        · rcases q2.new j e with e | e
          · exact .inl e
          · right; omega
        · right; have := q3.size; omega
    have HG6 : Hid (get fs6 t.data.toList = none ∧ fs6 = del t.data.toList (del s.data.toList a.fs) ∧ Ris fs6 ∧ fs6.length ≤ 4096) := ⟨by rw [hfs6]; exact get_none_of fun p hp => by have := (List.mem_filter.1 hp).2; simpa using this, hfs6, hris2, hlen2⟩
    clear h4 h5 q1 q2 q3 q4 q5 q6 hris1 hlen1 hris2 hlen2 hfs6 HB3 k35
    have hkl6 := idx_le t.data.toList fs6
    generalize hk6 : idx t.data.toList fs6 = k at *
    have HK6 : Hid (idx t.data.toList fs6 = k) := hk6
    clear hk6
    go_wp2_with fail
    refine HSP6.out.mono ?_
    rintro e w9 ⟨rfl, h6⟩
    obtain ⟨vL, its9, hri9, hfs9, hR9⟩ := h6.out.1.ri
    simp only at hri9 hfs9 hR9
    obtain ⟨aL9, cL9, hv9, hs9, _⟩ := hri9.shape hfs9
    have c1 := hs9.c1
    have hil9 : k ≤ its9.length := by have := hkl6; rw [hfs9, List.length_map] at this; exact this
    have hn9 : its9.length ≤ 4096 := by have := HG6.out.2.2.2; rw [hfs9, List.length_map] at this; exact this
    have hcl9 := hs9.le
    have hicL : k ≤ cL9 := by omega
    have hnil9 := hs9.nil
    have hb9 := h6.out.2
    have HX9 : Hid (Blk w9 n2 57 [.string t, .slice ax y.b.length cx, .int .i64 (y.k : Int)] ∧ Own w9 0 (.slice ax y.b.length cx) y.b ∧ Kept (fun j => j = br) w3 w9) := ⟨H5.out.1.below hb9 H5.out.1.lt, H5.out.2.1.keptBy (Kept.of_below (S := fun _ => False) hb9) (fun _ _ h => h), H5.out.2.2.1.trans (Kept.of_below (S := fun j => j = br) hb9) (fun _ _ e => e)⟩
    have HSRC : Hid (FSrc w9 aL9 its9) := hs9.src
    have HSLC : Hid (Slc its9) := hri9.slc
    have hbr := cell_lt c1
    have HC9 : Hid (w9.cell? ⟨br, 1, none⟩ = some (.slice aL9 its9.length cL9)) := c1
    have HRI9 : Hid (RI w9 br a.room a.fuse vL its9 ∧ fs6 = its9.map It.fl ∧ R2 = rfoot br vL its9) := ⟨hri9, hfs9, hR9⟩
    clear hri9 hfs9 hR9 hv9 hs9 h6 hb9 HSP6
    have oe : OwnF (w9.alloc (.cells #[] 57)) w9.heap.size (.slice (some ⟨w9.heap.size, 0, none⟩) 0 0) [] := ownF_empty w9 _ (Nat.le_refl _)
    have b0 : Below w9.heap.size w9 (w9.alloc (.cells #[] 57)) := (Below.refl _ _).alloc (Nat.le_refl _) _
    have hlt9 : (its9.take k).length = k := by rw [List.length_take]; omega
    go_wp2_with (first
      | (refine sl_to rfl 50 (.tmp 60) (.tmp 61) rfl 57 Tryz.underlying50 3 Tryz.sizeOf57 aL9 its9.length cL9 k rfl rfl hicL ?_)
      | (at_builtin; go_must (refine app_files rfl (.tmp 56) (.tmp 62) rfl w9.heap.size _ [] rfl oe aL9 _ cL9 (its9.take k) hlt9.symm rfl ((HSRC.out.below b0).take k) hnil9 (HSLC.out.take k) (by simp only [List.length_nil]; omega) (by simp) ?_)))
    intro v1 w10 o1 g1 _
    have b10 : Below w9.heap.size w9 w10 := below_appf b0 (by simp) oe g1
    have s10 := b10.size
    clear g1 oe b0
    have o1' : OwnF (w10.alloc (.cells #[.string t, .slice ax y.b.length cx, .int .i64 (y.k : Int)] 57)) w9.heap.size v1 (its9.take k) := by
      have := o1.below ((Below.refl w10.heap.size w10).alloc (Nat.le_refl _) (.cells #[.string t, .slice ax y.b.length cx, .int .i64 (y.k : Int)] 57))
      simpa using this
    have b10' : Below w9.heap.size w9 (w10.alloc (.cells #[.string t, .slice ax y.b.length cx, .int .i64 (y.k : Int)] 57)) := b10.alloc s10 _
    have hone : FSrc (w10.alloc (.cells #[.string t, .slice ax y.b.length cx, .int .i64 (y.k : Int)] 57)) (some ⟨w10.heap.size, 0, none⟩) [⟨t.data.toList, y.b, y.k, .slice ax y.b.length cx⟩] := by
      have := src_one w10 ⟨t.data.toList, y.b, y.k, .slice ax y.b.length cx⟩
      simp only [bsOf_self] at this
      exact this
    have hsl1 : Slc [⟨t.data.toList, y.b, y.k, .slice ax y.b.length cx⟩] := fun x hx => by
      have : x = ⟨t.data.toList, y.b, y.k, .slice ax y.b.length cx⟩ := by simpa using hx
      rw [this]; exact ⟨_, _, _, rfl⟩
    have bn10 := HX9.out.1.below b10 HX9.out.1.lt
    have e0 := bn10.cell 0
    have e1 := bn10.cell 1
    have e2 := bn10.cell 2
    simp only [List.getElem?_cons_zero, List.getElem?_cons_succ] at e0 e1 e2
    clear o1 bn10 c1
    go_wp2_with (at_builtin; go_must (refine app_files rfl (.tmp 64) (.tmp 66) rfl w9.heap.size _ (its9.take k) rfl o1' _ _ _ [⟨t.data.toList, y.b, y.k, .slice ax y.b.length cx⟩] rfl rfl hone (by simp) hsl1 (by rw [hlt9]; simp; omega) b10'.size ?_))
    intro v2 w11 o2 g2 _
    have b11 : Below w9.heap.size w9 w11 := below_appf b10' b10'.size o1' g2
    have s11 := b11.size
    clear g2 o1' b10' hone hsl1 b10 s10 e0 e1 e2
    have c1' : w11.cell? ⟨br, 1, none⟩ = some (.slice aL9 its9.length cL9) := (b11.cell (p := ⟨br, 1, none⟩) hbr).trans HC9.out
    have hdl9 : (its9.drop k).length = its9.length - k := by rw [List.length_drop]
    have hsr := from_src (HSRC.out.below b11) hcl9 hil9
    have hnf := from_nil (n := k) hnil9
    go_wp2_with (first
      | (refine sl_fromf rfl 50 (.tmp 73) (.tmp 74) rfl 57 Tryz.underlying50 3 Tryz.sizeOf57 aL9 its9.length cL9 k rfl rfl hil9 ?_; intro A' hA'; rw [← hA'] at hsr hnf; clear hA')
      | (at_builtin; go_must (refine app_files rfl (.tmp 69) (.tmp 75) rfl w9.heap.size _ _ rfl o2 _ _ _ (its9.drop k) hdl9.symm rfl hsr hnf (HSLC.out.drop k) (by simp only [List.length_append, hlt9, hdl9, List.length_cons, List.length_nil]; omega) s11 ?_)))
    intro v3 w12 o3' g3 _
    have b12 : Below w9.heap.size w9 w12 := below_appf b11 s11 o2 g3
    have o3 : OwnF w12 w9.heap.size v3 (its9.take k ++ ⟨t.data.toList, y.b, y.k, .slice ax y.b.length cx⟩ :: its9.drop k) := by simpa using o3'
    clear g3 o2 b11 s11 hsr hnf c1' o3'
    obtain ⟨hri9, hfs9, hR9⟩ := HRI9.out
    have hri12 := hri9.below b12
    have hX12 := HX9.out.2.1.keptBy (Kept.of_below (S := fun _ => False) b12) (fun _ _ h => h)
    have hri13 := RI.mkRow hri12.blk o3 (fun x hx => by
      rcases List.mem_append.1 hx with h | h
      · exact hri12.row x (List.mem_of_mem_take h)
      · rcases List.mem_cons.1 h with h | h
        · rw [h]; exact hX12
        · exact hri12.row x (List.mem_of_mem_drop h))
    have hfs13 : ins (t.data.toList, y) (del s.data.toList (del t.data.toList a.fs)) = (its9.take k ++ ⟨t.data.toList, y.b, y.k, .slice ax y.b.length cx⟩ :: its9.drop k).map It.fl := by
      rw [del_comm, ← HG6.out.2.1, ins_spot HG6.out.2.2.1 y HG6.out.1, HK6.out, hfs9, List.map_append, List.map_cons, List.map_take, List.map_drop]
      rfl
    have h13 := hri13.ref hfs13
    have z12 : w12.frozen? ⟨br, 1, none⟩ = false := hri12.blk.frozen 1
    have c12 : w12.cell? ⟨br, 1, none⟩ = some (.slice aL9 its9.length cL9) := (b12.cell (p := ⟨br, 1, none⟩) hbr).trans HC9.out
    have HQ : Hid (Calls Tryz.prog 62 #[.pointer (some ⟨br, 0, none⟩)] (w12.setCell ⟨br, 1, none⟩ v3) fun e w' => e = .returned (.int .i64 0) ∧ Hid (∃ R', Ref w' br R' ⟨a.room, fuseAfter a.fuse 0, ins (t.data.toList, y) (del s.data.toList (del t.data.toList a.fs))⟩ ∧ Went w w' R R')) := by
      refine (did_any h13 HF.out.fine.fuse0 HF.out.fine.fuse1).mono ?_
      rintro e w' ⟨rfl, p1, p2⟩
      refine ⟨rfl, _, p1, ?_⟩
      have kb : Kept (fun j => j = br) w (w12.setCell ⟨br, 1, none⟩ v3) := (((Kept.of_below (S := fun j => j = br) H3.out.2.2).trans HX9.out.2.2 (fun _ _ e => e)).trans (Kept.of_below (S := fun j => j = br) b12) (fun _ _ e => e)).trans (Kept.setCell (S := fun j => j = br) w12 ⟨br, 1, none⟩ _ rfl) (fun _ _ e => e)
      have g9 : w.heap.size ≤ w9.heap.size := Nat.le_trans H3.out.2.2.size HX9.out.2.2.size
      have gw : Went w (w12.setCell ⟨br, 1, none⟩ v3) R (rfoot br v3 (its9.take k ++ ⟨t.data.toList, y.b, y.k, .slice ax y.b.length cx⟩ :: its9.drop k)) := by
        refine ⟨kb.mono fun j _ e => by rw [e]; exact H3.out.1.br_in, fun j hj => ?_⟩
        have sub : ∀ x ∈ its9, x.v.ownBlock = some j → R j ∨ w.heap.size ≤ j := fun x hx e => H5.out.2.2.2 j (by rw [hR9]; exact .inr (.inr ⟨x, hx, e⟩))
        rcases hj with e | e | ⟨x, hx, e⟩
        · left; rw [e]; exact H3.out.1.br_in
        · right; have := (o3.lt e).1; omega
        · rcases List.mem_append.1 hx with h | h
          · exact sub x (List.mem_of_mem_take h) e
          · rcases List.mem_cons.1 h with h | h
            · rw [h] at e; exact .inl (HXR.out j e)
            · exact sub x (List.mem_of_mem_drop h) e
      exact gw.trans p2
    obtain ⟨a3, c3, rfl, _⟩ := o3.shape
    clear h13 hri9 hfs9 hR9 hri12 hri13 hfs13 o3 b12 HRI9 HSRC HSLC HC9 HX9 H5 H3 HG6 HK6 hX12
    generalize (its9.take k ++ ⟨t.data.toList, y.b, y.k, .slice ax y.b.length cx⟩ :: its9.drop k).length = n3 at *
    go_wp2_with (go_at_call 62; refine HQ.out.mono ?_; rintro e w14 ⟨rfl, hp⟩)
    go_ret
    unfold RefA
    rw [HA.out]
    exact ⟨rfl, hp.out⟩
end Go.Proofs.YtmpnceicodfifaaGreat
