/-
  (*store).extend.
-/
import Derived.Test.YtmpnceicodfifaaGreatPut
namespace Go.Proofs.YtmpnceicodfifaaGreat
open Go.RowKit Go.Maps
/-- append onto bytes that the call made, and where the new slice lies. -/
theorem app_at {ops : Array Oper} {rest : List Oper} {o : Oper} {a : Act} {Q : Exit → Act → World → Prop} {w : World} (hgd : o.guard = none) (s x : Operand)
    (ho : o.op = .call { callee := .builtin .append, args := #[s, x], argTypes := #[32, 32] })
    (base : Nat) (v : Value) (l : List Nat) (hs : a.eval s = v) (hown : Own w base v l)
    (ax : Option Addr) (m c : Nat) (l2 : List Nat) (hm : m = l2.length) (hx : a.eval x = .slice ax m c) (hsrc : Byt w ax l2) (hnil : ax = none → c = 0)
    (hb : l.length + l2.length ≤ 4294967296) (hbase : base ≤ w.heap.size)
    (h : ∀ v' w', Own w' base v' (l ++ l2) → w.grownBy w' v.ownBlock → (∀ g, v'.ownBlock = some g → v.ownBlock = some g ∨ w.heap.size ≤ g) → wpList Tryz.prog ops Q rest (a.put o.dst v') w') : wpList Tryz.prog ops Q (o :: rest) a w := by
  subst hm
  obtain ⟨i, hi, hz0, hz1, hz2⟩ := info_parts Tryz.info5
  cases ax with
  | none =>
    obtain rfl := hnil rfl
    have hl : l2 = [] := by
      rcases hsrc with h | ⟨_, _, h, _⟩
      · exact h
      · cases h
    subst hl
    refine wpList_append_own_none hgd s x 32 ho base 5 i 1 Tryz.underlying32 hi v _ _ hs hown hx (h v w ?_ (World.grownBy.refl _ _) (fun _ h => .inl h))
    simpa using hown
  | some ad =>
    refine wpList_append_own_at _ hgd s x 32 ho base 5 i (.int .u8 0) 1 1 Tryz.underlying32 hi hz0 hz1 hz2 rfl (by decide) v _ _ hs hown ad l2.length c (vals l2) hx (by simp [vals_length]) ?_ (vals_one l2) (by unfold maxLen; omega) (by omega) hbase ?_
    · intro j u hj
      have hjl : j < l2.length := by
        have := (List.getElem?_eq_some_iff.1 hj).1
        simpa [vals_length] using this
      rcases hsrc with rfl | ⟨b, off, he, hc⟩
      · simp at hjl
      · obtain rfl := Option.some.inj he
        rw [vals_get l2 j hjl] at hj
        rw [Addr.add_lit, hc j hjl]
        exact hj
    · intro v' w' h1 h2 _ h4
      refine h v' w' ?_ h2 ?_
      · unfold Own
        rw [List.length_append, show vals (l ++ l2) = vals l ++ vals l2 by simp [vals]]
        exact h1
      · intro g hg
        rcases h4 with h4 | h4
        · left; rw [← h4]; exact hg
        · right; rw [h4] at hg; cases hg; exact Nat.le_refl _
theorem Byt.keptBy {S : Nat → Prop} {w w' : World} {a : Option Addr} {l : List Nat} (h : Byt w a l) (hk : Kept S w w') (hn : ∀ b off, a = some ⟨b, off, none⟩ → l ≠ [] → ¬ S b) : Byt w' a l := by
  rcases h with h | ⟨b, off, rfl, hc⟩
  · exact .inl h
  · refine .inr ⟨b, off, rfl, fun i hi => ?_⟩
    rw [← hc i hi]
    exact World.cell?_of_block (hk.block b (cell_lt (hc i hi)) (hn b off rfl (fun e => by subst e; cases hi)))
/-- One file of the store is appended to. -/
theorem Inn.appended {lk : Int} {w w1 : World} {bs bm : Nat} {room used fuse : Int} {ix : List (Nm × Nat)} {ct : Nat → File} (h : Inn lk w bs bm room used fuse ix ct) {nm : Nm} {f : Nat} (hf : (nm, f) ∈ ix) {v' : Value} {l : List Nat} (o1 : Own w1 0 v' l)
    (g1 : w.grownBy w1 (ct f).v.ownBlock) (loc : ∀ g, v'.ownBlock = some g → (ct f).v.ownBlock = some g ∨ w.heap.size ≤ g) (u : Int) :
    Blk w1 f 86 [(ct f).v, .int .u32 ((ct f).k : Int)] ∧ Blk w1 bs 84 (head lk room used fuse bm) ∧ f ≠ bs ∧
    Inn lk ((w1.setCell ⟨f, 0, none⟩ v').setCell ⟨bs, 3, none⟩ (.int .i64 u)) bs bm room u fuse ix (upd ct f ⟨v', l, (ct f).k⟩) ∧
    Step w ((w1.setCell ⟨f, 0, none⟩ v').setCell ⟨bs, 3, none⟩ (.int .i64 u)) bs bm ix ct ix (upd ct f ⟨v', l, (ct f).k⟩) := by
  have kw : Kept (fun i => (ct f).v.ownBlock = some i) w w1 := Kept.of_grown g1 (fun i e => e)
  have hB := (h.file _ hf).keptBy kw (fun e => (h.row_ne hf e).2.2 _ hf rfl)
  have hS := h.blk.keptBy kw (fun e => (h.row_ne hf e).1 rfl)
  have kk : Kept (fun i => i = f ∨ (ct f).v.ownBlock = some i) w (w1.setCell ⟨f, 0, none⟩ v') := (kw.mono fun _ _ e => .inr e).trans (Kept.setCell (S := fun i => i = f) w1 ⟨f, 0, none⟩ _ rfl) (fun _ _ e => .inl e)
  have o2 : Own (w1.setCell ⟨f, 0, none⟩ v') 0 v' l := o1.keptBy (Kept.setCell (S := fun i => i = f) w1 ⟨f, 0, none⟩ _ rfl) (fun g hg => by
    obtain ⟨_, hv⟩ := o1.blk hg
    exact hv.ne hB (by decide))
  obtain ⟨r1, r2⟩ := h.file_set hf ⟨v', l, (ct f).k⟩ kk (hB.set 0 v') o2 loc
  refine ⟨hB, hS, (h.file_ne hf).1, r1.set 3 _ rfl, ?_⟩
  exact ⟨r2.kept.trans (Kept.setCell (S := fun i => i = bs) _ ⟨bs, 3, none⟩ _ rfl) (fun _ _ e => .inl e), r2.new⟩
theorem size_dat (ix : List (Nm × Nat)) : Maps.size (dat ix) = ix.length := by simp [Maps.size, dat]
/-- What extend has done. -/
def Ext (w : World) (room used : Int) (nm : Nm) (l : List Nat) (ix : List (Nm × Nat)) (ct : Nat → File) (err used' : Int) (ix' : List (Nm × Nat)) (ct' : Nat → File) : Prop :=
  if (l.length : Int) > room - used ∨ (get ix nm = none ∧ 4096 ≤ ix.length) then err = 6 ∧ used' = used ∧ ix' = ix ∧ ct' = ct
  else err = 0 ∧ used' = used + l.length ∧ ∃ v, match get ix nm with
    | some f => ix' = ix ∧ ct' = upd ct f ⟨v, (ct f).b ++ l, (ct f).k⟩
    | none => ∃ f, w.heap.size ≤ f ∧ ix' = ins (nm, f) ix ∧ ct' = upd ct f ⟨v, l, 0⟩
set_option maxHeartbeats 1000000 in
theorem extend_full {lk : Int} {w : World} {bs bm : Nat} {room used fuse : Int} {ix : List (Nm × Nat)} {ct : Nat → File} (h : Inn lk w bs bm room used fuse ix ct) (s : ByteArray) (hs : s.size ≤ 281474976710656) (a0 : Option Addr) (cap : Nat) (l : List Nat)
    (hu : 0 ≤ used) (hu2 : used ≤ room) (hr : room ≤ 1073741824) (hfull : (l.length : Int) > room - used ∨ (get ix s.data.toList = none ∧ 4096 ≤ ix.length)) (hix : ix.length ≤ 1073741824) :
    Calls Tryz.prog 23 #[.pointer (some ⟨bs, 0, none⟩), .string s, .slice a0 l.length cap] w fun e w' => e = .returned (.int .i64 6) ∧ ∃ q, w' = w.drewN q := by
  have hlk := h.lookup (s := s) (by unfold maxLen; omega)
  have hlen : ∀ q ty, (Builtin.len_ #[82] ty #[.map (some bm)]).run Tryz.prog (w.drewN q) = .ok (.int .i64 ix.length) (w.drewN q) := fun q ty => by
    have := (ownsMap_keptBy (S := fun _ => False) (w' := w.drewN q) h.map ⟨rfl, rfl, rfl, Nat.le_refl _, fun _ _ _ => rfl⟩ (fun h => h)).len Tryz.underlying82 ty
    rw [size_dat] at this
    exact this
  have c2 : w.cell? ⟨bs, 2, none⟩ = some (.int .i64 room) := h.blk.cell 2
  have c3 : w.cell? ⟨bs, 3, none⟩ = some (.int .i64 used) := h.blk.cell 3
  have c5 : w.cell? ⟨bs, 5, none⟩ = some (.map (some bm)) := h.blk.cell 5
  clear h hs
  by_cases hf1 : (l.length : Int) > room - used
  · have hd : decide (room - used < (l.length : Int)) = true := by simpa using hf1
    clear hfull
    generalize l.length = n at *
    generalize get ix s.data.toList = gt at *
    generalize ix.length = m at *
    go_enter Tryz.func23, Tryz.ntmps23
    go_wp2
    go_quiet (fail)
    go_wp2
    go_ret
    exact ⟨rfl, _, rfl⟩
  · obtain ⟨hg, hm⟩ := hfull.resolve_left hf1
    rw [hg] at hlk
    simp only [Option.map_none] at hlk
    have hd : decide (room - used < (l.length : Int)) = false := by simpa using hf1
    have hm' : decide ((4096 : Int) ≤ (ix.length : Int)) = true := by simp; omega
    clear hfull hg
    generalize l.length = n at *
    generalize ix.length = m at *
    go_enter Tryz.func23, Tryz.ntmps23
    go_wp2
    go_quiet (fail)
    go_wp2
    go_ret
    exact ⟨rfl, _, rfl⟩
theorem Inn.drewN {lk : Int} {w : World} {bs bm : Nat} {room used fuse : Int} {ix : List (Nm × Nat)} {ct : Nat → File} (h : Inn lk w bs bm room used fuse ix ct) (q : Nat) : Inn lk (w.drewN q) bs bm room used fuse ix ct :=
  h.keptBy (S := fun _ => False) ⟨rfl, rfl, rfl, Nat.le_refl _, fun _ _ _ => rfl⟩ (fun _ _ h => h)
theorem Step.drewN {w : World} {bs bm : Nat} {ix : List (Nm × Nat)} {ct : Nat → File} (q : Nat) : Step w (w.drewN q) bs bm ix ct ix ct := ⟨⟨rfl, rfl, rfl, Nat.le_refl _, fun _ _ _ => rfl⟩, fun _ h => .inl h⟩
set_option maxHeartbeats 1000000 in
theorem extend_old {lk : Int} {w : World} {bs bm : Nat} {room used fuse : Int} {ix : List (Nm × Nat)} {ct : Nat → File} (h : Inn lk w bs bm room used fuse ix ct) (s : ByteArray) (hs : s.size ≤ 281474976710656) (a0 : Option Addr) (cap : Nat) (l : List Nat)
    (hsrc : Byt w a0 l) (hnil : a0 = none → cap = 0) (hu : 0 ≤ used) (hu2 : used ≤ room) (hr : room ≤ 1073741824) (hfit : (l.length : Int) ≤ room - used) (f : Nat) (hg : get ix s.data.toList = some f) (hfb : (ct f).b.length ≤ 1073741824) :
    Calls Tryz.prog 23 #[.pointer (some ⟨bs, 0, none⟩), .string s, .slice a0 l.length cap] w fun e w' => e = .returned (.int .i64 0) ∧ ∃ v, Inn lk w' bs bm room (used + l.length) fuse ix (upd ct f ⟨v, (ct f).b ++ l, (ct f).k⟩) ∧ Step w w' bs bm ix ct ix (upd ct f ⟨v, (ct f).b ++ l, (ct f).k⟩) := by
  have hlk := h.lookup (s := s) (by unfold maxLen; omega)
  have hf := mem_of_get hg
  obtain ⟨a, c, ev, hc, hn, B, O⟩ := h.see hf
  have c2 : w.cell? ⟨bs, 2, none⟩ = some (.int .i64 room) := h.blk.cell 2
  have c3 : w.cell? ⟨bs, 3, none⟩ = some (.int .i64 used) := h.blk.cell 3
  have c5 : w.cell? ⟨bs, 5, none⟩ = some (.map (some bm)) := h.blk.cell 5
  have z3 : w.frozen? ⟨bs, 3, none⟩ = false := h.blk.frozen 3
  have f0 : w.cell? ⟨f, 0, none⟩ = some (.slice a (ct f).b.length c) := B.cell 0
  rw [hg] at hlk
  simp only [Option.map_some] at hlk
  have hd : decide (room - used < (l.length : Int)) = false := by simpa using hfit
  have HH : Hid (Inn lk w bs bm room used fuse ix ct) := h
  have HF : Hid ((s.data.toList, f) ∈ ix) := hf
  have HV : Hid ((ct f).v = .slice a (ct f).b.length c) := ev
  have HB : Hid (∀ q, Byt (w.drewN q) a0 l) := fun q => hsrc.keptBy (S := fun _ => False) ⟨rfl, rfl, rfl, Nat.le_refl _, fun _ _ _ => rfl⟩ (fun _ _ _ _ h => h)
  clear h hs hg hf B O hsrc ev
  go_enter Tryz.func23, Tryz.ntmps23
  go_wp2
  go_quiet (fail)
  have HN : Hid (Inn lk (w.drewN nq) bs bm room used fuse ix ct) := HH.out.drewN nq
  have HW : Hid (Step w (w.drewN nq) bs bm ix ct ix ct) := Step.drewN nq
  have HS : Hid (Byt (w.drewN nq) a0 l) := HB.out nq
  have f1 : (w.drewN nq).cell? ⟨f, 0, none⟩ = some (.slice a (ct f).b.length c) := f0
  clear HB HH hlk c2 c3 c5 z3 f0
  generalize w.drewN nq = V at *
  have HO : Hid (Own V 0 (.slice a (ct f).b.length c) (ct f).b) := by have := HN.out.row _ HF.out; simp only [HV.out] at this; exact this
  go_wp2_with (at_builtin; go_must (refine app_at rfl (.tmp 50) (.tmp 51) rfl 0 _ (ct f).b rfl HO.out a0 _ cap l rfl rfl HS.out hnil (by omega) (Nat.zero_le _) ?_))
  intro v' w1 o1 g1 loc
  obtain ⟨a', c', rfl, _, _⟩ := o1.shape
  generalize ((ct f).b ++ l).length = nn at *
  rw [← HV.out] at g1 loc
  obtain ⟨q1, q2, q3, q4, q5⟩ := HN.out.appended HF.out o1 g1 loc (used + l.length)
  have k0 := q1.cell 0
  have y0 := q1.frozen 0
  have k3 := q2.cell 3
  have y3 := q2.frozen 3
  simp only [List.getElem?_cons_zero, List.getElem?_cons_succ, head] at k0 k3
  have k3' : (w1.setCell ⟨f, 0, none⟩ (.slice a' nn c')).cell? ⟨bs, 3, none⟩ = some (.int .i64 used) := by rw [World.cell?_setCell_other _ _ _ _ (fun e => q3 (by cases e <;> rfl))]; exact k3
  have HE : Hid _ := And.intro q4 (HW.out.trans q5)
  clear o1 g1 loc q1 q2 q4 q5 HO HS HV f1 HN HF HW
  go_wp2
  go_ret
  exact ⟨rfl, _, HE.out⟩
theorem upd_upd (ct : Nat → File) (f : Nat) (x y : File) : upd (upd ct f x) f y = upd ct f y := by
  funext g
  unfold upd
  split <;> rfl
theorem cell_not_map {w : World} {b o bm n : Nat} {D : DataW Unit} {v : Value} (h : w.ownsMap Tryz.prog 9 fileElem bm n D) (hc : w.cell? ⟨b, o, none⟩ = some v) : b ≠ bm := by
  rintro rfl
  obtain ⟨es, clock, hb, _⟩ := h
  simp [World.cell?, hb] at hc
theorem Byt.keptMap {w w' : World} {bm n : Nat} {D : DataW Unit} {a : Option Addr} {l : List Nat} (h : Byt w a l) (hm : w.ownsMap Tryz.prog 9 fileElem bm n D) (hk : Kept (fun i => i = bm) w w') : Byt w' a l := by
  rcases h with h | ⟨b, off, rfl, hc⟩
  · exact .inl h
  · refine .inr ⟨b, off, rfl, fun i hi => ?_⟩
    rw [← hc i hi]
    exact World.cell?_of_block (hk.block b (cell_lt (hc i hi)) (cell_not_map hm (hc i hi)))
set_option maxHeartbeats 1000000 in
theorem extend_new {lk : Int} {w : World} {bs bm : Nat} {room used fuse : Int} {ix : List (Nm × Nat)} {ct : Nat → File} (h : Inn lk w bs bm room used fuse ix ct) (s : ByteArray) (hs : s.size ≤ 281474976710656) (a0 : Option Addr) (cap : Nat) (l : List Nat)
    (hsrc : Byt w a0 l) (hnil : a0 = none → cap = 0) (hu : 0 ≤ used) (hu2 : used ≤ room) (hr : room ≤ 1073741824) (hfit : (l.length : Int) ≤ room - used) (hg : get ix s.data.toList = none) (hix : ix.length < 4096) :
    Calls Tryz.prog 23 #[.pointer (some ⟨bs, 0, none⟩), .string s, .slice a0 l.length cap] w fun e w' => e = .returned (.int .i64 0) ∧ ∃ v f, w.heap.size ≤ f ∧ Inn lk w' bs bm room (used + l.length) fuse (ins (s.data.toList, f) ix) (upd ct f ⟨v, l, 0⟩) ∧
      Step w w' bs bm ix ct (ins (s.data.toList, f) ix) (upd ct f ⟨v, l, 0⟩) := by
  have hlk := h.lookup (s := s) (by unfold maxLen; omega)
  have hlen : ∀ q ty, (Builtin.len_ #[82] ty #[.map (some bm)]).run Tryz.prog (w.drewN q) = .ok (.int .i64 ix.length) (w.drewN q) := fun q ty => by
    have := (h.drewN q).map.len Tryz.underlying82 ty
    rw [size_dat] at this
    exact this
  have c2 : w.cell? ⟨bs, 2, none⟩ = some (.int .i64 room) := h.blk.cell 2
  have c3 : w.cell? ⟨bs, 3, none⟩ = some (.int .i64 used) := h.blk.cell 3
  have c5 : w.cell? ⟨bs, 5, none⟩ = some (.map (some bm)) := h.blk.cell 5
  rw [hg] at hlk
  simp only [Option.map_none] at hlk
  have hd : decide (room - used < (l.length : Int)) = false := by simpa using hfit
  have hm' : decide ((4096 : Int) ≤ (ix.length : Int)) = false := by simp; omega
  have HG : Hid (get ix s.data.toList = none) := hg
  have HH : Hid (Inn lk w bs bm room used fuse ix ct) := h
  have HB : Hid (∀ q, Byt (w.drewN q) a0 l) := fun q => hsrc.keptBy (S := fun _ => False) ⟨rfl, rfl, rfl, Nat.le_refl _, fun _ _ _ => rfl⟩ (fun _ _ _ _ h => h)
  clear h hg hsrc
  go_enter Tryz.func23, Tryz.ntmps23
  go_wp2
  go_quiet (fail)
  have HN : Hid (Inn lk (w.drewN nq) bs bm room used fuse ix ct) := HH.out.drewN nq
  have HW : Hid (Step w (w.drewN nq) bs bm ix ct ix ct) := Step.drewN nq
  have HS : Hid (Byt (w.drewN nq) a0 l) := HB.out nq
  have HZ : Hid ((w.drewN nq).heap.size = w.heap.size) := rfl
  clear HB HH hlk c2 c3 c5 hlen
  generalize w.drewN nq = V at *
  have HP : Hid (Calls Tryz.prog 56 #[.pointer (some ⟨bs, 0, none⟩), .string s, .pointer (some ⟨V.heap.size, 0, none⟩)] (V.alloc (.cells #[.slice none 0 0, .int .u32 0] 86)) fun e w' => e = .returned (.tuple #[]) ∧
      w'.cell? ⟨V.heap.size, 0, none⟩ = some (.slice none 0 0) ∧ Hid (Byt w' a0 l) ∧ Hid (Inn lk w' bs bm room used fuse (ins (s.data.toList, V.heap.size) ix) (upd ct V.heap.size ⟨.slice none 0 0, [], 0⟩)) ∧ Hid (Step V w' bs bm ix ct (ins (s.data.toList, V.heap.size) ix) (upd ct V.heap.size ⟨.slice none 0 0, [], 0⟩))) := by
    have ia := HN.out.keptBy (Kept.alloc (fun _ => False) V (.cells #[.slice none 0 0, .int .u32 0] 86)) (fun _ _ h => h)
    refine (put_any bs bm ix.length V.heap.size (dat ix) s hs _ (ia.blk.cell 5) ia.map (by unfold maxLen; omega)).mono ?_
    rintro e w' ⟨rfl, m1, k1⟩
    have kV : Kept (fun i => i = bm) V w' := (Kept.alloc (fun i => i = bm) V _).trans k1 (fun _ _ h => h)
    have bF : Blk w' V.heap.size 86 [.slice none 0 0, .int .u32 0] := (blk_new V 86 [.slice none 0 0, .int .u32 0]).keptBy k1 (fun e => by have := HN.out.map.lt; omega)
    refine ⟨rfl, bF.cell 0, HS.out.keptMap HN.out.map kV, HN.out.file_new (x := ⟨.slice none 0 0, [], 0⟩) HG.out (Nat.le_refl _) kV m1 bF ⟨by simp [vals], .inl ⟨rfl, rfl⟩⟩ rfl⟩
  clear HS hs
  have HO : Hid (∀ W, Own W 0 (.slice none 0 0) []) := fun W => ⟨by simp [vals], .inl ⟨rfl, rfl⟩⟩
  clear HN
  go_wp2_with (first
    | (go_at_call 56; refine HP.out.mono ?_; rintro e w2 ⟨rfl, f0, HY', HI', HT'⟩)
    | (at_builtin; go_must (refine app_at rfl (.tmp 50) (.tmp 51) rfl 0 _ [] rfl (HO.out _) a0 _ cap l rfl rfl HY'.out hnil (by simp; omega) (Nat.zero_le _) ?_)))
  intro v' w1 o1 g1 loc
  obtain ⟨a', c', rfl, _, _⟩ := o1.shape
  have HF : Hid ((s.data.toList, V.heap.size) ∈ ins (s.data.toList, V.heap.size) ix) := mem_ins.2 (.inl rfl)
  have e1 : (upd ct V.heap.size ⟨.slice none 0 0, [], 0⟩ V.heap.size).v = .slice none 0 0 := by rw [upd_same]
  rw [← e1] at g1 loc
  obtain ⟨q1, q2, q3, q4, q5⟩ := HI'.out.appended HF.out o1 g1 loc (used + l.length)
  have k0 := q1.cell 0
  have y0 := q1.frozen 0
  have k3 := q2.cell 3
  have y3 := q2.frozen 3
  simp only [List.getElem?_cons_zero, List.getElem?_cons_succ, head, upd_same] at k0 k3
  have k3' : (w1.setCell ⟨V.heap.size, 0, none⟩ (.slice a' l.length c')).cell? ⟨bs, 3, none⟩ = some (.int .i64 used) := by rw [World.cell?_setCell_other _ _ _ _ (fun e => q3 (by cases e <;> rfl))]; exact k3
  rw [upd_same, upd_upd] at q4 q5
  have HE : Hid _ := And.intro q4 ((HW.out.trans HT'.out).trans q5)
  have HZ' : Hid (w.heap.size ≤ V.heap.size) := Nat.le_of_eq HZ.out.symm
  clear o1 g1 loc q1 q2 q4 q5 HO HY' f0 HI' HT' HF HW HZ
  go_wp2
  go_ret
  exact ⟨rfl, _, V.heap.size, HZ'.out, HE.out⟩
theorem extend_any {lk : Int} {w : World} {bs bm : Nat} {room used fuse : Int} {ix : List (Nm × Nat)} {ct : Nat → File} (h : Inn lk w bs bm room used fuse ix ct) (s : ByteArray) (hs : s.size ≤ 281474976710656) (a0 : Option Addr) (cap : Nat) (l : List Nat)
    (hsrc : Byt w a0 l) (hnil : a0 = none → cap = 0) (hu : 0 ≤ used) (hu2 : used ≤ room) (hr : room ≤ 1073741824) (hfb : ∀ f, get ix s.data.toList = some f → (ct f).b.length ≤ 1073741824) (hix : ix.length ≤ 4096) :
    Calls Tryz.prog 23 #[.pointer (some ⟨bs, 0, none⟩), .string s, .slice a0 l.length cap] w fun e w' => ∃ (err used' : Int) (ix' : List (Nm × Nat)) (ct' : Nat → File), e = .returned (.int .i64 err) ∧ Inn lk w' bs bm room used' fuse ix' ct' ∧ Step w w' bs bm ix ct ix' ct' ∧
      Ext w room used s.data.toList l ix ct err used' ix' ct' := by
  by_cases hf : (l.length : Int) > room - used ∨ (get ix s.data.toList = none ∧ 4096 ≤ ix.length)
  · refine (extend_full h s hs a0 cap l hu hu2 hr hf (by omega)).mono ?_
    rintro e w' ⟨rfl, q, rfl⟩
    refine ⟨6, used, ix, ct, rfl, h.drewN q, Step.drewN q, ?_⟩
    unfold Ext
    rw [if_pos hf]
    exact ⟨rfl, rfl, rfl, rfl⟩
  · have h1 : (l.length : Int) ≤ room - used := by
      by_cases e : (l.length : Int) > room - used
      · exact absurd (.inl e) hf
      · omega
    cases hg : get ix s.data.toList with
    | some f =>
      refine (extend_old h s hs a0 cap l hsrc hnil hu hu2 hr h1 f hg (hfb f hg)).mono ?_
      rintro e w' ⟨rfl, v, h2, h3⟩
      refine ⟨0, _, _, _, rfl, h2, h3, ?_⟩
      unfold Ext
      rw [if_neg hf, hg]
      exact ⟨rfl, rfl, v, rfl, rfl⟩
    | none =>
      have h4 : ix.length < 4096 := by
        by_cases e : 4096 ≤ ix.length
        · exact absurd (.inr ⟨hg, e⟩) hf
        · omega
      refine (extend_new h s hs a0 cap l hsrc hnil hu hu2 hr h1 hg h4).mono ?_
      rintro e w' ⟨rfl, v, f, h5, h2, h3⟩
      refine ⟨0, _, _, _, rfl, h2, h3, ?_⟩
      unfold Ext
      rw [if_neg hf, hg]
      exact ⟨rfl, rfl, v, f, h5, rfl, rfl⟩
#print axioms extend_any
end Go.Proofs.YtmpnceicodfifaaGreat
