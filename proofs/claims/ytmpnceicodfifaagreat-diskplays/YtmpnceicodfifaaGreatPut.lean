/-
  (*store).put, .drop, .cut, .sync.
-/
import Derived.Test.YtmpnceicodfifaaGreatOps
import Derived.Deep.RegionWith
import Derived.RegionTactic
namespace Go.Proofs.YtmpnceicodfifaaGreat
open Go.RowKit Go.Maps
set_option maxHeartbeats 1000000 in
theorem put_any (bs bm n f : Nat) (D : DataW Unit) (s : ByteArray) (hs : s.size ≤ 281474976710656) (w : World) (hc : w.cell? ⟨bs, 5, none⟩ = some (.map (some bm))) (hm : w.ownsMap Tryz.prog 9 fileElem bm n D) (hn : n < maxLen) :
    Calls Tryz.prog 56 #[.pointer (some ⟨bs, 0, none⟩), .string s, .pointer (some ⟨f, 0, none⟩)] w fun e w' => e = .returned (.tuple #[]) ∧ w'.ownsMap Tryz.prog 9 fileElem bm (n + 1) (D.put (.string s.data.toList) (.lit (.int .i64 (f : Int)))) ∧ Kept (fun i => i = bm) w w' := by
  have HU : Hid (∀ w1, Below w.drew.heap.size w.drew w1 → w1.cell? ⟨bs, 5, none⟩ = some (.map (some bm)) ∧ ∃ w2, (Instr.mapUpdate 82 (.map (some bm)) (.string s) (.pointer (some ⟨f, 0, none⟩))).run Tryz.prog w1 = .ok () w2 ∧ Hid (w2.ownsMap Tryz.prog 9 fileElem bm (n + 1) (D.put (.string s.data.toList) (.lit (.int .i64 (f : Int)))) ∧ Kept (fun i => i = bm) w w2)) := by
    intro w1 hb
    have hm1 : w1.ownsMap Tryz.prog 9 fileElem bm n D := ownsMap_keptBy (S := fun _ => False) hm.drew (Kept.of_below hb) (fun h => h)
    obtain ⟨w2, h1, h2, h3⟩ := hm1.update law9 Tryz.underlying82 hn (key9 (s := s) (by unfold maxLen; omega)) (fileElem_some f)
    have hb' : Below w.heap.size w w1 := ⟨hb.os, hb.tape, hb.output, hb.size, hb.block⟩
    refine ⟨(hb'.cell (p := ⟨bs, 5, none⟩) (cell_lt hc)).trans hc, w2, h1, h2, ?_⟩
    have k1 : Kept (fun i => i = bm) w w1 := Kept.of_below hb'
    exact k1.trans (Kept.of_grown (S := fun i => i = bm) h3 (fun i e => by cases e; rfl)) (fun _ _ h => h)
  clear hm
  go_enter Tryz.func56, Tryz.ntmps56
  go_region_with (go_at_call 77; refine (clone_any s hs _).mono ?_; rintro e w1 ⟨rfl, hb⟩; obtain ⟨hc1, w2, hu, hp⟩ := HU.out w1 hb)
  all_goals (go_end0; exact ⟨rfl, hp.out⟩)
theorem Kept.drew (S : Nat → Prop) (w : World) : Kept S w w.drew := ⟨rfl, rfl, rfl, Nat.le_refl _, fun _ _ _ => rfl⟩
theorem Own.shape {w : World} {base : Nat} {v : Value} {l : List Nat} (h : Own w base v l) : ∃ a c, v = .slice a l.length c ∧ l.length ≤ c ∧ (a = none → c = 0) := by
  rcases h with ⟨_, ⟨rfl, h0⟩ | ⟨g, cap, cur, rfl, _, _, hle, _⟩⟩
  · exact ⟨none, 0, by rw [h0], by omega, fun _ => rfl⟩
  · exact ⟨_, _, rfl, hle, fun h => by cases h⟩
theorem Own.cut {w : World} {base : Nat} {a : Option Addr} {c m : Nat} {l : List Nat} (h : Own w base (.slice a l.length c) l) (hm : m ≤ l.length) : Own w base (.slice a m c) (l.take m) := by
  have hl : (l.take m).length = m := by rw [List.length_take]; omega
  unfold Own
  rw [hl]
  rcases h with ⟨h1, ⟨e, h0⟩ | ⟨g, cap, cur, e, h2, hh, hle, h3, h4, h5⟩⟩
  · have : m = 0 := by omega
    subst this
    have ea : a = none := by injection e
    have ec : c = 0 := by injection e
    subst ea ec
    exact ⟨by simp [vals], .inl ⟨rfl, rfl⟩⟩
  · have ea : a = some ⟨g, 0, none⟩ := by injection e
    have ec : c = cap := by injection e
    subst ea ec
    refine ⟨by simp [vals]; omega, .inr ⟨g, c, cur, rfl, h2, hh, by omega, h3, h4, ?_⟩⟩
    rw [Nat.mul_one] at h5 ⊢
    have := congrArg (List.take m) h5
    rw [List.take_take, Nat.min_eq_left hm] at this
    rw [this]
    simp [vals, List.map_take]
theorem own_len (a : Option Addr) (m n c : Nat) : (Value.slice a m c).ownBlock = (Value.slice a n c).ownBlock := by cases a <;> rfl
/-- A file as it lies. -/
theorem Inn.see {lk : Int} {w : World} {bs bm : Nat} {room used fuse : Int} {ix : List (Nm × Nat)} {ct : Nat → File} (h : Inn lk w bs bm room used fuse ix ct) {nm : Nm} {f : Nat} (hf : (nm, f) ∈ ix) :
    ∃ a c, (ct f).v = .slice a (ct f).b.length c ∧ (ct f).b.length ≤ c ∧ (a = none → c = 0) ∧ Blk w f 86 [.slice a (ct f).b.length c, .int .u32 ((ct f).k : Int)] ∧ Own w 0 (.slice a (ct f).b.length c) (ct f).b := by
  obtain ⟨a, c, e, h1, h2⟩ := (h.row _ hf).shape
  have b := h.file _ hf
  have o := h.row _ hf
  simp only at e b o
  rw [e] at b o
  exact ⟨a, c, e, h1, h2, b, o⟩
set_option maxHeartbeats 1000000 in
theorem scut_any {lk : Int} {w : World} {bs bm : Nat} {room used fuse : Int} {ix : List (Nm × Nat)} {ct : Nat → File} (h : Inn lk w bs bm room used fuse ix ct) {nm : Nm} {f : Nat} (hf : (nm, f) ∈ ix) (m : Nat) (hm : m ≤ (ct f).b.length) (hb : (ct f).b.length ≤ 1073741824)
    (hu : 0 ≤ used) (hu2 : used ≤ 1073741824) :
    Calls Tryz.prog 57 #[.pointer (some ⟨bs, 0, none⟩), .pointer (some ⟨f, 0, none⟩), .int .i64 (m : Int)] w fun e w' => e = .returned (.tuple #[]) ∧ ∃ v, Inn lk w' bs bm room (used - ((ct f).b.length - m)) fuse ix (upd ct f ⟨v, (ct f).b.take m, min (ct f).k m⟩) ∧
      Step w w' bs bm ix ct ix (upd ct f ⟨v, (ct f).b.take m, min (ct f).k m⟩) ∧ w'.heap[bm]? = w.heap[bm]? := by
  obtain ⟨a, c, ev, hc, hn, B, O⟩ := h.see hf
  have fin : ∀ W, W = (w.setCell ⟨bs, 3, none⟩ (.int .i64 (used - ((ct f).b.length - m)))).drew → ∃ v, Inn lk ((W.setCell ⟨f, 0, none⟩ (.slice a m c)).setCell ⟨f, 1, none⟩ (.int .u32 ((min (ct f).k m : Nat) : Int))) bs bm room (used - ((ct f).b.length - m)) fuse ix (upd ct f ⟨v, (ct f).b.take m, min (ct f).k m⟩) ∧
      Step w ((W.setCell ⟨f, 0, none⟩ (.slice a m c)).setCell ⟨f, 1, none⟩ (.int .u32 ((min (ct f).k m : Nat) : Int))) bs bm ix ct ix (upd ct f ⟨v, (ct f).b.take m, min (ct f).k m⟩) ∧ ((W.setCell ⟨f, 0, none⟩ (.slice a m c)).setCell ⟨f, 1, none⟩ (.int .u32 ((min (ct f).k m : Nat) : Int))).heap[bm]? = w.heap[bm]? := by
    rintro W rfl
    have hbm : (w.setCell ⟨bs, 3, none⟩ (.int .i64 (used - ((ct f).b.length - m)))).drew.heap[bm]? = w.heap[bm]? := Below.heap_setCell w ⟨bs, 3, none⟩ _ bm (fun e => ownsMap_ne h.map h.blk e.symm)
    have i1 : Inn lk (w.setCell ⟨bs, 3, none⟩ (.int .i64 (used - ((ct f).b.length - m)))) bs bm room (used - ((ct f).b.length - m)) fuse ix ct := h.set 3 _ rfl
    have i2 := i1.keptBy (Kept.drew (fun _ => False) _) (fun _ _ h => h)
    have s1 : Step w (w.setCell ⟨bs, 3, none⟩ (.int .i64 (used - ((ct f).b.length - m)))).drew bs bm ix ct ix ct :=
      Step.of_kept ((Kept.setCell (S := fun i => i = bs) w ⟨bs, 3, none⟩ _ rfl).trans (Kept.drew (fun _ => False) _) (fun _ _ h => h.elim)) (fun _ _ e => .inl e)
    generalize (w.setCell ⟨bs, 3, none⟩ (.int .i64 (used - ((ct f).b.length - m)))).drew = V at i2 s1 hbm
    obtain ⟨a', c', ev', _, _, B2, O2⟩ := i2.see hf
    rw [ev] at ev'
    injection ev' with e1 e2 e3
    subst e1 e3
    have B3 := (B2.set 0 (.slice a m c)).set 1 (.int .u32 ((min (ct f).k m : Nat) : Int))
    have kk : Kept (fun i => i = f) V ((V.setCell ⟨f, 0, none⟩ (.slice a m c)).setCell ⟨f, 1, none⟩ (.int .u32 ((min (ct f).k m : Nat) : Int))) :=
      (Kept.setCell (S := fun i => i = f) V ⟨f, 0, none⟩ _ rfl).trans (Kept.setCell (S := fun i => i = f) _ ⟨f, 1, none⟩ _ rfl) (fun _ _ h => h)
    have O3 : Own ((V.setCell ⟨f, 0, none⟩ (.slice a m c)).setCell ⟨f, 1, none⟩ (.int .u32 ((min (ct f).k m : Nat) : Int))) 0 (.slice a m c) ((ct f).b.take m) :=
      (O2.cut hm).keptBy kk (fun g hg => by
        have : (ct f).v.ownBlock = some g := by rw [ev, ← hg]; exact own_len _ _ _ _
        exact (i2.row_ne hf this).2.2 _ hf)
    obtain ⟨r1, r2⟩ := i2.file_set hf ⟨.slice a m c, (ct f).b.take m, min (ct f).k m⟩ (kk.mono fun _ _ e => .inl e) B3 O3 (fun g hg => .inl (by rw [ev, ← hg]; exact own_len _ _ _ _))
    exact ⟨_, r1, s1.trans r2, (kk.block bm i2.map.lt (fun e => (i2.file_ne hf).2 e.symm)).trans hbm⟩
  have c0 := B.cell 0
  have c1 := B.cell 1
  have hne : f ≠ bs := (h.file_ne hf).1
  have c3 : w.cell? ⟨bs, 3, none⟩ = some (.int .i64 used) := h.blk.cell 3
  have z3 := h.blk.frozen 3
  have z0 := B.frozen 0
  have z1 := B.frozen 1
  have d0 : (w.setCell ⟨bs, 3, none⟩ (.int .i64 (used - ((ct f).b.length - m)))).cell? ⟨f, 0, none⟩ = some (.slice a (ct f).b.length c) := by rw [World.cell?_setCell_other _ _ _ _ (fun e => hne (by cases e <;> rfl))]; exact c0
  have d1 : (w.setCell ⟨bs, 3, none⟩ (.int .i64 (used - ((ct f).b.length - m)))).cell? ⟨f, 1, none⟩ = some (.int .u32 ((ct f).k : Int)) := by rw [World.cell?_setCell_other _ _ _ _ (fun e => hne (by cases e <;> rfl))]; exact c1
  have HC : Hid (∀ W, W = (w.setCell ⟨bs, 3, none⟩ (.int .i64 (used - ((ct f).b.length - m)))).drew → Calls Tryz.prog 78 #[.pointer (some ⟨f, 0, none⟩), .int .i64 (m : Int)] W fun e w' => e = .returned (.tuple #[]) ∧ ∃ v, Inn lk w' bs bm room (used - ((ct f).b.length - m)) fuse ix (upd ct f ⟨v, (ct f).b.take m, min (ct f).k m⟩) ∧ Step w w' bs bm ix ct ix (upd ct f ⟨v, (ct f).b.take m, min (ct f).k m⟩) ∧ w'.heap[bm]? = w.heap[bm]?) := by
    intro W hW
    have fW := fin W hW
    subst hW
    refine (fcut_any f _ c _ m a (w.setCell ⟨bs, 3, none⟩ (.int .i64 (used - ((ct f).b.length - m)))).drew d0 d1 (by simp [z0]) (by simp [z1]) hm hc (by omega)).mono ?_
    rintro e w' ⟨rfl, rfl⟩
    exact ⟨rfl, fW⟩
  clear fin B O h hf d0 d1 ev
  simp only [List.getElem?_cons_zero, List.getElem?_cons_succ] at c0 c1
  generalize (ct f).b.length = n at *
  generalize (ct f).k = kk at *
  go_enter Tryz.func57, Tryz.ntmps57
  go_wp2
  go_region
  go_wp2_with (go_at_call 78; refine (HC.out _ rfl).mono ?_; rintro e w' ⟨rfl, hp⟩)
  go_end0
  exact ⟨rfl, hp⟩
set_option maxHeartbeats 1000000 in
theorem fsyncd_any {lk : Int} {w : World} {bs bm : Nat} {room used fuse : Int} {ix : List (Nm × Nat)} {ct : Nat → File} (h : Inn lk w bs bm room used fuse ix ct) {nm : Nm} {f : Nat} (hf : (nm, f) ∈ ix) (hb : (ct f).b.length ≤ 1073741824) :
    Calls Tryz.prog 59 #[.pointer (some ⟨f, 0, none⟩)] w fun e w' => e = .returned (.tuple #[]) ∧ Inn lk w' bs bm room used fuse ix (upd ct f ⟨(ct f).v, (ct f).b, (ct f).b.length⟩) ∧ Step w w' bs bm ix ct ix (upd ct f ⟨(ct f).v, (ct f).b, (ct f).b.length⟩) ∧ w'.heap[bm]? = w.heap[bm]? := by
  obtain ⟨a, c, ev, hc, hn, B, O⟩ := h.see hf
  refine (fsync_any f _ c _ a w (B.cell 0) (B.cell 1) (B.frozen 1) (by omega)).mono ?_
  rintro e w' ⟨rfl, rfl⟩
  have kk : Kept (fun i => i = f) w (w.setCell ⟨f, 1, none⟩ (.int .u32 ((ct f).b.length : Int))) := Kept.setCell (S := fun i => i = f) w ⟨f, 1, none⟩ _ rfl
  have B3 := B.set 1 (.int .u32 ((ct f).b.length : Int))
  have O3 := O.keptBy kk (fun g hg => (h.row_ne hf (by rw [ev]; exact hg)).2.2 _ hf)
  rw [← ev] at B3 O3
  obtain ⟨r1, r2⟩ := h.file_set hf ⟨(ct f).v, (ct f).b, (ct f).b.length⟩ (kk.mono fun _ _ e => .inl e) B3 O3 (fun g hg => .inl hg)
  exact ⟨rfl, r1, r2, kk.block bm h.map.lt (fun e => (h.file_ne hf).2 e.symm)⟩
set_option maxHeartbeats 1000000 in
theorem ssync_any {lk : Int} {w : World} {bs bm : Nat} {room used fuse : Int} {ix : List (Nm × Nat)} {ct : Nat → File} (h : Inn lk w bs bm room used fuse ix ct) (s : ByteArray) (hs : s.size ≤ maxLen) (hb : ∀ f, get ix s.data.toList = some f → (ct f).b.length ≤ 1073741824) :
    Calls Tryz.prog 47 #[.pointer (some ⟨bs, 0, none⟩), .string s] w fun e w' => ∃ (err : Int) (ct' : Nat → File), e = .returned (.int .i64 err) ∧ Inn lk w' bs bm room used fuse ix ct' ∧ Step w w' bs bm ix ct ix ct' ∧
      (match get ix s.data.toList with | none => err = 7 ∧ ct' = ct | some f => err = 0 ∧ ct' = upd ct f ⟨(ct f).v, (ct f).b, (ct f).b.length⟩) := by
  have hlk := h.lookup hs
  have c5 : w.cell? ⟨bs, 5, none⟩ = some (.map (some bm)) := h.blk.cell 5
  have HH : Hid (Inn lk w bs bm room used fuse ix ct) := h
  clear h
  cases hg : get ix s.data.toList with
  | none =>
    rw [hg] at hlk
    simp only [Option.map_none] at hlk
    clear hb
    go_enter Tryz.func47, Tryz.ntmps47
    go_wp2
    go_ret
    exact ⟨7, ct, rfl, HH.out, Step.refl _ _ _ _ _, rfl, rfl⟩
  | some f =>
    rw [hg] at hlk
    simp only [Option.map_some] at hlk
    have HS : Hid (Calls Tryz.prog 59 #[.pointer (some ⟨f, 0, none⟩)] w fun e w' => e = .returned (.tuple #[]) ∧ Inn lk w' bs bm room used fuse ix (upd ct f ⟨(ct f).v, (ct f).b, (ct f).b.length⟩) ∧ Step w w' bs bm ix ct ix (upd ct f ⟨(ct f).v, (ct f).b, (ct f).b.length⟩) ∧ w'.heap[bm]? = w.heap[bm]?) := fsyncd_any HH.out (mem_of_get hg) (hb f hg)
    clear hb
    go_enter Tryz.func47, Tryz.ntmps47
    go_wp2_with (go_at_call 59; refine HS.out.mono ?_; rintro e w' ⟨rfl, hp⟩)
    go_ret
    exact ⟨0, _, rfl, hp.1, hp.2.1, rfl, rfl⟩
end Go.Proofs.YtmpnceicodfifaaGreat
