/-
  The document's own disk, opened: what a store into it leaves; Sync.
-/
import Derived.Test.YtmpnceicodfifaaGreatRfa
namespace Go.Proofs.YtmpnceicodfifaaGreat
open Go.RowKit Go.Maps
set_option linter.unusedVariables false
structure RI (w : World) (br : Nat) (room fuse : Int) (vL : Value) (its : List It) : Prop where
  blk : Blk w br 52 [.int .i64 room, vL, .int .i64 fuse]
  own : OwnF w 0 vL its
  row : ∀ x ∈ its, Own w 0 x.v x.b
def rfoot (br : Nat) (vL : Value) (its : List It) (i : Nat) : Prop := i = br ∨ vL.ownBlock = some i ∨ ∃ x ∈ its, x.v.ownBlock = some i
theorem RI.ref {w : World} {br : Nat} {room fuse : Int} {vL : Value} {its : List It} (h : RI w br room fuse vL its) {fs : List (Nm × Fl)} (e : fs = its.map It.fl) : Ref w br (rfoot br vL its) ⟨room, fuse, fs⟩ := ⟨vL, its, h.blk, h.own, h.row, e, rfl⟩
theorem Ref.ri {w : World} {br : Nat} {R : Nat → Prop} {a : Ab} (h : Ref w br R a) : ∃ vL its, RI w br a.room a.fuse vL its ∧ a.fs = its.map It.fl ∧ R = rfoot br vL its := by
  obtain ⟨vL, its, h1, h2, h3, h4, rfl⟩ := h
  exact ⟨vL, its, ⟨h1, h2, h3⟩, h4, rfl⟩
theorem RI.keptBy {T : Nat → Prop} {w w' : World} {br : Nat} {room fuse : Int} {vL : Value} {its : List It} (h : RI w br room fuse vL its) (hk : Kept T w w') (hn : ∀ i, rfoot br vL its i → ¬ T i) : RI w' br room fuse vL its :=
  ⟨h.blk.keptBy hk (hn _ (.inl rfl)), h.own.keptBy hk (fun g hg => hn _ (.inr (.inl hg))), fun x hx => (h.row x hx).keptBy hk (fun g hg => hn _ (.inr (.inr ⟨x, hx, hg⟩)))⟩
theorem RI.below {w w' : World} {br : Nat} {room fuse : Int} {vL : Value} {its : List It} (h : RI w br room fuse vL its) (hb : Below w.heap.size w w') : RI w' br room fuse vL its :=
  h.keptBy (Kept.of_below (S := fun _ => False) hb) (fun _ _ h => h)
theorem RI.lt {w : World} {br : Nat} {room fuse : Int} {vL : Value} {its : List It} (h : RI w br room fuse vL its) {i : Nat} (hi : rfoot br vL its i) : i < w.heap.size := by
  rcases hi with rfl | hi | ⟨x, hx, hi⟩
  · exact h.blk.lt
  · exact (h.own.lt hi).2
  · exact (own_lt (h.row x hx) hi).2
theorem RI.ne_br {w : World} {br : Nat} {room fuse : Int} {vL : Value} {its : List It} (h : RI w br room fuse vL its) {g : Nat} (hg : vL.ownBlock = some g) : g ≠ br := by
  obtain ⟨_, hv⟩ := h.own.blk hg
  exact hv.ne h.blk (by decide)
theorem RI.row_ne {w : World} {br : Nat} {room fuse : Int} {vL : Value} {its : List It} (h : RI w br room fuse vL its) {x : It} (hx : x ∈ its) {g : Nat} (hg : x.v.ownBlock = some g) : g ≠ br ∧ vL.ownBlock ≠ some g := by
  obtain ⟨_, hv⟩ := (h.row x hx).blk hg
  refine ⟨hv.ne h.blk (by decide), fun e => ?_⟩
  obtain ⟨_, hu⟩ := h.own.blk e
  exact hv.ne hu (by decide) rfl
theorem RI.shape {w : World} {br : Nat} {room fuse : Int} {vL : Value} {its : List It} (h : RI w br room fuse vL its) {fs : List (Nm × Fl)} (e : fs = its.map It.fl) :
    ∃ aL cL, vL = .slice aL its.length cL ∧ Seen w br ⟨room, fuse, fs⟩ its aL cL ∧ (∀ x, aL = some x → x.off = 0 ∧ x.spot = none ∧ vL.ownBlock = some x.block) := by
  obtain ⟨aL, cL, rfl, h5, h6, h7, h8, h9⟩ := h.own.shape
  exact ⟨aL, cL, rfl, ⟨h.blk.cell 0, h.blk.cell 1, h.blk.cell 2, h5, h6, h7, h8, e, h.row⟩, h9⟩
/-- The i-th file, at its place. -/
theorem RI.file {w : World} {br : Nat} {room fuse : Int} {vL : Value} {its : List It} (h : RI w br room fuse vL its) {i : Nat} (hi : i < its.length) :
    ∃ g cL x ax cx, vL = .slice (some ⟨g, 0, none⟩) its.length cL ∧ its[i]? = some x ∧ x.v = .slice ax x.b.length cx ∧ its.length ≤ cL ∧ cL ≤ maxLen ∧ x.b.length ≤ cx ∧ Byt w ax x.b ∧ (ax = none → cx = 0) ∧ w.cell? ⟨br, 1, none⟩ = some (.slice (some ⟨g, 0, none⟩) its.length cL) ∧
      w.cell? ⟨g, i * 3, none⟩ = some (.string (bsOf x.nm)) ∧ w.cell? ⟨g, i * 3 + 1, none⟩ = some (.slice ax x.b.length cx) ∧ w.cell? ⟨g, i * 3 + 2, none⟩ = some (.int .i64 (x.k : Int)) ∧ (∀ j, w.frozen? ⟨g, j, none⟩ = false) ∧ Own w 0 x.v x.b := by
  obtain ⟨aL, cL, rfl, hs, hz⟩ := h.shape (fs := its.map It.fl) rfl
  obtain ⟨b, off, x, rfl, hx, _, f0, f1, f2, ho⟩ := hs.file hi
  obtain ⟨e0, _, _⟩ := hz _ rfl
  simp only at e0
  subst e0
  obtain ⟨ax, cx, ev, hby, hnil⟩ := own_src ho
  have hle : x.b.length ≤ cx := by
    obtain ⟨_, _, e2, hc, _⟩ := ho.shape
    rw [ev] at e2
    injection e2 with _ _ e2
    omega
  rw [ev] at f1
  simp only [Nat.zero_add] at f0 f1 f2
  exact ⟨b, cL, x, ax, cx, rfl, hx, ev, hs.le, hs.max, hle, hby, hnil, hs.c1, f0, f1, f2, fun j => World.ownsRow.frozenAt h.own j, ho⟩
theorem mem_set {its : List It} {i : Nat} {y z : It} (h : z ∈ its.set i y) : z ∈ its ∨ z = y := List.mem_or_eq_of_mem_set h
/-- The i-th file's bytes are others: a slice of the call's own is stored. -/
theorem RI.set1 {w : World} {br : Nat} {room fuse : Int} {its : List It} {g n cL : Nat} (h : RI w br room fuse (.slice (some ⟨g, 0, none⟩) n cL) its) (hn : n = its.length) {i : Nat} {x : It} (hx : its[i]? = some x) {v' : Value} {b' : List Nat} (ho : Own w 0 v' b') :
    RI (w.setCell ⟨g, i * 3 + 1, none⟩ v') br room fuse (.slice (some ⟨g, 0, none⟩) n cL) (its.set i ⟨x.nm, b', x.k, v'⟩) ∧ Kept (fun j => j = g) w (w.setCell ⟨g, i * 3 + 1, none⟩ v') := by
  subst hn
  have hk : Kept (fun j => j = g) w (w.setCell ⟨g, i * 3 + 1, none⟩ v') := Kept.setCell (S := fun j => j = g) w ⟨g, i * 3 + 1, none⟩ _ rfl
  have hg : (Value.slice (some ⟨g, 0, none⟩) its.length cL).ownBlock = some g := rfl
  have ne5 : ∀ {v l}, Own w 0 v l → ∀ j, v.ownBlock = some j → ¬ j = g := fun {v l} o j hj => by
    obtain ⟨_, hv⟩ := o.blk hj
    obtain ⟨_, hu⟩ := h.own.blk hg
    exact hv.ne hu (by decide)
  refine ⟨⟨h.blk.keptBy hk (fun e => h.ne_br hg e.symm), ?_, fun z hz => ?_⟩, hk⟩
  · have := (World.ownsRow.stored h.own (i * 3 + 1) v').1
    rw [(icells_set its i x hx).1 v'] at this
    unfold OwnF
    rw [List.length_set]
    have e : icells (its.set i ⟨x.nm, b', x.k, v'⟩) = icells (its.set i ⟨x.nm, x.b, x.k, v'⟩) := by
      have hlt := (List.getElem?_eq_some_iff.1 hx).1
      have := icells_b (its.set i ⟨x.nm, x.b, x.k, v'⟩) i ⟨x.nm, x.b, x.k, v'⟩ (by rw [List.getElem?_set_self hlt]) b'
      rw [List.set_set] at this
      exact this
    rw [e]
    exact this
  · rcases mem_set hz with hz | rfl
    · exact (h.row z hz).keptBy hk (ne5 (h.row z hz))
    · exact ho.keptBy hk (ne5 ho)
theorem RI.set2 {w : World} {br : Nat} {room fuse : Int} {its : List It} {g n cL : Nat} (h : RI w br room fuse (.slice (some ⟨g, 0, none⟩) n cL) its) (hn : n = its.length) {i : Nat} {x : It} (hx : its[i]? = some x) (k' : Nat) :
    RI (w.setCell ⟨g, i * 3 + 2, none⟩ (.int .i64 (k' : Int))) br room fuse (.slice (some ⟨g, 0, none⟩) n cL) (its.set i ⟨x.nm, x.b, k', x.v⟩) ∧ Kept (fun j => j = g) w (w.setCell ⟨g, i * 3 + 2, none⟩ (.int .i64 (k' : Int))) := by
  subst hn
  have hk : Kept (fun j => j = g) w (w.setCell ⟨g, i * 3 + 2, none⟩ (.int .i64 (k' : Int))) := Kept.setCell (S := fun j => j = g) w ⟨g, i * 3 + 2, none⟩ _ rfl
  have hg : (Value.slice (some ⟨g, 0, none⟩) its.length cL).ownBlock = some g := rfl
  have ne5 : ∀ {v l}, Own w 0 v l → ∀ j, v.ownBlock = some j → ¬ j = g := fun {v l} o j hj => by
    obtain ⟨_, hv⟩ := o.blk hj
    obtain ⟨_, hu⟩ := h.own.blk hg
    exact hv.ne hu (by decide)
  refine ⟨⟨h.blk.keptBy hk (fun e => h.ne_br hg e.symm), ?_, fun z hz => ?_⟩, hk⟩
  · have := (World.ownsRow.stored h.own (i * 3 + 2) (.int .i64 (k' : Int))).1
    rw [(icells_set its i x hx).2 k'] at this
    unfold OwnF
    rw [List.length_set]
    exact this
  · rcases mem_set hz with hz | rfl
    · exact (h.row z hz).keptBy hk (ne5 (h.row z hz))
    · exact (h.row x (List.mem_of_getElem? hx)).keptBy hk (ne5 (h.row x (List.mem_of_getElem? hx)))
theorem fl_set (its : List It) (i : Nat) (y : It) : (its.set i y).map It.fl = (its.map It.fl).set i y.fl := by rw [List.map_set]
theorem txts_new (w : World) (ss : List ByteArray) : Txts (w.alloc (.cells (ss.map Value.string).toArray 9)) w.heap.size ss := txts_one (blk_new w 9 (ss.map Value.string))
/-- What one of the five has left: nothing was done, or it was. -/
theorem do_may {a : Ab} {ns : List ByteArray} {act : List (Nm × Fl) → Int × List (Nm × Fl)} (h : ¬ mayE a.fuse ns = 0) : aDo ns act a = (mayE a.fuse ns, a) := by
  unfold aDo mayE at *
  by_cases h0 : a.fuse = 0
  · rw [if_pos h0, if_pos h0]
  · rw [if_neg h0, if_neg h0]
    rw [if_neg h0] at h
    by_cases h1 : ns.any bad = true
    · rw [if_pos h1, if_pos h1]
    · rw [if_neg h1] at h; exact (h rfl).elim
theorem do_act {a : Ab} {ns : List ByteArray} {act : List (Nm × Fl) → Int × List (Nm × Fl)} (h : mayE a.fuse ns = 0) : aDo ns act a = ((act a.fs).1, ⟨a.room, fuseAfter a.fuse (act a.fs).1, (act a.fs).2⟩) := by
  unfold aDo mayE at *
  by_cases h0 : a.fuse = 0
  · rw [if_pos h0] at h; cases h
  · rw [if_neg h0] at h ⊢
    by_cases h1 : ns.any bad = true
    · rw [if_pos h1] at h; cases h
    · rw [if_neg h1]
theorem fuse_err {fuse err : Int} (h : err ≠ 0) : fuseAfter fuse err = fuse := by unfold fuseAfter; rw [if_neg (fun e => h e.1)]
theorem may_le (fuse : Int) (ns : List ByteArray) : 0 ≤ mayE fuse ns ∧ mayE fuse ns ≤ 20 := by
  unfold mayE
  split
  · omega
  · split <;> omega
/-- The document's own disk's answer. -/
def RefA (br : Nat) (w : World) (R : Nat → Prop) (p : Int × Ab) (e : Ending) (w' : World) : Prop := e = .returned (.int .i64 p.1) ∧ ∃ R', Ref w' br R' p.2 ∧ Went w w' R R'
theorem went_below {w w' : World} {R : Nat → Prop} (hb : Below w.heap.size w w') : Went w w' R R := Went.of_kept (Kept.of_below (S := fun _ => False) hb) (fun _ _ h => h.elim)
theorem Ref.below {w w' : World} {br : Nat} {R : Nat → Prop} {a : Ab} (h : Ref w br R a) (hb : Below w.heap.size w w') : Ref w' br R a := h.keptBy (Kept.of_below (S := fun _ => False) hb) (fun _ _ h => h)
/-- The bounds that a fine disk has. -/
structure Lim (a : Ab) : Prop where
  fine : Fine a
  ris : Ris a.fs
theorem Lim.tot {a : Ab} (h : Lim a) : total a.fs ≤ 1073741824 := by have := h.fine.fs.used; have := h.fine.room1; omega
/-- What stands ahead of each of the five. -/
theorem may_new {w : World} {br : Nat} {R : Nat → Prop} {a : Ab} (h : Ref w br R a) (ns : List ByteArray) (hl : ns.length < 1000) (n : Nat) (hn : n = ns.length) (W : World) (hW : W = w.alloc (.cells (ns.map Value.string).toArray 9)) :
    Calls Tryz.prog 60 #[.pointer (some ⟨br, 0, none⟩), .slice (some ⟨w.heap.size, 0, none⟩) n n] W fun e w' => e = .returned (.int .i64 (mayE a.fuse ns)) ∧ Hid (Ref w' br R a ∧ Below w.heap.size w w') := by
  subst hn
  have bW : Below w.heap.size w W := by rw [hW]; exact (Below.refl _ _).alloc (Nat.le_refl _) _
  have hW2 := h.below bW
  obtain ⟨its, aL, cL, hs⟩ := hW2.seen
  refine (may_any br w.heap.size ns.length a.fuse ns hl W hs.c2 (by rw [hW]; exact txts_new w ns)).mono ?_
  rintro e w' ⟨rfl, rfl⟩
  exact ⟨rfl, hW2, bW⟩
theorem Ref.len {w : World} {br : Nat} {R : Nat → Prop} {a : Ab} (hl : Lim a) {its : List It} (hfs : a.fs = its.map It.fl) : its.length ≤ 4096 := by
  have := hl.fine.fs.files
  rw [hfs] at this
  simpa using this
set_option maxRecDepth 8000 in
set_option maxHeartbeats 1000000 in
theorem rsync_any {w : World} {br : Nat} {R : Nat → Prop} {a : Ab} (h : Ref w br R a) (hl : Lim a) (s : ByteArray) :
    Calls Tryz.prog 30 #[.pointer (some ⟨br, 0, none⟩), .string s] w (RefA br w R (aDo [s] (aSync s.data.toList) a)) := by
  have HM : Hid (Calls Tryz.prog 60 #[.pointer (some ⟨br, 0, none⟩), .slice (some ⟨w.heap.size, 0, none⟩) 1 1] (w.alloc (.cells #[.string s] 9)) fun e w' => e = .returned (.int .i64 (mayE a.fuse [s])) ∧ Hid (Ref w' br R a ∧ Below w.heap.size w w')) := may_new h [s] (by simp) 1 rfl _ rfl
  have hml := may_le a.fuse [s]
  by_cases hm : mayE a.fuse [s] = 0
  case neg =>
    have HA : Hid (aDo [s] (aSync s.data.toList) a = (mayE a.fuse [s], a)) := do_may hm
    have hmn : (mayE a.fuse [s] != 0) = true := by simpa using hm
    generalize mayE a.fuse [s] = m at *
    clear h hl
    go_enter Tryz.func30, Tryz.ntmps30
    go_wp2_with (go_at_call 60; refine HM.out.mono ?_; rintro e w1 ⟨rfl, h1⟩)
    go_ret
    unfold RefA
    rw [HA.out]
    exact ⟨rfl, R, h1.out.1, went_below h1.out.2⟩
  rw [hm] at HM
  have hA := do_act (act := aSync s.data.toList) hm
  have HS : Hid (∀ w1, Ref w1 br R a ∧ Below w.heap.size w w1 → Calls Tryz.prog 61 #[.pointer (some ⟨br, 0, none⟩), .string s] w1 fun e w' => e = .returned (.tuple #[.int .i64 (idx s.data.toList a.fs : Nat), .bool (get a.fs s.data.toList).isSome]) ∧ Hid (Ref w' br R a ∧ Below w.heap.size w w')) := fun w1 h1 => by
    obtain ⟨its, aL, cL, hs⟩ := h1.1.seen
    refine (spot_b hs s hl.ris (Ref.len (w := w) (br := br) (R := R) hl hs.fs)).mono ?_
    rintro e w' ⟨rfl, b'⟩
    exact ⟨rfl, h1.1.below b', h1.2.trans (b'.mono h1.2.size)⟩
  cases hg : get a.fs s.data.toList with
  | none =>
    have hact : aSync s.data.toList a.fs = (7, a.fs) := by unfold aSync; rw [hg]
    have HA : Hid (aDo [s] (aSync s.data.toList) a = (7, a)) := by show _ = _; rw [hA, hact, fuse_err (by simp)]
    have HS2 : Hid (∀ w1, Ref w1 br R a ∧ Below w.heap.size w w1 → Calls Tryz.prog 61 #[.pointer (some ⟨br, 0, none⟩), .string s] w1 fun e w' => e = .returned (.tuple #[.int .i64 (idx s.data.toList a.fs : Nat), .bool false]) ∧ Hid (Ref w' br R a ∧ Below w.heap.size w w')) := fun w1 h1 => by
      have := HS.out w1 h1
      rw [hg] at this
      exact this
    clear h hl HS hA hact
    go_enter Tryz.func30, Tryz.ntmps30
    go_wp2_with (first
      | (go_at_call 60; refine HM.out.mono ?_; rintro e w1 ⟨rfl, h1⟩)
      | (go_at_call 61; refine (HS2.out _ h1.out).mono ?_; rintro e w2 ⟨rfl, h2⟩))
    go_ret
    unfold RefA
    rw [HA.out]
    exact ⟨rfl, R, h2.out.1, went_below h2.out.2⟩
  | some y =>
    have hact : aSync s.data.toList a.fs = (0, fupd s.data.toList ⟨y.b, y.b.length⟩ a.fs) := by unfold aSync; rw [hg]
    have hsp := spot_some hl.ris hg
    have HA : Hid (aDo [s] (aSync s.data.toList) a = (0, ⟨a.room, fuseAfter a.fuse 0, fupd s.data.toList ⟨y.b, y.b.length⟩ a.fs⟩)) := by show _ = _; rw [hA, hact]
    have HS2 : Hid (∀ w1, Ref w1 br R a ∧ Below w.heap.size w w1 → Calls Tryz.prog 61 #[.pointer (some ⟨br, 0, none⟩), .string s] w1 fun e w' => e = .returned (.tuple #[.int .i64 (idx s.data.toList a.fs : Nat), .bool true]) ∧ Hid (Ref w' br R a ∧ Below w.heap.size w w')) := fun w1 h1 => by
      have := HS.out w1 h1
      rw [hg] at this
      exact this
    have hup := fupd_spot hl.ris ⟨y.b, y.b.length⟩ hg
    have HF : Hid (Lim a) := hl
    have HSP : Hid (a.fs[idx s.data.toList a.fs]? = some (s.data.toList, y)) := hsp
    have HUP : Hid (fupd s.data.toList ⟨y.b, y.b.length⟩ a.fs = a.fs.set (idx s.data.toList a.fs) (s.data.toList, ⟨y.b, y.b.length⟩)) := hup
    clear h hl HS hA hact hsp hup
    generalize idx s.data.toList a.fs = i at *
    go_enter Tryz.func30, Tryz.ntmps30
    go_wp2_with (first
      | (go_at_call 60; refine HM.out.mono ?_; rintro e w1 ⟨rfl, h1⟩)
      | (go_at_call 61; refine (HS2.out _ h1.out).mono ?_; rintro e w2 ⟨rfl, h2⟩))
    obtain ⟨vL, its, hri, hfs, hR⟩ := h2.out.1.ri
    have hil : i < its.length := by
      have := (List.getElem?_eq_some_iff.1 HSP.out).1
      rw [hfs] at this
      simpa using this
    obtain ⟨g, cL, x, ax, cx, rfl, hx, ev, hle, hmx, hbc, hby, hnil, c1, f0, f1, f2, hz, ho⟩ := hri.file hil
    have hxy : x.b = y.b ∧ x.nm = s.data.toList := by
      have := HSP.out
      rw [hfs, List.getElem?_map, hx] at this
      have := Option.some.inj this
      simp only [It.fl, Prod.mk.injEq] at this
      exact ⟨by rw [← this.2], this.1⟩
    obtain ⟨hri2, hk2⟩ := hri.set2 rfl hx x.b.length
    have HQ : Hid (∀ W, W = (w2.setCell ⟨g, i * 3 + 2, none⟩ (.int .i64 ((x.b.length : Nat) : Int))).drew → Calls Tryz.prog 62 #[.pointer (some ⟨br, 0, none⟩)] W fun e w' => e = .returned (.int .i64 0) ∧ Hid (∃ R', Ref w' br R' ⟨a.room, fuseAfter a.fuse 0, fupd s.data.toList ⟨y.b, y.b.length⟩ a.fs⟩ ∧ Went w w' R R')) := fun W hW => by
      have kd : Kept (fun _ => False) (w2.setCell ⟨g, i * 3 + 2, none⟩ (.int .i64 ((x.b.length : Nat) : Int))) W := by rw [hW]; exact Kept.drew _ _
      have hr3 := hri2.keptBy kd (fun _ _ h => h)
      have hfs3 : a.fs.set i (s.data.toList, ⟨y.b, y.b.length⟩) = (its.set i ⟨x.nm, x.b, x.b.length, x.v⟩).map It.fl := by
        rw [fl_set, ← hfs]; simp only [It.fl, hxy.1, hxy.2]
      have hrf := hr3.ref hfs3
      refine (did_any hrf HF.out.fine.fuse0 HF.out.fine.fuse1).mono ?_
      rintro e w' ⟨rfl, q1, q2⟩
      refine ⟨rfl, _, by rw [HUP.out]; exact q1, ?_⟩
      have g1 : Went w w2 R R := went_below h2.out.2
      have g2 : Went w2 W R (rfoot br (.slice (some ⟨g, 0, none⟩) its.length cL) (its.set i ⟨x.nm, x.b, x.b.length, x.v⟩)) := by
        refine ⟨(hk2.trans kd (fun _ _ h => h.elim)).mono fun j _ e => by rw [hR, e]; exact .inr (.inl rfl), fun j hj => .inl ?_⟩
        rw [hR]
        rcases hj with e | e | ⟨z, hz, e⟩
        · exact .inl e
        · exact .inr (.inl e)
        · rcases mem_set hz with hz | rfl
          · exact .inr (.inr ⟨z, hz, e⟩)
          · exact .inr (.inr ⟨x, List.mem_of_getElem? hx, e⟩)
      exact (g1.trans g2).trans q2
    have hzf := hz (i * 3 + 2)
    have hxl : x.b.length ≤ 1073741824 := by
      have h1 := total_take a.fs i _ HSP.out
      have h2 := total_take_le a.fs (i + 1)
      have h3 := HF.out.tot
      simp only at h1
      rw [hxy.1]
      omega
    have hcl := cell_lt c1
    clear hri hri2 hk2 hfs hR hx hxy ho hz hby h2 h1 HM HS2 HSP HUP HF
    generalize x.b.length = m at *
    unfold maxLen at hmx
    go_region
    go_wp2_with (go_at_call 62; refine (HQ.out _ rfl).mono ?_; rintro e w3 ⟨rfl, hp⟩)
    go_ret
    unfold RefA
    rw [HA.out]
    exact ⟨rfl, hp.out⟩
#print axioms rsync_any
end Go.Proofs.YtmpnceicodfifaaGreat
