/-
  A disk as what it holds: names, bytes, how many last; and what each of the five does to it.
-/
import Derived.Test.YtmpnceicodfifaaGreatCrash
namespace Go.Proofs.YtmpnceicodfifaaGreat
open Go.RowKit Go.Maps
structure Fl where
  b : List Nat
  k : Nat
structure Ab where
  room : Int
  fuse : Int
  fs : List (Nm × Fl)
def fl (x : File) : Fl := ⟨x.b, x.k⟩
def view (ix : List (Nm × Nat)) (ct : Nat → File) : List (Nm × Fl) := ix.map fun p => (p.1, fl (ct p.2))
def fupd (nm : Nm) (x : Fl) (fs : List (Nm × Fl)) : List (Nm × Fl) := fs.map fun p => if p.1 = nm then (nm, x) else p
def total (fs : List (Nm × Fl)) : Nat := (fs.map fun p => p.2.b.length).sum
def aExt (room : Int) (nm : Nm) (l : List Nat) (fs : List (Nm × Fl)) : Int × List (Nm × Fl) :=
  if (l.length : Int) > room - total fs ∨ (get fs nm = none ∧ 4096 ≤ fs.length) then (6, fs) else match get fs nm with | some x => (0, fupd nm ⟨x.b ++ l, x.k⟩ fs) | none => (0, ins (nm, ⟨l, 0⟩) fs)
def aSync (nm : Nm) (fs : List (Nm × Fl)) : Int × List (Nm × Fl) := match get fs nm with | none => (7, fs) | some x => (0, fupd nm ⟨x.b, x.b.length⟩ fs)
def aTrunc (nm : Nm) (n : Int) (fs : List (Nm × Fl)) : Int × List (Nm × Fl) := match get fs nm with | none => (7, fs) | some x => if n < 0 ∨ n > x.b.length then (1, fs) else (0, fupd nm ⟨x.b.take n.toNat, min x.k n.toNat⟩ fs)
def aRemove (nm : Nm) (fs : List (Nm × Fl)) : Int × List (Nm × Fl) := match get fs nm with | none => (7, fs) | some _ => (0, del nm fs)
def aRename (old nm : Nm) (fs : List (Nm × Fl)) : Int × List (Nm × Fl) := match get fs old with | none => (7, fs) | some x => if old = nm then (0, fs) else (0, ins (nm, x) (del old (del nm fs)))
def spareF (d : Nat) (x : Fl) : Nat := x.k + d % (x.b.length - x.k + 1)
def aCrash (d : Nat) (fs : List (Nm × Fl)) : List (Nm × Fl) := fs.map fun p => (p.1, ⟨p.2.b.take (spareF d p.2), spareF d p.2⟩)
/-- One of the five. -/
def aDo (ns : List ByteArray) (act : List (Nm × Fl) → Int × List (Nm × Fl)) (a : Ab) : Int × Ab :=
  if a.fuse = 0 then (20, a) else if ns.any bad = true then (1, a) else ((act a.fs).1, ⟨a.room, fuseAfter a.fuse (act a.fs).1, (act a.fs).2⟩)
structure FineF (room : Int) (fs : List (Nm × Fl)) : Prop where
  used : (total fs : Int) ≤ room
  files : fs.length ≤ 4096
  lasts : ∀ p ∈ fs, p.2.k ≤ p.2.b.length
  oct : ∀ p ∈ fs, Oct p.2.b
  one : (fs.map (·.1)).Nodup
structure Fine (a : Ab) : Prop where
  room0 : 0 ≤ a.room
  room1 : a.room ≤ 1073741824
  fuse0 : -1 ≤ a.fuse
  fuse1 : a.fuse < 9223372036854775808
  fs : FineF a.room a.fs
theorem mem_fupd {nm : Nm} {x : Fl} {fs : List (Nm × Fl)} {p : Nm × Fl} (h : p ∈ fupd nm x fs) : p ∈ fs ∨ p = (nm, x) := by
  unfold fupd at h
  obtain ⟨q, hq, rfl⟩ := List.mem_map.1 h
  by_cases e : q.1 = nm
  · right; rw [if_pos e]
  · left; rw [if_neg e]; exact hq
theorem fst_fupd (nm : Nm) (x : Fl) (fs : List (Nm × Fl)) : (fupd nm x fs).map (·.1) = fs.map (·.1) := by
  unfold fupd
  rw [List.map_map]
  refine List.map_congr_left fun p _ => ?_
  simp only [Function.comp]
  split
  · rename_i e; exact e.symm
  · rfl
theorem total_fupd {nm : Nm} {x y : Fl} : ∀ {fs : List (Nm × Fl)}, (fs.map (·.1)).Nodup → get fs nm = some x → total (fupd nm y fs) + x.b.length = total fs + y.b.length
  | [], _, h => by simp [get] at h
  | p :: r, hn, h => by
    simp only [List.map_cons, List.nodup_cons] at hn
    unfold get at h
    rw [List.find?_cons] at h
    by_cases e : p.1 = nm
    · have e1 : (p.1 == nm) = true := by simpa using e
      rw [e1] at h
      simp at h
      have e2 : fupd nm y r = r := by
        unfold fupd
        conv => rhs; rw [← List.map_id r]
        refine List.map_congr_left fun q hq => ?_
        rw [if_neg]
        · rfl
        · intro e'
          exact hn.1 (by rw [e, ← e']; exact List.mem_map.2 ⟨q, hq, rfl⟩)
      have e3 : fupd nm y (p :: r) = (nm, y) :: r := by
        rw [← e2]
        unfold fupd
        rw [List.map_cons, if_pos e, List.map_map]
        congr 1
        refine List.map_congr_left fun q _ => ?_
        simp only [Function.comp]
        split
        · simp
        · rfl
      rw [e3]
      unfold total
      rw [List.map_cons, List.map_cons, List.sum_cons, List.sum_cons, h]
      simp only
      omega
    · have e1 : (p.1 == nm) = false := by simpa using e
      rw [e1] at h
      have ih := total_fupd (y := y) hn.2 (show get r nm = some x from h)
      unfold total fupd at ih ⊢
      rw [List.map_cons, List.map_cons, List.map_cons, List.sum_cons, List.sum_cons, if_neg e]
      omega
theorem get_mem {α : Type} {fs : List (Nm × α)} {nm : Nm} (h : get fs nm = none) : nm ∉ fs.map (·.1) := by
  intro hm
  obtain ⟨p, hp, rfl⟩ := List.mem_map.1 hm
  unfold get at h
  simp at h
  exact h p.1 p.2 hp rfl
theorem total_ins (x : Nm × Fl) (fs : List (Nm × Fl)) : total (ins x fs) = x.2.b.length + total fs := by
  unfold total
  rw [((perm_ins x fs).map _).sum_nat]
  simp
theorem total_del_le (nm : Nm) : ∀ fs : List (Nm × Fl), total (del nm fs) ≤ total fs
  | [] => Nat.le_refl _
  | p :: r => by
    have ih := total_del_le nm r
    unfold total del at *
    rw [List.filter_cons]
    split
    · rw [List.map_cons, List.map_cons, List.sum_cons, List.sum_cons]; omega
    · rw [List.map_cons, List.sum_cons]; omega
variable {room : Int} {fs : List (Nm × Fl)}
theorem FineF.upd (h : FineF room fs) {nm : Nm} {x : Fl} (y : Fl) (hg : get fs nm = some x) (hu : ((y.b.length + total fs : Nat) : Int) ≤ room + x.b.length) (hk : y.k ≤ y.b.length) (ho : Oct y.b) : FineF room (fupd nm y fs) := by
  have ht := total_fupd (y := y) h.one hg
  refine ⟨by omega, by unfold fupd; rw [List.length_map]; exact h.files, fun p hp => ?_, fun p hp => ?_, by rw [fst_fupd]; exact h.one⟩
  · rcases mem_fupd hp with hp | rfl
    · exact h.lasts p hp
    · exact hk
  · rcases mem_fupd hp with hp | rfl
    · exact h.oct p hp
    · exact ho
theorem FineF.ins (h : FineF room fs) {nm : Nm} (y : Fl) (hg : get fs nm = none) (hl : fs.length < 4096) (hu : ((y.b.length + total fs : Nat) : Int) ≤ room) (hk : y.k ≤ y.b.length) (ho : Oct y.b) : FineF room (ins (nm, y) fs) := by
  refine ⟨by rw [total_ins]; exact hu, by rw [length_ins]; omega, fun p hp => ?_, fun p hp => ?_, ?_⟩
  · rcases mem_ins.1 hp with rfl | hp
    · exact hk
    · exact h.lasts p hp
  · rcases mem_ins.1 hp with rfl | hp
    · exact ho
    · exact h.oct p hp
  · exact ((perm_ins (nm, y) fs).map (·.1)).nodup_iff.2 (List.nodup_cons.2 ⟨get_mem hg, h.one⟩)
theorem FineF.del (h : FineF room fs) (nm : Nm) : FineF room (del nm fs) := by
  refine ⟨by have := total_del_le nm fs; have := h.used; omega, Nat.le_trans (List.length_filter_le _ _) h.files, fun p hp => h.lasts p (List.mem_filter.1 hp).1, fun p hp => h.oct p (List.mem_filter.1 hp).1, h.one.sublist (List.filter_sublist.map _)⟩
theorem FineF.ext (h : FineF room fs) (nm : Nm) (l : List Nat) (ho : Oct l) : FineF room (aExt room nm l fs).2 := by
  unfold aExt
  split
  · exact h
  · rename_i h1
    cases hg : get fs nm with
    | some x =>
      have hx := mem_of_get hg
      have h2 := h.lasts _ hx
      simp only at h2 ⊢
      refine h.upd _ hg (by simp only [List.length_append]; omega) (by simp only [List.length_append]; omega) ?_
      intro z hz
      rcases List.mem_append.1 hz with hz | hz
      · exact h.oct _ hx z hz
      · exact ho z hz
    | none =>
      rw [hg] at h1
      simp only [true_and] at h1 ⊢
      exact h.ins _ hg (by omega) (by simp only; omega) (Nat.zero_le _) ho
theorem FineF.sync (h : FineF room fs) (nm : Nm) : FineF room (aSync nm fs).2 := by
  unfold aSync
  cases hg : get fs nm with
  | none => exact h
  | some x =>
    have hx := mem_of_get hg
    have hu := h.used
    exact h.upd _ hg (by simp only; omega) (Nat.le_refl _) (h.oct _ hx)
theorem FineF.crash (h : FineF room fs) (d : Nat) : FineF room (aCrash d fs) := by
  have sp : ∀ p ∈ fs, spareF d p.2 ≤ p.2.b.length := fun p hp => by
    have := h.lasts p hp
    have := Nat.mod_lt d (show 0 < p.2.b.length - p.2.k + 1 by omega)
    unfold spareF
    omega
  have ht : ∀ l : List (Nm × Fl), total (aCrash d l) ≤ total l := by
    intro l
    induction l with
    | nil => exact Nat.le_refl _
    | cons p r ih =>
      unfold total aCrash at *
      rw [List.map_cons, List.map_cons, List.map_cons, List.sum_cons, List.sum_cons]
      simp only [List.length_take]
      omega
  refine ⟨by have := ht fs; have := h.used; omega, by unfold aCrash; rw [List.length_map]; exact h.files, fun p hp => ?_, fun p hp => ?_, ?_⟩
  · obtain ⟨q, hq, rfl⟩ := List.mem_map.1 hp
    simp only [List.length_take]
    have := sp q hq
    omega
  · obtain ⟨q, hq, rfl⟩ := List.mem_map.1 hp
    exact fun z hz => h.oct q hq z (List.mem_of_mem_take hz)
  · unfold aCrash
    rw [List.map_map]
    exact h.one
theorem Fine.do {a : Ab} (h : Fine a) (ns : List ByteArray) (act : List (Nm × Fl) → Int × List (Nm × Fl)) (ha : FineF a.room (act a.fs).2) : Fine (aDo ns act a).2 := by
  unfold aDo
  split
  · exact h
  · split
    · exact h
    · refine ⟨h.room0, h.room1, ?_, ?_, ha⟩
      · have := h.fuse0
        show -1 ≤ fuseAfter a.fuse (act a.fs).1
        unfold fuseAfter
        split <;> omega
      · have := h.fuse1
        show fuseAfter a.fuse (act a.fs).1 < 9223372036854775808
        unfold fuseAfter
        split <;> omega

/-! ### what is seen of the store -/
theorem view_get (ix : List (Nm × Nat)) (ct : Nat → File) (nm : Nm) : get (view ix ct) nm = (get ix nm).map fun f => fl (ct f) := by
  unfold get view
  rw [List.find?_map]
  have : ((fun p : Nm × Fl => p.1 == nm) ∘ fun p : Nm × Nat => (p.1, fl (ct p.2))) = fun p => p.1 == nm := rfl
  rw [this]
  cases ix.find? (fun p => p.1 == nm) <;> rfl
theorem total_view (ix : List (Nm × Nat)) (ct : Nat → File) : total (view ix ct) = tot ix ct := by
  unfold total view tot
  rw [List.map_map]
  rfl
theorem length_view (ix : List (Nm × Nat)) (ct : Nat → File) : (view ix ct).length = ix.length := by simp [view]
theorem view_upd {ix : List (Nm × Nat)} {ct : Nat → File} {nm : Nm} {f : Nat} (h1 : (ix.map (·.1)).Nodup) (h2 : (ix.map (·.2)).Nodup) (hf : (nm, f) ∈ ix) (x : File) : view ix (upd ct f x) = fupd nm (fl x) (view ix ct) := by
  unfold view fupd
  rw [List.map_map]
  refine List.map_congr_left fun p hp => ?_
  simp only [Function.comp]
  by_cases e : p.2 = f
  · have := snd_inj h2 hp hf e
    subst this
    simp [upd_same]
  · have : p.1 ≠ nm := fun e' => e (congrArg Prod.snd (fst_inj h1 hp hf e'))
    rw [upd_other e, if_neg this]
theorem view_other {ix : List (Nm × Nat)} {ct : Nat → File} {f : Nat} (x : File) (hf : ∀ p ∈ ix, p.2 ≠ f) : view ix (upd ct f x) = view ix ct := by
  unfold view
  refine List.map_congr_left fun p hp => ?_
  rw [upd_other (hf p hp)]
theorem ins_map {α β : Type} (g : α → β) (x : Nm × α) : ∀ ix : List (Nm × α), (ins x ix).map (fun p => (p.1, g p.2)) = ins (x.1, g x.2) (ix.map fun p => (p.1, g p.2))
  | [] => rfl
  | y :: r => by
    rw [List.map_cons, ins, ins]
    simp only
    split
    · rfl
    · rw [List.map_cons, ins_map g x r]
theorem view_ins (ix : List (Nm × Nat)) (ct : Nat → File) (nm : Nm) (f : Nat) : view (ins (nm, f) ix) ct = ins (nm, fl (ct f)) (view ix ct) := ins_map (fun f => fl (ct f)) (nm, f) ix
theorem view_del (ix : List (Nm × Nat)) (ct : Nat → File) (nm : Nm) : view (del nm ix) ct = del nm (view ix ct) := by
  unfold view del
  rw [List.filter_map]
  rfl
theorem tot_ins (ix : List (Nm × Nat)) (ct : Nat → File) (nm : Nm) (f : Nat) : tot (ins (nm, f) ix) ct = (ct f).b.length + tot ix ct := by
  unfold tot
  rw [((perm_ins (nm, f) ix).map _).sum_nat]
  simp
theorem tot_other {ix : List (Nm × Nat)} {ct : Nat → File} {f : Nat} (x : File) (hf : ∀ p ∈ ix, p.2 ≠ f) : tot ix (upd ct f x) = tot ix ct := by
  unfold tot
  congr 1
  refine List.map_congr_left fun p hp => ?_
  rw [upd_other (hf p hp)]
/-- extend, as seen. -/
theorem Ext.seen {lk : Int} {w : World} {bs bm : Nat} {room fuse : Int} {ix : List (Nm × Nat)} {ct : Nat → File} (h : Inn lk w bs bm room (tot ix ct) fuse ix ct) {nm : Nm} {l : List Nat} {err used' : Int} {ix' : List (Nm × Nat)} {ct' : Nat → File}
    (e : Ext w room (tot ix ct) nm l ix ct err used' ix' ct') : used' = tot ix' ct' ∧ (err, view ix' ct') = aExt room nm l (view ix ct) := by
  unfold Ext at e
  unfold aExt
  rw [total_view, view_get, length_view]
  have hc : ((get ix nm).map (fun f => fl (ct f)) = none ∧ 4096 ≤ ix.length) ↔ (get ix nm = none ∧ 4096 ≤ ix.length) := by simp
  simp only [hc]
  split at e
  · rename_i h1
    obtain ⟨rfl, rfl, rfl, rfl⟩ := e
    rw [if_pos h1]
    exact ⟨rfl, rfl⟩
  · rename_i h1
    rw [if_neg h1]
    obtain ⟨rfl, rfl, v, e⟩ := e
    cases hg : get ix nm with
    | some f =>
      rw [hg] at e
      obtain ⟨rfl, rfl⟩ := e
      have hf := mem_of_get hg
      have := tot_upd (ct := ct) ⟨v, (ct f).b ++ l, (ct f).k⟩ h.two (List.mem_map.2 ⟨_, hf, rfl⟩)
      simp only [List.length_append] at this
      refine ⟨by omega, ?_⟩
      rw [view_upd h.one h.two hf]
      rfl
    | none =>
      rw [hg] at e
      obtain ⟨f, hf, rfl, rfl⟩ := e
      have hold : ∀ p ∈ ix, p.2 ≠ f := fun p hp => by have := (h.file p hp).lt; omega
      refine ⟨?_, ?_⟩
      · rw [tot_ins, tot_other _ hold, upd_same]
        simp only
        omega
      · rw [view_ins, view_other _ hold, upd_same]
        rfl
#print axioms Ext.seen
end Go.Proofs.YtmpnceicodfifaaGreat
