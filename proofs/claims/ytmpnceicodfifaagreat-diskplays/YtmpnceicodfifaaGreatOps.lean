/-
  The store when a file is written, laid or struck.
-/
import Derived.Test.YtmpnceicodfifaaGreatDox
namespace Go.Proofs.YtmpnceicodfifaaGreat
open Go.RowKit Go.Maps
def upd (ct : Nat → File) (f : Nat) (x : File) : Nat → File := fun g => if g = f then x else ct g
theorem upd_same (ct : Nat → File) (f : Nat) (x : File) : upd ct f x f = x := by simp [upd]
theorem upd_other {ct : Nat → File} {f g : Nat} {x : File} (h : g ≠ f) : upd ct f x g = ct g := by simp [upd, h]
variable {lk : Int} {w w' : World} {bs bm : Nat} {room used fuse : Int} {ix : List (Nm × Nat)} {ct : Nat → File}
theorem Inn.row_ne (h : Inn lk w bs bm room used fuse ix ct) {p : Nm × Nat} (hp : p ∈ ix) {g : Nat} (hg : (ct p.2).v.ownBlock = some g) : g ≠ bs ∧ g ≠ bm ∧ ∀ q ∈ ix, g ≠ q.2 := by
  obtain ⟨_, hv⟩ := (h.row p hp).blk hg
  exact ⟨hv.ne h.blk (by decide), ownsMap_ne h.map hv, fun q hq => hv.ne (h.file q hq) (by decide)⟩
theorem Inn.file_ne (h : Inn lk w bs bm room used fuse ix ct) {p : Nm × Nat} (hp : p ∈ ix) : p.2 ≠ bs ∧ p.2 ≠ bm := ⟨(h.file p hp).ne h.blk (by decide), ownsMap_ne h.map (h.file p hp)⟩
/-- A file gets another slice, other bytes, another length that lasts. -/
theorem Inn.file_set (h : Inn lk w bs bm room used fuse ix ct) {nm : Nm} {f : Nat} (hf : (nm, f) ∈ ix) (x : File) (hk : Kept (fun i => i = f ∨ (ct f).v.ownBlock = some i) w w') (hb : Blk w' f 86 [x.v, .int .u32 (x.k : Int)]) (ho : Own w' 0 x.v x.b)
    (hl : ∀ g, x.v.ownBlock = some g → (ct f).v.ownBlock = some g ∨ w.heap.size ≤ g) : Inn lk w' bs bm room used fuse ix (upd ct f x) ∧ Step w w' bs bm ix ct ix (upd ct f x) := by
  have hfn := h.file_ne hf
  have hrn : ∀ g, (ct f).v.ownBlock = some g → g ≠ bs ∧ g ≠ bm ∧ ∀ q ∈ ix, g ≠ q.2 := fun g hg => h.row_ne hf hg
  refine ⟨⟨h.blk.keptBy hk ?_, ownsMap_keptBy h.map hk ?_, fun p hp => ?_, fun p hp => ?_, h.two, fun p hp q hq hpq g hg => ?_⟩, ⟨hk.mono fun i _ hi => ?_, fun i hi => ?_⟩⟩
  · rintro (e | e)
    · exact hfn.1 e.symm
    · exact (hrn _ e).1 rfl
  · rintro (e | e)
    · exact hfn.2 e.symm
    · exact (hrn _ e).2.1 rfl
  · by_cases e : p.2 = f
    · rw [e, upd_same]; exact hb
    · rw [upd_other e]
      refine (h.file p hp).keptBy hk ?_
      rintro (e' | e')
      · exact e e'
      · exact (hrn _ e').2.2 p hp rfl
  · by_cases e : p.2 = f
    · rw [e, upd_same]; exact ho
    · rw [upd_other e]
      refine (h.row p hp).keptBy hk fun g hg => ?_
      rintro (e' | e')
      · exact (h.row_ne hp hg).2.2 _ hf e'
      · exact h.apart p hp _ hf e g hg e'
  · by_cases e : p.2 = f
    · rw [e, upd_same] at hg
      rw [upd_other (fun e' => hpq (by rw [e, e']))]
      intro hq'
      rcases hl g hg with h1 | h1
      · exact h.apart (nm, f) hf q hq (by simpa [e] using hpq) g h1 hq'
      · obtain ⟨_, hv⟩ := (h.row q hq).blk hq'
        have := hv.lt
        omega
    · rw [upd_other e] at hg
      by_cases e2 : q.2 = f
      · rw [e2, upd_same]
        intro hq'
        rcases hl g hq' with h1 | h1
        · exact h.apart p hp (nm, f) hf (by simpa using e) g hg h1
        · obtain ⟨_, hv⟩ := (h.row p hp).blk hg
          have := hv.lt
          omega
      · rw [upd_other e2]
        exact h.apart p hp q hq hpq g hg
  · rcases hi with e | e
    · exact .inr (.inr ⟨_, hf, .inl e⟩)
    · exact .inr (.inr ⟨_, hf, .inr e⟩)
  · rcases hi with e | e | ⟨p, hp, e | e⟩
    · exact .inl (.inl e)
    · exact .inl (.inr (.inl e))
    · exact .inl (.inr (.inr ⟨p, hp, .inl e⟩))
    · by_cases e' : p.2 = f
      · rw [e', upd_same] at e
        rcases hl i e with h1 | h1
        · exact .inl (.inr (.inr ⟨_, hf, .inr h1⟩))
        · exact .inr h1
      · rw [upd_other e'] at e
        exact .inl (.inr (.inr ⟨p, hp, .inr e⟩))
/-- A new file is laid under a name that is not there. -/
theorem Inn.file_new (h : Inn lk w bs bm room used fuse ix ct) {nm : Nm} {f : Nat} (x : File) (hg : get ix nm = none) (hf : w.heap.size ≤ f) (hk : Kept (fun i => i = bm) w w') (hm : w'.ownsMap Tryz.prog 9 fileElem bm (ix.length + 1) ((dat ix).put (.string nm) (.lit (.int .i64 (f : Int)))))
    (hb : Blk w' f 86 [x.v, .int .u32 (x.k : Int)]) (ho : Own w' 0 x.v x.b) (hl : x.v.ownBlock = none) : Inn lk w' bs bm room used fuse (ins (nm, f) ix) (upd ct f x) ∧ Step w w' bs bm ix ct (ins (nm, f) ix) (upd ct f x) := by
  have hold : ∀ p ∈ ix, p.2 ≠ f := fun p hp => by have := (h.file p hp).lt; omega
  rw [put_dat, del_of_none hg] at hm
  refine ⟨⟨h.blk.keptBy hk (fun e => ownsMap_ne h.map h.blk e), by rw [length_ins]; exact hm, fun p hp => ?_, fun p hp => ?_, ?_, fun p hp q hq hpq g hg => ?_⟩, ⟨hk.mono fun i _ hi => .inr (.inl hi), fun i hi => ?_⟩⟩
  · rcases mem_ins.1 hp with rfl | hp
    · rw [upd_same]; exact hb
    · rw [upd_other (hold p hp)]
      exact (h.file p hp).keptBy hk (h.file_ne hp).2
  · rcases mem_ins.1 hp with rfl | hp
    · rw [upd_same]; exact ho
    · rw [upd_other (hold p hp)]
      exact (h.row p hp).keptBy hk (fun g hg => (h.row_ne hp hg).2.1)
  · refine ((perm_ins (nm, f) ix).map (·.2)).nodup_iff.2 (List.nodup_cons.2 ⟨?_, h.two⟩)
    intro hm
    obtain ⟨p, hp, e⟩ := List.mem_map.1 hm
    exact hold p hp e
  · rcases mem_ins.1 hp with rfl | hp
    · rw [upd_same, hl] at hg; cases hg
    · rw [upd_other (hold p hp)] at hg
      rcases mem_ins.1 hq with rfl | hq
      · rw [upd_same, hl]; simp
      · rw [upd_other (hold q hq)]
        exact h.apart p hp q hq hpq g hg
  · rcases hi with e | e | ⟨p, hp, e | e⟩
    · exact .inl (.inl e)
    · exact .inl (.inr (.inl e))
    · rcases mem_ins.1 hp with rfl | hp
      · right; rw [e]; exact hf
      · exact .inl (.inr (.inr ⟨p, hp, .inl e⟩))
    · rcases mem_ins.1 hp with rfl | hp
      · rw [upd_same, hl] at e; cases e
      · rw [upd_other (hold p hp)] at e
        exact .inl (.inr (.inr ⟨p, hp, .inr e⟩))
theorem mem_del {α : Type} {nm : Nm} {l : List (Nm × α)} {p : Nm × α} : p ∈ del nm l ↔ p ∈ l ∧ p.1 ≠ nm := by simp [del]
/-- A name is struck. -/
theorem Inn.file_del (h : Inn lk w bs bm room used fuse ix ct) {nm : Nm} (hk : Kept (fun i => i = bm) w w') {n : Nat} (hm : w'.ownsMap Tryz.prog 9 fileElem bm n ((dat ix).del (.string nm))) :
    Inn lk w' bs bm room used fuse (del nm ix) ct ∧ Step w w' bs bm ix ct (del nm ix) ct := by
  rw [del_dat] at hm
  have hm' : w'.ownsMap Tryz.prog 9 fileElem bm (del nm ix).length (dat (del nm ix)) := by
    obtain ⟨es, clock, hb, F, hs, hD⟩ := hm
    refine ⟨es, clock, hb, F, ?_, hD⟩
    have := congrArg Maps.size hD
    simp [Maps.size, dat, length_sorted] at this
    omega
  refine ⟨⟨h.blk.keptBy hk (fun e => ownsMap_ne h.map h.blk e), hm', fun p hp => ?_, fun p hp => ?_, ?_, fun p hp q hq => h.apart p (mem_del.1 hp).1 q (mem_del.1 hq).1⟩, ⟨hk.mono fun i _ hi => .inr (.inl hi), fun i hi => .inl ?_⟩⟩
  · have hp := (mem_del.1 hp).1
    exact (h.file p hp).keptBy hk (h.file_ne hp).2
  · have hp := (mem_del.1 hp).1
    exact (h.row p hp).keptBy hk (fun g hg => (h.row_ne hp hg).2.1)
  · exact h.two.sublist (List.filter_sublist.map _)
  · rcases hi with e | e | ⟨p, hp, e⟩
    · exact .inl e
    · exact .inr (.inl e)
    · exact .inr (.inr ⟨p, (mem_del.1 hp).1, e⟩)
#print axioms Inn.file_del
end Go.Proofs.YtmpnceicodfifaaGreat
