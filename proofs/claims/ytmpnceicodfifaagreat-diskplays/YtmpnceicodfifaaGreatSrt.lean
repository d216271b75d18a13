/-
  Rising lists of names: where a name stands, or would stand; what is put there, set there, taken away there.
-/
import Derived.Test.YtmpnceicodfifaaGreatTru
import Derived.WideAt
import Derived.WideShapes
namespace Go.Proofs.YtmpnceicodfifaaGreat
open Go.RowKit Go.Maps
set_option linter.unusedVariables false
variable {α : Type}
def Ris (fs : List (Nm × α)) : Prop := fs.Pairwise fun p q => bytesBefore p.1 q.1 = true
/-- Where a name stands, or would stand. -/
def idx (nm : Nm) : List (Nm × α) → Nat
  | [] => 0
  | p :: r => if bytesBefore p.1 nm = true then idx nm r + 1 else 0
theorem irr (a : Nm) : bytesBefore a a = false := Go.WideAt.bytes_irrefl a
theorem asym {a b : Nm} (h : bytesBefore a b = true) : bytesBefore b a = false := by
  cases e : bytesBefore b a with
  | false => rfl
  | true =>
    have := Go.WideShapes.bytes_trans a b a h e
    rw [irr] at this; cases this
theorem ne_of {a b : Nm} (h : bytesBefore a b = true) : a ≠ b := by
  rintro rfl
  rw [irr] at h; cases h
theorem get_cons_ne {p : Nm × α} {r : List (Nm × α)} {nm : Nm} (h : p.1 ≠ nm) : get (p :: r) nm = get r nm := by
  have e : (p.1 == nm) = false := by simpa using h
  unfold get
  rw [List.find?_cons, e]
theorem get_cons_eq {p : Nm × α} {r : List (Nm × α)} {nm : Nm} (h : p.1 = nm) : get (p :: r) nm = some p.2 := by
  have e : (p.1 == nm) = true := by simpa using h
  unfold get
  rw [List.find?_cons, e]; rfl
theorem get_nil (nm : Nm) : get ([] : List (Nm × α)) nm = none := rfl
theorem get_none_of {fs : List (Nm × α)} {nm : Nm} (h : ∀ p ∈ fs, p.1 ≠ nm) : get fs nm = none := by
  induction fs with
  | nil => rfl
  | cons p r ih => rw [get_cons_ne (h p (by simp))]; exact ih fun q hq => h q (by simp [hq])
theorem ris_tail {p : Nm × α} {r : List (Nm × α)} (h : Ris (p :: r)) : Ris r := (List.pairwise_cons.1 h).2
theorem ris_head {p : Nm × α} {r : List (Nm × α)} (h : Ris (p :: r)) : ∀ q ∈ r, bytesBefore p.1 q.1 = true := (List.pairwise_cons.1 h).1
theorem idx_le (nm : Nm) (fs : List (Nm × α)) : idx nm fs ≤ fs.length := by
  induction fs with
  | nil => exact Nat.le_refl _
  | cons p r ih => unfold idx; split <;> simp <;> omega
theorem idx_before (nm : Nm) : ∀ (fs : List (Nm × α)) (i : Nat) (p : Nm × α), i < idx nm fs → fs[i]? = some p → bytesBefore p.1 nm = true
  | [], i, p, h, _ => by simp [idx] at h
  | q :: r, i, p, h, e => by
    unfold idx at h
    split at h
    · rename_i hq
      cases i with
      | zero => simp at e; subst e; exact hq
      | succ i => exact idx_before nm r i p (by omega) (by simpa using e)
    · omega
theorem idx_at (nm : Nm) : ∀ (fs : List (Nm × α)) (p : Nm × α), fs[idx nm fs]? = some p → bytesBefore p.1 nm = false
  | [], p, h => by simp [idx] at h
  | q :: r, p, h => by
    unfold idx at h
    split at h
    · exact idx_at nm r p (by simpa using h)
    · rename_i hq
      simp at h; subst h
      simpa using hq
/-- It stands there, or nowhere. -/
theorem spot_some {fs : List (Nm × α)} (hr : Ris fs) {nm : Nm} {x : α} (h : get fs nm = some x) : fs[idx nm fs]? = some (nm, x) := by
  induction fs with
  | nil => cases h
  | cons p r ih =>
    by_cases e : p.1 = nm
    · rw [get_cons_eq e] at h
      have hb : ¬ bytesBefore p.1 nm = true := by rw [e, irr]; simp
      unfold idx; rw [if_neg hb]
      obtain ⟨p1, p2⟩ := p
      simp at h e ⊢; exact ⟨e, h⟩
    · rw [get_cons_ne e] at h
      have hm := mem_of_get h
      have hb := ris_head hr _ hm
      unfold idx; rw [if_pos hb]
      simpa using ih (ris_tail hr) h
theorem spot_none {fs : List (Nm × α)} (hr : Ris fs) {nm : Nm} (h : get fs nm = none) (p : Nm × α) (hp : fs[idx nm fs]? = some p) : p.1 ≠ nm := by
  intro e
  exact get_mem h (List.mem_map.2 ⟨p, List.mem_of_getElem? hp, e⟩)
theorem get_spot {fs : List (Nm × α)} (hr : Ris fs) (nm : Nm) : get fs nm = match fs[idx nm fs]? with | some p => if p.1 = nm then some p.2 else none | none => none := by
  cases h : get fs nm with
  | some x => rw [spot_some hr h]; simp
  | none =>
    cases e : fs[idx nm fs]? with
    | none => rfl
    | some p => simp only; rw [if_neg (spot_none hr h p e)]
theorem ins_spot {fs : List (Nm × α)} (hr : Ris fs) {nm : Nm} (x : α) (h : get fs nm = none) : ins (nm, x) fs = fs.take (idx nm fs) ++ (nm, x) :: fs.drop (idx nm fs) := by
  induction fs with
  | nil => rfl
  | cons p r ih =>
    have hne : p.1 ≠ nm := fun e => by rw [get_cons_eq e] at h; cases h
    rw [get_cons_ne hne] at h
    unfold idx
    by_cases hb : bytesBefore p.1 nm = true
    · have h2 : ¬ bytesBefore nm p.1 = true := by rw [asym hb]; simp
      rw [if_pos hb, ins]
      simp only [h2, List.take_succ_cons, List.drop_succ_cons, List.cons_append]
      rw [ih (ris_tail hr) h]
      simp
    · have h2 : bytesBefore nm p.1 = true := (Go.WideAt.bytes_total p.1 nm hne).resolve_left hb
      rw [if_neg hb, ins]
      simp [h2]
theorem del_spot {fs : List (Nm × α)} (hr : Ris fs) {nm : Nm} {x : α} (h : get fs nm = some x) : del nm fs = fs.take (idx nm fs) ++ fs.drop (idx nm fs + 1) := by
  induction fs with
  | nil => cases h
  | cons p r ih =>
    by_cases e : p.1 = nm
    · have hb : ¬ bytesBefore p.1 nm = true := by rw [e, irr]; simp
      unfold idx; rw [if_neg hb]
      have e1 : (p.1 == nm) = true := by simpa using e
      have e2 : del nm r = r := List.filter_eq_self.2 fun q hq => by
        have := ne_of (ris_head hr q hq)
        rw [e] at this
        simpa using fun e' => this e'.symm
      unfold del at e2 ⊢
      rw [List.filter_cons, e1]
      simp [e2]
    · rw [get_cons_ne e] at h
      have hb := ris_head hr _ (mem_of_get h)
      have e1 : (p.1 == nm) = false := by simpa using e
      unfold idx; rw [if_pos hb]
      have := ih (ris_tail hr) h
      unfold del at this ⊢
      rw [List.filter_cons, e1]
      simp [this]
theorem fupd_spot {fs : List (Nm × Fl)} (hr : Ris fs) {nm : Nm} {x : Fl} (y : Fl) (h : get fs nm = some x) : fupd nm y fs = fs.set (idx nm fs) (nm, y) := by
  induction fs with
  | nil => cases h
  | cons p r ih =>
    by_cases e : p.1 = nm
    · have hb : ¬ bytesBefore p.1 nm = true := by rw [e, irr]; simp
      unfold idx; rw [if_neg hb]
      have e2 : r.map (fun q => if q.1 = nm then (nm, y) else q) = r := by
        conv => rhs; rw [← List.map_id r]
        refine List.map_congr_left fun q hq => ?_
        have := ne_of (ris_head hr q hq)
        rw [e] at this
        rw [if_neg (fun e' => this e'.symm)]; rfl
      unfold fupd
      rw [List.map_cons, if_pos e, e2]; rfl
    · rw [get_cons_ne e] at h
      have hb := ris_head hr _ (mem_of_get h)
      unfold idx; rw [if_pos hb]
      have := ih (ris_tail hr) h
      unfold fupd at this ⊢
      rw [List.map_cons, if_neg e, this]; rfl
theorem ris_del {fs : List (Nm × α)} (hr : Ris fs) (nm : Nm) : Ris (del nm fs) := hr.sublist List.filter_sublist
theorem del_comm (a b : Nm) (fs : List (Nm × α)) : del a (del b fs) = del b (del a fs) := by
  unfold del
  rw [List.filter_filter, List.filter_filter]
  congr 1
  funext p
  exact Bool.and_comm _ _
theorem idx_map {β : Type} (f : α → β) (nm : Nm) (fs : List (Nm × α)) : idx nm (fs.map fun p => (p.1, f p.2)) = idx nm fs := by
  induction fs with
  | nil => rfl
  | cons p r ih => simp only [List.map_cons, idx, ih]
/-- The files of a disk in memory stand in their names' order. -/
theorem Inn.ris {lk : Int} {w : World} {bs bm : Nat} {room used fuse : Int} {ix : List (Nm × Nat)} {ct : Nat → File} (h : Inn lk w bs bm room used fuse ix ct) : Ris ix := by
  obtain ⟨es, he, hp, _⟩ := h.map.canon law9
  unfold dat at he
  injection he with he
  subst he
  rw [List.pairwise_map] at hp
  exact hp
theorem Disk.ris {w : World} {bd : Nat} {S : Nat → Prop} {a : Ab} (h : Disk w bd S a) : Ris a.fs := by
  obtain ⟨_, bs, bm, ix, ct, _, h2, h3, _⟩ := h
  rw [h3]
  unfold view Ris
  rw [List.pairwise_map]
  exact h2.ris
#print axioms Disk.ris
end Go.Proofs.YtmpnceicodfifaaGreat
