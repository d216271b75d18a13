/-
  What the walk of DiskRoom carries.
-/
import Derived.Test.YtifeocedjomkmaaStp
namespace Go.Proofs.Ytifeocedjomkmaa
open Go.RowKit
def oldOf (x : Option Fl) : List Nat := match x with | some y => y.b | none => []
theorem Told.own {w : World} {base : Nat} {v : Value} {err : Int} {x : Option Fl} (h : Told w base v err x) : Own w base v (oldOf x) := by
  cases x with
  | none => rw [h.1]; exact ⟨by simp [vals, oldOf], .inl ⟨rfl, by simp [oldOf]⟩⟩
  | some y => exact h.1
theorem get_fupd {fs : List (Nm × Fl)} {nm : Nm} {x y : Fl} (h : get fs nm = some x) : get (fupd nm y fs) nm = some y := by
  induction fs with
  | nil => simp [get] at h
  | cons p r ih =>
    unfold get at h ⊢
    rw [List.find?_cons] at h
    by_cases e : p.1 = nm
    · simp [fupd, e]
    · have e1 : (p.1 == nm) = false := by simpa using e
      rw [e1] at h
      have := ih h
      unfold get at this
      simpa [fupd, e, List.find?_cons] using this
theorem get_ins {fs : List (Nm × Fl)} {nm : Nm} {y : Fl} (h : get fs nm = none) : get (ins (nm, y) fs) nm = some y := by
  induction fs with
  | nil => simp [get, ins]
  | cons p r ih =>
    have hp : p.1 ≠ nm := by
      intro e
      unfold get at h
      rw [List.find?_cons] at h
      simp [e] at h
    have e1 : (p.1 == nm) = false := by simpa using hp
    have hr : get r nm = none := by
      unfold get at h ⊢
      rw [List.find?_cons, e1] at h
      exact h
    rw [ins]
    split
    · simp [get]
    · unfold get
      rw [List.find?_cons, e1]
      exact ih hr
theorem length_fupd (nm : Nm) (x : Fl) (fs : List (Nm × Fl)) : (fupd nm x fs).length = fs.length := by simp [fupd]
theorem room_fits (a : Ab) (s : ByteArray) (l : List Nat) (k : Nat) (hs : [s].any bad = false) (hf : a.fuse = -1) (hl : a.fs.length ≤ k) (hk : k < 4096) (h : (total a.fs : Int) + l.length ≤ a.room) :
    ∃ a', aDo [s] (aExt a.room s.data.toList l) a = (0, a') ∧ a'.room = a.room ∧ a'.fuse = -1 ∧ a'.fs.length ≤ k + 1 ∧ oldOf (get a'.fs s.data.toList) = oldOf (get a.fs s.data.toList) ++ l := by
  have h1 : ¬ ((l.length : Int) > a.room - (total a.fs : Int) ∨ (get a.fs s.data.toList = none ∧ 4096 ≤ a.fs.length)) := by omega
  have hz : ¬ a.fuse = 0 := by omega
  have e0 : fuseAfter a.fuse 0 = -1 := by rw [hf]; rfl
  cases hg : get a.fs s.data.toList with
  | none =>
    have eE : aExt a.room s.data.toList l a.fs = (0, ins (s.data.toList, ⟨l, 0⟩) a.fs) := by unfold aExt; rw [if_neg h1, hg]
    refine ⟨⟨a.room, -1, ins (s.data.toList, ⟨l, 0⟩) a.fs⟩, ?_, rfl, rfl, by simp only [length_ins]; omega, ?_⟩
    · simp only [aDo, hs, eE, if_neg hz, e0, Bool.false_eq_true, if_false]
    · simp only [get_ins hg, oldOf, List.nil_append]
  | some x =>
    have eE : aExt a.room s.data.toList l a.fs = (0, fupd s.data.toList ⟨x.b ++ l, x.k⟩ a.fs) := by unfold aExt; rw [if_neg h1, hg]
    refine ⟨⟨a.room, -1, fupd s.data.toList ⟨x.b ++ l, x.k⟩ a.fs⟩, ?_, rfl, rfl, by simp only [length_fupd]; omega, ?_⟩
    · simp only [aDo, hs, eE, if_neg hz, e0, Bool.false_eq_true, if_false]
    · simp only [get_fupd hg, oldOf]
theorem room_full (a : Ab) (s : ByteArray) (l : List Nat) (hs : [s].any bad = false) (hf : a.fuse = -1) (h : ¬ (total a.fs : Int) + l.length ≤ a.room) : aDo [s] (aExt a.room s.data.toList l) a = (6, a) := by
  have h1 : (l.length : Int) > a.room - (total a.fs : Int) ∨ (get a.fs s.data.toList = none ∧ 4096 ≤ a.fs.length) := by left; omega
  have hz : ¬ a.fuse = 0 := by omega
  have e0 : fuseAfter a.fuse 6 = a.fuse := by unfold fuseAfter; simp
  simp only [aDo, hs, aExt, if_pos h1, if_neg hz, e0, Bool.false_eq_true, if_false]
/-- A disk of the call's own, and two rows of the call's own beside it. -/
structure Cx (w W : World) (bd : Nat) (S : Nat → Prop) (a : Ab) (v1 : Value) (l1 : List Nat) (v4 : Value) (l4 : List Nat) : Prop where
  mine : Mine w W bd S a
  o1 : Own W w.heap.size v1 l1
  o4 : Own W w.heap.size v4 l4
  s1 : ∀ g, v1.ownBlock = some g → ¬ S g
  s4 : ∀ g, v4.ownBlock = some g → ¬ S g
theorem Cx.below {w W W' : World} {bd : Nat} {S : Nat → Prop} {a : Ab} {v1 v4 : Value} {l1 l4 : List Nat} (h : Cx w W bd S a v1 l1 v4 l4) (hb : Below W.heap.size W W') : Cx w W' bd S a v1 l1 v4 l4 := by
  have k : Kept (fun _ => False) W W' := Kept.of_below hb
  exact ⟨⟨h.mine.disk.keptBy k (fun _ _ h => h), h.mine.base, h.mine.below.trans (hb.mono h.mine.below.size)⟩, h.o1.keptBy k (fun _ _ h => h), h.o4.keptBy k (fun _ _ h => h), h.s1, h.s4⟩
theorem Cx.used {w W : World} {bd : Nat} {S : Nat → Prop} {a : Ab} {v1 v4 : Value} {l1 l4 : List Nat} (h : Cx w W bd S a v1 l1 v4 l4) :
    Calls Try.prog 20 #[.pointer (some ⟨bd, 0, none⟩)] W fun e w' => e = .returned (.int .i64 (total a.fs)) ∧ Hid (Cx w w' bd S a v1 l1 v4 l4) := by
  refine (used_disk h.mine.disk).mono ?_
  rintro e w' ⟨rfl, d, k⟩
  exact ⟨rfl, ⟨d, h.mine.base, h.mine.below.trans (k.below h.mine.below.size h.mine.base)⟩, h.o1.keptBy k h.s1, h.o4.keptBy k h.s4, h.s1, h.s4⟩
theorem Cx.same {w W : World} {bd : Nat} {S : Nat → Prop} {a : Ab} {v1 v4 : Value} {l1 l4 : List Nat} (h : Cx w W bd S a v1 l1 v4 l4) {x y : Option Addr} {c d : Nat} {l : List Nat} (hx : Byt W x l) (hy : Byt W y l) (ho : Oct l) (hl : l.length ≤ 1000000) :
    Calls Try.prog 14 #[.slice x l.length c, .slice y l.length d] W fun e w' => e = .returned (.bool true) ∧ Hid (Cx w w' bd S a v1 l1 v4 l4) := by
  refine (same_any x y c d l hl W hx hy ho).mono ?_
  rintro e w' ⟨rfl, q, rfl⟩
  exact ⟨rfl, h.below ⟨rfl, rfl, rfl, Nat.le_refl _, fun _ _ => rfl⟩⟩
theorem enters20 : ∀ (args : Array Value) (w : World), (callFunc 20 args).run Try.prog w = .ok (.enter 20 args) w := enters Try.func20 (by kernel_rfl) rfl
theorem enters14 : ∀ (args : Array Value) (w : World), (callFunc 14 args).run Try.prog w = .ok (.enter 14 args) w := enters Try.func14 (by kernel_rfl) rfl
/-- Read, Used, Append, Read: what stands ahead of the test. -/
theorem Mine.readC {w W : World} {bd : Nat} {S : Nat → Prop} {a : Ab} (h : Mine w W bd S a) (s : ByteArray) (hs : s.size ≤ maxLen) :
    Calls Try.prog 13 #[.pointer (some ⟨bd, 0, none⟩), .string s] W fun e w' => ∃ v err, e = .returned (.tuple #[v, .int .i64 err]) ∧ Hid (Mine w w' bd S a ∧ Own w' w.heap.size v (oldOf (get a.fs s.data.toList)) ∧ (∀ g, v.ownBlock = some g → ¬ S g) ∧ Kept S W w') := by
  refine (read_disk h.disk s hs).mono ?_
  rintro e w' ⟨v, err, rfl, t, d, k⟩
  refine ⟨v, err, rfl, ⟨d, h.base, h.below.trans (k.below h.below.size h.base)⟩, t.own.mono h.below.size, fun g hg hS => ?_, k⟩
  have h1 := (own_base t.own hg).1
  have h2 := h.disk.lt hS
  omega
#print axioms Cx.used
end Go.Proofs.Ytifeocedjomkmaa
