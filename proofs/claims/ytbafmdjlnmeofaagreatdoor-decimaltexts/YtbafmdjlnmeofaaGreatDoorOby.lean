/-
  Bytes that the call made.
-/
import Derived.Test.YtbafmdjlnmeofaaGreatDoorPm
import Derived.Test.YtbafmdjlnmeofaaGreatDoorRzt
import Derived.Laws.AppendOwnNone
import Derived.OpenShut
namespace Go.Proofs.YtbafmdjlnmeofaaGreatDoor
open Go.RowKit Go.ChangeShapes Go.WideShapes
set_option linter.unusedVariables false
/-- The cells of a row of bytes. -/
def Cells (w : World) (b off : Nat) (l : List Nat) : Prop := ∀ i, i < l.length → w.cell? ⟨b, off + i, none⟩ = some (.int .u8 ((l.getD i 0 : Nat) : Int))
/-- A slice's address, and its bytes. -/
def Byt (w : World) (a : Option Addr) (l : List Nat) : Prop := l = [] ∨ ∃ b off, a = some ⟨b, off, none⟩ ∧ Cells w b off l
theorem Tryz.info5 : (Tryz.prog.info? 5).map (fun i => (i.zero, i.size, i.bytes)) = some (some (.int .u8 0), 1, 1) := by kernel_rfl
/-- Bytes as cells. -/
def vals (l : List Nat) : List Value := l.map fun n : Nat => Value.int .u8 (n : Int)
theorem vals_length (l : List Nat) : (vals l).length = l.length := by simp [vals]
theorem vals_get (l : List Nat) (i : Nat) (h : i < l.length) : (vals l)[i]? = some (.int .u8 ((l.getD i 0 : Nat) : Int)) := by
  simp [vals, List.getD_eq_getElem?_getD, List.getElem?_eq_getElem h]
theorem vals_one (l : List Nat) : ∀ u ∈ vals l, u.oneCell' = true := by
  intro u hu
  obtain ⟨_, _, rfl⟩ := List.mem_map.1 hu
  rfl
/-- A slice of bytes that the call made. -/
def Own (w : World) (base : Nat) (v : Value) (l : List Nat) : Prop := w.ownsRow base 5 1 v l.length (vals l)
theorem app_bytes {ops : Array Oper} {rest : List Oper} {o : Oper} {a : Act} {Q : Exit → Act → World → Prop} {w : World} (hgd : o.guard = none) (s x : Operand)
    (ho : o.op = .call { callee := .builtin .append, args := #[s, x], argTypes := #[82, 82] })
    (base : Nat) (v : Value) (l : List Nat) (hs : a.eval s = v) (hown : Own w base v l)
    (ax : Option Addr) (m c : Nat) (l2 : List Nat) (hm : m = l2.length) (hx : a.eval x = .slice ax m c) (hsrc : Byt w ax l2) (hnil : ax = none → c = 0)
    (hb : l.length + l2.length ≤ 1000000) (hbase : base ≤ w.heap.size)
    (h : ∀ v' w', Own w' base v' (l ++ l2) → w.grownBy w' v.ownBlock → wpList Tryz.prog ops Q rest (a.put o.dst v') w') : wpList Tryz.prog ops Q (o :: rest) a w := by
  subst hm
  obtain ⟨i, hi, hz0, hz1, hz2⟩ := info_parts Tryz.info5
  cases ax with
  | none =>
    obtain rfl := hnil rfl
    have hl : l2 = [] := by
      rcases hsrc with h | ⟨_, _, h, _⟩
      · exact h
      · cases h
    subst hl
    refine wpList_append_own_none hgd s x 82 ho base 5 i 1 Tryz.underlying82 hi v _ _ hs hown hx (h v w ?_ (World.grownBy.refl _ _))
    simpa using hown
  | some ad =>
    refine wpList_append_own _ hgd s x 82 ho base 5 i (.int .u8 0) 1 1 Tryz.underlying82 hi hz0 hz1 hz2 rfl (by decide) v _ _ hs hown ad l2.length c (vals l2) hx (by simp [vals_length]) ?_ (vals_one l2) (by unfold maxLen; omega) (by omega) hbase ?_
    · intro j u hj
      have hjl : j < l2.length := by
        have := (List.getElem?_eq_some_iff.1 hj).1
        simpa [vals_length] using this
      rcases hsrc with rfl | ⟨b, off, he, hc⟩
      · simp at hjl
      · obtain rfl := Option.some.inj he
        rw [vals_get l2 j hjl] at hj
        rw [Addr.add_lit, hc j hjl]
        exact hj
    · intro v' w' h1 h2 _
      refine h v' w' ?_ h2
      unfold Own
      rw [List.length_append, show vals (l ++ l2) = vals l ++ vals l2 by simp [vals]]
      exact h1
theorem Own.form {w : World} {base : Nat} {v : Value} {l : List Nat} (h : Own w base v l) (hl : 0 < l.length) :
    ∃ g cap, v = .slice (some ⟨g, 0, none⟩) l.length cap ∧ base ≤ g ∧ g < w.heap.size ∧ l.length ≤ cap ∧ cap ≤ maxLen ∧ Cells w g 0 l := by
  have h' := h
  rcases h with ⟨_, ⟨rfl, h0⟩ | ⟨g, cap, cur, rfl, hg, hh, hle, hm, _⟩⟩
  · omega
  · refine ⟨g, cap, rfl, hg, (Array.getElem?_eq_some_iff.1 hh).1, hle, hm, fun i hi => ?_⟩
    rw [Nat.zero_add, World.ownsRow.cellAt h' i (by omega), vals_get l i hi]
theorem own_empty (w : World) (base : Nat) (hb : base ≤ w.heap.size) : Own (w.alloc (.cells #[] 5)) base (.slice (some ⟨w.heap.size, 0, none⟩) 0 0) [] :=
  World.ownsRow_lit w #[] 0 hb (by decide) rfl
theorem Cells.below {w w' : World} {b off : Nat} {l : List Nat} (h : Cells w b off l) (hb : Below w.heap.size w w') : Cells w' b off l :=
  fun i hi => (hb.cell (p := ⟨b, off + i, none⟩) (cell_lt (h i hi))).trans (h i hi)
theorem Cells.left {w : World} {b off : Nat} {l m : List Nat} (h : Cells w b off (l ++ m)) : Cells w b off l := fun i hi => by
  rw [h i (by simp; omega), List.getD_eq_getElem?_getD, List.getD_eq_getElem?_getD, List.getElem?_append_left hi]
theorem Byt.below {w w' : World} {a : Option Addr} {l : List Nat} (h : Byt w a l) (hb : Below w.heap.size w w') : Byt w' a l := by
  rcases h with h | ⟨b, off, rfl, hc⟩
  · exact .inl h
  · exact .inr ⟨b, off, rfl, hc.below hb⟩
theorem byt_lit (w : World) (l : List Nat) : Byt (w.alloc (.cells (vals l).toArray 5)) (some ⟨w.heap.size, 0, none⟩) l := by
  refine .inr ⟨_, _, rfl, fun i hi => ?_⟩
  rw [Nat.zero_add, World.cell?_alloc_new, List.getElem?_toArray, vals_get l i hi]
theorem Own.alloc {w : World} {base : Nat} {v : Value} {l : List Nat} (h : Own w base v l) (o : Obj) : Own (w.alloc o) base v l := World.ownsRow.alloc h o
/-- Behind an append onto what the call made nothing that was there has turned. -/
theorem below_app {B : Nat} {w0 w w' : World} {v : Value} {l : List Nat} (hb : Below B w0 w) (hB : B ≤ w.heap.size) (h : Own w B v l) (hg : w.grownBy w' v.ownBlock) : Below B w0 w' :=
  hb.grown hg hB fun k hk => (World.ownsRow.lt h k hk).1
/-- A slice that the call made, as a source. -/
theorem Own.byt {w : World} {B : Nat} {v : Value} {l : List Nat} (h : Own w B v l) : ∃ a c, v = .slice a l.length c ∧ Byt w a l ∧ (a = none → c = 0) ∧ l.length ≤ c ∧ c ≤ maxLen := by
  have h' := h
  rcases h with ⟨_, ⟨rfl, h0⟩ | ⟨g, cap, cur, rfl, hg, hh, hle, hm, _⟩⟩
  · have : l = [] := List.eq_nil_of_length_eq_zero h0
    subst this
    exact ⟨none, 0, rfl, .inl rfl, fun _ => rfl, Nat.le_refl _, by unfold maxLen; omega⟩
  · refine ⟨_, cap, rfl, .inr ⟨g, 0, rfl, fun i hi => ?_⟩, (fun e => by cases e), hle, hm⟩
    rw [Nat.zero_add, World.ownsRow.cellAt h' i (by omega), vals_get l i hi]
end Go.Proofs.YtbafmdjlnmeofaaGreatDoor
