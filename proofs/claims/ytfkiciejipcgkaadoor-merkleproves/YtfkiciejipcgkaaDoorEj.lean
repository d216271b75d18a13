/-
  merkle.meet: whether roots of halves make two roots.
-/
import Derived.Test.YtfkiciejipcgkaaDoorEi
namespace Go.Proofs.YtfkiciejipcgkaaDoor
open Go.RowKit Sh
theorem fb_hh {os : List (Nat × Nat)} : ∀ {L : List (List Nat)} {x y : List Nat}, Hh x → Hh y → Hh (Mk.fb nd x y os L).1 ∧ Hh (Mk.fb nd x y os L).2 := by
  induction os with
  | nil => intro L x y hx hy; cases L <;> exact ⟨hx, hy⟩
  | cons z os ih =>
    intro L x y hx hy
    cases L with
    | nil => exact ⟨hx, hy⟩
    | cons p ps => rw [Mk.fb]; exact ih (by split; exact nd_hh _ _; exact hx) (by split <;> exact nd_hh _ _)
theorem fb_step {os : List (Nat × Nat)} {L : List (List Nat)} {x y : List Nat} {k : Nat} {l o : Nat} {q : List Nat} (hx : os[k]? = some (l, o)) (hq : L[k]? = some q) :
    Mk.fb nd x y (os.take (k + 1)) (L.take (k + 1)) = (if o % 2 = 0 then nd q (Mk.fb nd x y (os.take k) (L.take k)).1 else (Mk.fb nd x y (os.take k) (L.take k)).1, if o % 2 = 0 then nd q (Mk.fb nd x y (os.take k) (L.take k)).2 else nd (Mk.fb nd x y (os.take k) (L.take k)).2 q) := by
  obtain ⟨h1, e1⟩ := List.getElem?_eq_some_iff.1 hx
  obtain ⟨h2, e2⟩ := List.getElem?_eq_some_iff.1 hq
  rw [List.take_succ_eq_append_getElem h1, List.take_succ_eq_append_getElem h2, e1, e2]
  exact Mk.fb_app nd x y _ _ (l, o) q (by rw [List.length_take, List.length_take]; omega)
/-- what meet answers. -/
def mt (s : List Nat) (os : List (Nat × Nat)) (L : List (List Nat)) (x y : List Nat) : Bool := decide (L.length = os.length ∧ (Mk.fb nd s s os L).1 = x ∧ (Mk.fb nd s s os L).2 = y)
end Go.Proofs.YtfkiciejipcgkaaDoor
