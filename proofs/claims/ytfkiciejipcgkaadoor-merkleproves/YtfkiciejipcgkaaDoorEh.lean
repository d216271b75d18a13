/-
  merkle.Verify: whether hashes prove a leaf.
-/
import Derived.Test.YtfkiciejipcgkaaDoorEg
namespace Go.Proofs.YtfkiciejipcgkaaDoor
open Go.RowKit Sh
theorem fo_hh {os : List (Nat × Nat)} : ∀ {L : List (List Nat)} {h : List Nat}, Hh h → Hh (Mk.fo nd h os L) := by
  induction os with
  | nil => intro L h hh; cases L <;> exact hh
  | cons x os ih =>
    intro L h hh
    cases L with
    | nil => exact hh
    | cons p ps => rw [Mk.fo]; exact ih (by split <;> exact nd_hh _ _)
theorem fo_step {os : List (Nat × Nat)} {L : List (List Nat)} {h : List Nat} {k : Nat} {x : Nat × Nat} {q : List Nat} (hx : os[k]? = some x) (hq : L[k]? = some q) :
    Mk.fo nd h (os.take (k + 1)) (L.take (k + 1)) = if x.2 % 2 = 0 then nd q (Mk.fo nd h (os.take k) (L.take k)) else nd (Mk.fo nd h (os.take k) (L.take k)) q := by
  obtain ⟨h1, e1⟩ := List.getElem?_eq_some_iff.1 hx
  obtain ⟨h2, e2⟩ := List.getElem?_eq_some_iff.1 hq
  rw [List.take_succ_eq_append_getElem h1, List.take_succ_eq_append_getElem h2, e1, e2]
  exact Mk.fo_app nd h _ _ x q (by rw [List.length_take, List.length_take]; omega)
/-- what Verify answers. -/
def vfy (lf : List Nat) (i n : Nat) (L : List (List Nat)) (rt : List Nat) : Bool := decide (L.length = (Mk.wy 0 i n).length ∧ Mk.fo nd lf (Mk.wy 0 i n) L = rt)
/-- what Verify answers, of whatever numbers. -/
def vf (lf : List Nat) (i n : Int) (L : List (List Nat)) (rt : List Nat) : Bool := decide (0 ≤ i ∧ i < n ∧ n ≤ 1099511627776) && vfy lf i.toNat n.toNat L rt
end Go.Proofs.YtfkiciejipcgkaaDoor
