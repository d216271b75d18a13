/-
  Of a sorted list, what lies up to a middle text and then from it on is what lies between the ends.
-/
import Derived.Test.YteokjfpppmnebaaIk
namespace Go.Proofs.Yteokjfpppmnebaa
open Go.RowKit Go.Shelf
set_option linter.unusedVariables false
set_option linter.unusedSimpArgs false
theorem nlt_trans {a m k : ByteArray} (h1 : blt m a = false) (h2 : blt k m = false) : blt k a = false := by
  rcases blt_tot m k with h | rfl | h
  · cases q : blt k a with
    | false => rfl
    | true => rw [blt_trans h q] at h1; cases h1
  · exact h1
  · rw [h] at h2; cases h2
theorem lt_nlt {k m z : ByteArray} (h1 : blt k m = true) (h2 : blt z m = false) : blt k z = true := by
  rcases blt_tot m z with h | rfl | h
  · exact blt_trans h1 h
  · exact h1
  · rw [h] at h2; cases h2
theorem rng_split {a m z : ByteArray} (h1 : blt m a = false) (h2 : z.toList.isEmpty = false → blt z m = false) (hm : m.toList.isEmpty = false) : ∀ {M : List E}, Srt (ksL M) → rngL M a m ++ rngL M m z = rngL M a z
  | [], _ => rfl
  | e :: r, hs => by
    have hr : Srt (ksL r) := (List.pairwise_cons.1 hs).2
    have ih := rng_split h1 h2 hm hr
    unfold rngL at ih ⊢
    cases q : blt e.1 m with
    | true =>
      have hz : (z.toList.isEmpty || blt e.1 z) = true := by
        cases hz : z.toList.isEmpty with
        | true => rfl
        | false => rw [lt_nlt q (h2 hz)]; rfl
      simp only [List.filter_cons, q, hz, Bool.or_true, Bool.and_true, Bool.not_true, Bool.false_and, Bool.false_eq_true, if_false]
      cases blt e.1 a with
      | true => simpa using ih
      | false => simpa using ih
    | false =>
      have hall : ∀ x ∈ r, blt x.1 m = false := fun x hx => by
        cases p : blt x.1 m with
        | false => rfl
        | true =>
          have h := (List.pairwise_cons.1 hs).1 x.1 (List.mem_map.2 ⟨x, hx, rfl⟩)
          rw [blt_trans h p] at q
          cases q
      have e1 : (e :: r).filter (fun e => !blt e.1 a && (m.toList.isEmpty || blt e.1 m)) = [] := List.filter_eq_nil_iff.2 fun x hx => by
        rcases List.mem_cons.1 hx with rfl | hx
        · rw [hm, q]; simp
        · rw [hm, hall x hx]; simp
      rw [e1, List.nil_append]
      refine List.filter_congr fun x hx => ?_
      have hx2 : blt x.1 m = false := (List.mem_cons.1 hx).elim (fun h => h ▸ q) (hall x)
      rw [hx2, nlt_trans h1 hx2]
/-- The texts of entries. -/
def txs (M : List E) : List Value := M.map fun e => .string e.1
theorem txs_app (a b : List E) : txs (a ++ b) = txs a ++ txs b := List.map_append
theorem txs_len (a : List E) : (txs a).length = a.length := List.length_map _
end Go.Proofs.Yteokjfpppmnebaa
