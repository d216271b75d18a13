/-
  A loop over an iterator that appends each text to a row of its own: what its rounds hold, and how they step.
-/
import Derived.Test.YteokjfpppmnebaaIl
import Derived.Maps.OwnIn
import Derived.Maps.AppendAt
namespace Go.Proofs.Yteokjfpppmnebaa
open Go.RowKit Go.Shelf
set_option linter.unusedVariables false
set_option linter.unusedSimpArgs false
/-- A box holds a row of texts; the row's block is none of N nor of A, and lies below B or from hi on; what A names lies as it lay. -/
def RowI (N A : Nat → Prop) (B b : Nat) (L0 : List Value) (w0 : World) (hi : Nat) (pre : List E) (W : World) : Prop :=
  ∃ v, Blk W b 28 [v] ∧ W.ownsRow 0 9 1 v (L0 ++ txs pre).length (L0 ++ txs pre) ∧ (∀ k, v.ownBlock = some k → (k < B ∧ ¬ N k ∧ ¬ A k) ∨ hi ≤ k) ∧ (v = .slice none 0 0 ∨ ∃ g c, v = .slice (some ⟨g, 0, none⟩) (L0 ++ txs pre).length c) ∧ Kp A w0 W
theorem own_cells {w : World} {e : TypeId} {v : Value} {n : Nat} {xs : List Value} (h : w.ownsRow 0 e 1 v n xs) {k : Nat} (hk : v.ownBlock = some k) {o : Obj} (ho : w.heap[k]? = some o) : o.isCells = true := by
  rcases h.2 with ⟨rfl, _⟩ | ⟨g, cap, cur, rfl, _, hg, _⟩
  · simp [Value.ownBlock] at hk
  · simp [Value.ownBlock] at hk
    subst hk
    rw [hg] at ho
    injection ho with ho
    subst ho
    rfl
theorem own_form {w : World} {e : TypeId} {v : Value} {n : Nat} {xs : List Value} (h : w.ownsRow 0 e 1 v n xs) : v = .slice none 0 0 ∨ ∃ g c, v = .slice (some ⟨g, 0, none⟩) n c := by
  rcases h.2 with ⟨rfl, _⟩ | ⟨g, cap, cur, rfl, _, hg, _⟩
  · exact .inl rfl
  · exact .inr ⟨g, cap, rfl⟩
theorem own_succ {w : World} {e : TypeId} {v : Value} {n : Nat} {xs : List Value} (h : w.ownsRow 0 e 1 v (n + 1) xs) : ∃ g c, v = .slice (some ⟨g, 0, none⟩) (n + 1) c := by
  rcases h.2 with ⟨_, h⟩ | ⟨g, cap, cur, rfl, _, hg, _⟩
  · cases h
  · exact ⟨g, cap, rfl⟩
theorem RowI.own {N A : Nat → Prop} {B b r hi : Nat} {L0 : List Value} {w0 : World} (hr : r < B) (hNr : N r) (hAr : ¬ A r) (hA : ∀ k, A k → k < B) (hbr : b ≠ r) (hB : B ≤ hi) : OwnT r B (RowI N A B b L0 w0 hi) := by
  rintro pre X Y row ⟨v, q1, q2, q3, q4, q5⟩ g hq
  refine ⟨v, blk_ownT q1 g hq hbr, q2.kept g ?_, q3, q4, q5.trans (Kp.of_grown g fun k e hk => ?_)⟩
  · cases hv : v.ownBlock with
    | none => exact .inl rfl
    | some k =>
      refine .inr fun e => ?_
      rcases hq k e.symm with rfl | ⟨h1, o, ho, hc⟩
      · rcases q3 k hv with h | h
        · exact h.2.1 hNr
        · omega
      · rw [own_cells q2 hv ho] at hc
        cases hc
  · rcases hq k e with rfl | ⟨h1, _⟩
    · exact hAr hk
    · have := hA k hk; omega
theorem app_blk {b : Nat} {W2 W3 W4 : World} {n : Nat} {xs : List Value} {v : Value} (hw : W2.ownsRow 0 9 1 v n xs) (hbl : Blk W2 b 28 [v]) (h3 : W2.grownBy W3 none) (hg : W3.grownBy W4 v.ownBlock) : Blk W4 b 28 [v] := by
  refine (hbl.kept h3 (by simp)).kept hg (fun e => ?_)
  have e := e.symm
  rcases hw.2 with ⟨rfl, _⟩ | ⟨g, cap, cur, rfl, _, ho, _⟩
  · simp [Value.ownBlock] at e
  · simp [Value.ownBlock] at e
    subst e
    unfold Blk at hbl
    rw [hbl] at ho
    injection ho with ho
    injection ho with _ ho _
    exact absurd ho (by decide)
theorem app_step {N A : Nat → Prop} {B b hi : Nat} {L0 : List Value} {w0 W2 W3 W4 : World} {pre : List E} {x : E} {v v' : Value} (hN : ∀ k, N k → k < B) (hA : ∀ k, A k → k < B) (hb : b < B) (hbN : ¬ N b) (hbA : ¬ A b) (hB : B ≤ hi) (hs : hi ≤ W2.heap.size)
    (hw : W2.ownsRow 0 9 1 v (L0 ++ txs pre).length (L0 ++ txs pre)) (hbl : Blk W2 b 28 [v]) (hv : ∀ k, v.ownBlock = some k → (k < B ∧ ¬ N k ∧ ¬ A k) ∨ hi ≤ k) (hk : Kp A w0 W2) (h3 : W2.grownBy W3 none)
    (h4 : W4.ownsRow 0 9 1 v' ((L0 ++ txs pre).length + 1) ((L0 ++ txs pre) ++ [.string x.1])) (hg : W3.grownBy W4 v.ownBlock) (ha : v'.ownBlock = v.ownBlock ∨ v'.ownBlock = some W3.heap.size) :
    Word N B hi W2 (W4.setCell ⟨b, 0, none⟩ v') ∧ RowI N A B b L0 w0 hi (pre ++ [x]) (W4.setCell ⟨b, 0, none⟩ v') := by
  have hvb : v.ownBlock ≠ some b := fun e => by
    rcases hw.2 with ⟨rfl, _⟩ | ⟨g, cap, cur, rfl, _, ho, _⟩
    · simp [Value.ownBlock] at e
    · simp [Value.ownBlock] at e
      subst e
      unfold Blk at hbl
      rw [hbl] at ho
      injection ho with ho
      injection ho with _ ho _
      exact absurd ho (by decide)
  have g24 : W2.grownBy W4 v.ownBlock := ⟨hg.os.trans h3.os, hg.tape.trans h3.tape, hg.output.trans h3.output, Nat.le_trans h3.size hg.size, fun k h1 h2 => (hg.block k (Nat.lt_of_lt_of_le h1 h3.size) h2).trans (h3.block k h1 (by simp))⟩
  have hvN : ∀ k, v.ownBlock = some k → ¬ N k := fun k e h => by
    rcases hv k e with q | q
    · exact q.2.1 h
    · have := hN k h; omega
  have hvA : ∀ k, v.ownBlock = some k → ¬ A k := fun k e h => by
    rcases hv k e with q | q
    · exact q.2.2 h
    · have := hA k h; omega
  have w1 : Word N B hi W2 W4 := by
    refine ⟨⟨g24.size, fun k o h1 ho hc => ?_⟩, Kp.of_grown g24 hvN, fun k h1 h2 => ?_⟩
    · rw [g24.block k (Array.getElem?_eq_some_iff.1 ho).1 (fun e => by rw [own_cells hw e.symm ho] at hc; cases hc)]
      exact ho
    · refine g24.block k (by omega) (fun e => ?_)
      rcases hv k e.symm with q | q <;> omega
  have hb4 : Blk W4 b 28 [v] := hbl.kept g24 (fun e => hvb e.symm)
  refine ⟨w1.trans (word_set _ hb hbN), v', hb4.set 0 v', ?_, fun k e => ?_, ?_, ?_⟩
  · have e : L0 ++ txs (pre ++ [x]) = (L0 ++ txs pre) ++ [.string x.1] := by rw [txs_app, List.append_assoc]; rfl
    rw [e, List.length_append]
    refine ownsRow_setCell_other h4 (fun c => ?_) _
    rcases ha with q | q
    · rw [q] at c; exact hvb c
    · rw [q] at c
      injection c with c
      have := h3.size
      have hc : b = W3.heap.size := c.symm
      omega
  · rcases ha with q | q
    · rw [q] at e; exact hv k e
    · rw [q] at e
      injection e with e
      have := h3.size
      exact .inr (by omega)
  · have e : (L0 ++ txs (pre ++ [x])).length = (L0 ++ txs pre).length + 1 := by rw [txs_app, ← List.append_assoc, List.length_append]; rfl
    rw [e]
    exact own_form h4
  · exact (hk.trans (Kp.of_grown g24 hvA)).trans (Kp.of_grown (grown_setCell W4 ⟨b, 0, none⟩ v') (fun k e h => by cases e; exact hbA h))
end Go.Proofs.Yteokjfpppmnebaa
