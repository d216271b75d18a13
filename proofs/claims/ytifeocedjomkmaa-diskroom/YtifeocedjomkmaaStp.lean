/-
  One operation of a region that draws its order, guarded or not: a call by its contract, an append onto bytes of the call's own.
-/
import Derived.Test.YtifeocedjomkmaaKl
import Derived.Deep.RegionLaw
import Derived.Laws.BytesArg
namespace Go.Proofs.Ytifeocedjomkmaa
open Go.RowKit
theorem step_call {ops : Array Oper} {o : Oper} {a : Act} {w : World} {K : Act → World → Prop} {Q : Exit → Act → World → Prop} {E : Prop} (hw : Region.wanted o (yielded ops a.tmps) = true) (k : Nat) (xs : Array Operand) (ts : Array TypeId)
    (hop : o.op = Op.call { callee := Callee.value (Operand.func k), args := xs, argTypes := ts }) (args : Array Value) (hargs : xs.map a.eval = args)
    (hent : ∀ (args : Array Value) (w : World), (callFunc k args).run Try.prog w = .ok (.enter k args) w) (v : Value) (R : World → Prop)
    (hc : Calls Try.prog k args w fun e w' => e = .returned v ∧ R w') (hK : ∀ w', R w' → K (a.put o.dst v) w') :
    if Region.wanted o (yielded ops a.tmps) = true then Oper.wp Try.prog o a w K Q else E := by
  rw [if_pos hw]
  unfold Oper.wp
  have : (execOp a.eval o).run Try.prog w = .ok (.enter k args) w := by
    simp [execOp, hop, resolve, invoke, Act.eval, hargs, hent, Deferred.ofValue]
  rw [this, Oper.upon_enter]
  refine hc.mono ?_
  rintro e w' ⟨rfl, hr⟩
  exact hK w' hr
theorem step_app {ops : Array Oper} {o : Oper} {a : Act} {w : World} {K : Act → World → Prop} {Q : Exit → Act → World → Prop} {E : Prop} (hw : Region.wanted o (yielded ops a.tmps) = true) (s x : Operand)
    (ho : o.op = .call { callee := .builtin .append, args := #[s, x], argTypes := #[23, 23] })
    (base : Nat) (v : Value) (l : List Nat) (hs : a.eval s = v) (hown : Own w base v l) (ax : Option Addr) (m c : Nat) (l2 : List Nat) (hm : m = l2.length) (hx : a.eval x = .slice ax m c) (hsrc : Byt w ax l2) (hnil : ax = none → c = 0)
    (hb : l.length + l2.length ≤ 4294967296) (hbase : base ≤ w.heap.size)
    (h : ∀ v' w', Own w' base v' (l ++ l2) → w.grownBy w' v.ownBlock → (∀ g, v'.ownBlock = some g → v.ownBlock = some g ∨ w.heap.size ≤ g) → K (a.put o.dst v') w') :
    if Region.wanted o (yielded ops a.tmps) = true then Oper.wp Try.prog o a w K Q else E := by
  rw [if_pos hw]
  obtain ⟨v', w', h1, h2, h3, h4⟩ : ∃ v' w', (Builtin.append_ #[23, 23] o.type #[v, .slice ax m c]).run Try.prog w = .ok v' w' ∧ Own w' base v' (l ++ l2) ∧ w.grownBy w' v.ownBlock ∧ (∀ g, v'.ownBlock = some g → v.ownBlock = some g ∨ w.heap.size ≤ g) := by
    subst hm
    obtain ⟨i, hi, hz0, hz1, hz2⟩ := info_parts Try.info5
    cases ax with
    | none =>
      obtain rfl := hnil rfl
      have hl : l2 = [] := by
        rcases hsrc with h | ⟨_, _, h, _⟩
        · exact h
        · cases h
      subst hl
      exact ⟨v, w, run_append_owned_none (P := Try.prog) (w := w) base 23 o.type 5 i 1 Try.underlying23 hi v _ _ hown, by simpa using hown, World.grownBy.refl _ _, fun _ h => .inl h⟩
    | some ad =>
      obtain ⟨v', w', r1, r2, r3, _, r5⟩ := run_append_own_at (P := Try.prog) w base 23 o.type 5 i (.int .u8 0) 1 1 Try.underlying23 hi hz0 hz1 hz2 rfl (by decide) v _ _ hown ad l2.length c (vals l2) (by simp [vals_length]) (by
        intro j u hj
        have hjl : j < l2.length := by
          have := (List.getElem?_eq_some_iff.1 hj).1
          simpa [vals_length] using this
        rcases hsrc with rfl | ⟨b, off, he, hc⟩
        · simp at hjl
        · obtain rfl := Option.some.inj he
          rw [vals_get l2 j hjl] at hj
          rw [Addr.add_lit, hc j hjl]
          exact hj) (vals_one l2) (by unfold maxLen; omega) (by omega) hbase
      refine ⟨v', w', r1, ?_, r3, fun g hg => ?_⟩
      · unfold Own
        rw [List.length_append, show vals (l ++ l2) = vals l ++ vals l2 by simp [vals]]
        exact r2
      · rcases r5 with h4 | h4
        · left; rw [← h4]; exact hg
        · right; rw [h4] at hg; cases hg; exact Nat.le_refl _
  unfold Oper.wp execOp
  simp only [ho, resolve, invoke, builtin, Sem.run_bind, Sem.run_pure, Result.andThen_ok, List.map_toArray, List.map_cons, List.map_nil, hs, hx, h1]
  exact h v' w' h2 h3 h4
theorem oper_app {o : Oper} {a : Act} {w : World} {K : Act → World → Prop} {Q : Exit → Act → World → Prop} (s x : Operand)
    (ho : o.op = .call { callee := .builtin .append, args := #[s, x], argTypes := #[23, 23] })
    (base : Nat) (v : Value) (l : List Nat) (hs : a.eval s = v) (hown : Own w base v l) (ax : Option Addr) (m c : Nat) (l2 : List Nat) (hm : m = l2.length) (hx : a.eval x = .slice ax m c) (hsrc : Byt w ax l2) (hnil : ax = none → c = 0)
    (hb : l.length + l2.length ≤ 4294967296) (hbase : base ≤ w.heap.size)
    (h : ∀ v' w', Own w' base v' (l ++ l2) → w.grownBy w' v.ownBlock → (∀ g, v'.ownBlock = some g → v.ownBlock = some g ∨ w.heap.size ≤ g) → K (a.put o.dst v') w') :
    Oper.wp Try.prog o a w K Q := by
  obtain ⟨v', w', h1, h2, h3, h4⟩ : ∃ v' w', (Builtin.append_ #[23, 23] o.type #[v, .slice ax m c]).run Try.prog w = .ok v' w' ∧ Own w' base v' (l ++ l2) ∧ w.grownBy w' v.ownBlock ∧ (∀ g, v'.ownBlock = some g → v.ownBlock = some g ∨ w.heap.size ≤ g) := by
    subst hm
    obtain ⟨i, hi, hz0, hz1, hz2⟩ := info_parts Try.info5
    cases ax with
    | none =>
      obtain rfl := hnil rfl
      have hl : l2 = [] := by
        rcases hsrc with h | ⟨_, _, h, _⟩
        · exact h
        · cases h
      subst hl
      exact ⟨v, w, run_append_owned_none (P := Try.prog) (w := w) base 23 o.type 5 i 1 Try.underlying23 hi v _ _ hown, by simpa using hown, World.grownBy.refl _ _, fun _ h => .inl h⟩
    | some ad =>
      obtain ⟨v', w', r1, r2, r3, _, r5⟩ := run_append_own_at (P := Try.prog) w base 23 o.type 5 i (.int .u8 0) 1 1 Try.underlying23 hi hz0 hz1 hz2 rfl (by decide) v _ _ hown ad l2.length c (vals l2) (by simp [vals_length]) (by
        intro j u hj
        have hjl : j < l2.length := by
          have := (List.getElem?_eq_some_iff.1 hj).1
          simpa [vals_length] using this
        rcases hsrc with rfl | ⟨b, off, he, hc⟩
        · simp at hjl
        · obtain rfl := Option.some.inj he
          rw [vals_get l2 j hjl] at hj
          rw [Addr.add_lit, hc j hjl]
          exact hj) (vals_one l2) (by unfold maxLen; omega) (by omega) hbase
      refine ⟨v', w', r1, ?_, r3, fun g hg => ?_⟩
      · unfold Own
        rw [List.length_append, show vals (l ++ l2) = vals l ++ vals l2 by simp [vals]]
        exact r2
      · rcases r5 with h4 | h4
        · left; rw [← h4]; exact hg
        · right; rw [h4] at hg; cases hg; exact Nat.le_refl _
  unfold Oper.wp execOp
  simp only [ho, resolve, invoke, builtin, Sem.run_bind, Sem.run_pure, Result.andThen_ok, List.map_toArray, List.map_cons, List.map_nil, hs, hx, h1]
  exact h v' w' h2 h3 h4
end Go.Proofs.Ytifeocedjomkmaa
