/-
  Regions that draw their order and make variables.
-/
import Derived.Test.YtfkiciejipcgkaaDoorEh
namespace Go.Proofs.YtfkiciejipcgkaaDoor
open Go Go.RowKit Sh
section
variable {P : Program} {C : World → Prop} {z : Nat} {Q : Exit → Act → World → Prop}
theorem one_of {L : List Oper} {n : Nat} {listed : Array Bool} {a : Act} {w : World} (N : Nat) (hn : n = N + 1) (is : List Nat) (hr : Region.ready .any L.toArray listed = is) (hne : is ≠ [])
    (h : ∀ i ∈ is, ∃ o, nth L i = some o ∧ Region.wanted o (yielded L.toArray a.tmps) = true ∧ ∀ K : Act → World → Prop, (∀ a' w', (i = z ∨ C w') → anyC P L.toArray C z Q N (listed.setIfInBounds i true) a' w' → K a' w') → o.wp P a w K Q) : anyC P L.toArray C z Q n listed a w := by
  subst hn
  refine ⟨fun h0 => absurd (hr.symm.trans h0) hne, fun j hj => ?_⟩
  rw [hr] at hj
  obtain ⟨o, h1, h2, h3⟩ := h j hj
  unfold wpOp
  simp only [show L.toArray[j]? = some o by rw [List.getElem?_toArray, ← nth_eq, h1]]
  rw [if_pos h2]
  exact .inl (h3 _ fun a' w' hC h' => ⟨hC, h'⟩)
theorem oper_new {o : Oper} {K : Act → World → Prop} {a : Act} {w : World} (t : TypeId) (ho : o.op = .alloc t) (cs : List Value) (hz : (P.info? t).map (fun i => i.zero.map (·.cells)) = some (some cs.toArray))
    (hK : K (a.put o.dst (.pointer (some ⟨w.heap.size, 0, none⟩))) (w.alloc (.cells cs.toArray t))) : Oper.wp P o a w K Q := by
  unfold Oper.wp execOp
  cases hi : P.info? t with
  | none => simp [hi] at hz
  | some i =>
    cases hq : i.zero with
    | none => simp [hi, hq] at hz
    | some z =>
      have hc : z.cells = cs.toArray := by simpa [hi, hq] using hz
      have hzv : (zeroValue t).run P w = .ok z w := by simp [zeroValue, typeInfo, hi, hq]
      simp only [ho, Sem.run_bind, Instr.alloc, hzv, newVar, newRow, run_newObj_alloc, Sem.run_pure, Result.andThen_ok, hc]
      exact hK
theorem put_comm {a : Act} {i j : Tmp} (hij : i ≠ j) (u v : Value) : (a.put (some i) u).put (some j) v = (a.put (some j) v).put (some i) u := by
  simp only [Act.put]
  rw [Array.setIfInBounds_comm _ _ hij]
/-- a new variable that alone may come up. -/
theorem new1 {L : List Oper} {i : Nat} {o : Oper} {n : Nat} {listed : Array Bool} {a : Act} {w : World} (N : Nat) (hn : n = N + 1) (hr : Region.ready .any L.toArray listed = [i]) (hi : nth L i = some o) (hw : Region.wanted o (yielded L.toArray a.tmps) = true) (t : TypeId) (ho : o.op = .alloc t) (cs : List Value) (hz : (P.info? t).map (fun i => i.zero.map (·.cells)) = some (some cs.toArray))
    (hCA : ∀ W o, C W → C (W.alloc o)) (hC : C w) (h : ∀ b w', C w' → w.grownBy w' none → w.heap.size ≤ b → Blk w' b t cs → anyC P L.toArray C z Q N (listed.setIfInBounds i true) (a.put o.dst (.pointer (some ⟨b, 0, none⟩))) w') : anyC P L.toArray C z Q n listed a w := by
  refine one_of N hn [i] hr (by simp) fun j hj => ?_
  obtain rfl := List.mem_singleton.1 hj
  exact ⟨o, hi, hw, fun K hK => oper_new t ho cs hz (hK _ _ (.inr (hCA _ _ hC)) (h _ _ (hCA _ _ hC) (World.grownBy_alloc w _ none) (Nat.le_refl _) (blk_new w t cs)))⟩
/-- two new variables, in either order. -/
theorem new2 {L : List Oper} {i j : Nat} {oi oj : Oper} {di dj : Tmp} {n : Nat} {listed : Array Bool} {a : Act} {w : World} (N : Nat) (hn : n = N + 2) (hr : Region.ready .any L.toArray listed = [i, j]) (hij : i ≠ j)
    (hri : Region.ready .any L.toArray (listed.setIfInBounds i true) = [j]) (hrj : Region.ready .any L.toArray (listed.setIfInBounds j true) = [i])
    (hi : nth L i = some oi) (hj : nth L j = some oj) (hgi : oi.guard = none) (hgj : oj.guard = none) (t t' : TypeId) (hoi : oi.op = .alloc t) (hoj : oj.op = .alloc t') (hdi : oi.dst = some di) (hdj : oj.dst = some dj) (hd : di ≠ dj) (cs cs' : List Value)
    (hz : (P.info? t).map (fun i => i.zero.map (·.cells)) = some (some cs.toArray)) (hz' : (P.info? t').map (fun i => i.zero.map (·.cells)) = some (some cs'.toArray)) (hCA : ∀ W o, C W → C (W.alloc o)) (hC : C w)
    (h : ∀ b c w', C w' → w.grownBy w' none → w.heap.size ≤ b → w.heap.size ≤ c → b ≠ c → Blk w' b t cs → Blk w' c t' cs' → anyC P L.toArray C z Q N ((listed.setIfInBounds i true).setIfInBounds j true) ((a.put (some di) (.pointer (some ⟨b, 0, none⟩))).put (some dj) (.pointer (some ⟨c, 0, none⟩))) w') : anyC P L.toArray C z Q n listed a w := by
  have wi : ∀ a : Act, Region.wanted oi (yielded L.toArray a.tmps) = true := fun a => by simp [Region.wanted, hgi]
  have wj : ∀ a : Act, Region.wanted oj (yielded L.toArray a.tmps) = true := fun a => by simp [Region.wanted, hgj]
  have two : ∀ o1 o2 : Obj, w.grownBy ((w.alloc o1).alloc o2) none := fun o1 o2 => ⟨rfl, rfl, rfl, by simp; omega, fun k hk _ => by rw [Below.heap_alloc _ _ _ (by simp; omega), Below.heap_alloc _ _ _ hk]⟩
  refine one_of (N + 1) hn [i, j] hr (by simp) fun k hk => ?_
  by_cases e : k = i
  · subst e
    refine ⟨oi, hi, wi a, fun K hK => oper_new t hoi cs hz (hK _ _ (.inr (hCA _ _ hC)) ?_)⟩
    refine one_of N rfl [j] hri (by simp) fun m hm => ?_
    obtain rfl := List.mem_singleton.1 hm
    refine ⟨oj, hj, wj _, fun K hK => oper_new t' hoj cs' hz' (hK _ _ (.inr (hCA _ _ (hCA _ _ hC))) ?_)⟩
    rw [hdi, hdj]
    exact h _ _ _ (hCA _ _ (hCA _ _ hC)) (two _ _) (Nat.le_refl _) (by simp) (by simp) ((blk_new w t cs).alloc _) (blk_new _ t' cs')
  · have : k = j := by simpa [e] using hk
    subst this
    refine ⟨oj, hj, wj a, fun K hK => oper_new t' hoj cs' hz' (hK _ _ (.inr (hCA _ _ hC)) ?_)⟩
    refine one_of N rfl [i] hrj (by simp) fun m hm => ?_
    obtain rfl := List.mem_singleton.1 hm
    refine ⟨oi, hi, wi _, fun K hK => oper_new t hoi cs hz (hK _ _ (.inr (hCA _ _ (hCA _ _ hC))) ?_)⟩
    rw [hdi, hdj, put_comm (Ne.symm hd), Array.setIfInBounds_comm _ _ (Ne.symm hij)]
    exact h _ _ _ (hCA _ _ (hCA _ _ hC)) (two _ _) (by simp) (Nat.le_refl _) (by simp) (blk_new _ t cs) ((blk_new w t' cs').alloc _)
/-- a load behind a guard that is met. -/
theorem ld_want {ops : Array Oper} {rest : List Oper} {o : Oper} {a : Act} {w : World} (hw : Region.wanted o (yielded ops a.tmps) = true) (ty : TypeId) (x : Operand) (ho : o.op = .load ty x) (b k : Nat) (hx : a.eval x = .pointer (some ⟨b, k, none⟩)) (cs : List Value) (d : TypeDesc) (hS : w.rangeAt b k cs) (hu : P.underlying ty = some d) (hd : d.isRow = true) (hi : (P.info? ty).map (·.size) = some cs.length)
    (h : wpList P ops Q rest (a.put o.dst (.agg cs.toArray)) w) : wpList P ops Q (o :: rest) a w :=
  wpList_step fun _ hK => by rw [if_pos hw]; exact wp_load_mid ty x ho b k hx cs d hS hu hd hi (hK _ _ h)
end
end Go.Proofs.YtfkiciejipcgkaaDoor
