/-
  Regions that draw: one of several operations comes up; what each kind of operation does.
-/
import Derived.Test.YtoggcabenjmnoaaDoorOap
import Derived.Test.YtoggcabenjmnoaaDoorOrz
namespace Go.Proofs.YtoggcabenjmnoaaDoor
open Go Go.RowKit
set_option linter.unusedVariables false
section
variable {P : Program} {C : World → Prop} {z : Nat} {Q : Exit → Act → World → Prop}
theorem one_of {L : List Oper} {n : Nat} {listed : Array Bool} {a : Act} {w : World} (N : Nat) (hn : n = N + 1) (is : List Nat) (hr : Region.ready .any L.toArray listed = is) (hne : is ≠ [])
    (h : ∀ i ∈ is, ∃ o, nth L i = some o ∧ Region.wanted o (yielded L.toArray a.tmps) = true ∧ ∀ K : Act → World → Prop, (∀ a' w', (i = z ∨ C w') → anyC P L.toArray C z Q N (listed.setIfInBounds i true) a' w' → K a' w') → o.wp P a w K Q) : anyC P L.toArray C z Q n listed a w := by
  subst hn
  refine ⟨fun h0 => absurd (hr.symm.trans h0) hne, fun j hj => ?_⟩
  rw [hr] at hj
  obtain ⟨o, h1, h2, h3⟩ := h j hj
  unfold wpOp
  simp only [show L.toArray[j]? = some o by rw [List.getElem?_toArray, ← nth_eq, h1]]
  rw [if_pos h2]
  exact .inl (h3 _ fun a' w' hC h' => ⟨hC, h'⟩)
theorem two_do {L : List Oper} {i j : Nat} {oi oj : Oper} {n : Nat} {listed : Array Bool} {a : Act} {w : World} (N : Nat) (hn : n = N + 1) (hr : Region.ready .any L.toArray listed = [i, j]) (hi : nth L i = some oi) (hwi : Region.wanted oi (yielded L.toArray a.tmps) = true) (hj : nth L j = some oj) (hwj : Region.wanted oj (yielded L.toArray a.tmps) = true)
    (h1 : ∀ K : Act → World → Prop, (∀ a' w', C w' → anyC P L.toArray C z Q N (listed.setIfInBounds i true) a' w' → K a' w') → oi.wp P a w K Q) (h2 : ∀ K : Act → World → Prop, (∀ a' w', C w' → anyC P L.toArray C z Q N (listed.setIfInBounds j true) a' w' → K a' w') → oj.wp P a w K Q) : anyC P L.toArray C z Q n listed a w := by
  refine one_of N hn [i, j] hr (by simp) fun k hk => ?_
  by_cases e : k = i
  · subst e
    exact ⟨oi, hi, hwi, fun K hK => h1 K fun a' w' hC => hK a' w' (.inr hC)⟩
  · have : k = j := by simpa [e] using hk
    subst this
    exact ⟨oj, hj, hwj, fun K hK => h2 K fun a' w' hC => hK a' w' (.inr hC)⟩
end
theorem enters {P : Program} {f : FuncId} {fn : Func} {c : Code} (hf : P.funcs[f]? = some fn) (hname : (fn.name == "runtime.NumGoroutine") = false) (hb : fn.body = some c) : ∀ (args : Array Value) (w : World), (callFunc f args).run P w = .ok (.enter f args) w := by
  intro args w
  have h1 : fn.name ≠ "runtime.NumGoroutine" := by simpa using hname
  simp [callFunc, hf, h1, hb]
section
variable {o : Oper} {a : Act} {w : World} {K : Act → World → Prop} {Q : Exit → Act → World → Prop}
theorem oper_call (k : Nat) (xs : Array Operand) (ts : Array TypeId)
    (hop : o.op = Op.call { callee := Callee.value (Operand.func k), args := xs, argTypes := ts }) (args : Array Value) (hargs : xs.map a.eval = args)
    (hent : ∀ (args : Array Value) (w : World), (callFunc k args).run Tryd.prog w = .ok (.enter k args) w) (R : Value → World → Prop)
    (hc : Calls Tryd.prog k args w fun e w' => ∃ v, e = .returned v ∧ R v w') (hK : ∀ v w', R v w' → K (a.put o.dst v) w') : Oper.wp Tryd.prog o a w K Q := by
  unfold Oper.wp
  have : (execOp a.eval o).run Tryd.prog w = .ok (.enter k args) w := by
    simp [execOp, hop, resolve, invoke, Act.eval, hargs, hent, Deferred.ofValue]
  rw [this, Oper.upon_enter]
  refine hc.mono ?_
  rintro e w' ⟨v, rfl, hr⟩
  exact hK v w' hr
/-- A slice of one element. -/
theorem oper_byte (t : Nat) (ho : o.op = .buildSlice 42 1 #[(0, .tmp t)]) (n : Int) (hx : a.tmps.getD t undef = .int .u8 n) (hK : K (a.put o.dst (.slice (some ⟨w.heap.size, 0, none⟩) 1 1)) (w.alloc (.cells #[.int .u8 n] 5))) : Oper.wp Tryd.prog o a w K Q := by
  have hx' : a.tmps[t]?.getD undef = .int .u8 n := by simpa using hx
  unfold Oper.wp execOp
  simp only [ho]
  go_simp
  exact hK
theorem oper_name (t : Nat) (ho : o.op = .buildSlice 32 1 #[(0, .tmp t)]) (s : ByteArray) (hx : a.tmps.getD t undef = .string s) (hK : K (a.put o.dst (.slice (some ⟨w.heap.size, 0, none⟩) 1 1)) (w.alloc (.cells #[.string s] 9))) : Oper.wp Tryd.prog o a w K Q := by
  have hx' : a.tmps[t]?.getD undef = .string s := by simpa using hx
  unfold Oper.wp execOp
  simp only [ho]
  go_simp
  exact hK
theorem oper_kid (t : Nat) (ho : o.op = .buildSlice 22 1 #[(0, .tmp t)]) (v0 v1 v2 v3 v4 v5 : Value) (hx : a.tmps.getD t undef = .agg #[v0, v1, v2, v3, v4, v5]) (hK : K (a.put o.dst (.slice (some ⟨w.heap.size, 0, none⟩) 1 1)) (w.alloc (.cells #[v0, v1, v2, v3, v4, v5] 34))) : Oper.wp Tryd.prog o a w K Q := by
  have hx' : a.tmps[t]?.getD undef = .agg #[v0, v1, v2, v3, v4, v5] := by simpa using hx
  unfold Oper.wp execOp
  simp only [ho]
  go_simp
  exact hK
end
end Go.Proofs.YtoggcabenjmnoaaDoor
