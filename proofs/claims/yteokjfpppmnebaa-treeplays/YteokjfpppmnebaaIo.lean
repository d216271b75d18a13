/-
  A region that draws its order and holds a call of yield: Orz's law, where machines are fenced in by the widest fence.
-/
import Derived.Test.YteokjfpppmnebaaNor
import Derived.OrdersIn
import Derived.ControlIn
import Derived.RangeFuncSeq
namespace Go.Proofs.Yteokjfpppmnebaa
open Go
section
variable {P : Program} {ops : Array Oper} {C : World → Prop} {z m : Nat} {Q : Exit → Act → World → Prop}
theorem wfn {w : World} {o : Oper} {a : Act} : ∀ f, o.about P w a.eval = some f → Fence.wide.fn f := fun _ _ => trivial
def anyI (P : Program) (ops : Array Oper) (C : World → Prop) (z m : Nat) (Q : Exit → Act → World → Prop) : Nat → Array Bool → Act → World → Prop
  | 0, listed, a, w => Region.ready .any ops listed = [] ∧ Q .normal a w
  | n + 1, listed, a, w => (Region.ready .any ops listed = [] → Q .normal a w) ∧
      ∀ i ∈ Region.ready .any ops listed, wpOpIn Fence.wide m P ops (Whole Q) i (fun a' w' => ((listed.setIfInBounds i true).getD z true = true ∨ C w') ∧ anyI P ops C z m Q n (listed.setIfInBounds i true) a' w') a w
theorem calm_opI {i : Nat} {o : Oper} {v : Value} {a : Act} {w : World} (hi : ops[i]? = some o) (hy : Calm P ops C o v a) (hC : C w) {K : Act → World → Prop} (h : K (a.put o.dst v) w) : wpOpIn Fence.wide m P ops Q i K a w := by
  unfold wpOpIn
  simp only [hi]
  rcases hy with ⟨hw, hv⟩ | ⟨hw, rfl⟩
  · rw [if_pos hw]
    unfold Oper.wpIn
    refine ⟨wfn, ?_⟩
    rw [Fence.wide_round, Oper.semAt_none]
    simp only [hv w hC, Oper.uponIn]
    exact h
  · rw [if_neg (by rw [hw]; exact Bool.false_ne_true)]
    exact ⟨wfn, h⟩
theorem op_behindI {j : Nat} {oj : Oper} {a : Act} {w : World} {K : Act → World → Prop} (hj : ops[j]? = some oj) (h : wpOpIn Fence.wide m P ops Q j K a w) : wpOpIn Fence.wide m P ops Q j (fun a' w' => Behind a oj a' ∧ K a' w') a w := by
  unfold wpOpIn at *
  simp only [hj] at *
  by_cases hw : Region.wanted oj (yielded ops a.tmps) = true
  · rw [if_pos hw] at h ⊢
    unfold Oper.wpIn at *
    refine ⟨h.1, ?_⟩
    have h := h.2
    rw [Fence.wide_round, Oper.semAt_none] at h ⊢
    generalize (execOp a.eval oj).run P w = r at *
    cases r with
    | ok n w' =>
      cases n <;> simp only [Oper.uponIn] at h ⊢
      case value u => exact ⟨⟨u, .inl rfl⟩, h⟩
      case skip => exact ⟨⟨_, .inl rfl⟩, h⟩
      case defer d => exact ⟨⟨_, .inr ⟨d, rfl⟩⟩, h⟩
      case enter f args =>
        refine ⟨h.1, CallsIn.mono h.2 fun e w'' he => ?_⟩
        cases e with
        | returned u => exact ⟨⟨u, .inl rfl⟩, he⟩
        | panicked c => exact he
        | outgrown => exact he
      case row row args => exact ⟨h.1, RowsIn.mono h.2 fun u w'' he => ⟨⟨u, .inl rfl⟩, he⟩⟩
      case round l f tmps assign body =>
        refine ⟨h.1, RoundIn.mono h.2 fun e w'' he => ?_⟩
        cases e with
        | returned u => exact ⟨⟨u, .inl rfl⟩, he⟩
        | panicked c => exact he
        | outgrown => exact he
    | halt x w' => cases x <;> simp only [Oper.uponIn] at h ⊢ <;> exact h
  · rw [if_neg hw] at h ⊢
    exact ⟨h.1, ⟨_, .inl rfl⟩, h.2⟩
theorem put_firstI {j : Nat} {oi oj : Oper} {v : Value} (hj : ops[j]? = some oj) (hap : oi.apart ops oj = true) (hsi : ∀ cs b, oi.op ≠ .select cs b) (hsj : ∀ cs b, oj.op ≠ .select cs b)
    (hQ : ∀ c (a : Act) (d : Option Tmp) v w, Q (.panic c) (a.put d v) w → Q (.panic c) a w) {K : Act → World → Prop} {a : Act} {w : World} (hy : Calm P ops C oi v a) (h : wpOpIn Fence.wide m P ops Q j K (a.put oi.dst v) w) :
    wpOpIn Fence.wide m P ops Q j (fun a' w' => Calm P ops C oi v a' ∧ K (a'.put oi.dst v) w') a w := by
  have h1 := wpOpIn_put (oi := { oi with op := .move (.const v), guard := none }) (v := v) rfl hj (stand_apart v hap) (fun _ _ e => by cases e) hsj (fun _ _ _ h => hQ _ _ _ _ _ h) (a := a) ⟨.inl ⟨rfl, fun _ => rfl⟩, fun _ => rfl⟩ h
  exact wpOpIn_mono (fun a' w' h' => ⟨hy.behind hsi hap h'.1, h'.2.2⟩) (op_behindI hj h1)
theorem anyI_first {i : Nat} {oi : Oper} {v : Value} (hi : ops[i]? = some oi) (hz : depOn ops ops.size z i = true) (hiz : i ≠ z) (hsel : Region.noSelect ops = true) :
    ∀ (n : Nat) (listed : Array Bool) (a : Act) (w : World), Closed ops listed → C w →
      (∀ j oj, ops[j]? = some oj → j ≠ i → listed.getD j true = false → (∀ e ∈ oj.after, Region.binds .any e = true → e.on ≠ i) → oi.apart ops oj = true) →
      i ∈ Region.ready .any ops listed → Calm P ops C oi v a → anyI P ops C z m Q n (listed.setIfInBounds i true) (a.put oi.dst v) w → anyI P ops C z m Q (n + 1) listed a w := by
  intro n
  induction n with
  | zero =>
    intro listed a w hcl hC _ hr hy H
    refine ⟨fun h => absurd hr (by rw [h]; exact List.not_mem_nil), fun j hj => ?_⟩
    by_cases e : j = i
    · subst e
      exact calm_opI hi hy hC ⟨.inr hC, H⟩
    · have := ready_mono hj e
      rw [H.1] at this
      exact absurd this List.not_mem_nil
  | succ n ih =>
    intro listed a w hcl hC hfree hr hy H
    refine ⟨fun h => absurd hr (by rw [h]; exact List.not_mem_nil), fun j hj => ?_⟩
    by_cases e : j = i
    · subst e
      exact calm_opI hi hy hC ⟨.inr hC, H⟩
    · obtain ⟨hun, oj, hoj, hall⟩ := mem_ready.1 hj
      have hi0 := (mem_ready.1 hr).1
      have hnot : ∀ e ∈ oj.after, Region.binds .any e = true → e.on ≠ i := fun ed he hb heq => by
        have h1 := hall ed he hb
        rw [heq, Array.getD_eq_getD_getElem?] at h1
        rw [Array.getD_eq_getD_getElem?] at hi0
        cases hg : listed[i]? with
        | none => rw [hg] at hi0; cases hi0
        | some b => rw [hg] at h1 hi0; simp at h1 hi0; rw [h1] at hi0; cases hi0
      have hjz : j ≠ z := by
        rintro rfl
        have h1 := dep_listed hcl i ops.size j oj hoj (fun e he hb => by
          have h3 := hall e he hb
          rw [Array.getD_eq_getD_getElem?] at h3 ⊢
          cases hg : listed[e.on]? with
          | none => rfl
          | some b => rw [hg] at h3; simpa using h3) hz
        rw [h1] at hi0
        cases hi0
      have hzu : ((listed.setIfInBounds i true).setIfInBounds j true).getD z true = false := by
        rw [getD_set_ne true hjz, getD_set_ne true hiz]
        cases hl : listed.getD z true with
        | false => rfl
        | true =>
          cases hoz : ops[z]? with
          | none =>
            have : depOn ops ops.size z i = false := by
              cases hs : ops.size with
              | zero => rfl
              | succ k => simp [depOn, hoz]
            rw [this] at hz; cases hz
          | some oz =>
            have h1 := dep_listed hcl i ops.size z oz hoz (hcl z oz hoz hl) hz
            rw [h1] at hi0
            cases hi0
      have h2 := put_firstI hoj (hfree j oj hoj e hun hnot) (fun cs b => Region.noSelect_spec hsel i oi cs b hi) (fun cs b => Region.noSelect_spec hsel j oj cs b hoj) whole_blind hy (H.2 j (ready_mono hj e))
      refine wpOpIn_mono (fun a' w' h3 => ⟨.inr (h3.2.1.resolve_left (by rw [hzu]; exact Bool.false_ne_true)), ih (listed.setIfInBounds j true) a' w' (closed_set hcl hj) (h3.2.1.resolve_left (by rw [hzu]; exact Bool.false_ne_true)) (fun k ok hk hki hku hno => hfree k ok hk hki ?_ hno) (ready_mono hr (Ne.symm e)) h3.1 ?_⟩) h2
      · by_cases hjk : j = k
        · rw [← hjk]; exact hun
        · rw [getD_set_ne true hjk] at hku; exact hku
      · rw [Array.setIfInBounds_comm _ _ e]
        exact h3.2.2
def segBI (ops : Array Oper) (z : Nat) : Array Bool → List Nat → Bool
  | _, [] => true
  | listed, i :: r => (depOn ops ops.size z i && (!(i == z) && closedB ops listed)) && ((Region.ready .any ops listed).contains i && (Region.free .any ops listed i && ((match ops[i]? with | some o => atOnce o.op | none => false) && segBI ops z (listed.setIfInBounds i true) r)))
theorem calm_segI (hsel : Region.noSelect ops = true) {w : World} (hC : C w) (n : Nat) : ∀ (l : List Nat) (L : List Oper) (listed : Array Bool) (a : Act), segBI ops z listed l = true → l.map (fun i => ops[i]?) = L.map some →
    wpQuiet P ops C (fun a' => anyI P ops C z m Q n (marks listed l) a' w) L a → anyI P ops C z m Q (n + l.length) listed a w
  | [], [], _, _, _, _, h => h
  | [], _ :: _, _, _, _, e, _ => by cases e
  | _ :: _, [], _, _, _, e, _ => by cases e
  | i :: l, o :: L, listed, a, hB, e, h => by
    simp only [List.map_cons, List.cons.injEq] at e
    obtain ⟨e0, e1⟩ := e
    simp only [segBI, e0, Bool.and_eq_true] at hB
    obtain ⟨⟨hz, hiz, hcl⟩, hr, hf, ho, hB'⟩ := hB
    have go : ∀ v, Calm P ops C o v a → wpQuiet P ops C (fun a' => anyI P ops C z m Q n (marks (listed.setIfInBounds i true) l) a' w) L (a.put o.dst v) → anyI P ops C z m Q (n + (i :: l).length) listed a w := fun v hy h' =>
      anyI_first e0 hz (by simpa using hiz) hsel (n + l.length) listed a w (closedB_spec hcl) hC (Region.free_spec e0 hf) (by simpa using hr) hy (calm_segI hsel hC n l L _ _ hB' e1 h')
    by_cases hw : Region.wanted o (yielded ops a.tmps) = true
    · have h' : o.quiet P a C (wpQuiet P ops C (fun a' => anyI P ops C z m Q n (marks (listed.setIfInBounds i true) l) a' w) L) := by
        have := h
        unfold wpQuiet at this
        rw [if_pos hw] at this
        exact this
      obtain ⟨v, hy, hk⟩ := Calm.of_quiet ho hw h'
      exact go v hy hk
    · have h' : wpQuiet P ops C (fun a' => anyI P ops C z m Q n (marks (listed.setIfInBounds i true) l) a' w) L (a.put o.dst undef) := by
        have := h
        unfold wpQuiet at this
        rw [if_neg hw] at this
        exact this
      exact go undef (.inr ⟨by simpa using hw, rfl⟩) h'
theorem wopI {i : Nat} {K : Act → World → Prop} {a : Act} {w : World} (h : wpOpIn Fence.wide m P ops (Whole Q) i K a w) : wpOpIn Fence.wide m P ops Q i K a w := by
  unfold wpOpIn at *
  cases ho : ops[i]? with
  | none => simp only [ho] at h ⊢; exact h
  | some o =>
    simp only [ho] at h ⊢
    by_cases hw : Region.wanted o (yielded ops a.tmps) = true
    · rw [if_pos hw] at h ⊢
      unfold Oper.wpIn at *
      refine ⟨h.1, ?_⟩
      have h := h.2
      generalize (o.semAt Fence.wide.round a.eval).run P w = r at *
      cases r with
      | ok n w' =>
        cases n <;> simp only [Oper.uponIn] at h ⊢ <;> first
          | exact h
          | exact ⟨h.1, CallsIn.mono h.2 (fun e w'' he => by cases e <;> first | exact he | exact (whole_lets he).elim | (cases (And.left he)))⟩
          | exact ⟨h.1, RowsIn.mono h.2 (fun _ _ he => he)⟩
          | exact ⟨h.1, RoundIn.mono h.2 (fun e w'' he => by cases e <;> first | exact he | exact (whole_lets he).elim | (cases (And.left he)))⟩
      | halt x w' => cases x <;> simp only [Oper.uponIn] at h ⊢ <;> first | exact h | (cases h.1)
    · rw [if_neg hw] at h ⊢
      exact h
theorem anyI_any : ∀ (n : Nat) (listed : Array Bool) (a : Act) (w : World), anyI P ops C z m Q n listed a w → wpAnyIn Fence.wide m P .any ops Q n listed a w
  | 0, _, _, _, h => h
  | n + 1, _, _, _, h => ⟨h.1, fun i hi => wpOpIn_mono (fun a' w' h' => anyI_any n _ a' w' h'.2) (wopI (h.2 i hi))⟩
theorem region_I {id : Nat} {a : Act} {w : World} (C : World → Prop) (z m : Nat) (hm : P.follows .mixedOrders = true) (h : anyI P ops C z m Q ops.size (Array.replicate ops.size false) a { w with drawn := w.drawn + 1 }) : (Code.region id ops true).wp P Q a w :=
  (wpIn_wide (n := m)).1 (wpIn_region_any hm (anyI_any _ _ _ _ h))
theorem segI {L : List Oper} {n : Nat} {listed : Array Bool} {a : Act} {w : World} (N : Nat) (l : List Nat) (hn : n = N + l.length) (hsel : Region.noSelect L.toArray = true) (hC : C w)
    (hB : segBI L.toArray z listed l = true) (h : wpQuiet P L.toArray C (fun a' => anyI P L.toArray C z m Q N (marks listed l) a' w) (picks L l) a) : anyI P L.toArray C z m Q n listed a w := by
  subst hn
  refine calm_segI hsel hC N l (picks L l) listed a hB ?_ h
  clear h
  induction l generalizing listed with
  | nil => rfl
  | cons i r ih =>
    simp only [segBI, Bool.and_eq_true] at hB
    have h1 := ih hB.2.2.2.2
    have h2 := hB.2.2.2.1
    rw [List.getElem?_toArray, ← nth_eq] at h2
    unfold picks
    cases hg : nth L i with
    | none => rw [hg] at h2; cases h2
    | some o =>
      simp only [List.map_cons]
      rw [h1, List.getElem?_toArray, ← nth_eq, hg]
/-- An operation that alone may come up: it keeps the class, or it is the last one. -/
theorem loneI {L : List Oper} {i : Nat} {o : Oper} {n : Nat} {listed : Array Bool} {a : Act} {w : World} (N : Nat) (hn : n = N + 1) (hr : Region.ready .any L.toArray listed = [i]) (hi : nth L i = some o) (hw : Region.wanted o (yielded L.toArray a.tmps) = true)
    (h : ∀ K : Act → World → Prop, (∀ a' w', ((listed.setIfInBounds i true).getD z true = true ∨ C w') → anyI P L.toArray C z m Q N (listed.setIfInBounds i true) a' w' → K a' w') → o.wpIn Fence.wide m P a w K (Whole Q)) : anyI P L.toArray C z m Q n listed a w := by
  subst hn
  refine ⟨fun h0 => (by rw [hr] at h0; cases h0), fun j hj => ?_⟩
  rw [hr] at hj
  obtain rfl := List.mem_singleton.1 hj
  unfold wpOpIn
  simp only [List.getElem?_toArray, ← nth_eq, hi]
  rw [if_pos hw]
  exact h _ fun a' w' hC h' => ⟨hC, h'⟩
theorem passI {L : List Oper} {i : Nat} {o : Oper} {n : Nat} {listed : Array Bool} {a : Act} {w : World} (N : Nat) (hn : n = N + 1) (hr : Region.ready .any L.toArray listed = [i]) (hi : nth L i = some o) (hw : Region.wanted o (yielded L.toArray a.tmps) = false) (hC : (listed.setIfInBounds i true).getD z true = true ∨ C w)
    (h : anyI P L.toArray C z m Q N (listed.setIfInBounds i true) (a.put o.dst undef) w) : anyI P L.toArray C z m Q n listed a w := by
  subst hn
  refine ⟨fun h0 => (by rw [hr] at h0; cases h0), fun j hj => ?_⟩
  rw [hr] at hj
  obtain rfl := List.mem_singleton.1 hj
  unfold wpOpIn
  simp only [List.getElem?_toArray, ← nth_eq, hi]
  rw [if_neg (by rw [hw]; exact Bool.false_ne_true)]
  exact ⟨wfn, hC, h⟩
theorem doneI {n : Nat} {listed : Array Bool} {a : Act} {w : World} (hr : Region.ready .any ops listed = []) (h : Q .normal a w) : anyI P ops C z m Q n listed a w := by
  cases n with
  | zero => exact ⟨hr, h⟩
  | succ n => exact ⟨fun _ => h, by rw [hr]; simp⟩
/-- An operation that alone may come up and is carried out at once, behind the last one too. -/
theorem calmI {L : List Oper} {i : Nat} {o : Oper} {n : Nat} {listed : Array Bool} {a : Act} {w : World} (N : Nat) (hn : n = N + 1) (hr : Region.ready .any L.toArray listed = [i]) (hi : nth L i = some o) (ho : atOnce o.op = true) (hC : (listed.setIfInBounds i true).getD z true = true ∨ C w)
    (h : wpQuiet P L.toArray (fun W => W = w) (fun a' => anyI P L.toArray C z m Q N (listed.setIfInBounds i true) a' w) [o] a) : anyI P L.toArray C z m Q n listed a w := by
  subst hn
  have hi' : L.toArray[i]? = some o := by rw [List.getElem?_toArray, ← nth_eq, hi]
  refine ⟨fun h0 => (by rw [hr] at h0; cases h0), fun j hj => ?_⟩
  rw [hr] at hj
  obtain rfl := List.mem_singleton.1 hj
  by_cases hw : Region.wanted o (yielded L.toArray a.tmps) = true
  · have h' : o.quiet P a (fun W => W = w) (wpQuiet P L.toArray (fun W => W = w) (fun a' => anyI P L.toArray C z m Q N (listed.setIfInBounds j true) a' w) []) := by
      have := h
      unfold wpQuiet at this
      rw [if_pos hw] at this
      exact this
    obtain ⟨v, hy, hk⟩ := Calm.of_quiet ho hw h'
    exact calm_opI hi' hy rfl ⟨hC, hk⟩
  · have h' : wpQuiet P L.toArray (fun W => W = w) (fun a' => anyI P L.toArray C z m Q N (listed.setIfInBounds j true) a' w) [] (a.put o.dst undef) := by
      have := h
      unfold wpQuiet at this
      rw [if_neg hw] at this
      exact this
    exact calm_opI (C := fun W => W = w) (v := undef) hi' (.inr ⟨by simpa using hw, rfl⟩) rfl ⟨hC, h'⟩
theorem callI {o : Oper} {a : Act} {w : World} {K : Act → World → Prop} (k : Nat) (xs : Array Operand) (ts : Array TypeId) (hop : o.op = Op.call { callee := Callee.value (Operand.func k), args := xs, argTypes := ts }) (args : Array Value) (hargs : xs.map a.eval = args)
    (hent : ∀ (args : Array Value) (w : World), (callFunc k args).run P w = .ok (.enter k args) w) (R : Value → World → Prop) (hc : Calls P k args w fun e w' => ∃ v, e = .returned v ∧ R v w') (h : ∀ v w', R v w' → K (a.put o.dst v) w') : o.wpIn Fence.wide m P a w K Q := by
  unfold Oper.wpIn
  refine ⟨wfn, ?_⟩
  rw [Fence.wide_round, Oper.semAt_none]
  have e : (execOp a.eval o).run P w = .ok (.enter k args) w := by
    simp [execOp, hop, resolve, invoke, Act.eval, hargs, hent, Deferred.ofValue]
  rw [e]
  simp only [Oper.uponIn]
  refine ⟨fun h => (by cases h), (callsIn_wide.2 hc).mono ?_⟩
  rintro e w' ⟨v, rfl, h'⟩
  exact h v w' h'
theorem yieldI {o : Oper} {a : Act} {w : World} {K : Act → World → Prop} (x : Operand) (xs : Array Operand) (ts : Array TypeId) (hop : o.op = Op.call { callee := Callee.value x, args := xs, argTypes := ts }) (l : Nat) (hx : a.eval x = .func (.yield l) #[] #[]) (args : Array Value) (hargs : xs.map a.eval = args)
    (R : Ending → World → Prop) (hY : YieldAt Fence.wide (m - 1) P l args w R) (h : ∀ e w', R e w' → ∃ v, e = .returned v ∧ K (a.put o.dst v) w') : o.wpIn Fence.wide m P a w K Q := by
  obtain ⟨fn, tmps, assign, body, hy, hR⟩ := hY
  unfold Oper.wpIn
  refine ⟨wfn, ?_⟩
  rw [Fence.wide_round, Oper.semAt_none]
  have e : (execOp a.eval o).run P w = .ok (.round l fn tmps assign body) w := by
    have r1 : (resolve a.eval { callee := Callee.value x, args := xs, argTypes := ts } o.type).run P w = .ok { target := .fn (.yield l) #[], args := args } w := by
      simp only [resolve, hx, hargs]
      simp [Deferred.ofValue]
    have r2 : (invoke (.fn (.yield l) #[]) args).run P w = .ok (.round l fn tmps assign body) w := by simp [invoke, hy]
    unfold execOp
    simp only [hop, Sem.run_bind, r1, Result.andThen_ok, r2]
  rw [e]
  simp only [Oper.uponIn]
  refine ⟨fun h => (by cases h), hR.mono ?_⟩
  intro e w' h'
  obtain ⟨v, rfl, hk⟩ := h e w' h'
  exact hk
end
#print axioms yieldI
end Go.Proofs.Yteokjfpppmnebaa
