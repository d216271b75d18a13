/-
  A region that draws its order, in a class of worlds that every operation keeps: an operation that in every world of the class yields one value and leaves the world alone may be taken first; one that alone may come up is carried out where it stands, whatever it does to the world within the class. · Rows of values for copyOf: where they come from, and what a round leaves.
-/
import Derived.Deep.Quiet
import Derived.Deep.RegionLaw
import Derived.Test.YtlefdnjokppibaaGreatDoorVClo
namespace Go.Proofs.YtlefdnjokppibaaGreatDoor
open Go
section
variable {P : Program} {ops : Array Oper} {C : World → Prop} {z : Nat} {Q : Exit → Act → World → Prop}
/-- The operation of the number z comes last of all: it need not keep the class. -/
def anyC (P : Program) (ops : Array Oper) (C : World → Prop) (z : Nat) (Q : Exit → Act → World → Prop) : Nat → Array Bool → Act → World → Prop
  | 0, listed, a, w => Region.ready .any ops listed = [] ∧ Q .normal a w
  | n + 1, listed, a, w => (Region.ready .any ops listed = [] → Q .normal a w) ∧
      ∀ i ∈ Region.ready .any ops listed, wpOp P ops Q i (fun a' w' => (i = z ∨ C w') ∧ anyC P ops C z Q n (listed.setIfInBounds i true) a' w') a w
def Calm (P : Program) (ops : Array Oper) (C : World → Prop) (o : Oper) (v : Value) (a : Act) : Prop :=
  (Region.wanted o (yielded ops a.tmps) = true ∧ ∀ w, C w → (execOp a.eval o).run P w = .ok (.value v) w) ∨ (Region.wanted o (yielded ops a.tmps) = false ∧ v = undef)
theorem Calm.op {i : Nat} {o : Oper} {v : Value} {a : Act} {w : World} (hi : ops[i]? = some o) (hy : Calm P ops C o v a) (hC : C w) {K : Act → World → Prop} (h : K (a.put o.dst v) w) : wpOp P ops Q i K a w := by
  unfold wpOp
  simp only [hi]
  rcases hy with ⟨hw, hv⟩ | ⟨hw, rfl⟩
  · rw [if_pos hw]
    left
    simp only [Oper.wp, hv w hC, Oper.upon]
    exact h
  · rw [if_neg (by rw [hw]; exact Bool.false_ne_true)]
    exact h
/-- What a frame is behind an operation. -/
def Behind (a : Act) (o : Oper) (a' : Act) : Prop := ∃ u, a' = a.put o.dst u ∨ ∃ d, a' = ({ a with defers := d :: a.defers } : Act).put o.dst u
theorem op_behind {j : Nat} {oj : Oper} {a : Act} {w : World} {K : Act → World → Prop} (hj : ops[j]? = some oj) (h : wpOp P ops Q j K a w) : wpOp P ops Q j (fun a' w' => Behind a oj a' ∧ K a' w') a w := by
  unfold wpOp at *
  simp only [hj] at *
  by_cases hw : Region.wanted oj (yielded ops a.tmps) = true
  · rw [if_pos hw] at h ⊢
    rcases h with h | h
    case inr => exact .inr h
    left
    unfold Oper.wp at *
    generalize (execOp a.eval oj).run P w = r at *
    cases r with
    | ok n w' =>
      cases n <;> simp only [Oper.upon] at h ⊢
      case value u => exact ⟨⟨u, .inl rfl⟩, h⟩
      case skip => exact ⟨⟨_, .inl rfl⟩, h⟩
      case defer d => exact ⟨⟨_, .inr ⟨d, rfl⟩⟩, h⟩
      case enter f args =>
        refine Calls.mono h fun e w'' he => ?_
        cases e with
        | returned u => exact ⟨⟨u, .inl rfl⟩, he⟩
        | panicked c => exact he
        | outgrown => exact he
      case row row args => exact Rows.mono h fun u w'' he => ⟨⟨u, .inl rfl⟩, he⟩
    | halt x w' => cases x <;> simp only [Oper.upon] at h ⊢ <;> exact h
  · rw [if_neg hw] at h ⊢
    exact ⟨⟨_, .inl rfl⟩, h⟩
theorem Calm.same {o : Oper} {v : Value} {a a' : Act} (hy : Calm P ops C o v a) (he : execOp a'.eval o = execOp a.eval o) (hw : Region.wanted o (yielded ops a'.tmps) = Region.wanted o (yielded ops a.tmps)) : Calm P ops C o v a' := by
  unfold Calm at *
  rw [he, hw]
  exact hy
theorem Calm.behind {oi oj : Oper} {v : Value} {a a' : Act} (hs : ∀ cs b, oi.op ≠ .select cs b) (hap : oi.apart ops oj = true) (hy : Calm P ops C oi v a) (hb : Behind a oj a') : Calm P ops C oi v a' := by
  obtain ⟨_, _, h3⟩ := Oper.apart_spec hap
  obtain ⟨u, rfl | ⟨d, rfl⟩⟩ := hb
  · exact hy.same (execOp_put oi hs a oj.dst u h3) (wanted_put oi a oj.dst u h3)
  · have hy' : Calm P ops C oi v { a with defers := d :: a.defers } := hy.same rfl rfl
    exact hy'.same (execOp_put oi hs _ oj.dst u h3) (wanted_put oi _ oj.dst u h3)
theorem stand_apart {oi oj : Oper} (v : Value) (h : oi.apart ops oj = true) : ({ oi with op := .move (.const v), guard := none } : Oper).apart ops oj = true := by
  unfold Oper.apart at *
  rw [Bool.and_eq_true] at *
  refine ⟨h.1, ?_⟩
  cases oj.dst with
  | none => rfl
  | some d => simp [Oper.looksAt, Op.operands]
theorem put_first {j : Nat} {oi oj : Oper} {v : Value} (hj : ops[j]? = some oj) (hap : oi.apart ops oj = true) (hsi : ∀ cs b, oi.op ≠ .select cs b) (hsj : ∀ cs b, oj.op ≠ .select cs b)
    (hQ : ∀ c (a : Act) (d : Option Tmp) v w, Q (.panic c) (a.put d v) w → Q (.panic c) a w) {K : Act → World → Prop} {a : Act} {w : World} (hy : Calm P ops C oi v a) (h : wpOp P ops Q j K (a.put oi.dst v) w) :
    wpOp P ops Q j (fun a' w' => Calm P ops C oi v a' ∧ K (a'.put oi.dst v) w') a w := by
  have h1 := wpOp_put (oi := { oi with op := .move (.const v), guard := none }) (v := v) hj (stand_apart v hap) (fun _ _ e => by cases e) hsj (fun _ _ _ h => hQ _ _ _ _ _ h) (a := a) (.inl ⟨rfl, fun _ => rfl⟩) h
  exact wpOp_mono (fun a' w' h' => ⟨hy.behind hsi hap h'.1, h'.2.2⟩) (op_behind hj h1)
theorem anyC_first {i : Nat} {oi : Oper} {v : Value} (hi : ops[i]? = some oi) (hz : ∃ oz, ops[z]? = some oz ∧ ∃ e ∈ oz.after, Region.binds .any e = true ∧ e.on = i) (hsel : Region.noSelect ops = true) (hQ : ∀ c (a : Act) (d : Option Tmp) v w, Q (.panic c) (a.put d v) w → Q (.panic c) a w) :
    ∀ (n : Nat) (listed : Array Bool) (a : Act) (w : World), C w →
      (∀ j oj, ops[j]? = some oj → j ≠ i → listed.getD j true = false → (∀ e ∈ oj.after, Region.binds .any e = true → e.on ≠ i) → oi.apart ops oj = true) →
      i ∈ Region.ready .any ops listed → Calm P ops C oi v a → anyC P ops C z Q n (listed.setIfInBounds i true) (a.put oi.dst v) w → anyC P ops C z Q (n + 1) listed a w := by
  intro n
  induction n with
  | zero =>
    intro listed a w hC _ hr hy H
    refine ⟨fun h => absurd hr (by rw [h]; exact List.not_mem_nil), fun j hj => ?_⟩
    by_cases e : j = i
    · subst e
      exact hy.op hi hC ⟨.inr hC, H⟩
    · have := ready_mono hj e
      rw [H.1] at this
      exact absurd this List.not_mem_nil
  | succ n ih =>
    intro listed a w hC hfree hr hy H
    refine ⟨fun h => absurd hr (by rw [h]; exact List.not_mem_nil), fun j hj => ?_⟩
    by_cases e : j = i
    · subst e
      exact hy.op hi hC ⟨.inr hC, H⟩
    · obtain ⟨hun, oj, hoj, hall⟩ := mem_ready.1 hj
      have hi0 := (mem_ready.1 hr).1
      have hnot : ∀ e ∈ oj.after, Region.binds .any e = true → e.on ≠ i := fun ed he hb heq => by
        have h1 := hall ed he hb
        rw [heq, Array.getD_eq_getD_getElem?] at h1
        rw [Array.getD_eq_getD_getElem?] at hi0
        cases hg : listed[i]? with
        | none => rw [hg] at hi0; cases hi0
        | some b => rw [hg] at h1 hi0; simp at h1 hi0; rw [h1] at hi0; cases hi0
      have hjz : j ≠ z := by
        rintro rfl
        obtain ⟨oz, h1, ed, h2, h3, h4⟩ := hz
        rw [hoj] at h1
        obtain rfl := Option.some.inj h1
        exact hnot ed h2 h3 h4
      have h2 := put_first hoj (hfree j oj hoj e hun hnot) (fun cs b => Region.noSelect_spec hsel i oi cs b hi) (fun cs b => Region.noSelect_spec hsel j oj cs b hoj) hQ hy (H.2 j (ready_mono hj e))
      refine wpOp_mono (fun a' w' h3 => ⟨.inr (h3.2.1.resolve_left hjz), ih (listed.setIfInBounds j true) a' w' (h3.2.1.resolve_left hjz) (fun k ok hk hki hku hno => hfree k ok hk hki ?_ hno) (ready_mono hr (Ne.symm e)) h3.1 ?_⟩) h2
      · by_cases hjk : j = k
        · rw [← hjk]; exact hun
        · rw [getD_set_ne true hjk] at hku; exact hku
      · rw [Array.setIfInBounds_comm _ _ e]
        exact h3.2.2
/-- The kinds of operation that are carried out at once and enter no function. -/
def atOnce : Op → Bool
  | .move _ | .assign _ | .pick .. | .load .. | .binOp .. | .unOp .. | .indexAddr .. | .index .. | .fieldAddr .. | .field .. | .extract .. | .convert .. | .slice .. | .build .. | .nilCheck _ => true
  | _ => false
theorem nil_value {ρ : Operand → Value} {o : Oper} {x : Operand} {w w' : World} {n : Next} (hop : o.op = .nilCheck x) (he : (execOp ρ o).run P w = .ok n w') : ∃ v, n = .value v := by
  have pan : ∀ m : Next, ¬ (runtimePanic .nilDeref : Sem Next).run P w = .ok m w' := fun m h => by simp [runtimePanic, go_sem] at h
  unfold execOp at he
  simp only [hop] at he
  generalize ρ x = y at he
  split at he
  · exact (pan _ he).elim
  · exact (pan _ he).elim
  · exact (pan _ he).elim
  · split at he
    · exact (pan _ he).elim
    · rw [Sem.run_bind] at he
      generalize (program : Sem Program).run P w = r at he
      cases r with
      | halt a b => cases he
      | ok p w1 =>
        rw [Result.andThen_ok, Sem.run_bind] at he
        generalize (nilAhead _ _ _ _).run P w1 = r at he
        cases r with
        | halt a b => cases he
        | ok q w2 =>
          rw [Result.andThen_ok] at he
          split at he
          · rw [Sem.run_bind] at he
            generalize (unsupported _ : Sem PUnit).run P w2 = r at he
            cases r with
            | halt a b => cases he
            | ok q w2 => rw [Result.andThen_ok, Sem.run_pure] at he; injection he with he; exact ⟨_, he.symm⟩
          · first
            | (rw [Sem.run_pure] at he; injection he with he; exact ⟨_, he.symm⟩)
            | (rw [Sem.run_bind, Sem.run_pure, Result.andThen_ok, Sem.run_pure] at he; injection he with he; exact ⟨_, he.symm⟩)
    · rw [Sem.run_pure] at he; injection he with he; exact ⟨_, he.symm⟩
  · rw [Sem.run_pure] at he; injection he with he; exact ⟨_, he.symm⟩
theorem once_value {ρ : Operand → Value} {o : Oper} {w w' : World} {n : Next} (h : atOnce o.op = true) (he : (execOp ρ o).run P w = .ok n w') : ∃ v, n = .value v := by
  have key : ∀ (s : Sem Value), (do pure (Next.value (← s)) : Sem Next).run P w = .ok n w' → ∃ v, n = .value v := fun s hs => by
    rw [Sem.run_bind] at hs
    cases hr : s.run P w with
    | ok x y =>
      rw [hr, Result.andThen_ok, Sem.run_pure] at hs
      injection hs with hs
      exact ⟨x, hs.symm⟩
    | halt x y =>
      rw [hr] at hs
      cases hs
  by_cases hnc : ∃ x, o.op = .nilCheck x
  · obtain ⟨x, hx⟩ := hnc
    exact nil_value hx he
  unfold execOp at he
  cases hop : o.op <;> rw [hop] at h he <;> simp only [atOnce, Bool.false_eq_true] at h <;> first
    | exact (hnc ⟨_, hop⟩).elim
    | exact key _ he
    | (rw [Sem.run_pure] at he; injection he with he; exact ⟨_, he.symm⟩)
    | (rw [Sem.run_bind] at he
       generalize (asBool _).run P w = r at he
       cases r with
       | ok x y => rw [Result.andThen_ok, Sem.run_pure] at he; injection he with he; exact ⟨_, he.symm⟩
       | halt x y => cases he)
theorem Calm.of_quiet {o : Oper} {a : Act} {K : Act → Prop} (h : atOnce o.op = true) (hw : Region.wanted o (yielded ops a.tmps) = true) (hq : o.quiet P a C K) : ∃ v, Calm P ops C o v a ∧ K (a.put o.dst v) := by
  obtain ⟨v, h1, h2⟩ := hq
  refine ⟨v, .inl ⟨hw, fun w hC => ?_⟩, h2⟩
  have h3 := h1 w hC
  unfold Oper.quietAt at h3
  cases hr : (execOp a.eval o).run P w with
  | ok n w' =>
    obtain ⟨u, rfl⟩ := once_value h hr
    rw [hr] at h3
    obtain ⟨rfl, rfl⟩ := h3
    rfl
  | halt x w' =>
    rw [hr] at h3
    exact h3.elim
/-- The operations of these numbers, in this order: each may come up, nothing that is left is at odds with it, and it is carried out at once. -/
def lastOn (ops : Array Oper) (z i : Nat) : Bool := match ops[z]? with | some oz => oz.after.any (fun e => Region.binds .any e && e.on == i) | none => false
theorem lastOn_spec {i : Nat} (h : lastOn ops z i = true) : ∃ oz, ops[z]? = some oz ∧ ∃ e ∈ oz.after, Region.binds .any e = true ∧ e.on = i := by
  unfold lastOn at h
  cases hz : ops[z]? with
  | none => rw [hz] at h; cases h
  | some oz =>
    rw [hz] at h
    simp only [Array.any_eq_true', Bool.and_eq_true, beq_iff_eq] at h
    obtain ⟨e, h1, h2, h3⟩ := h
    exact ⟨oz, rfl, e, h1, h2, h3⟩
def segB (ops : Array Oper) (z : Nat) : Array Bool → List Nat → Bool
  | _, [] => true
  | listed, i :: r => lastOn ops z i && ((Region.ready .any ops listed).contains i && (Region.free .any ops listed i && ((match ops[i]? with | some o => atOnce o.op | none => false) && segB ops z (listed.setIfInBounds i true) r)))
def marks : Array Bool → List Nat → Array Bool
  | l, [] => l
  | l, i :: r => marks (l.setIfInBounds i true) r
theorem calm_seg (hsel : Region.noSelect ops = true) (hQ : ∀ c (a : Act) (d : Option Tmp) v w, Q (.panic c) (a.put d v) w → Q (.panic c) a w) {w : World} (hC : C w) (n : Nat) : ∀ (l : List Nat) (L : List Oper) (listed : Array Bool) (a : Act), segB ops z listed l = true → l.map (fun i => ops[i]?) = L.map some →
    wpQuiet P ops C (fun a' => anyC P ops C z Q n (marks listed l) a' w) L a → anyC P ops C z Q (n + l.length) listed a w
  | [], [], _, _, _, _, h => h
  | [], _ :: _, _, _, _, e, _ => by cases e
  | _ :: _, [], _, _, _, e, _ => by cases e
  | i :: l, o :: L, listed, a, hB, e, h => by
    simp only [List.map_cons, List.cons.injEq] at e
    obtain ⟨e0, e1⟩ := e
    simp only [segB, e0, Bool.and_eq_true] at hB
    obtain ⟨hz, hr, hf, ho, hB'⟩ := hB
    have go : ∀ v, Calm P ops C o v a → wpQuiet P ops C (fun a' => anyC P ops C z Q n (marks (listed.setIfInBounds i true) l) a' w) L (a.put o.dst v) → anyC P ops C z Q (n + (i :: l).length) listed a w := fun v hy h' =>
      anyC_first e0 (lastOn_spec hz) hsel hQ (n + l.length) listed a w hC (Region.free_spec e0 hf) (by simpa using hr) hy (calm_seg hsel hQ hC n l L _ _ hB' e1 h')
    by_cases hw : Region.wanted o (yielded ops a.tmps) = true
    · have h' : o.quiet P a C (wpQuiet P ops C (fun a' => anyC P ops C z Q n (marks (listed.setIfInBounds i true) l) a' w) L) := by
        have := h
        unfold wpQuiet at this
        rw [if_pos hw] at this
        exact this
      obtain ⟨v, hy, hk⟩ := Calm.of_quiet ho hw h'
      exact go v hy hk
    · have h' : wpQuiet P ops C (fun a' => anyC P ops C z Q n (marks (listed.setIfInBounds i true) l) a' w) L (a.put o.dst undef) := by
        have := h
        unfold wpQuiet at this
        rw [if_neg hw] at this
        exact this
      exact go undef (.inr ⟨by simpa using hw, rfl⟩) h'
theorem lone_want {i : Nat} {o : Oper} {n : Nat} {listed : Array Bool} {a : Act} {w : World} (hr : Region.ready .any ops listed = [i]) (hi : ops[i]? = some o) (hw : Region.wanted o (yielded ops a.tmps) = true)
    (h : ∀ K : Act → World → Prop, (∀ a' w', (i = z ∨ C w') → anyC P ops C z Q n (listed.setIfInBounds i true) a' w' → K a' w') → o.wp P a w K Q) : anyC P ops C z Q (n + 1) listed a w := by
  refine ⟨fun h0 => (by rw [hr] at h0; cases h0), fun j hj => ?_⟩
  rw [hr] at hj
  obtain rfl := List.mem_singleton.1 hj
  unfold wpOp
  simp only [hi]
  rw [if_pos hw]
  exact .inl (h _ fun a' w' hC h' => ⟨hC, h'⟩)
theorem anyC_done {n : Nat} {listed : Array Bool} {a : Act} {w : World} (hr : Region.ready .any ops listed = []) (h : Q .normal a w) : anyC P ops C z Q n listed a w := by
  cases n with
  | zero => exact ⟨hr, h⟩
  | succ n => exact ⟨fun _ => h, by rw [hr]; simp⟩
/-- An end that is no panic. -/
def Whole (Q : Exit → Act → World → Prop) : Exit → Act → World → Prop := fun e a w => e = .normal ∧ Q .normal a w
theorem whole_blind (c : List PanicEntry) (a : Act) (d : Option Tmp) (v : Value) (w : World) (h : Whole Q (.panic c) (a.put d v) w) : Whole Q (.panic c) a w := by
  cases h.1
theorem whole_lets (h : LetsOut (Whole Q)) : False := by
  obtain ⟨a, w, h⟩ := h
  cases h.1
theorem whole_op {i : Nat} {K : Act → World → Prop} {a : Act} {w : World} (h : wpOp P ops (Whole Q) i K a w) : wpOp P ops Q i K a w := by
  unfold wpOp at *
  cases ho : ops[i]? with
  | none => simp only [ho] at h ⊢; exact h
  | some o =>
    simp only [ho] at h ⊢
    by_cases hw : Region.wanted o (yielded ops a.tmps) = true
    · rw [if_pos hw] at h ⊢
      rcases h with h | ⟨_, h⟩
      · left
        unfold Oper.wp at *
        generalize (execOp a.eval o).run P w = r at *
        cases r with
        | ok n w' =>
          cases n <;> simp only [Oper.upon] at h ⊢ <;> first
            | exact h
            | exact Calls.mono h (fun e w'' he => by cases e <;> first | exact he | exact (whole_lets he).elim | (cases (And.left he)))
            | exact Rows.mono h (fun _ _ he => he)
        | halt x w' => cases x <;> simp only [Oper.upon] at h ⊢ <;> first | exact h | (cases h.1)
      · exact (whole_lets h).elim
    · rw [if_neg hw] at h ⊢
      exact h
theorem whole_any : ∀ (n : Nat) (listed : Array Bool) (a : Act) (w : World), anyC P ops C z (Whole Q) n listed a w → wpAny P .any ops Q n listed a w
  | 0, _, _, _, h => ⟨h.1, h.2.2⟩
  | n + 1, _, _, _, h => ⟨fun h0 => (h.1 h0).2, fun i hi => wpOp_mono (fun a' w' h' => whole_any n _ a' w' h'.2) (whole_op (h.2 i hi))⟩
theorem region_calm {id : Nat} {a : Act} {w : World} (C : World → Prop) (z : Nat) (hm : P.follows .mixedOrders = true) (h : anyC P ops C z (Whole Q) ops.size (Array.replicate ops.size false) a { w with drawn := w.drawn + 1 }) : (Code.region id ops true).wp P Q a w :=
  wp_region_any hm (whole_any _ _ _ _ h)
def nth : List Oper → Nat → Option Oper
  | [], _ => none
  | o :: _, 0 => some o
  | _ :: r, n + 1 => nth r n
theorem nth_eq : ∀ (L : List Oper) (i : Nat), nth L i = L[i]?
  | [], _ => rfl
  | _ :: _, 0 => rfl
  | _ :: r, n + 1 => by simpa [nth] using nth_eq r n
def picks (L : List Oper) : List Nat → List Oper
  | [] => []
  | i :: r => match nth L i with
    | some o => o :: picks L r
    | none => picks L r
theorem seg {L : List Oper} {n : Nat} {listed : Array Bool} {a : Act} {w : World} (N : Nat) (l : List Nat) (hn : n = N + l.length) (hsel : Region.noSelect L.toArray = true) (hQ : ∀ c (a : Act) (d : Option Tmp) v w, Q (.panic c) (a.put d v) w → Q (.panic c) a w) (hC : C w)
    (hB : segB L.toArray z listed l = true) (h : wpQuiet P L.toArray C (fun a' => anyC P L.toArray C z Q N (marks listed l) a' w) (picks L l) a) : anyC P L.toArray C z Q n listed a w := by
  subst hn
  refine calm_seg hsel hQ hC N l (picks L l) listed a hB ?_ h
  clear h
  induction l generalizing listed with
  | nil => rfl
  | cons i r ih =>
    simp only [segB, Bool.and_eq_true] at hB
    have h1 := ih hB.2.2.2.2
    have h2 := hB.2.2.2.1
    rw [List.getElem?_toArray, ← nth_eq] at h2
    unfold picks
    cases hg : nth L i with
    | none => rw [hg] at h2; cases h2
    | some o =>
      simp only [List.map_cons]
      rw [h1, List.getElem?_toArray, ← nth_eq, hg]
theorem lone_do {L : List Oper} {i : Nat} {o : Oper} {n : Nat} {listed : Array Bool} {a : Act} {w : World} (N : Nat) (hn : n = N + 1) (hr : Region.ready .any L.toArray listed = [i]) (hi : nth L i = some o) (hw : Region.wanted o (yielded L.toArray a.tmps) = true)
    (h : ∀ K : Act → World → Prop, (∀ a' w', C w' → anyC P L.toArray C z Q N (listed.setIfInBounds i true) a' w' → K a' w') → o.wp P a w K Q) : anyC P L.toArray C z Q n listed a w := by
  subst hn
  exact lone_want hr (by rw [List.getElem?_toArray, ← nth_eq, hi]) hw fun K hK => h K fun a' w' hC h' => hK a' w' (.inr hC) h'
/-- The last operation. -/
theorem lone_last {L : List Oper} {i : Nat} {o : Oper} {n : Nat} {listed : Array Bool} {a : Act} {w : World} (N : Nat) (hn : n = N + 1) (hz : i = z) (hr : Region.ready .any L.toArray listed = [i]) (hi : nth L i = some o) (hw : Region.wanted o (yielded L.toArray a.tmps) = true)
    (h : ∀ K : Act → World → Prop, (∀ a' w', anyC P L.toArray C z Q N (listed.setIfInBounds i true) a' w' → K a' w') → o.wp P a w K Q) : anyC P L.toArray C z Q n listed a w := by
  subst hn
  exact lone_want hr (by rw [List.getElem?_toArray, ← nth_eq, hi]) hw fun K hK => h K fun a' w' h' => hK a' w' (.inl hz) h'
/-- An operation that alone may come up, and is carried out at once. -/
theorem lone_calm {L : List Oper} {i : Nat} {o : Oper} {n : Nat} {listed : Array Bool} {a : Act} {w : World} (N : Nat) (hn : n = N + 1) (hr : Region.ready .any L.toArray listed = [i]) (hi : nth L i = some o) (ho : atOnce o.op = true) (hC : C w)
    (h : wpQuiet P L.toArray C (fun a' => anyC P L.toArray C z Q N (listed.setIfInBounds i true) a' w) [o] a) : anyC P L.toArray C z Q n listed a w := by
  subst hn
  have hi' : L.toArray[i]? = some o := by rw [List.getElem?_toArray, ← nth_eq, hi]
  refine ⟨fun h0 => (by rw [hr] at h0; cases h0), fun j hj => ?_⟩
  rw [hr] at hj
  obtain rfl := List.mem_singleton.1 hj
  by_cases hw : Region.wanted o (yielded L.toArray a.tmps) = true
  · have h' : o.quiet P a C (wpQuiet P L.toArray C (fun a' => anyC P L.toArray C z Q N (listed.setIfInBounds j true) a' w) []) := by
      have := h
      unfold wpQuiet at this
      rw [if_pos hw] at this
      exact this
    obtain ⟨v, hy, hk⟩ := Calm.of_quiet ho hw h'
    exact hy.op hi' hC ⟨.inr hC, hk⟩
  · have h' : wpQuiet P L.toArray C (fun a' => anyC P L.toArray C z Q N (listed.setIfInBounds j true) a' w) [] (a.put o.dst undef) := by
      have := h
      unfold wpQuiet at this
      rw [if_neg hw] at this
      exact this
    exact Calm.op (v := undef) hi' (.inr ⟨by simpa using hw, rfl⟩) hC ⟨.inr hC, h'⟩
end
end Go.Proofs.YtlefdnjokppibaaGreatDoor
namespace Go.Proofs.YtlefdnjokppibaaGreatDoor.Cpv
open Go.RowKit
set_option linter.unusedVariables false
/-- Cells of values, one behind the other. -/
def Src (w : World) : Fo → List Value → Prop
  | .nil, cs => cs = []
  | .cons h k r, cs => ∃ na nc ka kc cs', cs = six h na nc ka k.list.length kc ++ cs' ∧ Vl w (h, k) na nc ka kc ∧ Src w r cs'
theorem src_at {w : World} : ∀ {f : Fo} {b o : Nat}, At w f b o → ∃ cs, Src w f cs ∧ cs.length = f.list.length * 6 ∧ ∀ j u, cs[j]? = some u → w.cell? ⟨b, o + j, none⟩ = some u
  | .nil, _, _, _ => ⟨[], rfl, rfl, fun j u hj => by simp at hj⟩
  | .cons h k r, b, o, ⟨⟨na, nc, ka, kc, h1, h2, h3, h4, h5⟩, h6⟩ => by
    obtain ⟨cs, c1, c2, c3⟩ := src_at h6
    refine ⟨six h na nc ka k.list.length kc ++ cs, ⟨na, nc, ka, kc, cs, rfl, ⟨h2, h3, h4, h5⟩, c1⟩, ?_, fun j u hj => ?_⟩
    · rw [List.length_append, c2, six_length]; simp only [Fo.list, List.length_cons]; omega
    · by_cases hl : j < 6
      · rw [List.getElem?_append_left (by rw [six_length]; exact hl)] at hj
        obtain ⟨d0, d1, d2, d3, d4, d5⟩ := h1
        match j, hl, hj with
        | 0, _, hj => cases hj; exact d0
        | 1, _, hj => cases hj; exact d1
        | 2, _, hj => cases hj; exact d2
        | 3, _, hj => cases hj; exact d3
        | 4, _, hj => cases hj; exact d4
        | 5, _, hj => cases hj; exact d5
      · rw [List.getElem?_append_right (by rw [six_length]; omega), six_length] at hj
        have := c3 (j - 6) u hj
        rw [show o + 6 + (j - 6) = o + j by omega] at this
        exact this
theorem Src.get {w : World} {q : Vt} : ∀ {f : Fo} {k : Nat} {cs : List Value}, Src w f cs → f.list[k]? = some q → ∃ na nc ka kc, Vl w q na nc ka kc ∧ cs.drop (k * 6) = six q.1 na nc ka q.2.list.length kc ++ cs.drop ((k + 1) * 6)
  | .nil, k, _, _, hk => by simp [Fo.list] at hk
  | .cons h kk r, 0, cs, ⟨na, nc, ka, kc, cs', e, hv, hs⟩, hk => by
    simp only [Fo.list, List.getElem?_cons_zero, Option.some.injEq] at hk
    subst hk e
    exact ⟨na, nc, ka, kc, hv, by simp [six]⟩
  | .cons h kk r, k + 1, cs, ⟨na, nc, ka, kc, cs', e, hv, hs⟩, hk => by
    simp only [Fo.list, List.getElem?_cons_succ] at hk
    obtain ⟨na', nc', ka', kc', h1, h2⟩ := Src.get hs hk
    refine ⟨na', nc', ka', kc', h1, ?_⟩
    subst e
    have d : ∀ n, (six h na nc ka kk.list.length kc ++ cs').drop ((n + 1) * 6) = cs'.drop (n * 6) := fun n => by
      rw [List.drop_append, List.drop_of_length_le (by rw [six_length]; omega), List.nil_append, six_length]
      congr 1
      omega
    rw [d, d]
    exact h2
theorem src_one {w : World} : ∀ {f : Fo} {cs : List Value}, Src w f cs → ∀ u ∈ cs, u.oneCell' = true
  | .nil, cs, h, u, hu => by rw [h] at hu; cases hu
  | .cons h k r, cs, ⟨na, nc, ka, kc, cs', e, hv, hs⟩, u, hu => by
    rw [e] at hu
    rcases List.mem_append.1 hu with hu | hu
    · exact six_one _ _ _ _ _ _ u hu
    · exact src_one hs u hu
theorem app_src {ops : Array Oper} {rest : List Oper} {o : Oper} {a : Act} {Q : Exit → Act → World → Prop} {w : World} (hgd : o.guard = none) (s x : Operand)
    (ho : o.op = .call { callee := .builtin .append, args := #[s, x], argTypes := #[39, 39] })
    (base : Nat) (v : Value) (n : Nat) (xs : List Value) (hs : a.eval s = v) (hown : w.ownsRow base 41 6 v n xs) (ax : Option Addr) (m c : Nat) (news : List Value) (hx : a.eval x = .slice ax m c) (hl : news.length = m * 6) (hc : ∀ ad, ax = some ad → ∀ j u, news[j]? = some u → w.cell? (ad.add j) = some u) (hnil : ax = none → c = 0 ∧ m = 0) (h1 : ∀ u ∈ news, u.oneCell' = true)
    (hb : n + m ≤ 100000) (hbase : base ≤ w.heap.size)
    (h : ∀ v' w', w'.ownsRow base 41 6 v' (n + m) (xs ++ news) → w.grownBy w' v.ownBlock → (v'.ownBlock = v.ownBlock ∨ v'.ownBlock = some w.heap.size) → wpList Tryz.prog ops Q rest (a.put o.dst v') w') : wpList Tryz.prog ops Q (o :: rest) a w := by
  refine wpList_plain hgd fun K hK => ?_
  obtain ⟨i, hi, hz0, hz1, hz2⟩ := info_parts Tryz.info25
  cases ax with
  | none =>
    obtain ⟨rfl, rfl⟩ := hnil rfl
    have hl : news = [] := List.eq_nil_of_length_eq_zero (by simpa using hl)
    subst hl
    have hr := run_append_owned_none (P := Tryz.prog) (w := w) base 39 o.type 41 i 6 Tryz.underlying39 hi v _ _ hown
    unfold Oper.wp execOp
    simp only [ho, resolve, invoke, builtin, Sem.run_bind, Sem.run_pure, Result.andThen_ok, List.map_toArray, List.map_cons, List.map_nil, hs, hx, hr]
    exact hK _ _ (h v w (by simpa using hown) (World.grownBy.refl _ _) (.inl rfl))
  | some ad =>
    obtain ⟨v', w', r1, r2, r3, _, r5⟩ := run_append_own_at (P := Tryz.prog) w base 39 o.type 41 i _ 6 88 Tryz.underlying39 hi hz0 hz1 hz2 rfl (by decide) v _ _ hown ad m c news hl (hc ad rfl) h1 (by unfold maxLen; omega) (by omega) hbase
    unfold Oper.wp execOp
    simp only [ho, resolve, invoke, builtin, Sem.run_bind, Sem.run_pure, Result.andThen_ok, List.map_toArray, List.map_cons, List.map_nil, hs, hx, r1]
    exact hK _ _ (h v' w' r2 r3 r5)
theorem oper_calls {o : Oper} {a : Act} {w : World} {K : Act → World → Prop} {Q : Exit → Act → World → Prop} (k : Nat) (xs : Array Operand) (ts : Array TypeId)
    (hop : o.op = Op.call { callee := Callee.value (Operand.func k), args := xs, argTypes := ts }) (args : Array Value) (hargs : xs.map a.eval = args)
    (hent : ∀ (args : Array Value) (w : World), (callFunc k args).run Tryz.prog w = .ok (.enter k args) w) (R : Value → World → Prop)
    (hc : Calls Tryz.prog k args w fun e w' => ∃ v, e = .returned v ∧ R v w') (hK : ∀ v w', R v w' → K (a.put o.dst v) w') : Oper.wp Tryz.prog o a w K Q := by
  unfold Oper.wp
  have : (execOp a.eval o).run Tryz.prog w = .ok (.enter k args) w := by
    simp [execOp, hop, resolve, invoke, Act.eval, hargs, hent, Deferred.ofValue]
  rw [this, Oper.upon_enter]
  refine hc.mono ?_
  rintro e w' ⟨v, rfl, hr⟩
  exact hK v w' hr
theorem oper_row {o : Oper} {a : Act} {w : World} {K : Act → World → Prop} {Q : Exit → Act → World → Prop} (ty : TypeId) (x y : Operand) (ho : o.op = .store ty x y) (b off : Nat) (t : TypeId) (p m q m' : List Value)
    (hx : a.eval x = .pointer (some ⟨b, off, none⟩)) (hy : a.eval y = .agg m'.toArray) (hp : p.length = off) (hb : Blk w b t (p ++ (m ++ q))) (hl : m'.length = m.length)
    (hi : (Tryz.prog.info? ty).map (·.size) = some m'.length) (h1 : ∀ v ∈ m', v.oneCell' = true)
    (h : ∀ w', Blk w' b t (p ++ (m' ++ q)) → w.grownBy w' (some b) → K (a.put o.dst undef) w') : Oper.wp Tryz.prog o a w K Q := by
  subst hp
  refine wp_store_mid ty x y ho b p.length m'.toArray hx hy (hb.there _ _ (by simp; omega)) (by simpa using hi) (all_oneCell_toArray h1) ?_
  exact h _ (by simpa using Blk.setCells q m' m p w hl hb) (by simpa using grown_setCells b m' p.length w)
/-! ### copyOf's rounds -/
structure PInv (w : World) (p : Vt) (na1 : Option Addr) (nc1 : Nat) (ka2 : Option Addr) (kc2 : Nat) (ss sp : List Value) (Ln : List Nat) (k : Nat) (cs : List Value) (L : List Nat) (wr : World) : Prop where
  below : Below w.heap.size w wr
  b1 : Blk wr w.heap.size 41 (six p.1 na1 nc1 ka2 p.2.list.length kc2)
  b2 : Blk wr (w.heap.size + 1) 41 zer
  row : (p.2.list.length = 0 ∧ ka2 = none ∧ kc2 = 0) ∨ ∃ g, ka2 = some ⟨g, 0, none⟩ ∧ Blk wr g 41 (cs ++ (ss.drop (k * 6) ++ sp)) ∧ w.heap.size + 2 ≤ g ∧ g ∉ Ln ++ L ∧ (cs ++ (ss.drop (k * 6) ++ sp)).length = kc2 * 6 ∧ kc2 ≤ maxLen
  ownN : wr.ownsRow (w.heap.size + 2) 9 1 (.slice na1 p.1.ns.length nc1) p.1.ns.length (p.1.ns.map Value.string)
  obN : ∀ x, (Value.slice na1 p.1.ns.length nc1).ownBlock = some x → x < wr.heap.size ∧ x ∉ L ∧ ka2 ≠ some ⟨x, 0, none⟩
  capk : Cap ka2 p.2.list.length kc2
  lay : Lay wr (p.2.take k) cs L
  nm : NmL wr na1 p.1.ns Ln
  capn : Cap na1 p.1.ns.length nc1
  rng : ∀ x ∈ Ln ++ L, w.heap.size + 2 ≤ x ∧ x < wr.heap.size
  nd : (Ln ++ L).Nodup
theorem take_len : ∀ (f : Fo) (k : Nat), k ≤ f.list.length → (f.take k).list.length = k
  | _, 0, _ => rfl
  | .nil, k + 1, h => by simp [Fo.list] at h
  | .cons h kk r, k + 1, hk => by
    simp only [Fo.list, List.length_cons] at hk
    simp only [Fo.take, Fo.list, List.length_cons]
    rw [take_len r k (by omega)]
theorem PInv.step {w : World} {p q : Vt} {na1 : Option Addr} {nc1 : Nat} {ka2 : Option Addr} {kc2 : Nat} {ss sp : List Value} {Ln : List Nat} {k : Nat} {cs : List Value} {L : List Nat} {wr w1 w3 : World} {g : Nat} {na' : Option Addr} {nc' : Nat} {ka' : Option Addr} {kc' : Nat} {Lq : List Nat}
    (h : PInv w p na1 nc1 ka2 kc2 ss sp Ln k cs L wr) (hg : ka2 = some ⟨g, 0, none⟩) (hq : p.2.list[k]? = some q) (hg2 : w.heap.size + 2 ≤ g) (hg3 : g ∉ Ln ++ L) (hgl : g < wr.heap.size) (hb : Below wr.heap.size wr w1) (hv : VlL w1 q na' nc' ka' kc' Lq) (hr : ∀ x ∈ Lq, wr.heap.size ≤ x ∧ x < w1.heap.size) (hn : Lq.Nodup)
    (gr : w1.grownBy w3 (some g)) (hrow : Blk w3 g 41 (cs ++ (six q.1 na' nc' ka' q.2.list.length kc' ++ (ss.drop ((k + 1) * 6) ++ sp)))) (hlen : (cs ++ (six q.1 na' nc' ka' q.2.list.length kc' ++ (ss.drop ((k + 1) * 6) ++ sp))).length = kc2 * 6) (hcm : kc2 ≤ maxLen) :
    PInv w p na1 nc1 ka2 kc2 ss sp Ln (k + 1) (cs ++ six q.1 na' nc' ka' q.2.list.length kc') (L ++ Lq) w3 := by
  have s0 := h.b2.lt
  have s1 := hb.size
  have s3 := gr.size
  have k1 : ∀ x, x < w1.heap.size → x ≠ g → w3.heap[x]? = w1.heap[x]? := fun x hx hne => gr.block x hx (by intro e; injection e with e; exact hne e)
  have k2 : ∀ x, x < wr.heap.size → x ≠ g → w3.heap[x]? = wr.heap[x]? := fun x hx hne => by rw [k1 x (by omega) hne, hb.block x hx]
  have b2 : Below w.heap.size w w1 := h.below.trans (hb.mono h.below.size)
  have hne : ∀ x ∈ Ln ++ L, x ≠ g := fun x hx e => hg3 (e ▸ hx)
  have hneq : ∀ x ∈ Lq, x ≠ g := fun x hx e => by have := (hr x hx).1; omega
  refine ⟨?_, ?_, ?_, .inr ⟨g, hg, ?_, hg2, ?_, by simpa using hlen, hcm⟩, ?_, ?_, h.capk, ?_, ?_, h.capn, ?_, ?_⟩
  · exact b2.grown gr b2.size (by intro x hx; injection hx with hx; omega)
  · unfold Blk; rw [k2 _ (by omega) (by omega)]; exact h.b1
  · unfold Blk; rw [k2 _ s0 (by omega)]; exact h.b2
  · simpa using hrow
  · intro hx
    rw [← List.append_assoc] at hx
    rcases List.mem_append.1 hx with hx | hx
    · exact hg3 hx
    · exact hneq g hx rfl
  · refine World.ownsRow.kept (row := some g) (World.ownsRow.kept (row := none) h.ownN ⟨hb.os, hb.tape, hb.output, hb.size, fun x hx _ => hb.block x hx⟩ (by simpa using Classical.em _)) gr ?_
    cases hob : (Value.slice na1 p.1.ns.length nc1).ownBlock with
    | none => exact .inl rfl
    | some x => exact .inr fun e => by injection e with e; exact (h.obN x hob).2.2 (by rw [hg, e])
  · intro x hx
    obtain ⟨a1, a2, a3⟩ := h.obN x hx
    refine ⟨by omega, fun c => ?_, a3⟩
    rcases List.mem_append.1 c with c | c
    · exact a2 c
    · have := (hr x c).1; omega
  · refine Lay.snoc (hv.keep fun x hx => k1 x (hr x hx).2 (hneq x hx)) _ _ hq (Lay.keep _ h.lay fun x hx => ?_)
    have := h.rng x (by simp [hx])
    exact k2 x this.2 (hne x (by simp [hx]))
  · refine h.nm.keep fun x hx => ?_
    have := h.rng x (by simp [hx])
    exact k2 x this.2 (hne x (by simp [hx]))
  · intro x hx
    rw [← List.append_assoc] at hx
    rcases List.mem_append.1 hx with hx | hx
    · have := h.rng x hx; omega
    · have := hr x hx; have := h.below.size; omega
  · rw [← List.append_assoc, List.nodup_append]
    refine ⟨h.nd, hn, fun x hx y hy e => ?_⟩
    subst e
    have := (h.rng x hx).2
    have := (hr x hy).1
    omega
theorem PInv.done {w : World} {p : Vt} {na1 : Option Addr} {nc1 : Nat} {ka2 : Option Addr} {kc2 : Nat} {ss sp : List Value} {Ln : List Nat} {cs : List Value} {L : List Nat} {wr w' : World}
    (h : PInv w p na1 nc1 ka2 kc2 ss sp Ln p.2.list.length cs L wr) (hk : ∀ x, w.heap.size + 2 ≤ x → x < wr.heap.size → w'.heap[x]? = wr.heap[x]?) (hs : wr.heap.size ≤ w'.heap.size) :
    ∃ L', VlL w' p na1 nc1 ka2 kc2 L' ∧ (∀ x ∈ L', w.heap.size ≤ x ∧ x < w'.heap.size) ∧ L'.Nodup := by
  have hlay := h.lay
  rw [Fo.take_all _ _ (Nat.le_refl _)] at hlay
  have hnm : NmL w' na1 p.1.ns Ln := h.nm.keep fun x hx => by
    have := h.rng x (by simp [hx])
    exact hk x this.1 this.2
  have n0 := List.nodup_append.1 h.nd
  rcases h.row with h0 | ⟨g, rfl, hg, hg2, hg3, _, _⟩
  · refine ⟨Ln ++ [], ⟨Ln, [], rfl, hnm, h.capn, h.capk, .inl ⟨list_nil h0.1, rfl⟩⟩, fun x hx => ?_, by simpa using n0.1⟩
    have := h.rng x (by simp only [List.append_nil] at hx; simp [hx])
    omega
  · have hgl := hg.lt
    have hge := hk g hg2 hgl
    refine ⟨Ln ++ (g :: L), ⟨Ln, g :: L, rfl, hnm, h.capn, h.capk, .inr ⟨g, 0, cs, L, rfl, rfl, ?_, ?_, ?_⟩⟩, fun x hx => ?_, ?_⟩
    · exact Fre.keep (fun i => hg.frozen i) hge
    · intro j u hj
      rw [Nat.zero_add, cell_keep hge, hg.cell, List.getElem?_append_left (List.getElem?_eq_some_iff.1 hj).1]
      exact hj
    · refine Lay.keep _ hlay fun x hx => ?_
      have := h.rng x (by simp [hx])
      exact hk x this.1 this.2
    · rcases List.mem_append.1 hx with hx | hx
      · have := h.rng x (by simp [hx]); omega
      · rcases List.mem_cons.1 hx with rfl | hx
        · omega
        · have := h.rng x (by simp [hx]); omega
    · rw [List.nodup_append]
      refine ⟨n0.1, List.nodup_cons.2 ⟨fun hx => hg3 (by simp [hx]), n0.2.1⟩, fun x hx y hy e => ?_⟩
      subst e
      rcases List.mem_cons.1 hy with rfl | hy
      · exact hg3 (by simp [hx])
      · exact n0.2.2 x hx x hy rfl
/-- A value that the call made: its rows are the call's own. -/
structure Top (w : World) (B : Nat) (p : Vt) (na : Option Addr) (nc : Nat) (ka : Option Addr) (kc : Nat) (Ln : List Nat) (ks : List Value) (L : List Nat) : Prop where
  ownN : w.ownsRow B 9 1 (.slice na p.1.ns.length nc) p.1.ns.length (p.1.ns.map Value.string)
  ownK : w.ownsRow B 41 6 (.slice ka p.2.list.length kc) p.2.list.length ks
  lay : Lay w p.2 ks L
  rng : ∀ x ∈ L, B ≤ x ∧ x < w.heap.size
  nd : L.Nodup
  obN : ∀ x, (Value.slice na p.1.ns.length nc).ownBlock = some x → x ∉ L ∧ (Value.slice ka p.2.list.length kc).ownBlock ≠ some x
  obK : ∀ x, (Value.slice ka p.2.list.length kc).ownBlock = some x → x ∉ L
theorem PInv.top {w : World} {p : Vt} {na1 : Option Addr} {nc1 : Nat} {ka2 : Option Addr} {kc2 : Nat} {ss sp : List Value} {Ln : List Nat} {cs : List Value} {L : List Nat} {wr w' : World}
    (h : PInv w p na1 nc1 ka2 kc2 ss sp Ln p.2.list.length cs L wr) (hss : ss.length = p.2.list.length * 6) (hk : ∀ x, w.heap.size + 2 ≤ x → x < wr.heap.size → w'.heap[x]? = wr.heap[x]?) (hs : wr.heap.size ≤ w'.heap.size) :
    Top w' (w.heap.size + 2) p na1 nc1 ka2 kc2 Ln cs L := by
  have hlay := h.lay
  rw [Fo.take_all _ _ (Nat.le_refl _)] at hlay
  have hcl : cs.length = p.2.list.length * 6 := hlay.len
  have hlt := World.ownsRow.lt h.ownN
  refine ⟨?_, ?_, ?_, ?_, (List.nodup_append.1 h.nd).2.1, ?_, ?_⟩
  · refine ⟨h.ownN.1, ?_⟩
    rcases h.ownN.2 with e | ⟨g, cap, cur, e, h1, h2, h3⟩
    · exact .inl e
    · have := hlt g (by rw [e]; rfl)
      exact .inr ⟨g, cap, cur, e, h1, (hk g this.1 this.2).trans h2, h3⟩
  · rcases h.row with ⟨e1, e2, e3⟩ | ⟨g, rfl, hg, hg2, hg3, hl, hm⟩
    · have : cs = [] := List.eq_nil_of_length_eq_zero (by omega)
      rw [e1, e2, e3, this]
      exact World.ownsRow_nil _ _ _ _
    · refine ⟨hcl, .inr ⟨g, kc2, _, rfl, hg2, (hk g hg2 hg.lt).trans hg, h.capk.le, hm, by simpa using hl, ?_⟩⟩
      rw [show (cs ++ (ss.drop (p.2.list.length * 6) ++ sp)).toArray.toList = cs ++ (ss.drop (p.2.list.length * 6) ++ sp) from rfl, ← hcl, List.take_left]
  · refine Lay.keep _ hlay fun x hx => ?_
    have := h.rng x (by simp [hx])
    exact hk x this.1 this.2
  · intro x hx
    have := h.rng x (by simp [hx])
    omega
  · intro x hx
    obtain ⟨a1, a2, a3⟩ := h.obN x hx
    refine ⟨a2, fun c => ?_⟩
    rcases h.row with ⟨e1, e2, e3⟩ | ⟨g, rfl, _⟩
    · rw [e2] at c; simp [Value.ownBlock] at c
    · simp [Value.ownBlock] at c
      rw [c] at a3
      exact a3 rfl
  · intro x hx c
    rcases h.row with ⟨e1, e2, e3⟩ | ⟨g, rfl, _, _, hg3, _⟩
    · rw [e2] at hx; simp [Value.ownBlock] at hx
    · simp [Value.ownBlock] at hx
      rw [hx] at hg3
      exact hg3 (by simp [c])
end Go.Proofs.YtlefdnjokppibaaGreatDoor.Cpv
