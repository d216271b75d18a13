/-
  A region that draws its order, in a class of worlds that every operation keeps: an operation that in every world of the class yields one value and leaves the world alone may be taken first; one that alone may come up is carried out where it stands, whatever it does to the world within the class.
-/
import Derived.Deep.Quiet
import Derived.Deep.RegionLaw
namespace Go.Proofs.YtpfiejmhnkcjbaaGreatDoor
open Go
section
variable {P : Program} {ops : Array Oper} {C : World → Prop} {z : Nat} {Q : Exit → Act → World → Prop}
/-- The operation of the number z comes last of all: it need not keep the class. -/
def anyC (P : Program) (ops : Array Oper) (C : World → Prop) (z : Nat) (Q : Exit → Act → World → Prop) : Nat → Array Bool → Act → World → Prop
  | 0, listed, a, w => Region.ready .any ops listed = [] ∧ Q .normal a w
  | n + 1, listed, a, w => (Region.ready .any ops listed = [] → Q .normal a w) ∧
      ∀ i ∈ Region.ready .any ops listed, wpOp P ops Q i (fun a' w' => (i = z ∨ C w') ∧ anyC P ops C z Q n (listed.setIfInBounds i true) a' w') a w
def Calm (P : Program) (ops : Array Oper) (C : World → Prop) (o : Oper) (v : Value) (a : Act) : Prop :=
  (Region.wanted o (yielded ops a.tmps) = true ∧ ∀ w, C w → (execOp a.eval o).run P w = .ok (.value v) w) ∨ (Region.wanted o (yielded ops a.tmps) = false ∧ v = undef)
theorem Calm.op {i : Nat} {o : Oper} {v : Value} {a : Act} {w : World} (hi : ops[i]? = some o) (hy : Calm P ops C o v a) (hC : C w) {K : Act → World → Prop} (h : K (a.put o.dst v) w) : wpOp P ops Q i K a w := by
  unfold wpOp
  simp only [hi]
  rcases hy with ⟨hw, hv⟩ | ⟨hw, rfl⟩
  · rw [if_pos hw]
    left
    simp only [Oper.wp, hv w hC, Oper.upon]
    exact h
  · rw [if_neg (by rw [hw]; exact Bool.false_ne_true)]
    exact h
/-- What a frame is behind an operation. -/
def Behind (a : Act) (o : Oper) (a' : Act) : Prop := ∃ u, a' = a.put o.dst u ∨ ∃ d, a' = ({ a with defers := d :: a.defers } : Act).put o.dst u
theorem op_behind {j : Nat} {oj : Oper} {a : Act} {w : World} {K : Act → World → Prop} (hj : ops[j]? = some oj) (h : wpOp P ops Q j K a w) : wpOp P ops Q j (fun a' w' => Behind a oj a' ∧ K a' w') a w := by
  unfold wpOp at *
  simp only [hj] at *
  by_cases hw : Region.wanted oj (yielded ops a.tmps) = true
  · rw [if_pos hw] at h ⊢
    rcases h with h | h
    case inr => exact .inr h
    left
    unfold Oper.wp at *
    generalize (execOp a.eval oj).run P w = r at *
    cases r with
    | ok n w' =>
      cases n <;> simp only [Oper.upon] at h ⊢
      case value u => exact ⟨⟨u, .inl rfl⟩, h⟩
      case skip => exact ⟨⟨_, .inl rfl⟩, h⟩
      case defer d => exact ⟨⟨_, .inr ⟨d, rfl⟩⟩, h⟩
      case enter f args =>
        refine Calls.mono h fun e w'' he => ?_
        cases e with
        | returned u => exact ⟨⟨u, .inl rfl⟩, he⟩
        | panicked c => exact he
        | outgrown => exact he
      case row row args => exact Rows.mono h fun u w'' he => ⟨⟨u, .inl rfl⟩, he⟩
    | halt x w' => cases x <;> simp only [Oper.upon] at h ⊢ <;> exact h
  · rw [if_neg hw] at h ⊢
    exact ⟨⟨_, .inl rfl⟩, h⟩
theorem Calm.same {o : Oper} {v : Value} {a a' : Act} (hy : Calm P ops C o v a) (he : execOp a'.eval o = execOp a.eval o) (hw : Region.wanted o (yielded ops a'.tmps) = Region.wanted o (yielded ops a.tmps)) : Calm P ops C o v a' := by
  unfold Calm at *
  rw [he, hw]
  exact hy
theorem Calm.behind {oi oj : Oper} {v : Value} {a a' : Act} (hs : ∀ cs b, oi.op ≠ .select cs b) (hap : oi.apart ops oj = true) (hy : Calm P ops C oi v a) (hb : Behind a oj a') : Calm P ops C oi v a' := by
  obtain ⟨_, _, h3⟩ := Oper.apart_spec hap
  obtain ⟨u, rfl | ⟨d, rfl⟩⟩ := hb
  · exact hy.same (execOp_put oi hs a oj.dst u h3) (wanted_put oi a oj.dst u h3)
  · have hy' : Calm P ops C oi v { a with defers := d :: a.defers } := hy.same rfl rfl
    exact hy'.same (execOp_put oi hs _ oj.dst u h3) (wanted_put oi _ oj.dst u h3)
theorem stand_apart {oi oj : Oper} (v : Value) (h : oi.apart ops oj = true) : ({ oi with op := .move (.const v), guard := none } : Oper).apart ops oj = true := by
  unfold Oper.apart at *
  rw [Bool.and_eq_true] at *
  refine ⟨h.1, ?_⟩
  cases oj.dst with
  | none => rfl
  | some d => simp [Oper.looksAt, Op.operands]
theorem put_first {j : Nat} {oi oj : Oper} {v : Value} (hj : ops[j]? = some oj) (hap : oi.apart ops oj = true) (hsi : ∀ cs b, oi.op ≠ .select cs b) (hsj : ∀ cs b, oj.op ≠ .select cs b)
    (hQ : ∀ c (a : Act) (d : Option Tmp) v w, Q (.panic c) (a.put d v) w → Q (.panic c) a w) {K : Act → World → Prop} {a : Act} {w : World} (hy : Calm P ops C oi v a) (h : wpOp P ops Q j K (a.put oi.dst v) w) :
    wpOp P ops Q j (fun a' w' => Calm P ops C oi v a' ∧ K (a'.put oi.dst v) w') a w := by
  have h1 := wpOp_put (oi := { oi with op := .move (.const v), guard := none }) (v := v) hj (stand_apart v hap) (fun _ _ e => by cases e) hsj (fun _ _ _ h => hQ _ _ _ _ _ h) (a := a) (.inl ⟨rfl, fun _ => rfl⟩) h
  exact wpOp_mono (fun a' w' h' => ⟨hy.behind hsi hap h'.1, h'.2.2⟩) (op_behind hj h1)
theorem anyC_first {i : Nat} {oi : Oper} {v : Value} (hi : ops[i]? = some oi) (hz : ∃ oz, ops[z]? = some oz ∧ ∃ e ∈ oz.after, Region.binds .any e = true ∧ e.on = i) (hsel : Region.noSelect ops = true) (hQ : ∀ c (a : Act) (d : Option Tmp) v w, Q (.panic c) (a.put d v) w → Q (.panic c) a w) :
    ∀ (n : Nat) (listed : Array Bool) (a : Act) (w : World), C w →
      (∀ j oj, ops[j]? = some oj → j ≠ i → listed.getD j true = false → (∀ e ∈ oj.after, Region.binds .any e = true → e.on ≠ i) → oi.apart ops oj = true) →
      i ∈ Region.ready .any ops listed → Calm P ops C oi v a → anyC P ops C z Q n (listed.setIfInBounds i true) (a.put oi.dst v) w → anyC P ops C z Q (n + 1) listed a w := by
  intro n
  induction n with
  | zero =>
    intro listed a w hC _ hr hy H
    refine ⟨fun h => absurd hr (by rw [h]; exact List.not_mem_nil), fun j hj => ?_⟩
    by_cases e : j = i
    · subst e
      exact hy.op hi hC ⟨.inr hC, H⟩
    · have := ready_mono hj e
      rw [H.1] at this
      exact absurd this List.not_mem_nil
  | succ n ih =>
    intro listed a w hC hfree hr hy H
    refine ⟨fun h => absurd hr (by rw [h]; exact List.not_mem_nil), fun j hj => ?_⟩
    by_cases e : j = i
    · subst e
      exact hy.op hi hC ⟨.inr hC, H⟩
    · obtain ⟨hun, oj, hoj, hall⟩ := mem_ready.1 hj
      have hi0 := (mem_ready.1 hr).1
      have hnot : ∀ e ∈ oj.after, Region.binds .any e = true → e.on ≠ i := fun ed he hb heq => by
        have h1 := hall ed he hb
        rw [heq, Array.getD_eq_getD_getElem?] at h1
        rw [Array.getD_eq_getD_getElem?] at hi0
        cases hg : listed[i]? with
        | none => rw [hg] at hi0; cases hi0
        | some b => rw [hg] at h1 hi0; simp at h1 hi0; rw [h1] at hi0; cases hi0
      have hjz : j ≠ z := by
        rintro rfl
        obtain ⟨oz, h1, ed, h2, h3, h4⟩ := hz
        rw [hoj] at h1
        obtain rfl := Option.some.inj h1
        exact hnot ed h2 h3 h4
      have h2 := put_first hoj (hfree j oj hoj e hun hnot) (fun cs b => Region.noSelect_spec hsel i oi cs b hi) (fun cs b => Region.noSelect_spec hsel j oj cs b hoj) hQ hy (H.2 j (ready_mono hj e))
      refine wpOp_mono (fun a' w' h3 => ⟨.inr (h3.2.1.resolve_left hjz), ih (listed.setIfInBounds j true) a' w' (h3.2.1.resolve_left hjz) (fun k ok hk hki hku hno => hfree k ok hk hki ?_ hno) (ready_mono hr (Ne.symm e)) h3.1 ?_⟩) h2
      · by_cases hjk : j = k
        · rw [← hjk]; exact hun
        · rw [getD_set_ne true hjk] at hku; exact hku
      · rw [Array.setIfInBounds_comm _ _ e]
        exact h3.2.2
/-- The kinds of operation that are carried out at once and enter no function. -/
def atOnce : Op → Bool
  | .move _ | .assign _ | .pick .. | .load .. | .binOp .. | .unOp .. | .indexAddr .. | .index .. | .fieldAddr .. | .field .. | .extract .. | .convert .. | .slice .. | .build .. | .nilCheck _ => true
  | _ => false
theorem nil_value {ρ : Operand → Value} {o : Oper} {x : Operand} {w w' : World} {n : Next} (hop : o.op = .nilCheck x) (he : (execOp ρ o).run P w = .ok n w') : ∃ v, n = .value v := by
  have pan : ∀ m : Next, ¬ (runtimePanic .nilDeref : Sem Next).run P w = .ok m w' := fun m h => by simp [runtimePanic, go_sem] at h
  unfold execOp at he
  simp only [hop] at he
  generalize ρ x = y at he
  split at he
  · exact (pan _ he).elim
  · exact (pan _ he).elim
  · exact (pan _ he).elim
  · split at he
    · exact (pan _ he).elim
    · rw [Sem.run_bind] at he
      generalize (program : Sem Program).run P w = r at he
      cases r with
      | halt a b => cases he
      | ok p w1 =>
        rw [Result.andThen_ok, Sem.run_bind] at he
        generalize (nilAhead _ _ _ _).run P w1 = r at he
        cases r with
        | halt a b => cases he
        | ok q w2 =>
          rw [Result.andThen_ok] at he
          split at he
          · rw [Sem.run_bind] at he
            generalize (unsupported _ : Sem PUnit).run P w2 = r at he
            cases r with
            | halt a b => cases he
            | ok q w2 => rw [Result.andThen_ok, Sem.run_pure] at he; injection he with he; exact ⟨_, he.symm⟩
          · first
            | (rw [Sem.run_pure] at he; injection he with he; exact ⟨_, he.symm⟩)
            | (rw [Sem.run_bind, Sem.run_pure, Result.andThen_ok, Sem.run_pure] at he; injection he with he; exact ⟨_, he.symm⟩)
    · rw [Sem.run_pure] at he; injection he with he; exact ⟨_, he.symm⟩
  · rw [Sem.run_pure] at he; injection he with he; exact ⟨_, he.symm⟩
theorem once_value {ρ : Operand → Value} {o : Oper} {w w' : World} {n : Next} (h : atOnce o.op = true) (he : (execOp ρ o).run P w = .ok n w') : ∃ v, n = .value v := by
  have key : ∀ (s : Sem Value), (do pure (Next.value (← s)) : Sem Next).run P w = .ok n w' → ∃ v, n = .value v := fun s hs => by
    rw [Sem.run_bind] at hs
    cases hr : s.run P w with
    | ok x y =>
      rw [hr, Result.andThen_ok, Sem.run_pure] at hs
      injection hs with hs
      exact ⟨x, hs.symm⟩
    | halt x y =>
      rw [hr] at hs
      cases hs
  by_cases hnc : ∃ x, o.op = .nilCheck x
  · obtain ⟨x, hx⟩ := hnc
    exact nil_value hx he
  unfold execOp at he
  cases hop : o.op <;> rw [hop] at h he <;> simp only [atOnce, Bool.false_eq_true] at h <;> first
    | exact (hnc ⟨_, hop⟩).elim
    | exact key _ he
    | (rw [Sem.run_pure] at he; injection he with he; exact ⟨_, he.symm⟩)
    | (rw [Sem.run_bind] at he
       generalize (asBool _).run P w = r at he
       cases r with
       | ok x y => rw [Result.andThen_ok, Sem.run_pure] at he; injection he with he; exact ⟨_, he.symm⟩
       | halt x y => cases he)
theorem Calm.of_quiet {o : Oper} {a : Act} {K : Act → Prop} (h : atOnce o.op = true) (hw : Region.wanted o (yielded ops a.tmps) = true) (hq : o.quiet P a C K) : ∃ v, Calm P ops C o v a ∧ K (a.put o.dst v) := by
  obtain ⟨v, h1, h2⟩ := hq
  refine ⟨v, .inl ⟨hw, fun w hC => ?_⟩, h2⟩
  have h3 := h1 w hC
  unfold Oper.quietAt at h3
  cases hr : (execOp a.eval o).run P w with
  | ok n w' =>
    obtain ⟨u, rfl⟩ := once_value h hr
    rw [hr] at h3
    obtain ⟨rfl, rfl⟩ := h3
    rfl
  | halt x w' =>
    rw [hr] at h3
    exact h3.elim
/-- The operations of these numbers, in this order: each may come up, nothing that is left is at odds with it, and it is carried out at once. -/
def lastOn (ops : Array Oper) (z i : Nat) : Bool := match ops[z]? with | some oz => oz.after.any (fun e => Region.binds .any e && e.on == i) | none => false
theorem lastOn_spec {i : Nat} (h : lastOn ops z i = true) : ∃ oz, ops[z]? = some oz ∧ ∃ e ∈ oz.after, Region.binds .any e = true ∧ e.on = i := by
  unfold lastOn at h
  cases hz : ops[z]? with
  | none => rw [hz] at h; cases h
  | some oz =>
    rw [hz] at h
    simp only [Array.any_eq_true', Bool.and_eq_true, beq_iff_eq] at h
    obtain ⟨e, h1, h2, h3⟩ := h
    exact ⟨oz, rfl, e, h1, h2, h3⟩
def segB (ops : Array Oper) (z : Nat) : Array Bool → List Nat → Bool
  | _, [] => true
  | listed, i :: r => lastOn ops z i && ((Region.ready .any ops listed).contains i && (Region.free .any ops listed i && ((match ops[i]? with | some o => atOnce o.op | none => false) && segB ops z (listed.setIfInBounds i true) r)))
def marks : Array Bool → List Nat → Array Bool
  | l, [] => l
  | l, i :: r => marks (l.setIfInBounds i true) r
theorem calm_seg (hsel : Region.noSelect ops = true) (hQ : ∀ c (a : Act) (d : Option Tmp) v w, Q (.panic c) (a.put d v) w → Q (.panic c) a w) {w : World} (hC : C w) (n : Nat) : ∀ (l : List Nat) (L : List Oper) (listed : Array Bool) (a : Act), segB ops z listed l = true → l.map (fun i => ops[i]?) = L.map some →
    wpQuiet P ops C (fun a' => anyC P ops C z Q n (marks listed l) a' w) L a → anyC P ops C z Q (n + l.length) listed a w
  | [], [], _, _, _, _, h => h
  | [], _ :: _, _, _, _, e, _ => by cases e
  | _ :: _, [], _, _, _, e, _ => by cases e
  | i :: l, o :: L, listed, a, hB, e, h => by
    simp only [List.map_cons, List.cons.injEq] at e
    obtain ⟨e0, e1⟩ := e
    simp only [segB, e0, Bool.and_eq_true] at hB
    obtain ⟨hz, hr, hf, ho, hB'⟩ := hB
    have go : ∀ v, Calm P ops C o v a → wpQuiet P ops C (fun a' => anyC P ops C z Q n (marks (listed.setIfInBounds i true) l) a' w) L (a.put o.dst v) → anyC P ops C z Q (n + (i :: l).length) listed a w := fun v hy h' =>
      anyC_first e0 (lastOn_spec hz) hsel hQ (n + l.length) listed a w hC (Region.free_spec e0 hf) (by simpa using hr) hy (calm_seg hsel hQ hC n l L _ _ hB' e1 h')
    by_cases hw : Region.wanted o (yielded ops a.tmps) = true
    · have h' : o.quiet P a C (wpQuiet P ops C (fun a' => anyC P ops C z Q n (marks (listed.setIfInBounds i true) l) a' w) L) := by
        have := h
        unfold wpQuiet at this
        rw [if_pos hw] at this
        exact this
      obtain ⟨v, hy, hk⟩ := Calm.of_quiet ho hw h'
      exact go v hy hk
    · have h' : wpQuiet P ops C (fun a' => anyC P ops C z Q n (marks (listed.setIfInBounds i true) l) a' w) L (a.put o.dst undef) := by
        have := h
        unfold wpQuiet at this
        rw [if_neg hw] at this
        exact this
      exact go undef (.inr ⟨by simpa using hw, rfl⟩) h'
theorem lone_want {i : Nat} {o : Oper} {n : Nat} {listed : Array Bool} {a : Act} {w : World} (hr : Region.ready .any ops listed = [i]) (hi : ops[i]? = some o) (hw : Region.wanted o (yielded ops a.tmps) = true)
    (h : ∀ K : Act → World → Prop, (∀ a' w', (i = z ∨ C w') → anyC P ops C z Q n (listed.setIfInBounds i true) a' w' → K a' w') → o.wp P a w K Q) : anyC P ops C z Q (n + 1) listed a w := by
  refine ⟨fun h0 => (by rw [hr] at h0; cases h0), fun j hj => ?_⟩
  rw [hr] at hj
  obtain rfl := List.mem_singleton.1 hj
  unfold wpOp
  simp only [hi]
  rw [if_pos hw]
  exact .inl (h _ fun a' w' hC h' => ⟨hC, h'⟩)
theorem anyC_done {n : Nat} {listed : Array Bool} {a : Act} {w : World} (hr : Region.ready .any ops listed = []) (h : Q .normal a w) : anyC P ops C z Q n listed a w := by
  cases n with
  | zero => exact ⟨hr, h⟩
  | succ n => exact ⟨fun _ => h, by rw [hr]; simp⟩
/-- An end that is no panic. -/
def Whole (Q : Exit → Act → World → Prop) : Exit → Act → World → Prop := fun e a w => e = .normal ∧ Q .normal a w
theorem whole_blind (c : List PanicEntry) (a : Act) (d : Option Tmp) (v : Value) (w : World) (h : Whole Q (.panic c) (a.put d v) w) : Whole Q (.panic c) a w := by
  cases h.1
theorem whole_lets (h : LetsOut (Whole Q)) : False := by
  obtain ⟨a, w, h⟩ := h
  cases h.1
theorem whole_op {i : Nat} {K : Act → World → Prop} {a : Act} {w : World} (h : wpOp P ops (Whole Q) i K a w) : wpOp P ops Q i K a w := by
  unfold wpOp at *
  cases ho : ops[i]? with
  | none => simp only [ho] at h ⊢; exact h
  | some o =>
    simp only [ho] at h ⊢
    by_cases hw : Region.wanted o (yielded ops a.tmps) = true
    · rw [if_pos hw] at h ⊢
      rcases h with h | ⟨_, h⟩
      · left
        unfold Oper.wp at *
        generalize (execOp a.eval o).run P w = r at *
        cases r with
        | ok n w' =>
          cases n <;> simp only [Oper.upon] at h ⊢ <;> first
            | exact h
            | exact Calls.mono h (fun e w'' he => by cases e <;> first | exact he | exact (whole_lets he).elim | (cases (And.left he)))
            | exact Rows.mono h (fun _ _ he => he)
        | halt x w' => cases x <;> simp only [Oper.upon] at h ⊢ <;> first | exact h | (cases h.1)
      · exact (whole_lets h).elim
    · rw [if_neg hw] at h ⊢
      exact h
theorem whole_any : ∀ (n : Nat) (listed : Array Bool) (a : Act) (w : World), anyC P ops C z (Whole Q) n listed a w → wpAny P .any ops Q n listed a w
  | 0, _, _, _, h => ⟨h.1, h.2.2⟩
  | n + 1, _, _, _, h => ⟨fun h0 => (h.1 h0).2, fun i hi => wpOp_mono (fun a' w' h' => whole_any n _ a' w' h'.2) (whole_op (h.2 i hi))⟩
theorem region_calm {id : Nat} {a : Act} {w : World} (C : World → Prop) (z : Nat) (hm : P.follows .mixedOrders = true) (h : anyC P ops C z (Whole Q) ops.size (Array.replicate ops.size false) a { w with drawn := w.drawn + 1 }) : (Code.region id ops true).wp P Q a w :=
  wp_region_any hm (whole_any _ _ _ _ h)
def nth : List Oper → Nat → Option Oper
  | [], _ => none
  | o :: _, 0 => some o
  | _ :: r, n + 1 => nth r n
theorem nth_eq : ∀ (L : List Oper) (i : Nat), nth L i = L[i]?
  | [], _ => rfl
  | _ :: _, 0 => rfl
  | _ :: r, n + 1 => by simpa [nth] using nth_eq r n
def picks (L : List Oper) : List Nat → List Oper
  | [] => []
  | i :: r => match nth L i with
    | some o => o :: picks L r
    | none => picks L r
theorem seg {L : List Oper} {n : Nat} {listed : Array Bool} {a : Act} {w : World} (N : Nat) (l : List Nat) (hn : n = N + l.length) (hsel : Region.noSelect L.toArray = true) (hQ : ∀ c (a : Act) (d : Option Tmp) v w, Q (.panic c) (a.put d v) w → Q (.panic c) a w) (hC : C w)
    (hB : segB L.toArray z listed l = true) (h : wpQuiet P L.toArray C (fun a' => anyC P L.toArray C z Q N (marks listed l) a' w) (picks L l) a) : anyC P L.toArray C z Q n listed a w := by
  subst hn
  refine calm_seg hsel hQ hC N l (picks L l) listed a hB ?_ h
  clear h
  induction l generalizing listed with
  | nil => rfl
  | cons i r ih =>
    simp only [segB, Bool.and_eq_true] at hB
    have h1 := ih hB.2.2.2.2
    have h2 := hB.2.2.2.1
    rw [List.getElem?_toArray, ← nth_eq] at h2
    unfold picks
    cases hg : nth L i with
    | none => rw [hg] at h2; cases h2
    | some o =>
      simp only [List.map_cons]
      rw [h1, List.getElem?_toArray, ← nth_eq, hg]
theorem lone_do {L : List Oper} {i : Nat} {o : Oper} {n : Nat} {listed : Array Bool} {a : Act} {w : World} (N : Nat) (hn : n = N + 1) (hr : Region.ready .any L.toArray listed = [i]) (hi : nth L i = some o) (hw : Region.wanted o (yielded L.toArray a.tmps) = true)
    (h : ∀ K : Act → World → Prop, (∀ a' w', C w' → anyC P L.toArray C z Q N (listed.setIfInBounds i true) a' w' → K a' w') → o.wp P a w K Q) : anyC P L.toArray C z Q n listed a w := by
  subst hn
  exact lone_want hr (by rw [List.getElem?_toArray, ← nth_eq, hi]) hw fun K hK => h K fun a' w' hC h' => hK a' w' (.inr hC) h'
/-- The last operation. -/
theorem lone_last {L : List Oper} {i : Nat} {o : Oper} {n : Nat} {listed : Array Bool} {a : Act} {w : World} (N : Nat) (hn : n = N + 1) (hz : i = z) (hr : Region.ready .any L.toArray listed = [i]) (hi : nth L i = some o) (hw : Region.wanted o (yielded L.toArray a.tmps) = true)
    (h : ∀ K : Act → World → Prop, (∀ a' w', anyC P L.toArray C z Q N (listed.setIfInBounds i true) a' w' → K a' w') → o.wp P a w K Q) : anyC P L.toArray C z Q n listed a w := by
  subst hn
  exact lone_want hr (by rw [List.getElem?_toArray, ← nth_eq, hi]) hw fun K hK => h K fun a' w' h' => hK a' w' (.inl hz) h'
/-- An operation that alone may come up, and is carried out at once. -/
theorem lone_calm {L : List Oper} {i : Nat} {o : Oper} {n : Nat} {listed : Array Bool} {a : Act} {w : World} (N : Nat) (hn : n = N + 1) (hr : Region.ready .any L.toArray listed = [i]) (hi : nth L i = some o) (ho : atOnce o.op = true) (hC : C w)
    (h : wpQuiet P L.toArray C (fun a' => anyC P L.toArray C z Q N (listed.setIfInBounds i true) a' w) [o] a) : anyC P L.toArray C z Q n listed a w := by
  subst hn
  have hi' : L.toArray[i]? = some o := by rw [List.getElem?_toArray, ← nth_eq, hi]
  refine ⟨fun h0 => (by rw [hr] at h0; cases h0), fun j hj => ?_⟩
  rw [hr] at hj
  obtain rfl := List.mem_singleton.1 hj
  by_cases hw : Region.wanted o (yielded L.toArray a.tmps) = true
  · have h' : o.quiet P a C (wpQuiet P L.toArray C (fun a' => anyC P L.toArray C z Q N (listed.setIfInBounds j true) a' w) []) := by
      have := h
      unfold wpQuiet at this
      rw [if_pos hw] at this
      exact this
    obtain ⟨v, hy, hk⟩ := Calm.of_quiet ho hw h'
    exact hy.op hi' hC ⟨.inr hC, hk⟩
  · have h' : wpQuiet P L.toArray C (fun a' => anyC P L.toArray C z Q N (listed.setIfInBounds j true) a' w) [] (a.put o.dst undef) := by
      have := h
      unfold wpQuiet at this
      rw [if_neg hw] at this
      exact this
    exact Calm.op (v := undef) hi' (.inr ⟨by simpa using hw, rfl⟩) hC ⟨.inr hC, h'⟩
end
end Go.Proofs.YtpfiejmhnkcjbaaGreatDoor
