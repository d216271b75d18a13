/-
   ·  ·  · 
-/
import Derived.Deep.Quiet
import Derived.Deep.RegionLaw
import Derived.Test.YtpfiejmhnkcjbaaGreatDoorHG4x
import Derived.Test.YtpfiejmhnkcjbaaGreatDoorHWb
namespace Go.Proofs.YtpfiejmhnkcjbaaGreatDoor
open Go
section
variable {P : Program} {ops : Array Oper} {C : World -> Prop} {z : Nat} {Q : Exit -> Act -> World -> Prop}
def anyC (P : Program) (ops : Array Oper) (C : World -> Prop) (z : Nat) (Q : Exit -> Act -> World -> Prop) : Nat -> Array Bool -> Act -> World -> Prop
 | 0, listed, a, w => Region.ready .any ops listed = [] /\ Q .normal a w
 | n + 1, listed, a, w => (Region.ready .any ops listed = [] -> Q .normal a w) /\
     ∀ i ∈ Region.ready .any ops listed, wpOp P ops Q i (fun a' w' => (i = z ∨ C w') /\ anyC P ops C z Q n (listed.setIfInBounds i true) a' w') a w
def Calm (P : Program) (ops : Array Oper) (C : World -> Prop) (o : Oper) (v : Value) (a : Act) : Prop :=
 (Region.wanted o (yielded ops a.tmps) = true /\ ∀ w, C w -> (execOp a.eval o).run P w = .ok (.value v) w) ∨ (Region.wanted o (yielded ops a.tmps) = false /\ v = undef)
theorem Calm.op {i : Nat} {o : Oper} {v : Value} {a : Act} {w : World} (hi : ops[i]? = some o) (hy : Calm P ops C o v a) (hC : C w) {K : Act -> World -> Prop} (h : K (a.put o.dst v) w) : wpOp P ops Q i K a w := by
 unfold wpOp
 simp only [hi]
 rcases hy with ⟨hw, hv⟩ | ⟨hw, rfl⟩
 . rw [if_pos hw]
   left
   simp only [Oper.wp, hv w hC, Oper.upon]
   exact h
 . rw [if_neg (by rw [hw]; exact Bool.false_ne_true)]
   exact h
def Behind (a : Act) (o : Oper) (a' : Act) : Prop := ∃ u, a' = a.put o.dst u ∨ ∃ d, a' = ({ a with defers := d :: a.defers } : Act).put o.dst u
theorem op_behind {j : Nat} {oj : Oper} {a : Act} {w : World} {K : Act -> World -> Prop} (hj : ops[j]? = some oj) (h : wpOp P ops Q j K a w) : wpOp P ops Q j (fun a' w' => Behind a oj a' /\ K a' w') a w := by
 unfold wpOp at *
 simp only [hj] at *
 by_cases hw : Region.wanted oj (yielded ops a.tmps) = true
 . rw [if_pos hw] at h ⊢
   rcases h with h | h
   case inr => exact .inr h
   left
   unfold Oper.wp at *
   generalize (execOp a.eval oj).run P w = r at *
   cases r with
   | ok n w' =>
     cases n <;> simp only [Oper.upon] at h ⊢
     case value u => exact ⟨⟨u, .inl rfl⟩, h⟩
     case skip => exact ⟨⟨_, .inl rfl⟩, h⟩
     case defer d => exact ⟨⟨_, .inr ⟨d, rfl⟩⟩, h⟩
     case enter f args =>
      refine Calls.mono h fun e w'' he => ?_
      cases e with
      | returned u => exact ⟨⟨u, .inl rfl⟩, he⟩
      | panicked c => exact he
      | outgrown => exact he
     case row row args => exact Rows.mono h fun u w'' he => ⟨⟨u, .inl rfl⟩, he⟩
   | halt x w' => cases x <;> simp only [Oper.upon] at h ⊢ <;> exact h
 . rw [if_neg hw] at h ⊢
   exact ⟨⟨_, .inl rfl⟩, h⟩
theorem Calm.same {o : Oper} {v : Value} {a a' : Act} (hy : Calm P ops C o v a) (he : execOp a'.eval o = execOp a.eval o) (hw : Region.wanted o (yielded ops a'.tmps) = Region.wanted o (yielded ops a.tmps)) : Calm P ops C o v a' := by
 unfold Calm at *
 rw [he, hw]
 exact hy
theorem Calm.behind {oi oj : Oper} {v : Value} {a a' : Act} (hs : ∀ cs b, oi.op ≠ .select cs b) (hap : oi.apart ops oj = true) (hy : Calm P ops C oi v a) (hb : Behind a oj a') : Calm P ops C oi v a' := by
 obtain ⟨_, _, h3⟩ := Oper.apart_spec hap
 obtain ⟨u, rfl | ⟨d, rfl⟩⟩ := hb
 . exact hy.same (execOp_put oi hs a oj.dst u h3) (wanted_put oi a oj.dst u h3)
 . have hy' : Calm P ops C oi v { a with defers := d :: a.defers } := hy.same rfl rfl
   exact hy'.same (execOp_put oi hs _ oj.dst u h3) (wanted_put oi _ oj.dst u h3)
theorem stand_apart {oi oj : Oper} (v : Value) (h : oi.apart ops oj = true) : ({ oi with op := .move (.const v), guard := none } : Oper).apart ops oj = true := by
 unfold Oper.apart at *
 rw [Bool.and_eq_true] at *
 refine ⟨h.1, ?_⟩
 cases oj.dst with
 | none => rfl
 | some d => simp [Oper.looksAt, Op.operands]
theorem put_first {j : Nat} {oi oj : Oper} {v : Value} (hj : ops[j]? = some oj) (hap : oi.apart ops oj = true) (hsi : ∀ cs b, oi.op ≠ .select cs b) (hsj : ∀ cs b, oj.op ≠ .select cs b)
 (hQ : ∀ c (a : Act) (d : Option Tmp) v w, Q (.panic c) (a.put d v) w -> Q (.panic c) a w) {K : Act -> World -> Prop} {a : Act} {w : World} (hy : Calm P ops C oi v a) (h : wpOp P ops Q j K (a.put oi.dst v) w) :
 wpOp P ops Q j (fun a' w' => Calm P ops C oi v a' /\ K (a'.put oi.dst v) w') a w := by
 have h1 := wpOp_put (oi := { oi with op := .move (.const v), guard := none }) (v := v) hj (stand_apart v hap) (fun _ _ e => by cases e) hsj (fun _ _ _ h => hQ _ _ _ _ _ h) (a := a) (.inl ⟨rfl, fun _ => rfl⟩) h
 exact wpOp_mono (fun a' w' h' => ⟨hy.behind hsi hap h'.1, h'.2.2⟩) (op_behind hj h1)
theorem anyC_first {i : Nat} {oi : Oper} {v : Value} (hi : ops[i]? = some oi) (hz : ∃ oz, ops[z]? = some oz /\ ∃ e ∈ oz.after, Region.binds .any e = true /\ e.on = i) (hsel : Region.noSelect ops = true) (hQ : ∀ c (a : Act) (d : Option Tmp) v w, Q (.panic c) (a.put d v) w -> Q (.panic c) a w) :
 ∀ (n : Nat) (listed : Array Bool) (a : Act) (w : World), C w ->
   (∀ j oj, ops[j]? = some oj -> j ≠ i -> listed.getD j true = false -> (∀ e ∈ oj.after, Region.binds .any e = true -> e.on ≠ i) -> oi.apart ops oj = true) ->
   i ∈ Region.ready .any ops listed -> Calm P ops C oi v a -> anyC P ops C z Q n (listed.setIfInBounds i true) (a.put oi.dst v) w -> anyC P ops C z Q (n + 1) listed a w := by
 intro n
 induction n with
 | zero =>
   intro listed a w hC _ hr hy H
   refine ⟨fun h => absurd hr (by rw [h]; exact List.not_mem_nil), fun j hj => ?_⟩
   by_cases e : j = i
   . subst e
     exact hy.op hi hC ⟨.inr hC, H⟩
   . have := ready_mono hj e
     rw [H.1] at this
     exact absurd this List.not_mem_nil
 | succ n ih =>
   intro listed a w hC hfree hr hy H
   refine ⟨fun h => absurd hr (by rw [h]; exact List.not_mem_nil), fun j hj => ?_⟩
   by_cases e : j = i
   . subst e
     exact hy.op hi hC ⟨.inr hC, H⟩
   . obtain ⟨hun, oj, hoj, hall⟩ := mem_ready.1 hj
     have hi0 := (mem_ready.1 hr).1
     have hnot : ∀ e ∈ oj.after, Region.binds .any e = true -> e.on ≠ i := fun ed he hb heq => by
      have h1 := hall ed he hb
      rw [heq, Array.getD_eq_getD_getElem?] at h1
      rw [Array.getD_eq_getD_getElem?] at hi0
      cases hg : listed[i]? with
      | none => rw [hg] at hi0; cases hi0
      | some b => rw [hg] at h1 hi0; simp at h1 hi0; rw [h1] at hi0; cases hi0
     have hjz : j ≠ z := by
      rintro rfl
      obtain ⟨oz, h1, ed, h2, h3, h4⟩ := hz
      rw [hoj] at h1
      obtain rfl := Option.some.inj h1
      exact hnot ed h2 h3 h4
     have h2 := put_first hoj (hfree j oj hoj e hun hnot) (fun cs b => Region.noSelect_spec hsel i oi cs b hi) (fun cs b => Region.noSelect_spec hsel j oj cs b hoj) hQ hy (H.2 j (ready_mono hj e))
     refine wpOp_mono (fun a' w' h3 => ⟨.inr (h3.2.1.resolve_left hjz), ih (listed.setIfInBounds j true) a' w' (h3.2.1.resolve_left hjz) (fun k ok hk hki hku hno => hfree k ok hk hki ?_ hno) (ready_mono hr (Ne.symm e)) h3.1 ?_⟩) h2
     . by_cases hjk : j = k
       . rw [<- hjk]; exact hun
       . rw [getD_set_ne true hjk] at hku; exact hku
     . rw [Array.setIfInBounds_comm _ _ e]
       exact h3.2.2
def atOnce : Op -> Bool
 | .move _ | .assign _ | .pick .. | .load .. | .binOp .. | .unOp .. | .indexAddr .. | .index .. | .fieldAddr .. | .field .. | .extract .. | .convert .. | .slice .. | .build .. | .nilCheck _ => true
 | _ => false
theorem nil_value {ρ : Operand -> Value} {o : Oper} {x : Operand} {w w' : World} {n : Next} (hop : o.op = .nilCheck x) (he : (execOp ρ o).run P w = .ok n w') : ∃ v, n = .value v := by
 have pan : ∀ m : Next, ¬ (runtimePanic .nilDeref : Sem Next).run P w = .ok m w' := fun m h => by simp [runtimePanic, go_sem] at h
 unfold execOp at he
 simp only [hop] at he
 generalize ρ x = y at he
 split at he
 . exact (pan _ he).elim
 . exact (pan _ he).elim
 . exact (pan _ he).elim
 . split at he
   . exact (pan _ he).elim
   . rw [Sem.run_bind] at he
     generalize (program : Sem Program).run P w = r at he
     cases r with
     | halt a b => cases he
     | ok p w1 =>
       rw [Result.andThen_ok, Sem.run_bind] at he
       generalize (nilAhead _ _ _ _).run P w1 = r at he
       cases r with
       | halt a b => cases he
       | ok q w2 =>
         rw [Result.andThen_ok] at he
         split at he
         . rw [Sem.run_bind] at he
           generalize (unsupported _ : Sem PUnit).run P w2 = r at he
           cases r with
           | halt a b => cases he
           | ok q w2 => rw [Result.andThen_ok, Sem.run_pure] at he; injection he with he; exact ⟨_, he.symm⟩
         . first
           | (rw [Sem.run_pure] at he; injection he with he; exact ⟨_, he.symm⟩)
           | (rw [Sem.run_bind, Sem.run_pure, Result.andThen_ok, Sem.run_pure] at he; injection he with he; exact ⟨_, he.symm⟩)
   . rw [Sem.run_pure] at he; injection he with he; exact ⟨_, he.symm⟩
 . rw [Sem.run_pure] at he; injection he with he; exact ⟨_, he.symm⟩
theorem once_value {ρ : Operand -> Value} {o : Oper} {w w' : World} {n : Next} (h : atOnce o.op = true) (he : (execOp ρ o).run P w = .ok n w') : ∃ v, n = .value v := by
 have key : ∀ (s : Sem Value), (do pure (Next.value (<- s)) : Sem Next).run P w = .ok n w' -> ∃ v, n = .value v := fun s hs => by
  rw [Sem.run_bind] at hs
  cases hr : s.run P w with
  | ok x y =>
    rw [hr, Result.andThen_ok, Sem.run_pure] at hs
    injection hs with hs
    exact ⟨x, hs.symm⟩
  | halt x y =>
    rw [hr] at hs
    cases hs
 by_cases hnc : ∃ x, o.op = .nilCheck x
 . obtain ⟨x, hx⟩ := hnc
   exact nil_value hx he
 unfold execOp at he
 cases hop : o.op <;> rw [hop] at h he <;> simp only [atOnce, Bool.false_eq_true] at h <;> first
  | exact (hnc ⟨_, hop⟩).elim
  | exact key _ he
  | (rw [Sem.run_pure] at he; injection he with he; exact ⟨_, he.symm⟩)
  | (rw [Sem.run_bind] at he
     generalize (asBool _).run P w = r at he
     cases r with
     | ok x y => rw [Result.andThen_ok, Sem.run_pure] at he; injection he with he; exact ⟨_, he.symm⟩
     | halt x y => cases he)
theorem Calm.of_quiet {o : Oper} {a : Act} {K : Act -> Prop} (h : atOnce o.op = true) (hw : Region.wanted o (yielded ops a.tmps) = true) (hq : o.quiet P a C K) : ∃ v, Calm P ops C o v a /\ K (a.put o.dst v) := by
 obtain ⟨v, h1, h2⟩ := hq
 refine ⟨v, .inl ⟨hw, fun w hC => ?_⟩, h2⟩
 have h3 := h1 w hC
 unfold Oper.quietAt at h3
 cases hr : (execOp a.eval o).run P w with
 | ok n w' =>
   obtain ⟨u, rfl⟩ := once_value h hr
   rw [hr] at h3
   obtain ⟨rfl, rfl⟩ := h3
   rfl
 | halt x w' =>
   rw [hr] at h3
   exact h3.elim
def lastOn (ops : Array Oper) (z i : Nat) : Bool := match ops[z]? with | some oz => oz.after.any (fun e => Region.binds .any e && e.on == i) | none => false
theorem lastOn_spec {i : Nat} (h : lastOn ops z i = true) : ∃ oz, ops[z]? = some oz /\ ∃ e ∈ oz.after, Region.binds .any e = true /\ e.on = i := by
 unfold lastOn at h
 cases hz : ops[z]? with
 | none => rw [hz] at h; cases h
 | some oz =>
   rw [hz] at h
   simp only [Array.any_eq_true', Bool.and_eq_true, beq_iff_eq] at h
   obtain ⟨e, h1, h2, h3⟩ := h
   exact ⟨oz, rfl, e, h1, h2, h3⟩
def segB (ops : Array Oper) (z : Nat) : Array Bool -> List Nat -> Bool
 | _, [] => true
 | listed, i :: r => lastOn ops z i && ((Region.ready .any ops listed).contains i && (Region.free .any ops listed i && ((match ops[i]? with | some o => atOnce o.op | none => false) && segB ops z (listed.setIfInBounds i true) r)))
def marks : Array Bool -> List Nat -> Array Bool
 | l, [] => l
 | l, i :: r => marks (l.setIfInBounds i true) r
theorem calm_seg (hsel : Region.noSelect ops = true) (hQ : ∀ c (a : Act) (d : Option Tmp) v w, Q (.panic c) (a.put d v) w -> Q (.panic c) a w) {w : World} (hC : C w) (n : Nat) : ∀ (l : List Nat) (L : List Oper) (listed : Array Bool) (a : Act), segB ops z listed l = true -> l.map (fun i => ops[i]?) = L.map some ->
 wpQuiet P ops C (fun a' => anyC P ops C z Q n (marks listed l) a' w) L a -> anyC P ops C z Q (n + l.length) listed a w
 | [], [], _, _, _, _, h => h
 | [], _ :: _, _, _, _, e, _ => by cases e
 | _ :: _, [], _, _, _, e, _ => by cases e
 | i :: l, o :: L, listed, a, hB, e, h => by
   simp only [List.map_cons, List.cons.injEq] at e
   obtain ⟨e0, e1⟩ := e
   simp only [segB, e0, Bool.and_eq_true] at hB
   obtain ⟨hz, hr, hf, ho, hB'⟩ := hB
   have go : ∀ v, Calm P ops C o v a -> wpQuiet P ops C (fun a' => anyC P ops C z Q n (marks (listed.setIfInBounds i true) l) a' w) L (a.put o.dst v) -> anyC P ops C z Q (n + (i :: l).length) listed a w := fun v hy h' =>
    anyC_first e0 (lastOn_spec hz) hsel hQ (n + l.length) listed a w hC (Region.free_spec e0 hf) (by simpa using hr) hy (calm_seg hsel hQ hC n l L _ _ hB' e1 h')
   by_cases hw : Region.wanted o (yielded ops a.tmps) = true
   . have h' : o.quiet P a C (wpQuiet P ops C (fun a' => anyC P ops C z Q n (marks (listed.setIfInBounds i true) l) a' w) L) := by
      have := h
      unfold wpQuiet at this
      rw [if_pos hw] at this
      exact this
     obtain ⟨v, hy, hk⟩ := Calm.of_quiet ho hw h'
     exact go v hy hk
   . have h' : wpQuiet P ops C (fun a' => anyC P ops C z Q n (marks (listed.setIfInBounds i true) l) a' w) L (a.put o.dst undef) := by
      have := h
      unfold wpQuiet at this
      rw [if_neg hw] at this
      exact this
     exact go undef (.inr ⟨by simpa using hw, rfl⟩) h'
theorem lone_want {i : Nat} {o : Oper} {n : Nat} {listed : Array Bool} {a : Act} {w : World} (hr : Region.ready .any ops listed = [i]) (hi : ops[i]? = some o) (hw : Region.wanted o (yielded ops a.tmps) = true)
 (h : ∀ K : Act -> World -> Prop, (∀ a' w', (i = z ∨ C w') -> anyC P ops C z Q n (listed.setIfInBounds i true) a' w' -> K a' w') -> o.wp P a w K Q) : anyC P ops C z Q (n + 1) listed a w := by
 refine ⟨fun h0 => (by rw [hr] at h0; cases h0), fun j hj => ?_⟩
 rw [hr] at hj
 obtain rfl := List.mem_singleton.1 hj
 unfold wpOp
 simp only [hi]
 rw [if_pos hw]
 exact .inl (h _ fun a' w' hC h' => ⟨hC, h'⟩)
theorem anyC_done {n : Nat} {listed : Array Bool} {a : Act} {w : World} (hr : Region.ready .any ops listed = []) (h : Q .normal a w) : anyC P ops C z Q n listed a w := by
 cases n with
 | zero => exact ⟨hr, h⟩
 | succ n => exact ⟨fun _ => h, by rw [hr]; simp⟩
def Whole (Q : Exit -> Act -> World -> Prop) : Exit -> Act -> World -> Prop := fun e a w => e = .normal /\ Q .normal a w
theorem whole_blind (c : List PanicEntry) (a : Act) (d : Option Tmp) (v : Value) (w : World) (h : Whole Q (.panic c) (a.put d v) w) : Whole Q (.panic c) a w := by
 cases h.1
theorem whole_lets (h : LetsOut (Whole Q)) : False := by
 obtain ⟨a, w, h⟩ := h
 cases h.1
theorem whole_op {i : Nat} {K : Act -> World -> Prop} {a : Act} {w : World} (h : wpOp P ops (Whole Q) i K a w) : wpOp P ops Q i K a w := by
 unfold wpOp at *
 cases ho : ops[i]? with
 | none => simp only [ho] at h ⊢; exact h
 | some o =>
   simp only [ho] at h ⊢
   by_cases hw : Region.wanted o (yielded ops a.tmps) = true
   . rw [if_pos hw] at h ⊢
     rcases h with h | ⟨_, h⟩
     . left
       unfold Oper.wp at *
       generalize (execOp a.eval o).run P w = r at *
       cases r with
       | ok n w' =>
         cases n <;> simp only [Oper.upon] at h ⊢ <;> first
          | exact h
          | exact Calls.mono h (fun e w'' he => by cases e <;> first | exact he | exact (whole_lets he).elim | (cases (And.left he)))
          | exact Rows.mono h (fun _ _ he => he)
       | halt x w' => cases x <;> simp only [Oper.upon] at h ⊢ <;> first | exact h | (cases h.1)
     . exact (whole_lets h).elim
   . rw [if_neg hw] at h ⊢
     exact h
theorem whole_any : ∀ (n : Nat) (listed : Array Bool) (a : Act) (w : World), anyC P ops C z (Whole Q) n listed a w -> wpAny P .any ops Q n listed a w
 | 0, _, _, _, h => ⟨h.1, h.2.2⟩
 | n + 1, _, _, _, h => ⟨fun h0 => (h.1 h0).2, fun i hi => wpOp_mono (fun a' w' h' => whole_any n _ a' w' h'.2) (whole_op (h.2 i hi))⟩
theorem region_calm {id : Nat} {a : Act} {w : World} (C : World -> Prop) (z : Nat) (hm : P.follows .mixedOrders = true) (h : anyC P ops C z (Whole Q) ops.size (Array.replicate ops.size false) a { w with drawn := w.drawn + 1 }) : (Code.region id ops true).wp P Q a w :=
 wp_region_any hm (whole_any _ _ _ _ h)
def nth : List Oper -> Nat -> Option Oper
 | [], _ => none
 | o :: _, 0 => some o
 | _ :: r, n + 1 => nth r n
theorem nth_eq : ∀ (L : List Oper) (i : Nat), nth L i = L[i]?
 | [], _ => rfl
 | _ :: _, 0 => rfl
 | _ :: r, n + 1 => by simpa [nth] using nth_eq r n
def picks (L : List Oper) : List Nat -> List Oper
 | [] => []
 | i :: r => match nth L i with
   | some o => o :: picks L r
   | none => picks L r
theorem seg {L : List Oper} {n : Nat} {listed : Array Bool} {a : Act} {w : World} (N : Nat) (l : List Nat) (hn : n = N + l.length) (hsel : Region.noSelect L.toArray = true) (hQ : ∀ c (a : Act) (d : Option Tmp) v w, Q (.panic c) (a.put d v) w -> Q (.panic c) a w) (hC : C w)
 (hB : segB L.toArray z listed l = true) (h : wpQuiet P L.toArray C (fun a' => anyC P L.toArray C z Q N (marks listed l) a' w) (picks L l) a) : anyC P L.toArray C z Q n listed a w := by
 subst hn
 refine calm_seg hsel hQ hC N l (picks L l) listed a hB ?_ h
 clear h
 induction l generalizing listed with
 | nil => rfl
 | cons i r ih =>
   simp only [segB, Bool.and_eq_true] at hB
   have h1 := ih hB.2.2.2.2
   have h2 := hB.2.2.2.1
   rw [List.getElem?_toArray, <- nth_eq] at h2
   unfold picks
   cases hg : nth L i with
   | none => rw [hg] at h2; cases h2
   | some o =>
     simp only [List.map_cons]
     rw [h1, List.getElem?_toArray, <- nth_eq, hg]
theorem lone_do {L : List Oper} {i : Nat} {o : Oper} {n : Nat} {listed : Array Bool} {a : Act} {w : World} (N : Nat) (hn : n = N + 1) (hr : Region.ready .any L.toArray listed = [i]) (hi : nth L i = some o) (hw : Region.wanted o (yielded L.toArray a.tmps) = true)
 (h : ∀ K : Act -> World -> Prop, (∀ a' w', C w' -> anyC P L.toArray C z Q N (listed.setIfInBounds i true) a' w' -> K a' w') -> o.wp P a w K Q) : anyC P L.toArray C z Q n listed a w := by
 subst hn
 exact lone_want hr (by rw [List.getElem?_toArray, <- nth_eq, hi]) hw fun K hK => h K fun a' w' hC h' => hK a' w' (.inr hC) h'
theorem lone_calm {L : List Oper} {i : Nat} {o : Oper} {n : Nat} {listed : Array Bool} {a : Act} {w : World} (N : Nat) (hn : n = N + 1) (hr : Region.ready .any L.toArray listed = [i]) (hi : nth L i = some o) (ho : atOnce o.op = true) (hC : C w)
 (h : wpQuiet P L.toArray C (fun a' => anyC P L.toArray C z Q N (listed.setIfInBounds i true) a' w) [o] a) : anyC P L.toArray C z Q n listed a w := by
 subst hn
 have hi' : L.toArray[i]? = some o := by rw [List.getElem?_toArray, <- nth_eq, hi]
 refine ⟨fun h0 => (by rw [hr] at h0; cases h0), fun j hj => ?_⟩
 rw [hr] at hj
 obtain rfl := List.mem_singleton.1 hj
 by_cases hw : Region.wanted o (yielded L.toArray a.tmps) = true
 . have h' : o.quiet P a C (wpQuiet P L.toArray C (fun a' => anyC P L.toArray C z Q N (listed.setIfInBounds j true) a' w) []) := by
    have := h
    unfold wpQuiet at this
    rw [if_pos hw] at this
    exact this
   obtain ⟨v, hy, hk⟩ := Calm.of_quiet ho hw h'
   exact hy.op hi' hC ⟨.inr hC, hk⟩
 . have h' : wpQuiet P L.toArray C (fun a' => anyC P L.toArray C z Q N (listed.setIfInBounds j true) a' w) [] (a.put o.dst undef) := by
    have := h
    unfold wpQuiet at this
    rw [if_neg hw] at this
    exact this
   exact Calm.op (v := undef) hi' (.inr ⟨by simpa using hw, rfl⟩) hC ⟨.inr hC, h'⟩
end
end Go.Proofs.YtpfiejmhnkcjbaaGreatDoor
namespace Go.Proofs.YtpfiejmhnkcjbaaGreatDoor
open Go Go.RowKit
set_option linter.unusedVariables false
section
variable {P : Program} {C : World -> Prop} {z : Nat} {Q : Exit -> Act -> World -> Prop}
theorem one_of {L : List Oper} {n : Nat} {listed : Array Bool} {a : Act} {w : World} (N : Nat) (hn : n = N + 1) (is : List Nat) (hr : Region.ready .any L.toArray listed = is) (hne : is ≠ [])
 (h : ∀ i ∈ is, ∃ o, nth L i = some o /\ Region.wanted o (yielded L.toArray a.tmps) = true /\ ∀ K : Act -> World -> Prop, (∀ a' w', (i = z ∨ C w') -> anyC P L.toArray C z Q N (listed.setIfInBounds i true) a' w' -> K a' w') -> o.wp P a w K Q) : anyC P L.toArray C z Q n listed a w := by
 subst hn
 refine ⟨fun h0 => absurd (hr.symm.trans h0) hne, fun j hj => ?_⟩
 rw [hr] at hj
 obtain ⟨o, h1, h2, h3⟩ := h j hj
 unfold wpOp
 simp only [show L.toArray[j]? = some o by rw [List.getElem?_toArray, <- nth_eq, h1]]
 rw [if_pos h2]
 exact .inl (h3 _ fun a' w' hC h' => ⟨hC, h'⟩)
theorem two_do {L : List Oper} {i j : Nat} {oi oj : Oper} {n : Nat} {listed : Array Bool} {a : Act} {w : World} (N : Nat) (hn : n = N + 1) (hr : Region.ready .any L.toArray listed = [i, j]) (hi : nth L i = some oi) (hwi : Region.wanted oi (yielded L.toArray a.tmps) = true) (hj : nth L j = some oj) (hwj : Region.wanted oj (yielded L.toArray a.tmps) = true)
 (h1 : ∀ K : Act -> World -> Prop, (∀ a' w', C w' -> anyC P L.toArray C z Q N (listed.setIfInBounds i true) a' w' -> K a' w') -> oi.wp P a w K Q) (h2 : ∀ K : Act -> World -> Prop, (∀ a' w', C w' -> anyC P L.toArray C z Q N (listed.setIfInBounds j true) a' w' -> K a' w') -> oj.wp P a w K Q) : anyC P L.toArray C z Q n listed a w := by
 refine one_of N hn [i, j] hr (by simp) fun k hk => ?_
 by_cases e : k = i
 . subst e
   exact ⟨oi, hi, hwi, fun K hK => h1 K fun a' w' hC => hK a' w' (.inr hC)⟩
 . have : k = j := by simpa [e] using hk
   subst this
   exact ⟨oj, hj, hwj, fun K hK => h2 K fun a' w' hC => hK a' w' (.inr hC)⟩
end
theorem enters {P : Program} {f : FuncId} {fn : Func} {c : Code} (hf : P.funcs[f]? = some fn) (hname : (fn.name == "runtime.NumGoroutine") = false) (hb : fn.body = some c) : ∀ (args : Array Value) (w : World), (callFunc f args).run P w = .ok (.enter f args) w := by
 intro args w
 have h1 : fn.name ≠ "runtime.NumGoroutine" := by simpa using hname
 simp [callFunc, hf, h1, hb]
section
variable {o : Oper} {a : Act} {w : World} {K : Act -> World -> Prop} {Q : Exit -> Act -> World -> Prop}
theorem oper_call (k : Nat) (xs : Array Operand) (ts : Array TypeId)
 (hop : o.op = Op.call { callee := Callee.value (Operand.func k), args := xs, argTypes := ts }) (args : Array Value) (hargs : xs.map a.eval = args)
 (hent : ∀ (args : Array Value) (w : World), (callFunc k args).run Tryz.prog w = .ok (.enter k args) w) (R : Value -> World -> Prop)
 (hc : Calls Tryz.prog k args w fun e w' => ∃ v, e = .returned v /\ R v w') (hK : ∀ v w', R v w' -> K (a.put o.dst v) w') : Oper.wp Tryz.prog o a w K Q := by
 unfold Oper.wp
 have : (execOp a.eval o).run Tryz.prog w = .ok (.enter k args) w := by
  simp [execOp, hop, resolve, invoke, Act.eval, hargs, hent, Deferred.ofValue]
 rw [this, Oper.upon_enter]
 refine hc.mono ?_
 rintro e w' ⟨v, rfl, hr⟩
 exact hK v w' hr
theorem oper_byte (t : Nat) (ho : o.op = .buildSlice 34 1 #[(0, .tmp t)]) (n : Int) (hx : a.tmps.getD t undef = .int .u8 n) (hK : K (a.put o.dst (.slice (some ⟨w.heap.size, 0, none⟩) 1 1)) (w.alloc (.cells #[.int .u8 n] 5))) : Oper.wp Tryz.prog o a w K Q := by
 have hx' : a.tmps[t]?.getD undef = .int .u8 n := by simpa using hx
 unfold Oper.wp execOp
 simp only [ho]
 go_simp
 exact hK
end
end Go.Proofs.YtpfiejmhnkcjbaaGreatDoor
namespace Go.Proofs.YtpfiejmhnkcjbaaGreatDoor
open Go.RowKit Math
set_option linter.unusedVariables false
theorem oper_apb {o : Oper} {a : Act} {K : Act -> World -> Prop} {Q : Exit -> Act -> World -> Prop} {w : World} (s x : Operand)
 (ho : o.op = .call { callee := .builtin .append, args := #[s, x], argTypes := #[34, 34] })
 (base : Nat) (v : Value) (l : List Nat) (hs : a.eval s = v) (hown : Own w base v l)
 (ax : Option Addr) (m c : Nat) (l2 : List Nat) (hm : m = l2.length) (hx : a.eval x = .slice ax m c) (hsrc : Byt w ax l2) (hnil : ax = none -> c = 0)
 (hb : l.length + l2.length <= 1000000000) (hbase : base <= w.heap.size)
 (h : ∀ v' w', Ap base w w' v v' (l ++ l2) -> K (a.put o.dst v') w') : Oper.wp Tryz.prog o a w K Q := by
 subst hm
 obtain ⟨i, hi, hz0, hz1, hz2⟩ := info_parts Tryz.info5
 cases ax with
 | none =>
   obtain rfl := hnil rfl
   have hl : l2 = [] := by
    rcases hsrc with h | ⟨_, _, h, _⟩
    . exact h
    . cases h
   subst hl
   have hr := run_append_owned_none (P := Tryz.prog) (w := w) base 34 o.type 5 i 1 Tryz.underlying34 hi v _ _ hown
   unfold Oper.wp execOp
   simp only [ho, resolve, invoke, builtin, Sem.run_bind, Sem.run_pure, Result.andThen_ok, List.map_toArray, List.map_cons, List.map_nil, hs, hx, List.length_nil, hr]
   exact (h v w (by rw [List.append_nil]; exact Ap.refl hown))
 | some ad =>
   obtain ⟨v', w', r1, r2, r3, _, r5⟩ := run_append_own_at (P := Tryz.prog) w base 34 o.type 5 i _ 1 1 Tryz.underlying34 hi hz0 hz1 hz2 rfl (by decide) v _ _ hown ad l2.length c (vals l2) (by simp [vals_length]) (by
    intro j u hj
    have hjl : j < l2.length := by
     have := (List.getElem?_eq_some_iff.1 hj).1
     simpa [vals_length] using this
    rcases hsrc with rfl | ⟨b, off, he, hc⟩
    . simp at hjl
    . obtain rfl := Option.some.inj he
      rw [vals_get l2 j hjl] at hj
      rw [Addr.add_lit, hc j hjl]
      exact hj) (vals_one l2) (by unfold maxLen; omega) (by omega) hbase
   unfold Oper.wp execOp
   simp only [ho, resolve, invoke, builtin, Sem.run_bind, Sem.run_pure, Result.andThen_ok, List.map_toArray, List.map_cons, List.map_nil, hs, hx, r1]
   refine (h v' w' ⟨?_, r3, fun b hb => ?_⟩)
   . unfold Own
     rw [List.length_append, vals_app]
     exact r2
   . rcases r5 with e | e
     . exact .inl (e.symm.trans hb)
     . rw [e] at hb
       exact .inr (by injection hb with hb; omega)
theorem q_one {C : World -> Prop} {a : Act} {o : Oper} {K : Act -> Prop} (T : TypeId) (hT : T = 3 ∨ T = 9 ∨ T = 38 ∨ T = 39 ∨ T = 34 ∨ T = 23) (x : Operand) (ho : o.op = .load T x) (b k : Nat) (hx : a.eval x = .pointer (some ⟨b, k, none⟩)) (v : Value) (hS : ∀ w, C w -> w.cell? ⟨b, k, none⟩ = some v)
 (hk : K (a.put o.dst v)) : o.quiet Tryz.prog a C K :=
 ⟨_, fun w hw => by
   have h := hS w hw
   unfold Oper.quietAt execOp
   rcases hT with rfl | rfl | rfl | rfl | rfl | rfl <;> simp only [ho, hx] <;> go_simp, hk⟩
end Go.Proofs.YtpfiejmhnkcjbaaGreatDoor
namespace Go.Proofs.YtpfiejmhnkcjbaaGreatDoor
set_option maxRecDepth 8000
open Go.RowKit Math
set_option linter.unusedVariables false
theorem av_4 (n : Int) (t : ByteArray) (na : Option Addr) (nl nc : Nat) (ka : Option Addr) (kl kc : Nat) (ax : Option Addr) (c : Nat) (l : List Nat) (hl : l.length <= 65536) (n0 : -9223372036854775808 <= n) (n1 : n < 9223372036854775808) (q : Nat) (hq : q < 256) (B : Nat) (W : World) (ho : Own W B (.slice ax l.length c) l) (hB : B <= W.heap.size) :
 Calls Tryz.prog 138 #[.slice ax l.length c, .agg #[.int .i64 4, .int .i64 n, .int .i64 (q : Int), .string t, .slice na nl nc, .slice ka kl kc]] W fun e w' => ∃ v', e = .returned v' /\ Ap B W w' (.slice ax l.length c) v' (l ++ 4 :: (uv (zigS n).toNat ++ [q])) := by
 have h1 : decide ((65536 : Int) < (l.length : Int)) = false := by simp; omega
 have hb0 : Below W.heap.size W (W.alloc (.cells #[.int .i64 4, .int .i64 n, .int .i64 (q : Int), .string t, .slice na nl nc, .slice ka kl kc] 41)) := (Below.refl _ _).alloc (Nat.le_refl _) _
 have HO : Hid (Own (W.alloc (.cells #[.int .i64 4, .int .i64 n, .int .i64 (q : Int), .string t, .slice na nl nc, .slice ka kl kc] 41)) B (.slice ax l.length c) l) := ho.alloc _
 have HX : Hid (Blk (W.alloc (.cells #[.int .i64 4, .int .i64 n, .int .i64 (q : Int), .string t, .slice na nl nc, .slice ka kl kc] 41)) W.heap.size 41 [.int .i64 4, .int .i64 n, .int .i64 (q : Int), .string t, .slice na nl nc, .slice ka kl kc]) := blk_new W 41 [.int .i64 4, .int .i64 n, .int .i64 (q : Int), .string t, .slice na nl nc, .slice ka kl kc]
 have HN : Hid ((Value.slice ax l.length c).ownBlock ≠ some W.heap.size) := ho.ne
 have HB0 : Hid (Below W.heap.size W (W.alloc (.cells #[.int .i64 4, .int .i64 n, .int .i64 (q : Int), .string t, .slice na nl nc, .slice ka kl kc] 41))) := hb0
 have hz : B <= (W.alloc (.cells #[.int .i64 4, .int .i64 n, .int .i64 (q : Int), .string t, .slice na nl nc, .slice ka kl kc] 41)).heap.size := by simp; omega
 have HZ : Hid ((W.alloc (.cells #[.int .i64 4, .int .i64 n, .int .i64 (q : Int), .string t, .slice na nl nc, .slice ka kl kc] 41)).heap.size = W.heap.size + 1) := by show _ = _; simp
 clear ho hb0
 go_enter Tryz.func138, Tryz.ntmps138
 go_wp2_with (at_builtin; go_must (generalize hWW : World.alloc W _ = W1 at *; refine ap_bytes rfl (.tmp 9) (.tmp 13) rfl B _ l rfl (HO.out.alloc _) _ _ _ [4] rfl rfl (byt_at W1 [4] _ HZ.out) (by simp) (by simp; omega) (by simp; omega) ?_))
 intro v1 w1 A1
 have HA : Hid (Ap B W1 w1 (.slice ax l.length c) v1 (l ++ [4])) := Ap.after ((Below.refl _ _).alloc (Nat.le_refl _) _) A1
 clear A1
 have hb1 : B <= w1.heap.size := Nat.le_trans hz HA.out.gr.size
 have HX1 : Hid (Blk w1 W.heap.size 41 [.int .i64 4, .int .i64 n, .int .i64 (q : Int), .string t, .slice na nl nc, .slice ka kl kc]) := HA.out.blk HX.out HN.out
 have HNE : Hid (v1.ownBlock ≠ some W.heap.size) := fun e => by
  rcases HA.out.ob _ e with h | h
  . exact HN.out h
  . rw [HZ.out] at h
    omega
 have HAW : Hid (Ap B W w1 (.slice ax l.length c) v1 (l ++ [4])) := Ap.after HB0.out HA.out
 clear HA HX HO HB0 hWW hz
 have c0 : w1.cell? ⟨W.heap.size, 0, none⟩ = some (.int .i64 4) := HX1.out.cell 0
 have hu := uv_ten _ (zig_nat n n0 n1).1
 go_wp2
 obtain ⟨C, hC⟩ : ∃ C : World -> Prop, C = fun W' => Blk W' W.heap.size 41 [.int .i64 4, .int .i64 n, .int .i64 (q : Int), .string t, .slice na nl nc, .slice ka kl kc] := ⟨_, rfl⟩
 have C1 : Hid (∀ W', C W' -> W'.cell? ⟨W.heap.size, 1, none⟩ = some (.int .i64 n)) := fun W' h => by rw [hC] at h; exact h.cell 1
 have C2 : Hid (∀ W', C W' -> W'.cell? ⟨W.heap.size, 2, none⟩ = some (.int .i64 (q : Int))) := fun W' h => by rw [hC] at h; exact h.cell 2
 have CA : Hid (∀ W' W'' v v' l', C W' -> Ap B W' W'' v v' l' -> v.ownBlock ≠ some W.heap.size -> C W'') := fun W' W'' v v' l' h A hne => by rw [hC] at h ⊢; exact A.blk h hne
 have CL : Hid (∀ W' o, C W' -> C (W'.alloc o)) := fun W' o h => by rw [hC] at h ⊢; exact h.alloc o
 have C0 : Hid (C { w1 with drawn := w1.drawn + 1 }) := by rw [hC]; exact HX1.out
 have hW1 : W.heap.size < w1.heap.size := HX1.out.lt
 have D0 : Hid (Below w1.heap.size w1 { w1 with drawn := w1.drawn + 1 }) := Below.drew (Below.refl _ _)
 have HO1 : Hid (Own { w1 with drawn := w1.drawn + 1 } B v1 (l ++ [4])) := HAW.out.own.below D0.out
 have hsz : ({ w1 with drawn := w1.drawn + 1 } : World).heap.size = w1.heap.size := rfl
 clear hC HX1 c0
 refine region_calm C 9 (by kernel_rfl) ?_
 generalize ({ w1 with drawn := w1.drawn + 1 } : World) = v0 at *
 have hCp : ∀ p : Prop, (∀ W, C W -> p) ↔ p := fun p => ⟨fun h => h _ C0.out, fun h _ _ => h⟩
 refine seg 4 [0, 1, 2, 4, 5, 6] rfl (by kernel_rfl) whole_blind C0.out (by kernel_rfl) ?_
 change wpQuiet _ _ _ _ (_ :: _ :: _ :: _ :: _ :: _ :: []) _
 repeat (first
  | go_big_quiet_skip
  | (go_big_quiet_want
     first
     | (refine q_one 3 (.inl rfl) (.tmp 34) rfl (W.heap.size) 1 rfl _ C1.out ?_
        simp only [Act.put, List.setIfInBounds_toArray, List.set_cons_zero, List.set_cons_succ]
        go_big_quiet_on)
     | (refine q_one 3 (.inl rfl) (.tmp 37) rfl (W.heap.size) 2 rfl _ C2.out ?_
        simp only [Act.put, List.setIfInBounds_toArray, List.set_cons_zero, List.set_cons_succ]
        go_big_quiet_on)
     | (go_big_quiet_op
        go_big_quiet_on)))
 refine wpQuiet_nil ?_
 refine two_do (i := 3) (j := 7) 3 rfl (by kernel_rfl) rfl (by rfl) rfl (by rfl) ?_ ?_
 . intro K hK
   refine oper_call 160 #[.tmp 33, .tmp 35] #[34, 3] rfl #[v1, .int .i64 n] (by rw [List.map_toArray]; rfl) (enters Tryz.func160 (by kernel_rfl) rfl) (fun v' w' => Ap B v0 w' v1 v' (l ++ [4] ++ uv (zigS n).toNat)) (apInt v1 (l ++ [4]) n n0 n1 B v0 (HO1.out) (by omega) (by simp; omega)) ?_
   intro v2 w3 A2
   have hs3 := A2.gr.size
   have hc3 := CA.out _ _ _ _ _ C0.out A2 HNE.out
   have hn3 : v2.ownBlock ≠ some W.heap.size := fun e => by
    rcases A2.ob _ e with h | h
    . exact HNE.out h
    . omega
   refine hK _ _ hc3 ?_
   simp only [Act.put, List.setIfInBounds_toArray, List.set_cons_zero, List.set_cons_succ]
   refine lone_do (i := 7) 2 rfl (by kernel_rfl) rfl (by rfl) ?_
   intro K hK
   refine oper_byte 39 rfl (q : Int) rfl ?_
   refine hK _ _ (CL.out _ _ hc3) ?_
   simp only [Act.put, List.setIfInBounds_toArray, List.set_cons_zero, List.set_cons_succ]
   refine lone_do (i := 8) 1 rfl (by kernel_rfl) rfl (by rfl) ?_
   intro K hK
   refine oper_apb (.tmp 36) (.tmp 40) rfl B v2 (l ++ [4] ++ uv (zigS n).toNat) rfl (A2.own.alloc _) _ _ _ [q] rfl rfl (byt_lit w3 [q]) (by simp) (by simp only [List.length_append, List.length_singleton]; omega) (by simp; omega) ?_
   intro v3 w5 A3
   have XA : Ap B W w5 (.slice ax l.length c) v3 (l ++ 4 :: (uv (zigS n).toNat ++ [q])) := by
    have := HAW.out.trans (Ap.after D0.out (A2.trans (Ap.after ((Below.refl _ _).alloc (Nat.le_refl _) _) A3)))
    simpa using this
   have HA3 : Hid _ := XA
   have hc5 := CA.out _ _ _ _ _ (CL.out _ _ hc3) A3 (hn3)
   clear A3 XA
   refine hK _ _ hc5 ?_
   simp only [Act.put, List.setIfInBounds_toArray, List.set_cons_zero, List.set_cons_succ]
   refine lone_calm (i := 9) 0 rfl (by kernel_rfl) rfl rfl hc5 ?_
   have hCq : ∀ p : Prop, (∀ W, C W -> p) ↔ p := fun p => ⟨fun h => h _ hc5, fun h _ _ => h⟩
   go_big_quiet_want
   go_big_quiet_op
   go_big_quiet_on
   refine wpQuiet_nil ?_
   refine anyC_done (by kernel_rfl) ⟨rfl, ?_⟩
   clear hc5 hCq hCp
   go_wp2
   go_ret
   exact ⟨v3, rfl, HA3.out⟩
 . intro K hK
   refine oper_byte 39 rfl (q : Int) rfl ?_
   refine hK _ _ (CL.out _ _ C0.out) ?_
   simp only [Act.put, List.setIfInBounds_toArray, List.set_cons_zero, List.set_cons_succ]
   have hbq : Blk (v0.alloc (.cells #[.int .u8 (q : Int)] 5)) v0.heap.size 5 [.int .u8 (q : Int)] := blk_new v0 5 [.int .u8 (q : Int)]
   have hnq : v1.ownBlock ≠ some v0.heap.size := HO1.out.ne
   refine lone_do (i := 3) 2 rfl (by kernel_rfl) rfl (by rfl) ?_
   intro K hK
   refine oper_call 160 #[.tmp 33, .tmp 35] #[34, 3] rfl #[v1, .int .i64 n] (by rw [List.map_toArray]; rfl) (enters Tryz.func160 (by kernel_rfl) rfl) (fun v' w' => Ap B (v0.alloc (.cells #[.int .u8 (q : Int)] 5)) w' v1 v' (l ++ [4] ++ uv (zigS n).toNat)) (apInt v1 (l ++ [4]) n n0 n1 B (v0.alloc (.cells #[.int .u8 (q : Int)] 5)) (HO1.out.alloc _) (by simp; omega) (by simp; omega)) ?_
   intro v2 w3 A2
   have hs3 := A2.gr.size
   simp only [World.size_alloc] at hs3
   have hc3 := CA.out _ _ _ _ _ (CL.out _ _ C0.out) A2 HNE.out
   have hn3 : v2.ownBlock ≠ some W.heap.size := fun e => by
    rcases A2.ob _ e with h | h
    . exact HNE.out h
    . simp at h
      omega
   have hb3 : Byt w3 (some ⟨v0.heap.size, 0, none⟩) [q] := by
    have := A2.blk hbq hnq
    refine .inr ⟨_, _, rfl, fun i hi => ?_⟩
    have h0 : i = 0 := by simpa using hi
    subst h0
    rw [this.cell]
    rfl
   refine hK _ _ hc3 ?_
   simp only [Act.put, List.setIfInBounds_toArray, List.set_cons_zero, List.set_cons_succ]
   refine lone_do (i := 8) 1 rfl (by kernel_rfl) rfl (by rfl) ?_
   intro K hK
   refine oper_apb (.tmp 36) (.tmp 40) rfl B v2 (l ++ [4] ++ uv (zigS n).toNat) rfl (A2.own) _ _ _ [q] rfl rfl (hb3) (by simp) (by simp only [List.length_append, List.length_singleton]; omega) (by omega) ?_
   intro v3 w5 A3
   have XA : Ap B W w5 (.slice ax l.length c) v3 (l ++ 4 :: (uv (zigS n).toNat ++ [q])) := by
    have := HAW.out.trans (Ap.after D0.out (Ap.after ((Below.refl _ _).alloc (Nat.le_refl _) _) (A2.trans A3)))
    simpa using this
   have HA3 : Hid _ := XA
   have hc5 := CA.out _ _ _ _ _ (hc3) A3 (hn3)
   clear A3 XA
   refine hK _ _ hc5 ?_
   simp only [Act.put, List.setIfInBounds_toArray, List.set_cons_zero, List.set_cons_succ]
   refine lone_calm (i := 9) 0 rfl (by kernel_rfl) rfl rfl hc5 ?_
   have hCq : ∀ p : Prop, (∀ W, C W -> p) ↔ p := fun p => ⟨fun h => h _ hc5, fun h _ _ => h⟩
   go_big_quiet_want
   go_big_quiet_op
   go_big_quiet_on
   refine wpQuiet_nil ?_
   refine anyC_done (by kernel_rfl) ⟨rfl, ?_⟩
   clear hc5 hCq hCp
   go_wp2
   go_ret
   exact ⟨v3, rfl, HA3.out⟩
end Go.Proofs.YtpfiejmhnkcjbaaGreatDoor
