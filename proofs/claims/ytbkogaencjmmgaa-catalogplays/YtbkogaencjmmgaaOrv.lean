/-
  A region that draws its order, all of whose operations keep a class of worlds.
-/
import Derived.Test.YtbkogaencjmmgaaOrz
namespace Go.Proofs.Ytbkogaencjmmgaa
open Go
section
variable {P : Program} {ops : Array Oper} {C : World → Prop} {z : Nat} {Q : Exit → Act → World → Prop}
theorem anyC_first0 {i : Nat} {oi : Oper} {v : Value} (hi : ops[i]? = some oi) (hz : ops.size ≤ z) (hsel : Region.noSelect ops = true) (hQ : ∀ c (a : Act) (d : Option Tmp) v w, Q (.panic c) (a.put d v) w → Q (.panic c) a w) :
    ∀ (n : Nat) (listed : Array Bool) (a : Act) (w : World), C w →
      (∀ j oj, ops[j]? = some oj → j ≠ i → listed.getD j true = false → (∀ e ∈ oj.after, Region.binds .any e = true → e.on ≠ i) → oi.apart ops oj = true) →
      i ∈ Region.ready .any ops listed → Calm P ops C oi v a → anyC P ops C z Q n (listed.setIfInBounds i true) (a.put oi.dst v) w → anyC P ops C z Q (n + 1) listed a w := by
  intro n
  induction n with
  | zero =>
    intro listed a w hC _ hr hy H
    refine ⟨fun h => absurd hr (by rw [h]; exact List.not_mem_nil), fun j hj => ?_⟩
    by_cases e : j = i
    · subst e
      exact hy.op hi hC ⟨.inr hC, H⟩
    · have := ready_mono hj e
      rw [H.1] at this
      exact absurd this List.not_mem_nil
  | succ n ih =>
    intro listed a w hC hfree hr hy H
    refine ⟨fun h => absurd hr (by rw [h]; exact List.not_mem_nil), fun j hj => ?_⟩
    by_cases e : j = i
    · subst e
      exact hy.op hi hC ⟨.inr hC, H⟩
    · obtain ⟨hun, oj, hoj, hall⟩ := mem_ready.1 hj
      have hi0 := (mem_ready.1 hr).1
      have hnot : ∀ e ∈ oj.after, Region.binds .any e = true → e.on ≠ i := fun ed he hb heq => by
        have h1 := hall ed he hb
        rw [heq, Array.getD_eq_getD_getElem?] at h1
        rw [Array.getD_eq_getD_getElem?] at hi0
        cases hg : listed[i]? with
        | none => rw [hg] at hi0; cases hi0
        | some b => rw [hg] at h1 hi0; simp at h1 hi0; rw [h1] at hi0; cases hi0
      have hjz : j ≠ z := by
        rintro rfl
        have := (Array.getElem?_eq_some_iff.1 hoj).1
        omega
      have h2 := put_first hoj (hfree j oj hoj e hun hnot) (fun cs b => Region.noSelect_spec hsel i oi cs b hi) (fun cs b => Region.noSelect_spec hsel j oj cs b hoj) hQ hy (H.2 j (ready_mono hj e))
      refine wpOp_mono (fun a' w' h3 => ⟨.inr (h3.2.1.resolve_left hjz), ih (listed.setIfInBounds j true) a' w' (h3.2.1.resolve_left hjz) (fun k ok hk hki hku hno => hfree k ok hk hki ?_ hno) (ready_mono hr (Ne.symm e)) h3.1 ?_⟩) h2
      · by_cases hjk : j = k
        · rw [← hjk]; exact hun
        · rw [getD_set_ne true hjk] at hku; exact hku
      · rw [Array.setIfInBounds_comm _ _ e]
        exact h3.2.2
def segB0 (ops : Array Oper) : Array Bool → List Nat → Bool
  | _, [] => true
  | listed, i :: r => ((Region.ready .any ops listed).contains i && (Region.free .any ops listed i && ((match ops[i]? with | some o => atOnce o.op | none => false) && segB0 ops (listed.setIfInBounds i true) r)))
theorem calm_seg0 (hz : ops.size ≤ z) (hsel : Region.noSelect ops = true) (hQ : ∀ c (a : Act) (d : Option Tmp) v w, Q (.panic c) (a.put d v) w → Q (.panic c) a w) {w : World} (hC : C w) (n : Nat) : ∀ (l : List Nat) (L : List Oper) (listed : Array Bool) (a : Act), segB0 ops listed l = true → l.map (fun i => ops[i]?) = L.map some →
    wpQuiet P ops C (fun a' => anyC P ops C z Q n (marks listed l) a' w) L a → anyC P ops C z Q (n + l.length) listed a w
  | [], [], _, _, _, _, h => h
  | [], _ :: _, _, _, _, e, _ => by cases e
  | _ :: _, [], _, _, _, e, _ => by cases e
  | i :: l, o :: L, listed, a, hB, e, h => by
    simp only [List.map_cons, List.cons.injEq] at e
    obtain ⟨e0, e1⟩ := e
    simp only [segB0, e0, Bool.and_eq_true] at hB
    obtain ⟨hr, hf, ho, hB'⟩ := hB
    have go : ∀ v, Calm P ops C o v a → wpQuiet P ops C (fun a' => anyC P ops C z Q n (marks (listed.setIfInBounds i true) l) a' w) L (a.put o.dst v) → anyC P ops C z Q (n + (i :: l).length) listed a w := fun v hy h' =>
      anyC_first0 e0 hz hsel hQ (n + l.length) listed a w hC (Region.free_spec e0 hf) (by simpa using hr) hy (calm_seg0 hz hsel hQ hC n l L _ _ hB' e1 h')
    by_cases hw : Region.wanted o (yielded ops a.tmps) = true
    · have h' : o.quiet P a C (wpQuiet P ops C (fun a' => anyC P ops C z Q n (marks (listed.setIfInBounds i true) l) a' w) L) := by
        have := h
        unfold wpQuiet at this
        rw [if_pos hw] at this
        exact this
      obtain ⟨v, hy, hk⟩ := Calm.of_quiet ho hw h'
      exact go v hy hk
    · have h' : wpQuiet P ops C (fun a' => anyC P ops C z Q n (marks (listed.setIfInBounds i true) l) a' w) L (a.put o.dst undef) := by
        have := h
        unfold wpQuiet at this
        rw [if_neg hw] at this
        exact this
      exact go undef (.inr ⟨by simpa using hw, rfl⟩) h'
theorem seg0 {L : List Oper} {n : Nat} {listed : Array Bool} {a : Act} {w : World} (N : Nat) (l : List Nat) (hn : n = N + l.length) (hz : L.length ≤ z) (hsel : Region.noSelect L.toArray = true) (hQ : ∀ c (a : Act) (d : Option Tmp) v w, Q (.panic c) (a.put d v) w → Q (.panic c) a w) (hC : C w)
    (hB : segB0 L.toArray listed l = true) (h : wpQuiet P L.toArray C (fun a' => anyC P L.toArray C z Q N (marks listed l) a' w) (picks L l) a) : anyC P L.toArray C z Q n listed a w := by
  subst hn
  refine calm_seg0 (by simpa using hz) hsel hQ hC N l (picks L l) listed a hB ?_ h
  clear h
  induction l generalizing listed with
  | nil => rfl
  | cons i r ih =>
    simp only [segB0, Bool.and_eq_true] at hB
    have h1 := ih hB.2.2.2
    have h2 := hB.2.2.1
    rw [List.getElem?_toArray, ← nth_eq] at h2
    unfold picks
    cases hg : nth L i with
    | none => rw [hg] at h2; cases h2
    | some o =>
      simp only [List.map_cons]
      rw [h1, List.getElem?_toArray, ← nth_eq, hg]
end
#print axioms seg0
end Go.Proofs.Ytbkogaencjmmgaa
