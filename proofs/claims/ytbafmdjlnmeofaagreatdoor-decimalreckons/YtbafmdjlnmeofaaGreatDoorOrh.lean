/-
  Operations of a region that read no memory: they may be taken first, whatever else is to come.
-/
import Derived.Test.YtbafmdjlnmeofaaGreatDoorRl
namespace Go.Proofs.YtbafmdjlnmeofaaGreatDoor
open Go.RowKit
set_option linter.unusedVariables false
/-- Every world. -/
def Anyw : World → Prop := fun _ => True
theorem anyw_p (w : World) (p : Prop) : (∀ W, Anyw W → p) ↔ p := ⟨fun h => h w trivial, fun h _ _ => h⟩
section
variable {P : Program} {ops : Array Oper} {Z : List Nat} {Q : Exit → Act → World → Prop}
theorem anyR_free {i : Nat} {oi : Oper} {v : Value} (hi : ops[i]? = some oi) (hsel : Region.noSelect ops = true) (hQ : ∀ c (a : Act) (d : Option Tmp) v w, Q (.panic c) (a.put d v) w → Q (.panic c) a w) :
    ∀ (n : Nat) (listed : Array Bool) (a : Act) (w : World),
      (∀ j oj, ops[j]? = some oj → j ≠ i → listed.getD j true = false → (∀ e ∈ oj.after, Region.binds .any e = true → e.on ≠ i) → oi.apart ops oj = true) →
      i ∈ Region.ready .any ops listed → Pur P ops Anyw oi v a → anyR P ops Z Q n (listed.setIfInBounds i true) (a.put oi.dst v) w → anyR P ops Z Q (n + 1) listed a w := by
  intro n
  induction n with
  | zero =>
    intro listed a w _ hr hy H w' hw'
    refine ⟨fun h => absurd hr (by rw [h]; exact List.not_mem_nil), fun j hj => ?_⟩
    by_cases e : j = i
    · subst e
      exact hy.op hi trivial fun w'' hg => ⟨.inr hg, anyR_grow H (hw'.trans hg)⟩
    · have := ready_mono hj e
      rw [(H w' hw').1] at this
      exact absurd this List.not_mem_nil
  | succ n ih =>
    intro listed a w hfree hr hy H w' hw'
    refine ⟨fun h => absurd hr (by rw [h]; exact List.not_mem_nil), fun j hj => ?_⟩
    by_cases e : j = i
    · subst e
      exact hy.op hi trivial fun w'' hg => ⟨.inr hg, anyR_grow H (hw'.trans hg)⟩
    · obtain ⟨hun, oj, hoj, hall⟩ := mem_ready.1 hj
      have hi0 := (mem_ready.1 hr).1
      have hnot : ∀ e ∈ oj.after, Region.binds .any e = true → e.on ≠ i := fun ed he hb heq => by
        have h1 := hall ed he hb
        rw [heq, Array.getD_eq_getD_getElem?] at h1
        rw [Array.getD_eq_getD_getElem?] at hi0
        cases hg : listed[i]? with
        | none => rw [hg] at hi0; cases hi0
        | some b => rw [hg] at h1 hi0; simp at h1 hi0; rw [h1] at hi0; cases hi0
      have h2 := put_firstR hoj (hfree j oj hoj e hun hnot) (fun cs b => Region.noSelect_spec hsel i oi cs b hi) (fun cs b => Region.noSelect_spec hsel j oj cs b hoj) hQ hy ((H w' hw').2 j (ready_mono hj e))
      refine wpOp_mono (fun a' w'' h3 => ⟨h3.2.1, ih (listed.setIfInBounds j true) a' w'' (fun k ok hk hki hku hno => hfree k ok hk hki ?_ hno) (ready_mono hr (Ne.symm e)) h3.1 ?_⟩) h2
      · by_cases hjk : j = k
        · rw [← hjk]; exact hun
        · rw [getD_set_ne true hjk] at hku; exact hku
      · rw [Array.setIfInBounds_comm _ _ e]
        exact h3.2.2
def segFB (ops : Array Oper) : Array Bool → List Nat → Bool
  | _, [] => true
  | listed, i :: r => (Region.ready .any ops listed).contains i && (Region.free .any ops listed i && ((match ops[i]? with | some o => atOnce o.op | none => false) && segFB ops (listed.setIfInBounds i true) r))
theorem calm_segF (hsel : Region.noSelect ops = true) (hQ : ∀ c (a : Act) (d : Option Tmp) v w, Q (.panic c) (a.put d v) w → Q (.panic c) a w) {w : World} (n : Nat) : ∀ (l : List Nat) (L : List Oper) (listed : Array Bool) (a : Act), segFB ops listed l = true → l.map (fun i => ops[i]?) = L.map some →
    wpQuiet P ops Anyw (fun a' => anyR P ops Z Q n (marks listed l) a' w) L a → anyR P ops Z Q (n + l.length) listed a w
  | [], [], _, _, _, _, h => h
  | [], _ :: _, _, _, _, e, _ => by cases e
  | _ :: _, [], _, _, _, e, _ => by cases e
  | i :: l, o :: L, listed, a, hB, e, h => by
    simp only [List.map_cons, List.cons.injEq] at e
    obtain ⟨e0, e1⟩ := e
    simp only [segFB, e0, Bool.and_eq_true] at hB
    obtain ⟨hr, hf, ho, hB'⟩ := hB
    have go : ∀ v, Calm P ops Anyw o v a → wpQuiet P ops Anyw (fun a' => anyR P ops Z Q n (marks (listed.setIfInBounds i true) l) a' w) L (a.put o.dst v) → anyR P ops Z Q (n + (i :: l).length) listed a w := fun v hy h' => by
      have hp : Pur P ops Anyw o v a := by
        rcases hy with ⟨h1, h2⟩ | h2
        · exact .inl ⟨h1, fun w hw => by rw [h2 w hw]; exact ⟨rfl, rfl⟩⟩
        · exact .inr h2
      exact anyR_free e0 hsel hQ (n + l.length) listed a w (Region.free_spec e0 hf) (by simpa using hr) hp (calm_segF hsel hQ n l L _ _ hB' e1 h')
    by_cases hw : Region.wanted o (yielded ops a.tmps) = true
    · have h' : o.quiet P a Anyw (wpQuiet P ops Anyw (fun a' => anyR P ops Z Q n (marks (listed.setIfInBounds i true) l) a' w) L) := by
        have := h
        unfold wpQuiet at this
        rw [if_pos hw] at this
        exact this
      obtain ⟨v, hy, hk⟩ := Calm.of_quiet ho hw h'
      exact go v hy hk
    · have h' : wpQuiet P ops Anyw (fun a' => anyR P ops Z Q n (marks (listed.setIfInBounds i true) l) a' w) L (a.put o.dst undef) := by
        have := h
        unfold wpQuiet at this
        rw [if_neg hw] at this
        exact this
      exact go undef (.inr ⟨by simpa using hw, rfl⟩) h'
theorem segF {L : List Oper} {n : Nat} {listed : Array Bool} {a : Act} {w : World} (N : Nat) (l : List Nat) (hn : n = N + l.length) (hsel : Region.noSelect L.toArray = true) (hQ : ∀ c (a : Act) (d : Option Tmp) v w, Q (.panic c) (a.put d v) w → Q (.panic c) a w)
    (hB : segFB L.toArray listed l = true) (h : wpQuiet P L.toArray Anyw (fun a' => anyR P L.toArray Z Q N (marks listed l) a' w) (picks L l) a) : anyR P L.toArray Z Q n listed a w := by
  subst hn
  refine calm_segF hsel hQ N l (picks L l) listed a hB ?_ h
  clear h
  induction l generalizing listed with
  | nil => rfl
  | cons i r ih =>
    simp only [segFB, Bool.and_eq_true] at hB
    have h1 := ih hB.2.2.2
    have h2 := hB.2.2.1
    rw [List.getElem?_toArray, ← nth_eq] at h2
    unfold picks
    cases hg : nth L i with
    | none => rw [hg] at h2; cases h2
    | some o =>
      simp only [List.map_cons]
      rw [h1, List.getElem?_toArray, ← nth_eq, hg]
end
end Go.Proofs.YtbafmdjlnmeofaaGreatDoor
