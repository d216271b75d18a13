/-
  Names that rise; the field of a name, and a struct with a field, over trees.
-/
import Derived.Test.YtiddlpjnfophhaaBse
namespace Go.Proofs.Ytiddlpjnfophhaa
open Go.RowKit
set_option linter.unusedVariables false
def lss (a b : ByteArray) : Bool := Op.bytesLess a.toList b.toList
theorem lss_tx {a b : ByteArray} : lss a b = true ↔ tx a b < 0 := by
  unfold lss tx
  by_cases h : Op.bytesLess a.toList b.toList = true
  · simp [h]
  · simp only [h, if_false, Bool.false_eq_true]
    split <;> simp
theorem lss_trans {a b c : ByteArray} (h1 : tx a b ≤ 0) (h2 : tx b c < 0) : tx a c < 0 := (tx_thr a b c h1 (by omega)).2 (.inr h2)
/-- How many names are ahead of a name. -/
def cnt (ns : List ByteArray) (name : ByteArray) : Nat := (ns.takeWhile fun x => lss x name).length
theorem cnt_le (ns : List ByteArray) (name : ByteArray) : cnt ns name ≤ ns.length := (List.takeWhile_sublist _).length_le
theorem rises_cons {l x : ByteArray} {r : List ByteArray} (h : rises l (x :: r) = true) : tx l x < 0 ∧ x.size ≤ 40 ∧ rises x r = true := by
  simp only [rises, Bool.and_eq_true, Bool.not_eq_true', Bool.or_eq_false_iff, decide_eq_false_iff_not] at h
  obtain ⟨⟨⟨h1, h2⟩, h3⟩, h4⟩ := h
  refine ⟨?_, by omega, h4⟩
  rw [tx_turn]
  have : tx x l = 1 := by unfold tx; simp [h1, h2]
  omega
theorem rises_all {x : ByteArray} : ∀ {ns : List ByteArray} {l : ByteArray}, rises l ns = true → x ∈ ns → tx l x < 0
  | y :: r, l, h, hx => by
    obtain ⟨h1, _, h2⟩ := rises_cons h
    rcases List.mem_cons.1 hx with rfl | hx
    · exact h1
    · exact lss_trans (by omega) (rises_all h2 hx)
theorem cnt_lo {name x : ByteArray} : ∀ {ns : List ByteArray} {i : Nat}, ns[i]? = some x → i < cnt ns name → lss x name = true
  | [], i, h, _ => by simp at h
  | y :: r, 0, h, hi => by
    simp only [List.getElem?_cons_zero, Option.some.injEq] at h
    subst h
    unfold cnt at hi
    by_cases hy : lss y name = true
    · exact hy
    · simp [hy] at hi
  | y :: r, i + 1, h, hi => by
    simp only [List.getElem?_cons_succ] at h
    unfold cnt at hi
    by_cases hy : lss y name = true
    · simp only [List.takeWhile_cons, hy, if_true, List.length_cons] at hi
      exact cnt_lo (ns := r) h (by unfold cnt; omega)
    · simp [hy] at hi
theorem cnt_hi {name x : ByteArray} : ∀ {ns : List ByteArray} {l : ByteArray} {i : Nat}, rises l ns = true → ns[i]? = some x → cnt ns name ≤ i → lss x name = false
  | [], l, i, _, h, _ => by simp at h
  | y :: r, l, i, hr, h, hi => by
    obtain ⟨h1, _, h2⟩ := rises_cons hr
    by_cases hy : lss y name = true
    · unfold cnt at hi
      simp only [List.takeWhile_cons, hy, if_true, List.length_cons] at hi
      match i, h, hi with
      | 0, h, hi => omega
      | i + 1, h, hi =>
        simp only [List.getElem?_cons_succ] at h
        exact cnt_hi h2 h (by unfold cnt; omega)
    · match i, h with
      | 0, h =>
        simp only [List.getElem?_cons_zero, Option.some.injEq] at h
        rw [← h]
        simpa using hy
      | i + 1, h =>
        simp only [List.getElem?_cons_succ] at h
        have h3 := rises_all h2 (List.mem_of_getElem? h)
        have h4 : ¬ tx y name < 0 := fun e => hy (lss_tx.2 e)
        have h5 : tx name x < 0 := lss_trans (by rw [tx_turn]; omega) h3
        have h6 : ¬ tx x name < 0 := by rw [tx_turn]; omega
        cases e : lss x name with
        | false => rfl
        | true => exact absurd (lss_tx.1 e) h6
/-- A name stands where as many are ahead of it. -/
theorem cnt_at {ns : List ByteArray} {l name : ByteArray} {i : Nat} (hr : rises l ns = true) (h : ns[i]? = some name) : i = cnt ns name := by
  have hn : ¬ lss name name = true := fun e => by
    have := lss_tx.1 e
    have h2 := tx_turn name name
    omega
  by_cases h1 : i < cnt ns name
  · exact absurd (cnt_lo h h1) hn
  · by_cases h2 : cnt ns name < i
    · -- what stands there is above the name
      exfalso
      have hlen := (List.getElem?_eq_some_iff.1 h).1
      obtain ⟨y, hy⟩ : ∃ y, ns[cnt ns name]? = some y := ⟨_, List.getElem?_eq_getElem (by omega)⟩
      have h3 := cnt_hi (name := name) hr hy (Nat.le_refl _)
      have h4 : ∀ {ns : List ByteArray} {l : ByteArray} {i j : Nat}, rises l ns = true → i < j → ns[i]? = some y → ns[j]? = some name → tx y name < 0 := by
        intro ns
        induction ns with
        | nil => intro l i j _ _ hi _; simp at hi
        | cons x r ih =>
          intro l i j hr hij hi hj
          obtain ⟨_, _, h2⟩ := rises_cons hr
          match i, j, hij, hi, hj with
          | 0, j + 1, _, hi, hj =>
            simp only [List.getElem?_cons_zero, Option.some.injEq] at hi
            simp only [List.getElem?_cons_succ] at hj
            rw [← hi]
            exact rises_all h2 (List.mem_of_getElem? hj)
          | i + 1, j + 1, hij, hi, hj =>
            simp only [List.getElem?_cons_succ] at hi hj
            exact ih h2 (by omega) hi hj
      have := lss_tx.2 (h4 hr h2 hy h)
      rw [this] at h3
      cases h3
    · omega
/-- What is no value, all nought. -/
def nulV : Vt := (⟨0, 0, 0, ⟨#[]⟩, []⟩, .nil)
def hasF (p : Vt) (name : ByteArray) : Bool := decide (p.1.k = 9 ∧ p.1.ns[cnt p.1.ns name]? = some name)
def fldV (p : Vt) (name : ByteArray) : Vt := if hasF p name then (p.2.list[cnt p.1.ns name]?).getD nulV else nulV
theorem named_of {p : Vt} {d : Int} (h : chkV p d = 0) (h9 : p.1.k = 9) : rises ⟨#[]⟩ p.1.ns = true := by
  have hd : ¬ 16 < d := fun e => by simp [chkV, e] at h
  have ho : own p.1 p.2.list.length = 0 := by
    by_cases e : own p.1 p.2.list.length = 0
    · exact e
    · rw [chkV, if_neg hd, if_pos e] at h
      exact h
  have hf : formed p.1 p.2.list.length = true := (good_of h).form
  simp only [own, hf, if_true] at ho
  by_cases e1 : 16384 < p.1.t.size ∨ 200 < p.2.list.length
  · rw [if_pos e1] at ho; omega
  · rw [if_neg e1] at ho
    by_cases e2 : p.1.k = 9 ∧ named p.1.ns p.2.list.length = false
    · rw [if_pos e2] at ho; omega
    · have : named p.1.ns p.2.list.length = true := by
        cases e : named p.1.ns p.2.list.length with
        | true => rfl
        | false => exact absurd ⟨h9, e⟩ e2
      simp only [named, Bool.and_eq_true] at this
      exact this.2
theorem nul_vl (w : World) : Vl w nulV none 0 none 0 := by
  constructor <;> first | exact .inl rfl | (constructor <;> simp [nulV, Fo.list])
theorem nul_wf : WfV nulV := by
  refine ⟨?_, by simp [nulV, Fo.list], trivial⟩
  constructor <;> simp only [nulV] <;> first | omega | exact Nat.zero_le _ | simp
theorem fld_wf {p : Vt} (h : WfV p) (name : ByteArray) : WfV (fldV p name) := by
  unfold fldV
  split
  · cases hk : p.2.list[cnt p.1.ns name]? with
    | none => exact nul_wf
    | some q => exact h.kid (List.mem_of_getElem? hk)
  · exact nul_wf
end Go.Proofs.Ytiddlpjnfophhaa
