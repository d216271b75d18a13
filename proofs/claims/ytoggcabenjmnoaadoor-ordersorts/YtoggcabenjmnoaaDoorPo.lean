/-
  The order of values, over trees.
-/
import Derived.Test.YtoggcabenjmnoaaDoorPn
namespace Go.Proofs.YtoggcabenjmnoaaDoor
open Go.RowKit
set_option linter.unusedVariables false
def nameAt (ns : List ByteArray) : ByteArray := ns.headD ⟨#[]⟩
/-- Values one behind the other, in their order; 'st': with their names. -/
def cmpF : Fo → Bool → List ByteArray → Fo → List ByteArray → Int
  | .nil, _, _, .nil, _ => 0
  | .nil, _, _, .cons _ _ _, _ => -1
  | .cons _ _ _, _, _, .nil, _ => 1
  | .cons h k r, st, ns, .cons h' k' r', ms =>
    if (if st then tx (nameAt ns) (nameAt ms) else 0) ≠ 0 then tx (nameAt ns) (nameAt ms)
    else if (if cls h.k ≠ cls h'.k then sg (cls h.k) (cls h'.k) else if h.k = 2 ∨ h.k = 5 then sg h.n h'.n else if h.k = 3 ∨ h.k = 4 then nm h h' else if h.k = 6 ∨ h.k = 7 then tx h.t h'.t else if h.k = 8 then cmpF k false [] k' [] else if h.k = 9 then cmpF k true h.ns k' h'.ns else 0) ≠ 0
      then (if cls h.k ≠ cls h'.k then sg (cls h.k) (cls h'.k) else if h.k = 2 ∨ h.k = 5 then sg h.n h'.n else if h.k = 3 ∨ h.k = 4 then nm h h' else if h.k = 6 ∨ h.k = 7 then tx h.t h'.t else if h.k = 8 then cmpF k false [] k' [] else if h.k = 9 then cmpF k true h.ns k' h'.ns else 0)
      else cmpF r st ns.tail r' ms.tail
/-- Two values in their order. -/
def ordV (p q : Vt) : Int :=
  if cls p.1.k ≠ cls q.1.k then sg (cls p.1.k) (cls q.1.k) else if p.1.k = 2 ∨ p.1.k = 5 then sg p.1.n q.1.n else if p.1.k = 3 ∨ p.1.k = 4 then nm p.1 q.1 else if p.1.k = 6 ∨ p.1.k = 7 then tx p.1.t q.1.t else if p.1.k = 8 then cmpF p.2 false [] q.2 [] else if p.1.k = 9 then cmpF p.2 true p.1.ns q.2 q.1.ns else 0
theorem cmpF_cons (p q : Vt) (r r' : Fo) (st : Bool) (ns ms : List ByteArray) : cmpF (.cons p.1 p.2 r) st ns (.cons q.1 q.2 r') ms = if (if st then tx (nameAt ns) (nameAt ms) else 0) ≠ 0 then tx (nameAt ns) (nameAt ms) else if ordV p q ≠ 0 then ordV p q else cmpF r st ns.tail r' ms.tail := rfl
theorem cmpF_step {f g : Fo} {k : Nat} {p q : Vt} {st : Bool} {ns ms : List ByteArray} (h1 : f.list[k]? = some p) (h2 : g.list[k]? = some q) :
    cmpF (f.drop k) st (ns.drop k) (g.drop k) (ms.drop k) = if (if st then tx (nameAt (ns.drop k)) (nameAt (ms.drop k)) else 0) ≠ 0 then tx (nameAt (ns.drop k)) (nameAt (ms.drop k)) else if ordV p q ≠ 0 then ordV p q else cmpF (f.drop (k + 1)) st (ns.drop (k + 1)) (g.drop (k + 1)) (ms.drop (k + 1)) := by
  rw [Fo.drop_at f k p h1, Fo.drop_at g k q h2, cmpF_cons, List.tail_drop, List.tail_drop]
theorem cmpF_end {f g : Fo} {k : Nat} {st : Bool} {ns ms : List ByteArray} (hk : k ≤ f.list.length) (hk2 : k ≤ g.list.length) (h : f.list.length = k ∨ g.list.length = k) : cmpF (f.drop k) st (ns.drop k) (g.drop k) (ms.drop k) = sg (f.list.length : Int) (g.list.length : Int) := by
  by_cases h1 : f.list.length = k
  · rw [Fo.drop_end f k (by omega)]
    by_cases h2 : g.list.length = k
    · rw [Fo.drop_end g k (by omega), h1, h2, sg_self]; rfl
    · obtain ⟨q, hq⟩ : ∃ q, g.list[k]? = some q := ⟨_, List.getElem?_eq_getElem (by omega)⟩
      rw [Fo.drop_at g k q hq, sg_lt (by omega)]
      rfl
  · have h2 : g.list.length = k := by omega
    obtain ⟨p, hp⟩ : ∃ p, f.list[k]? = some p := ⟨_, List.getElem?_eq_getElem (by omega)⟩
    rw [Fo.drop_at f k p hp, Fo.drop_end g k (by omega), sg_gt (by omega)]
    rfl
/-! ### what a value that is one has -/
structure GoodO (p : Vt) : Prop where
  k : p.1.k = 1 ∨ p.1.k = 2 ∨ p.1.k = 3 ∨ p.1.k = 4 ∨ p.1.k = 5 ∨ p.1.k = 6 ∨ p.1.k = 7 ∨ p.1.k = 8 ∨ p.1.k = 9
  s0 : 0 ≤ p.1.s
  s1 : p.1.s ≤ 18
  form : formed p.1 p.2.list.length = true
  ns : p.1.k = 9 → p.1.ns.length = p.2.list.length
  kids : ∀ q ∈ p.2.list, ∃ d, chkV q d = 0
theorem chk_mem {q : Vt} {d : Int} : ∀ {f : Fo}, chk f d = 0 → q ∈ f.list → chkV q d = 0
  | .cons h k r, hc, hq => by
    have hc2 : (if chkV (h, k) d ≠ 0 then chkV (h, k) d else chk r d) = 0 := hc
    simp only [Fo.list, List.mem_cons] at hq
    by_cases h0 : chkV (h, k) d = 0
    · rw [if_neg (by simp [h0])] at hc2
      rcases hq with rfl | hq
      · exact h0
      · exact chk_mem hc2 hq
    · rw [if_pos h0] at hc2
      exact absurd hc2 h0
theorem good_of {p : Vt} {d : Int} (h : chkV p d = 0) : GoodO p := by
  have hd : ¬ 16 < d := fun e => by simp [chkV, e] at h
  have ho : own p.1 p.2.list.length = 0 := by
    by_cases e : own p.1 p.2.list.length = 0
    · exact e
    · rw [chkV, if_neg hd, if_pos e] at h
      exact h
  have hk : chk p.2 (d + 1) = 0 := by
    rw [chkV, if_neg hd, if_neg (by simp [ho])] at h
    exact h
  have hf : formed p.1 p.2.list.length = true := by
    cases e : formed p.1 p.2.list.length with
    | true => rfl
    | false => rw [← own_no e] at ho; omega
  have hks : p.1.k = 1 ∨ p.1.k = 2 ∨ p.1.k = 3 ∨ p.1.k = 4 ∨ p.1.k = 5 ∨ p.1.k = 6 ∨ p.1.k = 7 ∨ p.1.k = 8 ∨ p.1.k = 9 := by
    by_cases h1 : p.1.k = 1 ∨ p.1.k = 2 ∨ p.1.k = 3 ∨ p.1.k = 4 ∨ p.1.k = 5 ∨ p.1.k = 6 ∨ p.1.k = 7 ∨ p.1.k = 8 ∨ p.1.k = 9
    · exact h1
    · simp only [not_or] at h1
      obtain ⟨k1, k2, k3, k4, k5, k6, k7, k8, k9⟩ := h1
      simp [formed, k1, k2, k3, k4, k5, k6, k7, k8, k9] at hf
  have hs : 0 ≤ p.1.s ∧ p.1.s ≤ 18 := by
    have hf2 := hf
    rcases hks with k | k | k | k | k | k | k | k | k <;> simp [formed, only, k] at hf2 <;> omega
  refine ⟨hks, hs.1, hs.2, hf, fun h9 => ?_, fun q hq => ⟨_, chk_mem hk hq⟩⟩
  simp only [own, hf, if_true] at ho
  by_cases e1 : 16384 < p.1.t.size ∨ 200 < p.2.list.length
  · rw [if_pos e1] at ho; omega
  · rw [if_neg e1] at ho
    by_cases e2 : p.1.k = 9 ∧ named p.1.ns p.2.list.length = false
    · rw [if_pos e2] at ho; omega
    · have : named p.1.ns p.2.list.length = true := by
        cases e : named p.1.ns p.2.list.length with
        | true => rfl
        | false => exact absurd ⟨h9, e⟩ e2
      simp [named] at this
      exact this.1
end Go.Proofs.YtoggcabenjmnoaaDoor
