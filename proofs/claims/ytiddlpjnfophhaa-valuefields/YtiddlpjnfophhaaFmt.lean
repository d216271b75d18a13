/-
  What With makes has its field.
-/
import Derived.Test.YtiddlpjnfophhaaWtr
import Derived.Test.YtiddlpjnfophhaaOws
namespace Go.Proofs.Ytiddlpjnfophhaa
open Go.RowKit
set_option linter.unusedVariables false
theorem wth_ok {p y : Vt} {name : ByteArray} (h : wthE p name y = 0) : chkV p 1 = 0 ∧ p.1.k = 9 ∧ chkV (layV p name y) 1 = 0 := by
  unfold wthE at h
  by_cases h1 : chkV p 1 = 0
  · rw [if_neg (by simp [h1])] at h
    by_cases h2 : p.1.k = 9
    · rw [if_neg (by simp [h2])] at h
      by_cases h3 : chkV y 1 = 0
      · rw [if_neg (by simp [h3])] at h
        exact ⟨h1, h2, h⟩
      · rw [if_pos h3] at h; exact absurd h h3
    · rw [if_pos h2] at h; omega
  · rw [if_pos h1] at h; exact absurd h h1
theorem wth_field {p y : Vt} {name : ByteArray} (h : wthE p name y = 0) : chkV (wthV p name y) 1 = 0 ∧ hasF (wthV p name y) name = true ∧ fldV (wthV p name y) name = y := by
  obtain ⟨h1, h9, h3⟩ := wth_ok h
  have e : wthV p name y = layV p name y := by unfold wthV; rw [if_pos h]
  rw [e]
  have hnk := (good_of h1).ns h9
  have hk9 : (layV p name y).1.k = 9 := h9
  have hr := named_of h3 hk9
  have hK := cnt_le p.1.ns name
  have hat : (layV p name y).1.ns[cnt p.1.ns name]? = some name := by
    show (layN p name)[cnt p.1.ns name]? = some name
    unfold layN
    rw [List.getElem?_append_right (by rw [List.length_take]; omega), List.length_take, Nat.min_eq_left hK, Nat.sub_self]
    rfl
  have hc := cnt_at hr hat
  have hkid : (layV p name y).2.list[cnt p.1.ns name]? = some y := by
    show ((p.2.take (cnt p.1.ns name)).app (.cons y.1 y.2 (p.2.drop (lyT p name)))).list[cnt p.1.ns name]? = some y
    rw [Fo.app_list, Fo.take_list, List.getElem?_append_right (by rw [List.length_take]; omega), List.length_take, Nat.min_eq_left (by omega), Nat.sub_self]
    rfl
  have hh : hasF (layV p name y) name = true := by
    simp only [hasF, decide_eq_true_eq]
    exact ⟨hk9, by rw [← hc]; exact hat⟩
  refine ⟨h3, hh, ?_⟩
  unfold fldV
  rw [hh, if_pos rfl, ← hc, hkid]
  rfl
theorem wth_wf {p y : Vt} {name : ByteArray} (hp : WfV p) (hy : WfV y) (hs : name.size ≤ 500) (hn : p.1.ns.length ≤ 100000) (hk : p.2.list.length ≤ 100000) : WfV (wthV p name y) := by
  unfold wthV
  split
  · exact lay_wf hp hy hs hn hk
  · exact nul_wf
theorem wth_ws {p y : Vt} {name : ByteArray} (h1 : ws p ≤ 2500) (h2 : ws y ≤ 2500) : ws (wthV p name y) ≤ 100000 := by
  unfold wthV
  split
  · have := lay_ws p y name; omega
  · simp [ws, wsH, nulV, Fo.ws, sz0]
end Go.Proofs.Ytiddlpjnfophhaa
