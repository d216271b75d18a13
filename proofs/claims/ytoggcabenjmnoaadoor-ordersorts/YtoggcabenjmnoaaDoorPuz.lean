/-
  Two values have the order 0 just if they are one.
-/
import Derived.Test.YtoggcabenjmnoaaDoorPth
namespace Go.Proofs.YtoggcabenjmnoaaDoor
open Go.RowKit
set_option linter.unusedVariables false
theorem formed_all {h : Hd} {kl : Nat} (hf : formed h kl = true) : (h.k ≠ 2 → h.k ≠ 3 → h.k ≠ 4 → h.k ≠ 5 → h.n = 0) ∧ (h.k ≠ 4 → h.s = 0) ∧ (h.k ≠ 6 → h.k ≠ 7 → h.t = ⟨#[]⟩) ∧ (h.k ≠ 9 → h.ns = []) ∧ (h.k ≠ 8 → h.k ≠ 9 → kl = 0) := by
  by_cases hk : h.k = 1 ∨ h.k = 2 ∨ h.k = 3 ∨ h.k = 4 ∨ h.k = 5 ∨ h.k = 6 ∨ h.k = 7 ∨ h.k = 8 ∨ h.k = 9
  · have ht : h.t.toList = [] → h.t = ⟨#[]⟩ := fun e => bytes_ext (by rw [e, ByteArray.toList_eq])
    rcases hk with hk | hk | hk | hk | hk | hk | hk | hk | hk <;> simp [formed, only, hk] at hf <;> simp [hk] <;> simp_all
  · simp only [not_or] at hk
    obtain ⟨k1, k2, k3, k4, k5, k6, k7, k8, k9⟩ := hk
    simp [formed, k1, k2, k3, k4, k5, k6, k7, k8, k9] at hf
theorem hd_ext {a b : Hd} (h1 : a.k = b.k) (h2 : a.n = b.n) (h3 : a.s = b.s) (h4 : a.t = b.t) (h5 : a.ns = b.ns) : a = b := by
  obtain ⟨k, n, s, t, ns⟩ := a
  obtain ⟨k', n', s', t', ns'⟩ := b
  simp only at *
  rw [h1, h2, h3, h4, h5]
def ZIh (f : Fo) : Prop := ∀ (g : Fo) (st : Bool) (ns ms : List ByteArray) (d d' : Int), chk f d = 0 → chk g d' = 0 → (st = true → ns.length = f.list.length ∧ ms.length = g.list.length) → cmpF f st ns g ms = 0 → f = g ∧ (st = true → ns = ms)
theorem chkV_zero {p : Vt} {d : Int} (h : chkV p d = 0) : chk p.2 (d + 1) = 0 := by
  by_cases hd : 16 < d
  · simp [chkV, hd] at h
  by_cases ho : own p.1 p.2.list.length = 0
  · rw [chkV, if_neg hd, if_neg (by simp [ho])] at h
    exact h
  · rw [chkV, if_neg hd, if_pos ho] at h
    exact absurd h ho
theorem ordV_zero (p q : Vt) (d d' : Int) (hp : chkV p d = 0) (hq : chkV q d' = 0) (ih : ZIh p.2) (h : ordV p q = 0) : p = q := by
  have gp := good_of hp
  have gq := good_of hq
  obtain ⟨a1, a2, a3, a4, a5⟩ := formed_all gp.form
  obtain ⟨b1, b2, b3, b4, b5⟩ := formed_all gq.form
  rw [ordV_inn] at h
  by_cases hc : sg (cls p.1.k) (cls q.1.k) = 0
  case neg => rw [if_pos hc] at h; exact absurd h hc
  rw [if_neg (by simp [hc])] at h
  have hcl := sg_zero hc
  unfold inn at h
  by_cases c2 : p.1.k = 3 ∨ p.1.k = 4
  · have c2' : q.1.k = 3 ∨ q.1.k = 4 := (cls_same hc).2.1.1 c2
    rw [if_neg (by omega), if_pos c2] at h
    have e := num_same c2 c2' gp.form gq.form gp.s0 gq.s0 h
    have k1 := list_nil (formed_leaf (by omega) gp.form)
    have k2 := list_nil (formed_leaf (by omega) gq.form)
    exact Prod.ext e (k1.trans k2.symm)
  have hk : p.1.k = q.1.k := by
    have := (cls_same hc).2.1
    simp only [cls] at hcl
    (repeat' split at hcl) <;> omega
  have es : p.1.s = q.1.s := by rw [a2 (by omega), b2 (by omega)]
  by_cases c1 : p.1.k = 2 ∨ p.1.k = 5
  · rw [if_pos c1] at h
    have k1 := list_nil (a5 (by omega) (by omega))
    have k2 := list_nil (b5 (by omega) (by omega))
    exact Prod.ext (hd_ext hk (sg_zero h) es (by rw [a3 (by omega) (by omega), b3 (by omega) (by omega)]) (by rw [a4 (by omega), b4 (by omega)])) (k1.trans k2.symm)
  have en : p.1.n = q.1.n := by rw [a1 (by omega) (by omega) (by omega) (by omega), b1 (by omega) (by omega) (by omega) (by omega)]
  by_cases c3 : p.1.k = 6 ∨ p.1.k = 7
  · rw [if_neg c1, if_neg c2, if_pos c3] at h
    have k1 := list_nil (a5 (by omega) (by omega))
    have k2 := list_nil (b5 (by omega) (by omega))
    exact Prod.ext (hd_ext hk en es (tx_zero h) (by rw [a4 (by omega), b4 (by omega)])) (k1.trans k2.symm)
  have et : p.1.t = q.1.t := by rw [a3 (by omega) (by omega), b3 (by omega) (by omega)]
  by_cases c4 : p.1.k = 8
  · rw [if_neg c1, if_neg c2, if_neg c3, if_pos c4] at h
    have e := ih q.2 false [] [] _ _ (chkV_zero hp) (chkV_zero hq) (fun e => by simp at e) h
    exact Prod.ext (hd_ext hk en es et (by rw [a4 (by omega), b4 (by omega)])) e.1
  by_cases c5 : p.1.k = 9
  · rw [if_neg c1, if_neg c2, if_neg c3, if_neg c4, if_pos c5] at h
    have e := ih q.2 true p.1.ns q.1.ns _ _ (chkV_zero hp) (chkV_zero hq) (fun _ => ⟨gp.ns c5, gq.ns (by omega)⟩) h
    exact Prod.ext (hd_ext hk en es et (e.2 rfl)) e.1
  have k1 := list_nil (a5 (by omega) (by omega))
  have k2 := list_nil (b5 (by omega) (by omega))
  exact Prod.ext (hd_ext hk en es et (by rw [a4 (by omega), b4 (by omega)])) (k1.trans k2.symm)
theorem lex_zero {t r : Int} (h : (if t ≠ 0 then t else r) = 0) : t = 0 ∧ r = 0 := by
  by_cases e : t = 0
  · rw [if_neg (by simp [e])] at h; exact ⟨e, h⟩
  · rw [if_pos e] at h; exact absurd h e
theorem cmpF_zero (f : Fo) : ZIh f := by
  induction f with
  | nil =>
    intro g st ns ms d d' _ _ hl h
    cases g with
    | nil =>
      refine ⟨rfl, fun e => ?_⟩
      obtain ⟨l1, l2⟩ := hl e
      simp only [Fo.list, List.length_nil] at l1 l2
      rw [List.length_eq_zero_iff.1 l1, List.length_eq_zero_iff.1 l2]
    | cons _ _ _ => simp [cmpF] at h
  | cons hd k r ihk ihr =>
    intro g st ns ms d d' hc hc' hl h
    cases g with
    | nil => simp [cmpF] at h
    | cons hd2 k2 r2 =>
      rw [cmpF_cons2 (hd, k) (hd2, k2)] at h
      obtain ⟨h1, h2⟩ := lex_zero h
      obtain ⟨h2, h3⟩ := lex_zero h2
      obtain ⟨c1, c2⟩ := lex_zero (show (if chkV (hd, k) d ≠ 0 then chkV (hd, k) d else chk r d) = 0 from hc)
      obtain ⟨c3, c4⟩ := lex_zero (show (if chkV (hd2, k2) d' ≠ 0 then chkV (hd2, k2) d' else chk r2 d') = 0 from hc')
      have e := ordV_zero _ _ _ _ c1 c3 ihk h2
      injection e with e1 e2
      obtain ⟨e3, e4⟩ := ihr r2 st ns.tail ms.tail _ _ c2 c4 (fun e => by
        obtain ⟨l1, l2⟩ := hl e
        simp only [Fo.list, List.length_cons] at l1 l2
        simp [l1, l2]) h3
      refine ⟨by rw [e1, e2, e3], fun e => ?_⟩
      subst e
      obtain ⟨l1, l2⟩ := hl rfl
      simp only [if_true] at h1
      have h5 := tx_zero h1
      have h6 := e4 rfl
      cases ns with
      | nil => simp [Fo.list] at l1
      | cons x xs =>
        cases ms with
        | nil => simp [Fo.list] at l2
        | cons y ys =>
          simp only [nameAt, List.headD_cons] at h5
          simp only [List.tail_cons] at h6
          rw [h5, h6]
/-- The order is 0 just of the same. -/
theorem ord_zero {p q : Vt} {d d' : Int} (hp : chkV p d = 0) (hq : chkV q d' = 0) : ordV p q = 0 ↔ p = q :=
  ⟨ordV_zero p q d d' hp hq (cmpF_zero _), fun e => by rw [e]; exact ord_self q⟩
end Go.Proofs.YtoggcabenjmnoaaDoor
