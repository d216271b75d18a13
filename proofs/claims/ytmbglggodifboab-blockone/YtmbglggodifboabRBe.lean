/-
  What is read of a block's bytes is written so: over lists, no program is named.
-/
import Derived.Test.YtmbglggodifboabRG39x
namespace Go.Proofs.Ytmbglggodifboab.Sh
open Go.RowKit Math Mt
set_option linter.unusedVariables false
theorem Oct.drop {l : List Nat} (h : Oct l) (n : Nat) : Oct (l.drop n) := fun x hx => h x (List.mem_of_mem_drop hx)
theorem Oct.take {l : List Nat} (h : Oct l) (n : Nat) : Oct (l.take n) := fun x hx => h x (List.mem_of_mem_take hx)
theorem n_inv {l r : List Nat} {u : Nat} (ho : Oct l) (h : nR l = .ok (u, r)) : l = uv u ++ r ∧ u ≤ 9007199254740992 := by
  obtain ⟨x, m, h1, h2⟩ := bind_inv h
  obtain ⟨e, hx⟩ := uv_inv ho h1
  by_cases c : 9007199254740992 < x
  · rw [if_pos c] at h2; cases h2
  · rw [if_neg c] at h2
    injection h2 with h2
    injection h2 with e1 e2
    subst e1 e2
    exact ⟨e, by omega⟩
theorem take_inv {n : Nat} {l r c : List Nat} (h : takeR n l = .ok (c, r)) : l = c ++ r ∧ c.length = n := by
  unfold takeR at h
  by_cases hc : l.length < n
  · rw [if_pos hc] at h; cases h
  · rw [if_neg hc] at h
    injection h with h
    injection h with e1 e2
    subst e1 e2
    exact ⟨(List.take_append_drop n l).symm, by rw [List.length_take]; omega⟩
theorem ret_inv {α : Type} {x y : α} {l r : List Nat} (h : Rdr.ret x l = .ok (y, r)) : y = x ∧ r = l := by
  injection h with h
  injection h with e1 e2
  exact ⟨e1.symm, e2.symm⟩
theorem t_inv' {l r : List Nat} {s : ByteArray} (ho : Oct l) (h : tR l = .ok (s, r)) : l = (uv s.size ++ bts s) ++ r ∧ s.size ≤ l.length := by
  obtain ⟨n, m, h1, h2⟩ := bind_inv h
  obtain ⟨b, m2, h3, h4⟩ := bind_inv h2
  obtain ⟨e1, hn⟩ := n_inv ho h1
  obtain ⟨e2, hb⟩ := take_inv h3
  obtain ⟨e3, e4⟩ := ret_inv h4
  subst e3 e4
  have hob : Oct b := by rw [e1, e2] at ho; exact ho.right.left
  have hs : (ofB b).size = n := by rw [ofB_size, hb]
  rw [hs, bts_ofB b hob, e1, e2, List.append_assoc]
  refine ⟨rfl, ?_⟩
  simp only [List.length_append]
  omega
theorem decE_len {d : List Nat} (h : decE d = 0) : d.length ≤ 65536 := by
  unfold decE at h
  cases e : rdV 16 d with
  | error x =>
    rw [e] at h
    exact absurd e (by rw [show x = 0 by simpa using h]; exact rd_nz 16 d)
  | ok v =>
    obtain ⟨q, rest⟩ := v
    rw [e] at h
    simp only at h
    by_cases hc : chk0V q = 0
    case neg => rw [if_pos hc] at h; exact absurd h hc
    rw [if_neg (by simpa using hc)] at h
    by_cases hr : rest = []
    case neg => rw [if_pos hr] at h; simp at h
    rw [if_neg (by simpa using hr)] at h
    by_cases hl : 65536 < d.length
    · rw [if_pos hl] at h; cases h
    · omega
theorem dv_inv {l r : List Nat} {q : Vt × Bool} (ho : Oct l) (h : dvR l = .ok (q, r)) : q.2 = false ∧ WfV q.1 ∧ encE q.1 = 0 ∧ l = uv (encB q.1).length ++ encB q.1 ++ r := by
  obtain ⟨n, m, h1, h2⟩ := bind_inv h
  obtain ⟨d, m2, h3, h4⟩ := bind_inv h2
  obtain ⟨e1, hn⟩ := n_inv ho h1
  obtain ⟨e2, hb⟩ := take_inv h3
  have hod : Oct d := by rw [e1, e2] at ho; exact ho.right.left
  by_cases hc : decE d = 0
  · rw [if_pos hc] at h4
    obtain ⟨e3, e4⟩ := ret_inv h4
    subst e3 e4
    obtain ⟨w1, w2, w3⟩ := dec_inv hod (decE_len hc) hc
    refine ⟨rfl, w1, w2, ?_⟩
    show l = uv (encB (decP d)).length ++ encB (decP d) ++ _
    rw [w3, hb, e1, e2, List.append_assoc]
  · rw [if_neg hc] at h4; cases h4
theorem wf_nv : WfV nv := wf_lf 0 0 0 em (by omega) (by omega) (by omega) (by decide)
theorem dt_inv {l r : List Nat} {q : Vt × Bool} (ho : Oct l) (h : dtR l = .ok (q, r)) : WfV q.1 ∧ ((q = (nv, true) ∧ l = 0 :: r) ∨ (q.2 = false ∧ encE q.1 = 0 ∧ l = [1] ++ uv (encB q.1).length ++ encB q.1 ++ r)) := by
  obtain ⟨x, m, h1, h2⟩ := bind_inv h
  have e1 := by_inv h1
  by_cases c0 : x = 0
  · rw [if_pos c0] at h2
    obtain ⟨e3, e4⟩ := ret_inv h2
    subst e3 e4 c0
    exact ⟨wf_nv, .inl ⟨rfl, e1⟩⟩
  · rw [if_neg c0] at h2
    by_cases c1 : x = 1
    · rw [if_pos c1] at h2
      subst c1
      obtain ⟨w0, w1, w2, w3⟩ := dv_inv (fun y hy => ho y (by rw [e1]; simp [hy])) h2
      refine ⟨w1, .inr ⟨w0, w2, ?_⟩⟩
      rw [e1, w3]
      simp only [List.append_assoc, List.cons_append, List.nil_append]
    · rw [if_neg c1] at h2; cases h2
theorem uvI_nat (u : Nat) : uvI (u : Int) = uv u := rfl
theorem i64_nat {u : Nat} (h : u ≤ 9007199254740992) : I64 (u : Int) := ⟨by omega, by omega⟩
theorem h32_zr : H32 zr := ⟨rfl, fun x hx => by have := List.eq_of_mem_replicate hx; omega⟩
theorem rv_inv {k tb dc vr : Nat} {t : ByteArray} {ab ae : Nat} {l r : List Nat} {e : En} (hk : k < 256) (h1 : tb ≤ 9007199254740992) (h2 : dc ≤ 9007199254740992) (h3 : vr ≤ 9007199254740992) (h4 : t.size ≤ 140737488355328) (h5 : ab ≤ 9007199254740992) (h6 : ae ≤ 9007199254740992) (ho : Oct l) (h : rvR k tb dc vr t ab ae l = .ok (e, r)) :
    EnW e ∧ e.k = k ∧ e.t = t ∧ e.tb = tb ∧ e.dc = dc ∧ e.vr = vr ∧ e.ab = ab ∧ e.ae = ae ∧ l = (if e.k = 2 then e.h else []) ++ tail e.k (datL e) true ++ r := by
  unfold rvR at h
  by_cases c : k = 2
  · rw [if_pos c] at h
    obtain ⟨hh, m, g1, g2⟩ := bind_inv h
    obtain ⟨q, m2, g3, g4⟩ := bind_inv g2
    obtain ⟨e1, hl⟩ := take_inv g1
    have hoh : Oct hh := by rw [e1] at ho; exact ho.left
    have hom : Oct m := by rw [e1] at ho; exact ho.right
    obtain ⟨w1, w2⟩ := dt_inv hom g3
    obtain ⟨e3, e4⟩ := ret_inv g4
    subst e3 e4 c
    refine ⟨⟨i64_nat (by omega), h4, i64_nat h1, i64_nat h2, i64_nat h3, w1, ⟨hl, hoh⟩, i64_nat h5, i64_nat h6⟩, rfl, rfl, rfl, rfl, rfl, rfl, rfl, ?_⟩
    rw [e1, List.append_assoc]
    show hh ++ m = (if ((2 : Nat) : Int) = 2 then hh else []) ++ _
    rw [if_pos (show ((2 : Nat) : Int) = 2 from rfl)]
    congr 1
    rcases w2 with ⟨rfl, e5⟩ | ⟨e5, e6, e7⟩
    · rw [e5]; rfl
    · obtain ⟨qv, qb⟩ := q
      simp only at e5 e6 e7
      subst e5
      have ed : datL (⟨((2 : Nat) : Int), t, tb, dc, vr, qv, hh, false, ab, ae⟩ : En) = encB qv := by unfold datL; rw [if_pos ⟨rfl, rfl⟩]
      have en : encB qv ≠ [] := by rw [(encOk e6).2.1]; unfold encV headB; simp
      show m = tail ((2 : Nat) : Int) (datL ⟨((2 : Nat) : Int), t, tb, dc, vr, qv, hh, false, ab, ae⟩) true ++ _
      rw [ed]
      unfold tail
      rw [if_pos (show ((2 : Nat) : Int) = 2 from rfl), if_neg (by simp [en]), e7]
  · rw [if_neg c] at h
    obtain ⟨e3, e4⟩ := ret_inv h
    subst e3 e4
    refine ⟨⟨i64_nat (by omega), h4, i64_nat h1, i64_nat h2, i64_nat h3, wf_nv, h32_zr, i64_nat h5, i64_nat h6⟩, rfl, rfl, rfl, rfl, rfl, rfl, rfl, ?_⟩
    have ck : ¬ (k : Int) = 2 := by omega
    show r = (if (k : Int) = 2 then zr else []) ++ tail (k : Int) _ true ++ r
    rw [if_neg ck]
    unfold tail
    rw [if_neg ck]
    rfl
theorem en_inv {l r : List Nat} {e : En} (ho : Oct l) (hlen : l.length ≤ 140737488355328) (h : enR l = .ok (e, r)) : EnW e ∧ l = itmB true e ++ r := by
  obtain ⟨k, m0, g0, h⟩ := bind_inv h
  have e0 := by_inv g0
  have hk : k < 256 := ho k (by rw [e0]; simp)
  have o0 : Oct m0 := fun y hy => ho y (by rw [e0]; simp [hy])
  obtain ⟨tb, m1, g1, h⟩ := bind_inv h
  obtain ⟨e1, b1⟩ := n_inv o0 g1
  have o1 : Oct m1 := by rw [e1] at o0; exact o0.right
  obtain ⟨dc, m2, g2, h⟩ := bind_inv h
  obtain ⟨e2, b2⟩ := n_inv o1 g2
  have o2 : Oct m2 := by rw [e2] at o1; exact o1.right
  obtain ⟨vr, m3, g3, h⟩ := bind_inv h
  obtain ⟨e3, b3⟩ := n_inv o2 g3
  have o3 : Oct m3 := by rw [e3] at o2; exact o2.right
  obtain ⟨t, m4, g4, h⟩ := bind_inv h
  obtain ⟨e4, b4⟩ := t_inv' o3 g4
  have o4 : Oct m4 := by rw [e4] at o3; exact o3.right
  obtain ⟨ab, m5, g5, h⟩ := bind_inv h
  obtain ⟨e5, b5⟩ := n_inv o4 g5
  have o5 : Oct m5 := by rw [e5] at o4; exact o4.right
  obtain ⟨ae, m6, g6, h⟩ := bind_inv h
  obtain ⟨e6, b6⟩ := n_inv o5 g6
  have o6 : Oct m6 := by rw [e6] at o5; exact o5.right
  have hm3 : m3.length ≤ l.length := by rw [e0, e1, e2, e3]; simp only [List.length_cons, List.length_append]; omega
  obtain ⟨w, q1, q2, q3, q4, q5, q6, q7, q8⟩ := rv_inv hk b1 b2 b3 (by omega) b5 b6 o6 h
  refine ⟨w, ?_⟩
  unfold itmB entB
  rw [e0, e1, e2, e3, e4, e5, e6, q8, q1, q2, q3, q4, q5, q6, q7]
  simp only [uvI_nat, Int.toNat_natCast, List.append_assoc, List.cons_append, List.nil_append]
theorem es_inv : ∀ (n : Nat) {l r : List Nat} {es : List En}, Oct l → l.length ≤ 140737488355328 → esR n l = .ok (es, r) → (∀ e ∈ es, EnW e) ∧ es.length = n ∧ l = es.flatMap (itmB true) ++ r
  | 0, l, r, es, ho, hl, h => by
    obtain ⟨e1, e2⟩ := ret_inv h
    subst e1 e2
    exact ⟨(fun e he => by cases he), rfl, rfl⟩
  | n + 1, l, r, es, ho, hl, h => by
    obtain ⟨es0, m, g1, h⟩ := bind_inv h
    obtain ⟨e, m2, g2, h⟩ := bind_inv h
    obtain ⟨i1, i2, i3⟩ := es_inv n ho hl g1
    have om : Oct m := by rw [i3] at ho; exact ho.right
    have lm : m.length ≤ 140737488355328 := by rw [i3, List.length_append] at hl; omega
    obtain ⟨j1, j2⟩ := en_inv om lm g2
    obtain ⟨e1, e2⟩ := ret_inv h
    subst e1 e2
    refine ⟨fun x hx => ?_, by simp [i2], ?_⟩
    · rcases List.mem_append.1 hx with hx | hx
      · exact i1 x hx
      · rw [List.mem_singleton.1 hx]; exact j1
    · rw [i3, j2, List.flatMap_append]
      simp
theorem bk_inv {l r : List Nat} {b : Bk} (ho : Oct l) (hl : l.length ≤ 140737488355328) (h : bkR l = .ok (b, r)) : BkW b ∧ l = blkB b true ++ r := by
  obtain ⟨ix, m1, g1, h⟩ := bind_inv h
  obtain ⟨e1, b1⟩ := n_inv ho g1
  have o1 : Oct m1 := by rw [e1] at ho; exact ho.right
  obtain ⟨tm, m2, g2, h⟩ := bind_inv h
  obtain ⟨e2, b2⟩ := n_inv o1 g2
  have o2 : Oct m2 := by rw [e2] at o1; exact o1.right
  obtain ⟨tx, m3, g3, h⟩ := bind_inv h
  obtain ⟨e3, b3⟩ := n_inv o2 g3
  have o3 : Oct m3 := by rw [e3] at o2; exact o2.right
  obtain ⟨pv, m4, g4, h⟩ := bind_inv h
  obtain ⟨e4, b4⟩ := take_inv g4
  have o4 : Oct m4 := by rw [e4] at o3; exact o3.right
  have op : Oct pv := by rw [e4] at o3; exact o3.left
  obtain ⟨n, m5, g5, h⟩ := bind_inv h
  obtain ⟨e5, b5⟩ := n_inv o4 g5
  have o5 : Oct m5 := by rw [e5] at o4; exact o4.right
  obtain ⟨es, m6, g6, h⟩ := bind_inv h
  have hm5 : m5.length ≤ l.length := by rw [e1, e2, e3, e4, e5]; simp only [List.length_append]; omega
  obtain ⟨w, q1, q2⟩ := es_inv n o5 (by omega) g6
  obtain ⟨r1, r2⟩ := ret_inv h
  subst r1 r2
  have hn : es.length ≤ m5.length := by
    rw [q2, List.length_append]
    have : ∀ l : List En, l.length ≤ (l.flatMap (itmB true)).length := by
      intro l
      induction l with
      | nil => simp
      | cons x y ih =>
        have : 1 ≤ (itmB true x).length := by unfold itmB entB; simp only [List.length_append, List.length_cons, List.length_nil]; omega
        simp only [List.flatMap_cons, List.length_append, List.length_cons]
        omega
    have := this es
    omega
  refine ⟨⟨i64_nat b1, i64_nat b2, i64_nat b3, ⟨b4, op⟩, w, by show es.length ≤ _; omega⟩, ?_⟩
  unfold blkB hedB
  simp only [uvI_nat]
  rw [e1, e2, e3, e4, e5, q2, q1]
  simp only [List.append_assoc]
theorem decB_zero {l : List Nat} (ho : Oct l) (hl : l.length ≤ 140737488355328) (h : decB l = 0) : BkW (decK l) ∧ chkB (decK l) = 0 ∧ blkB (decK l) true = l := by
  have h0 := h
  unfold decB at h
  cases e : bkR l with
  | error x =>
    rw [e] at h
    exact absurd e (by rw [show x = 0 by simpa using h]; exact nz_bk l)
  | ok v =>
    obtain ⟨b, r⟩ := v
    rw [e] at h
    simp only at h
    have ek : decK l = b := by unfold decK; rw [e]; simp only; rw [if_pos h0]
    rw [ek]
    by_cases hr : r = []
    case neg => rw [if_pos hr] at h; simp at h
    subst hr
    rw [if_neg (by simp)] at h
    obtain ⟨w, q⟩ := bk_inv ho hl e
    rw [List.append_nil] at q
    by_cases hc : chkB b = 0
    case neg => rw [if_pos hc] at h; exact absurd h hc
    exact ⟨w, hc, q.symm⟩
end Go.Proofs.Ytmbglggodifboab.Sh
