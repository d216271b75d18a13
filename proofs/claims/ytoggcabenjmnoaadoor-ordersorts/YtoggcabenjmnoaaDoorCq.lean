/-
  What is read is written so; how bytes that are cut short are read. No program is named.
-/
import Derived.Test.YtoggcabenjmnoaaDoorCo
namespace Go.Proofs.YtoggcabenjmnoaaDoor
open Go.RowKit Math
set_option linter.unusedVariables false
theorem by_inv {l r : List Nat} {x : Nat} (h : byR l = .ok (x, r)) : l = x :: r := by
  cases l with
  | nil => cases h
  | cons y l => obtain ⟨rfl, rfl⟩ := Prod.mk.inj (Except.ok.inj h); rfl
theorem len_inv {l r : List Nat} {n : Nat} (ho : Oct l) (h : lenR l = .ok (n, r)) : l = uv n ++ r ∧ n ≤ 65536 := by
  obtain ⟨u, m, h1, h2⟩ := bind_inv h
  obtain ⟨rfl, _⟩ := uv_inv ho h1
  split at h2
  · cases h2
  · obtain ⟨rfl, rfl⟩ := Prod.mk.inj (Except.ok.inj h2)
    exact ⟨rfl, by omega⟩
theorem tx_inv {l r : List Nat} {s : ByteArray} (ho : Oct l) (h : txR l = .ok (s, r)) : l = txB s ++ r ∧ s.size ≤ 65536 := by
  obtain ⟨n, m, h1, h2⟩ := bind_inv h
  obtain ⟨rfl, hn⟩ := len_inv ho h1
  obtain ⟨b, q, h3, h4⟩ := bind_inv h2
  unfold takeR at h3
  split at h3
  · cases h3
  · next hl =>
    obtain ⟨rfl, rfl⟩ := Prod.mk.inj (Except.ok.inj h3)
    obtain ⟨rfl, rfl⟩ := Prod.mk.inj (Except.ok.inj h4)
    have hs : (ofB (m.take n)).size = n := by rw [ofB_size, List.length_take]; omega
    have hb : bts (ofB (m.take n)) = m.take n := bts_ofB _ fun x hx => ho.right x (List.mem_of_mem_take hx)
    refine ⟨?_, by omega⟩
    unfold txB
    rw [hs, hb, List.append_assoc, List.take_append_drop]
theorem wf_snoc {p : Vt} (hp : WfV p) : ∀ {f : Fo}, Wf f → Wf (f.snoc p)
  | .nil, _ => ⟨hp, trivial⟩
  | .cons h k r, hf => ⟨hf.1, wf_snoc hp hf.2⟩
/-- What a reader of values finds. -/
structure Fnd (d : Nat) (l : List Nat) (p : Vt) (r : List Nat) : Prop where
  wf : WfV p
  dp : dpV p ≤ d
  wr : chk0V p = 0 → l = encV p ++ r
structure FndN (d : Nat) (b : Bool) (n : Nat) (l : List Nat) (f : Fo) (ns : List ByteArray) (r : List Nat) : Prop where
  len : f.list.length = n
  nl : ns.length = if b then n else 0
  nz : ∀ x ∈ ns, x.size ≤ 65536
  wf : Wf f
  dp : dpF f ≤ d
  wr : chk0 f = 0 → l = enc f b ns ++ r
theorem find_N {g : Rdr Vt} {d : Nat} (hg : Good g) (ih : ∀ l p r, Oct l → g l = .ok (p, r) → Fnd d l p r) (b : Bool) : ∀ (n : Nat) (l : List Nat) (f : Fo) (ns : List ByteArray) (r : List Nat), Oct l → rdN g b n l = .ok ((f, ns), r) → FndN d b n l f ns r
  | 0, l, f, ns, r, ho, h => by
    obtain ⟨e, rfl⟩ := Prod.mk.inj (Except.ok.inj h)
    obtain ⟨rfl, rfl⟩ := Prod.mk.inj e
    exact ⟨rfl, by simp, by simp, trivial, Nat.zero_le _, fun _ => rfl⟩
  | n + 1, l, f, ns, r, ho, h => by
    obtain ⟨⟨f0, ns0⟩, m, h1, h2⟩ := bind_inv h
    have A := find_N hg ih b n l f0 ns0 m ho h1
    obtain ⟨c, hc, _, _⟩ := good_N hg b n l _ m ho h1
    have hom : Oct m := by rw [hc] at ho; exact ho.right
    cases b
    · simp only [Bool.false_eq_true, if_false] at h2
      obtain ⟨v, q, h3, h4⟩ := bind_inv h2
      obtain ⟨e, rfl⟩ := Prod.mk.inj (Except.ok.inj h4)
      obtain ⟨rfl, rfl⟩ := Prod.mk.inj e
      have B := ih m v q hom h3
      refine ⟨by rw [snoc_list, List.length_append, A.len]; rfl, by simpa using A.nl, A.nz, wf_snoc B.wf A.wf, by rw [dp_snoc]; have := A.dp; have := B.dp; omega, fun hk => ?_⟩
      rw [chk0_snoc] at hk
      by_cases k0 : chk0 f0 = 0
      · rw [if_neg (by simpa using k0)] at hk
        have e := enc_snoc v em f0 false ns0 (by simp)
        simp only [Bool.false_eq_true, if_false, List.nil_append] at e
        rw [e, List.append_assoc, ← B.wr hk]
        exact A.wr k0
      · rw [if_pos k0] at hk
        exact absurd hk k0
    · simp only [if_true] at h2
      obtain ⟨s, m2, h5, h6⟩ := bind_inv h2
      obtain ⟨rfl, hs⟩ := tx_inv hom h5
      obtain ⟨v, q, h3, h4⟩ := bind_inv h6
      obtain ⟨e, rfl⟩ := Prod.mk.inj (Except.ok.inj h4)
      obtain ⟨rfl, rfl⟩ := Prod.mk.inj e
      have B := ih m2 v q hom.right h3
      have nl := A.nl
      simp only [if_true] at nl
      refine ⟨by rw [snoc_list, List.length_append, A.len]; rfl, by simp [nl], fun x hx => ?_, wf_snoc B.wf A.wf, by rw [dp_snoc]; have := A.dp; have := B.dp; omega, fun hk => ?_⟩
      · rcases List.mem_append.1 hx with hx | hx
        · exact A.nz x hx
        · have : x = s := by simpa using hx
          rw [this]; exact hs
      rw [chk0_snoc] at hk
      by_cases k0 : chk0 f0 = 0
      · rw [if_neg (by simpa using k0)] at hk
        have e := enc_snoc v s f0 true ns0 (fun _ => by rw [nl, A.len])
        simp only [if_true] at e
        rw [e, List.append_assoc, List.append_assoc, ← B.wr hk]
        exact A.wr k0
      · rw [if_pos k0] at hk
        exact absurd hk k0
theorem wf_lf (k n s : Int) (t : ByteArray) (hk : 0 ≤ k ∧ k < 256) (hn : -9223372036854775808 ≤ n ∧ n < 9223372036854775808) (hs : 0 ≤ s ∧ s < 256) (ht : t.size ≤ 65536) : WfV (lf k n s t) :=
  ⟨⟨by show (_ : Int) ≤ k; omega, by show k < _; omega, hn.1, hn.2, by show (_ : Int) ≤ s; omega, by show s < _; omega, by show t.size ≤ _; omega, by simp [lf], by simp [lf]⟩, by simp [lf, Fo.list], trivial⟩
theorem hok_nst (k : Int) (hk : 0 ≤ k ∧ k < 256) (f : Fo) (ns : List ByteArray) (h1 : ns.length ≤ 140737488355328) (h2 : ∀ x ∈ ns, x.size ≤ 140737488355328) : Hok (nst k (f, ns)).1 :=
  ⟨by show (_ : Int) ≤ k; omega, by show k < _; omega, by show (_ : Int) ≤ 0; decide, by show (0 : Int) < _; decide, by show (_ : Int) ≤ 0; decide, by show (0 : Int) < _; decide, by show em.size ≤ _; decide, h1, h2⟩
theorem own_of0 {p : Vt} (h : chk0V p = 0) : own p.1 p.2.list.length = 0 ∧ chk0 p.2 = 0 := by
  by_cases ho : own p.1 p.2.list.length = 0
  · rw [chk0V, if_neg (by simpa using ho)] at h
    exact ⟨ho, h⟩
  · rw [chk0V, if_pos ho] at h
    exact absurd h ho
theorem zag_nat {u : Nat} (hu : u < 18446744073709551616) : -9223372036854775808 ≤ zagS u ∧ zagS u < 9223372036854775808 ∧ (zigS (zagS u)).toNat = u := by
  have := zag_bd u (by omega) (by omega)
  refine ⟨this.1, by omega, ?_⟩
  rw [zig_zag u (by omega)]
  rfl
theorem wr_bd {u : Nat} (hu : u < 18446744073709551616) : -9223372036854775808 ≤ wr64 u ∧ wr64 u < 9223372036854775808 := by
  unfold wr64
  split <;> omega
theorem find_V : ∀ (d : Nat) (l : List Nat) (p : Vt) (r : List Nat), Oct l → rdV d l = .ok (p, r) → Fnd d l p r
  | 0, l, p, r, ho, h => by cases h
  | d + 1, l, p, r, ho, h => by
    obtain ⟨k, m, h1, h'⟩ := bind_inv h
    obtain rfl := by_inv h1
    clear h h1
    have h := h'
    clear h'
    have hk := ho k (by simp)
    have hom : Oct m := fun x hx => ho x (by simp [hx])
    have dl : ∀ (k n s : Int) (t : ByteArray), dpV (lf k n s t) ≤ d + 1 := fun k n s t => by simp [dpV, lf, dpF]
    split at h
    · next hk1 =>
      subst hk1
      obtain ⟨rfl, rfl⟩ := Prod.mk.inj (Except.ok.inj h)
      exact ⟨wf_lf 1 0 0 em (by omega) (by omega) (by omega) (by decide), dl _ _ _ _, fun _ => by simp [encV, headB, bodyB, enc, lf]⟩
    split at h
    · next _ hk1 =>
      subst hk1
      obtain ⟨x, q, h2, h'⟩ := bind_inv h
      clear h
      have h := h'
      clear h'
      obtain rfl := by_inv h2
      split at h
      · cases h
      · obtain ⟨rfl, rfl⟩ := Prod.mk.inj (Except.ok.inj h)
        exact ⟨wf_lf 2 x 0 em (by omega) (by omega) (by omega) (by decide), dl _ _ _ _, fun _ => by simp [encV, headB, bodyB, enc, lf]⟩
    split at h
    · next _ _ hk1 =>
      subst hk1
      obtain ⟨u, q, h2, h'⟩ := bind_inv h
      clear h
      have h := h'
      clear h'
      obtain ⟨rfl, hu⟩ := uv_inv hom h2
      obtain ⟨rfl, rfl⟩ := Prod.mk.inj (Except.ok.inj h)
      have z := zag_nat hu
      exact ⟨wf_lf 3 _ 0 em (by omega) ⟨z.1, z.2.1⟩ (by omega) (by decide), dl _ _ _ _, fun _ => by simp [encV, headB, bodyB, enc, lf, z.2.2]⟩
    split at h
    · next _ _ _ hk1 =>
      subst hk1
      obtain ⟨u, q, h2, h'⟩ := bind_inv h
      clear h
      have h := h'
      clear h'
      obtain ⟨rfl, hu⟩ := uv_inv hom h2
      obtain ⟨x, q2, h3, h'⟩ := bind_inv h
      clear h
      have h := h'
      clear h'
      obtain rfl := by_inv h3
      obtain ⟨rfl, rfl⟩ := Prod.mk.inj (Except.ok.inj h)
      have hx := hom x (by simp)
      have z := zag_nat hu
      exact ⟨wf_lf 4 _ x em (by omega) ⟨z.1, z.2.1⟩ (by omega) (by decide), dl _ _ _ _, fun _ => by simp [encV, headB, bodyB, enc, lf, z.2.2]⟩
    split at h
    · next _ _ _ _ hk1 =>
      subst hk1
      obtain ⟨u, q, h2, h'⟩ := bind_inv h
      clear h
      have h := h'
      clear h'
      obtain ⟨rfl, hu⟩ := uv_inv hom h2
      obtain ⟨rfl, rfl⟩ := Prod.mk.inj (Except.ok.inj h)
      refine ⟨wf_lf 5 _ 0 em (by omega) (wr_bd hu) (by omega) (by decide), dl _ _ _ _, fun hc => ?_⟩
      have hf := (own_fine (own_of0 hc).1).form
      have w0 : 0 ≤ wr64 u := by
        unfold formed at hf
        rw [if_neg (by simp [lf]), if_neg (by simp [lf]), if_neg (by simp [lf]), if_neg (by simp [lf]), if_pos (by simp [lf])] at hf
        rw [Bool.and_eq_true, Bool.and_eq_true] at hf
        exact of_decide_eq_true hf.1.2
      have w : wr64 u = (u : Int) := by
        unfold wr64 at w0 ⊢
        by_cases hu6 : u < 9223372036854775808
        · rw [if_pos hu6]
        · rw [if_neg hu6] at w0
          omega
      simp [encV, headB, bodyB, enc, lf, w]
    split at h
    · next _ _ _ _ _ hk1 =>
      subst hk1
      obtain ⟨t, q, h2, h'⟩ := bind_inv h
      clear h
      have h := h'
      clear h'
      obtain ⟨rfl, ht⟩ := tx_inv hom h2
      obtain ⟨rfl, rfl⟩ := Prod.mk.inj (Except.ok.inj h)
      exact ⟨wf_lf 6 0 0 t (by omega) (by omega) (by omega) ht, dl _ _ _ _, fun _ => by simp [encV, headB, bodyB, enc, lf]⟩
    split at h
    · next _ _ _ _ _ _ hk1 =>
      subst hk1
      obtain ⟨t, q, h2, h'⟩ := bind_inv h
      clear h
      have h := h'
      clear h'
      obtain ⟨rfl, ht⟩ := tx_inv hom h2
      obtain ⟨rfl, rfl⟩ := Prod.mk.inj (Except.ok.inj h)
      exact ⟨wf_lf 7 0 0 t (by omega) (by omega) (by omega) ht, dl _ _ _ _, fun _ => by simp [encV, headB, bodyB, enc, lf]⟩
    split at h
    · next _ _ _ _ _ _ _ hk1 =>
      subst hk1
      obtain ⟨n, q, h2, h'⟩ := bind_inv h
      clear h
      have h := h'
      clear h'
      obtain ⟨rfl, hn⟩ := len_inv hom h2
      obtain ⟨⟨f, ns⟩, q2, h3, h'⟩ := bind_inv h
      clear h
      have h := h'
      clear h'
      obtain ⟨rfl, rfl⟩ := Prod.mk.inj (Except.ok.inj h)
      have A := find_N (d := d) (good_V d) (fun l p r => find_V d l p r) false n q f ns q2 hom.right h3
      have hl := A.len
      have hns : ns = [] := List.eq_nil_of_length_eq_zero (by simpa using A.nl)
      subst hns
      refine ⟨⟨hok_nst 8 (by decide) f [] (by simp) (by simp), by show f.list.length ≤ _; omega, A.wf⟩, by show 1 + dpF f ≤ _; have := A.dp; omega, fun hc => ?_⟩
      have := A.wr (own_of0 hc).2
      conv => lhs; rw [this]
      simp [encV, headB, bodyB, nst, hl]
    split at h
    · next _ _ _ _ _ _ _ _ hk1 =>
      subst hk1
      obtain ⟨n, q, h2, h'⟩ := bind_inv h
      clear h
      have h := h'
      clear h'
      obtain ⟨rfl, hn⟩ := len_inv hom h2
      obtain ⟨⟨f, ns⟩, q2, h3, h'⟩ := bind_inv h
      clear h
      have h := h'
      clear h'
      obtain ⟨rfl, rfl⟩ := Prod.mk.inj (Except.ok.inj h)
      have A := find_N (d := d) (good_V d) (fun l p r => find_V d l p r) true n q f ns q2 hom.right h3
      have hl := A.len
      have hnl := A.nl
      simp only [if_true] at hnl
      refine ⟨⟨hok_nst 9 (by decide) f ns (by omega) (fun x hx => Nat.le_trans (A.nz x hx) (by decide)), by show f.list.length ≤ _; omega, A.wf⟩, by show 1 + dpF f ≤ _; have := A.dp; omega, fun hc => ?_⟩
      have := A.wr (own_of0 hc).2
      conv => lhs; rw [this]
      simp [encV, headB, bodyB, nst, hl]
    · cases h
/-! ### what follows -/
theorem enc_back (p : Vt) (hw : WfV p) (hc : chkV p 1 = 0) (m : List Nat) : rdV 16 (encV p ++ m) = .ok (p, m) := by
  have h1 := deepV_of p 1 hc
  rw [chkV_flat p 1 h1] at hc
  exact reads_V 16 p hw (by omega) hc m
theorem enc_one {p q : Vt} (hp : WfV p) (hq : WfV q) (cp : chkV p 1 = 0) (cq : chkV q 1 = 0) (h : encV p = encV q) : p = q := by
  have a := enc_back p hp cp []
  rw [h, enc_back q hq cq []] at a
  exact (Prod.mk.inj (Except.ok.inj a)).1.symm
theorem enc_cut (p : Vt) (hw : WfV p) (hc : chkV p 1 = 0) (ho : Oct (encV p)) (c m : List Nat) (e : encV p = c ++ m) (hm : m ≠ []) : rdV 16 c = .error 2 := by
  have a := enc_back p hw hc []
  rw [List.append_nil] at a
  obtain ⟨c0, h1, _, h3⟩ := good_V 16 _ _ _ ho a
  rw [List.append_nil] at h1
  exact h3 c m (h1 ▸ e) hm
theorem uv_oct' (u : Nat) : Oct (uv u) := uv_oct u
theorem tx_oct (s : ByteArray) : Oct (txB s) := (uv_oct' _).app (bts_oct s)
theorem one_oct {x : Nat} (h : x < 256) : Oct [x] := fun y hy => by
  have : y = x := by simpa using hy
  omega
theorem head_oct {h : Hd} {kl : Nat} (hf : own h kl = 0) : Oct (headB h kl) := by
  have hfm := (own_fine hf).form
  have hk : 1 ≤ h.k ∧ h.k ≤ 9 := by
    unfold formed at hfm
    repeat' split at hfm
    all_goals first | omega | cases hfm
  intro x hx
  rcases List.mem_cons.1 hx with rfl | hx
  · omega
  unfold bodyB at hx
  unfold formed at hfm
  split at hx
  · next h2 =>
    simp only [h2, Int.reduceEq, if_false, if_true, Bool.and_eq_true, Bool.or_eq_true, beq_iff_eq] at hfm
    exact one_oct (by omega) x hx
  split at hx
  · exact uv_oct _ x hx
  split at hx
  · next h4 =>
    simp only [h4, Int.reduceEq, if_false, if_true, Bool.and_eq_true, decide_eq_true_eq] at hfm
    exact (uv_oct' _).app (one_oct (by omega)) x hx
  split at hx
  · exact uv_oct _ x hx
  split at hx
  · exact tx_oct _ x hx
  split at hx
  · exact tx_oct _ x hx
  split at hx
  · exact uv_oct _ x hx
  split at hx
  · exact uv_oct _ x hx
  · cases hx
theorem enc_oct : ∀ (f : Fo) (b : Bool) (ns : List ByteArray), chk0 f = 0 → Oct (enc f b ns)
  | .nil, _, _, _ => fun x hx => by cases hx
  | .cons h k r, b, ns, hc => by
    have c1 := chk0_mem (p := (h, k)) hc (by simp [Fo.list])
    have c2 : chk0 r = 0 := by
      have e : chk0 (.cons h k r) = if chk0V (h, k) ≠ 0 then chk0V (h, k) else chk0 r := rfl
      rw [e, if_neg (by simpa using c1)] at hc
      exact hc
    obtain ⟨a, b'⟩ := own_of0 c1
    refine Oct.app (Oct.app ?_ ((head_oct a).app (enc_oct k _ _ b'))) (enc_oct r b _ c2)
    cases b
    · intro x hx; cases hx
    · exact tx_oct _
theorem encV_oct (p : Vt) (hc : chk0V p = 0) : Oct (encV p) := (head_oct (own_of0 hc).1).app (enc_oct _ _ _ (own_of0 hc).2)
end Go.Proofs.YtoggcabenjmnoaaDoor
