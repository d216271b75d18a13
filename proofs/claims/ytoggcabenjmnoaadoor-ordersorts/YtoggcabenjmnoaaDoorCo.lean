/-
  What is written is read as it was; what is read is written so. No program is named.
-/
import Derived.Test.YtoggcabenjmnoaaDoorCn
namespace Go.Proofs.YtoggcabenjmnoaaDoor
open Go.RowKit Math
set_option linter.unusedVariables false
theorem rd_one (d : Nat) {k : Nat} {c : List Nat} {x : Vt} {f : Rdr Vt} (hf : ∀ l, rdV (d + 1) (k :: l) = f l) (h : Reads f c x) : Reads (rdV (d + 1)) (k :: c) x := fun m => by
  rw [List.cons_append, hf]; exact h m
theorem names_len {ns : List ByteArray} {kl : Nat} (h : named ns kl = true) : ns.length = kl ∧ ∀ x ∈ ns, x.size ≤ 40 := by
  simp only [named, Bool.and_eq_true, decide_eq_true_eq] at h
  refine ⟨h.1, ?_⟩
  have : ∀ (l : List ByteArray) (a : ByteArray), rises a l = true → ∀ x ∈ l, x.size ≤ 40 := by
    intro l
    induction l with
    | nil => intro a _ x hx; cases hx
    | cons y l ih =>
      intro a h x hx
      simp only [rises, Bool.and_eq_true, Bool.not_eq_true', decide_eq_false_iff_not] at h
      rcases List.mem_cons.1 hx with rfl | hx
      · omega
      · exact ih y h.2 x hx
  exact this ns _ h.2
theorem chk0_mem : ∀ {f : Fo} {p : Vt}, chk0 f = 0 → p ∈ f.list → chk0V p = 0
  | .cons h k r, p, hc, hp => by
    have e : chk0 (.cons h k r) = if chk0V (h, k) ≠ 0 then chk0V (h, k) else chk0 r := rfl
    rw [e] at hc
    by_cases h0 : chk0V (h, k) = 0
    · rw [if_neg (by simpa using h0)] at hc
      rcases List.mem_cons.1 hp with rfl | hp
      · exact h0
      · exact chk0_mem hc hp
    · rw [if_pos h0] at hc
      exact absurd hc h0
theorem dp_mem : ∀ {f : Fo} {p : Vt}, p ∈ f.list → dpV p ≤ dpF f
  | .cons h k r, p, hp => by
    simp only [dpF]
    rcases List.mem_cons.1 hp with rfl | hp
    · simp only [dpV]; omega
    · have := dp_mem hp; omega
/-- A row of values, each of which is read. -/
theorem reads_N {g : Rdr Vt} (b : Bool) : ∀ (f : Fo) (ns : List ByteArray), (∀ p ∈ f.list, Reads g (encV p) p) → (b = true → ns.length = f.list.length ∧ ∀ x ∈ ns, x.size ≤ 65536) → (b = false → ns = []) → Reads (rdN g b f.list.length) (enc f b ns) (f, ns) := by
  intro f
  induction f using Fo.ind with
  | h0 =>
    intro ns _ h1 h2
    have : ns = [] := by
      cases b
      · exact h2 rfl
      · exact List.eq_nil_of_length_eq_zero (by simpa [Fo.list] using (h1 rfl).1)
    subst this
    exact reads_ret _
  | h1 f p ih =>
    intro ns hg h1 h2
    have hl : (f.snoc p).list.length = f.list.length + 1 := by simp [snoc_list]
    rw [hl]
    have gp := hg p (by simp [snoc_list])
    have gf : ∀ q ∈ f.list, Reads g (encV q) q := fun q hq => hg q (by simp [snoc_list, hq])
    cases b
    · obtain rfl := h2 rfl
      have e := enc_snoc p em f false [] (by simp)
      simp only [Bool.false_eq_true, if_false, List.nil_append] at e
      rw [e]
      refine reads_bind (ih [] gf (by simp) (fun _ => rfl)) ?_
      simp only [Bool.false_eq_true, if_false]
      have := reads_bind (g := fun v => Rdr.ret (f.snoc v, ([] : List ByteArray))) gp (reads_ret (f.snoc p, []))
      rw [List.append_nil] at this
      exact this
    · obtain ⟨hn, hx⟩ := h1 rfl
      obtain ⟨ms, s, rfl⟩ : ∃ ms s, ns = ms ++ [s] := ⟨ns.dropLast, ns.getLast (by intro e; rw [e, hl] at hn; cases hn), (List.dropLast_concat_getLast _).symm⟩
      have hm : ms.length = f.list.length := by rw [hl] at hn; simpa using hn
      have e := enc_snoc p s f true ms (fun _ => hm)
      simp only [if_true] at e
      rw [e]
      refine reads_bind (ih ms gf (fun _ => ⟨hm, fun x h => hx x (by simp [h])⟩) (by simp)) ?_
      simp only [if_true]
      refine reads_bind (reads_tx s (hx s (by simp))) ?_
      have := reads_bind (g := fun v => Rdr.ret (f.snoc v, ms ++ [s])) gp (reads_ret (f.snoc p, ms ++ [s]))
      rw [List.append_nil] at this
      exact this
theorem vt_eq {p : Vt} {k n s : Int} {t : ByteArray} {ns : List ByteArray} {f : Fo} (h1 : p.1.k = k) (h2 : p.1.n = n) (h3 : p.1.s = s) (h4 : p.1.t = t) (h5 : p.1.ns = ns) (h6 : p.2 = f) : p = (⟨k, n, s, t, ns⟩, f) := by
  obtain ⟨⟨k1, n1, s1, t1, ns1⟩, f1⟩ := p
  simp only at h1 h2 h3 h4 h5 h6
  subst h1 h2 h3 h4 h5 h6
  rfl
theorem reads_end {α : Type} {f : Rdr α} {c : List Nat} {x : α} (h : Reads f c x) {β : Type} (y : β) : Reads (f.bind fun _ => .ret y) c y := by
  have := reads_bind h (g := fun _ => Rdr.ret y) (reads_ret y)
  rw [List.append_nil] at this
  exact this
theorem reads_to {α : Type} {f : Rdr α} {c : List Nat} {x : α} (h : Reads f c x) {β : Type} (q : α → β) : Reads (f.bind fun v => .ret (q v)) c (q x) := by
  have := reads_bind h (g := fun v => Rdr.ret (q v)) (reads_ret (q x))
  rw [List.append_nil] at this
  exact this
theorem zig_nat (n : Int) (h1 : -9223372036854775808 ≤ n) (h2 : n < 9223372036854775808) : (zigS n).toNat < 18446744073709551616 ∧ zagS ((zigS n).toNat : Int) = n := by
  have := zig_bd n h1 (by omega)
  refine ⟨by omega, ?_⟩
  rw [Int.toNat_of_nonneg this.1, zag_zig]
theorem reads_V : ∀ (d : Nat) (p : Vt), WfV p → dpV p ≤ d → chk0V p = 0 → Reads (rdV d) (encV p) p
  | 0, p, _, hd, _ => by simp [dpV] at hd
  | d + 1, p, hw, hd, hc => by
    have ho : own p.1 p.2.list.length = 0 := by
      apply Classical.byContradiction
      intro h
      rw [chk0V, if_pos h] at hc
      exact h hc
    have hk : chk0 p.2 = 0 := by
      rw [chk0V, if_neg (by simpa using ho)] at hc
      exact hc
    obtain ⟨hf, ht, hkl, hnm⟩ := own_fine ho
    have kids : ∀ q ∈ p.2.list, Reads (fun l => rdV d l) (encV q) q := fun q hq => reads_V d q (hw.kid hq) (by have := dp_mem hq; simp only [dpV] at hd this ⊢; omega) (chk0_mem hk hq)
    have z := zig_nat p.1.n hw.1.n0 hw.1.n1
    unfold formed at hf
    split at hf
    · next h =>
      obtain ⟨a1, a2, a3, a4, a5⟩ := leaf_of hf (by decide) (by decide)
      have e := vt_eq h (a5 (by decide) (by decide)) (a4 (by decide)) (a3 (by decide)) a1 a2
      rw [e]
      exact rd_one d (k := 1) (c := []) (fun l => rfl) (reads_ret _)
    split at hf
    · next _ h =>
      rw [Bool.and_eq_true] at hf
      obtain ⟨a1, a2, a3, a4, a5⟩ := leaf_of hf.1 (by decide) (by decide)
      have e := vt_eq h rfl (a4 (by decide)) (a3 (by decide)) a1 a2
      have hn : p.1.n = 0 ∨ p.1.n = 1 := by simpa using hf.2
      generalize p.1.n = n at *
      rw [e]
      rcases hn with rfl | rfl
      · exact rd_one d (k := 2) (c := [0]) (fun l => rfl) (reads_end (reads_by 0) _)
      · exact rd_one d (k := 2) (c := [1]) (fun l => rfl) (reads_end (reads_by 1) _)
    split at hf
    · next _ _ h =>
      obtain ⟨a1, a2, a3, a4, a5⟩ := leaf_of hf (by decide) (by decide)
      have e := vt_eq h rfl (a4 (by decide)) (a3 (by decide)) a1 a2
      generalize p.1.n = n at *
      rw [e]
      have := reads_to (reads_uv (zigS n).toNat z.1) (fun u : Nat => lf 3 (zagS u) 0 em)
      rw [z.2] at this
      have := rd_one d (k := 3) (c := uv (zigS n).toNat) (fun l => rfl) this
      simpa [encV, headB, bodyB, enc, lf] using this
    split at hf
    · next _ _ _ h =>
      simp only [Bool.and_eq_true, decide_eq_true_eq] at hf
      obtain ⟨⟨⟨b1, b2⟩, b3⟩, b4⟩ := hf
      obtain ⟨a1, a2, a3, a4, a5⟩ := leaf_of b1 (by decide) (by decide)
      have e := vt_eq h rfl rfl (a3 (by decide)) a1 a2
      generalize p.1.n = n at *
      obtain ⟨s, hs⟩ : ∃ s : Nat, p.1.s = s := ⟨p.1.s.toNat, by omega⟩
      rw [hs] at e
      rw [e]
      have := reads_bind (f := uvR) (g := fun u : Nat => byR.bind fun x : Nat => Rdr.ret (lf 4 (zagS u) x em)) (reads_uv (zigS n).toNat z.1) (reads_to (reads_by s) (fun x : Nat => lf 4 (zagS ((zigS n).toNat : Int)) x em))
      rw [z.2] at this
      have := rd_one d (k := 4) (fun l => rfl) this
      simpa [encV, headB, bodyB, enc, lf] using this
    split at hf
    · next _ _ _ _ h =>
      simp only [Bool.and_eq_true, decide_eq_true_eq] at hf
      obtain ⟨⟨b1, b2⟩, b3⟩ := hf
      obtain ⟨a1, a2, a3, a4, a5⟩ := leaf_of b1 (by decide) (by decide)
      have e := vt_eq h rfl (a4 (by decide)) (a3 (by decide)) a1 a2
      obtain ⟨n, hn⟩ : ∃ n : Nat, p.1.n = n := ⟨p.1.n.toNat, by omega⟩
      rw [hn] at e
      rw [e]
      have := reads_to (reads_uv n (by omega)) (fun u : Nat => lf 5 (wr64 u) 0 em)
      have w : wr64 n = (n : Int) := by unfold wr64; rw [if_pos (by omega)]
      rw [w] at this
      have := rd_one d (k := 5) (c := uv n) (fun l => rfl) this
      simpa [encV, headB, bodyB, enc, lf] using this
    split at hf
    · next _ _ _ _ _ h =>
      obtain ⟨a1, a2, a3, a4, a5⟩ := leaf_of hf (by decide) (by decide)
      have e := vt_eq h (a5 (by decide) (by decide)) (a4 (by decide)) rfl a1 a2
      generalize p.1.t = t at *
      rw [e]
      have := rd_one d (k := 6) (c := txB t) (fun l => rfl) (reads_to (reads_tx t (by omega)) (fun t => lf 6 0 0 t))
      simpa [encV, headB, bodyB, enc, lf] using this
    split at hf
    · next _ _ _ _ _ _ h =>
      obtain ⟨a1, a2, a3, a4, a5⟩ := leaf_of hf (by decide) (by decide)
      have e := vt_eq h (a5 (by decide) (by decide)) (a4 (by decide)) rfl a1 a2
      generalize p.1.t = t at *
      rw [e]
      have := rd_one d (k := 7) (c := txB t) (fun l => rfl) (reads_to (reads_tx t (by omega)) (fun t => lf 7 0 0 t))
      simpa [encV, headB, bodyB, enc, lf] using this
    split at hf
    · next _ _ _ _ _ _ _ h =>
      simp only [only, Bool.and_eq_true, Bool.or_eq_true, decide_eq_true_eq] at hf
      obtain ⟨⟨⟨⟨h1, h2⟩, h3⟩, h4⟩, h5⟩ := hf
      have e := vt_eq (n := 0) (s := 0) h (by omega) (by omega) (em_of (by simpa using h3)) (List.eq_nil_of_length_eq_zero (by omega)) rfl
      have r := reads_N false p.2 [] kids (by simp) (fun _ => rfl)
      generalize p.2 = f at *
      rw [e]
      have h1 := reads_to r (fun q => nst 8 q)
      have h2 := reads_bind (f := lenR) (g := fun n => (rdN (fun l => rdV d l) false n).bind fun q => .ret (nst 8 q)) (reads_len f.list.length (by omega)) h1
      have := rd_one d (k := 8) (fun l => rfl) h2
      simpa [encV, headB, bodyB, nst] using this
    split at hf
    · next _ _ _ _ _ _ _ _ h =>
      simp only [only, Bool.and_eq_true, Bool.or_eq_true, decide_eq_true_eq] at hf
      obtain ⟨⟨⟨⟨h1, h2⟩, h3⟩, h4⟩, h5⟩ := hf
      have e := vt_eq (n := 0) (s := 0) h (by omega) (by omega) (em_of (by simpa using h3)) rfl rfl
      obtain ⟨n1, n2⟩ := names_len (hnm h)
      have r := reads_N true p.2 p.1.ns kids (fun _ => ⟨n1, fun x hx => by have := n2 x hx; omega⟩) (by simp)
      generalize p.2 = f at *
      generalize p.1.ns = ns at *
      rw [e]
      have h1 := reads_to r (fun q => nst 9 q)
      have h2 := reads_bind (f := lenR) (g := fun n => (rdN (fun l => rdV d l) true n).bind fun q => .ret (nst 9 q)) (reads_len f.list.length (by omega)) h1
      have := rd_one d (k := 9) (fun l => rfl) h2
      simpa [encV, headB, bodyB, nst] using this
    · cases hf
end Go.Proofs.YtoggcabenjmnoaaDoor
