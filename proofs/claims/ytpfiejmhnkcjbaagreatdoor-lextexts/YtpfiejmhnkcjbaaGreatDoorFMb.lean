/-
  Texts that are read: plain mathematics. Whatever is so written is read.
-/
import Derived.Test.YtpfiejmhnkcjbaaGreatDoorFMa
import Derived.Test.YtpfiejmhnkcjbaaGreatDoorFG3x
namespace Go.Proofs.YtpfiejmhnkcjbaaGreatDoor
open Go.RowKit Math
set_option linter.unusedVariables false
set_option linter.unusedSimpArgs false
/-! ### forests, one behind the other -/
def Fo.app9 : Fo → Fo → Fo
  | .nil, g => g
  | .cons h k r, g => .cons h k (r.app9 g)
theorem app9_snoc (p : Vt) (g : Fo) : ∀ f : Fo, (f.snoc p).app9 g = f.app9 (.cons p.1 p.2 g)
  | .nil => rfl
  | .cons h k r => by
    show Fo.cons h k ((r.snoc p).app9 g) = .cons h k (r.app9 _)
    rw [app9_snoc p g r]
theorem app9_nil : ∀ f : Fo, f.app9 .nil = f
  | .nil => rfl
  | .cons h k r => by
    show Fo.cons h k (r.app9 .nil) = _
    rw [app9_nil r]
theorem ws_snoc (p : Vt) : ∀ f : Fo, (f.snoc p).ws = f.ws + ws p
  | .nil => by
    show Fo.ws (.cons p.1 p.2 .nil) = _
    simp [Fo.ws, ws]
  | .cons h k r => by
    show Fo.ws (.cons h k (r.snoc p)) = Fo.ws (.cons h k r) + ws p
    simp only [Fo.ws]
    rw [ws_snoc p r]
    omega
theorem byt_ext9 {a : ByteArray} (h : a.toList = []) : a = ⟨#[]⟩ := by
  rw [ByteArray.toList_eq] at h
  obtain ⟨⟨l⟩⟩ := a
  simp only at h
  rw [h]
theorem form9 {h : Hd} {kl : Nat} (hf : formed h kl = true) : (h.k = 1 ∨ h.k = 2 ∨ h.k = 3 ∨ h.k = 4 ∨ h.k = 5 ∨ h.k = 6 ∨ h.k = 7 ∨ h.k = 8 ∨ h.k = 9) ∧ (h.k ≠ 2 → h.k ≠ 3 → h.k ≠ 4 → h.k ≠ 5 → h.n = 0) ∧ (h.k ≠ 4 → h.s = 0) ∧ (h.k ≠ 6 → h.k ≠ 7 → h.t = ⟨#[]⟩) ∧ (h.k ≠ 9 → h.ns = []) ∧ (h.k ≠ 8 → h.k ≠ 9 → kl = 0) := by
  by_cases hk : h.k = 1 ∨ h.k = 2 ∨ h.k = 3 ∨ h.k = 4 ∨ h.k = 5 ∨ h.k = 6 ∨ h.k = 7 ∨ h.k = 8 ∨ h.k = 9
  · refine ⟨hk, ?_⟩
    have ht : h.t.toList = [] → h.t = ⟨#[]⟩ := byt_ext9
    rcases hk with hk | hk | hk | hk | hk | hk | hk | hk | hk <;> simp [formed, only, hk] at hf <;> simp [hk] <;> simp_all
  · simp only [not_or] at hk
    obtain ⟨k1, k2, k3, k4, k5, k6, k7, k8, k9⟩ := hk
    simp [formed, k1, k2, k3, k4, k5, k6, k7, k8, k9] at hf
theorem hd9 {a b : Hd} (h1 : a.k = b.k) (h2 : a.n = b.n) (h3 : a.s = b.s) (h4 : a.t = b.t) (h5 : a.ns = b.ns) : a = b := by
  obtain ⟨k, n, s, t, ns⟩ := a
  obtain ⟨k', n', s', t', ns'⟩ := b
  simp only at *
  rw [h1, h2, h3, h4, h5]
theorem nil9 {f : Fo} (h : f.list.length = 0) : f = .nil := by
  cases f with
  | nil => rfl
  | cons a b c => simp [Fo.list] at h
theorem ckv9 {p : Vt} {d : Int} (h : chkV p d = 0) : ¬ 16 < d ∧ own p.1 p.2.list.length = 0 ∧ chk p.2 (d + 1) = 0 := by
  unfold chkV at h
  split at h
  · cases h
  · next h1 =>
    split at h
    · next h2 => exact absurd h h2
    · next h2 => exact ⟨h1, Classical.byContradiction h2, h⟩
theorem wfc9 {h : Hd} {k r : Fo} (hw : Wf (.cons h k r)) : WfV (h, k) ∧ Wf r := hw
theorem chkc9 {h : Hd} {k r : Fo} {d : Int} (hc : chk (.cons h k r) d = 0) : chkV (h, k) d = 0 ∧ chk r d = 0 := by
  have e : chk (.cons h k r) d = if chkV (h, k) d ≠ 0 then chkV (h, k) d else chk r d := rfl
  rw [e] at hc
  split at hc
  · next x => exact absurd hc x
  · next x => exact ⟨Classical.byContradiction x, hc⟩
theorem flat9 {p : Vt} {d : Int} (h : chkV p d = 0) (h8 : p.1.k ≠ 8) (h9 : p.1.k ≠ 9) : p = (⟨p.1.k, p.1.n, p.1.s, p.1.t, []⟩, .nil) := by
  obtain ⟨_, ho, _⟩ := ckv9 h
  obtain ⟨hk, a1, a2, a3, a4, a5⟩ := form9 (own_fine ho).1
  have e1 := nil9 (a5 h8 h9)
  have e2 := a4 h9
  obtain ⟨⟨k, n, s, t, ns⟩, f⟩ := p
  simp only at e1 e2 ⊢
  rw [e1, e2]
/-! ### numbers -/
theorem num9 {h : Hd} {kl : Nat} (hw : Hok h) (ho : own h kl = 0) (hk : h.k = 3 ∨ h.k = 4) : D6.Nu h.n h.s.toNat ∧ 0 ≤ h.s ∧ (h.s = 0 ↔ h.k = 3) := by
  have hf := (own_fine ho).1
  have a2 := (form9 hf).2.2.1
  unfold formed at hf
  rcases hk with hk | hk
  · have := a2 (by omega)
    exact ⟨⟨hw.n0, hw.n1, by rw [this]; decide, .inl (by rw [this]; rfl)⟩, by omega, by simp [this, hk]⟩
  · simp [hk] at hf
    obtain ⟨⟨⟨_, h1⟩, h2⟩, h3⟩ := hf
    refine ⟨⟨hw.n0, hw.n1, by omega, .inr fun e => h3 ?_⟩, by omega, by constructor <;> intro <;> omega⟩
    exact Int.tmod_eq_zero_of_dvd (Int.dvd_of_emod_eq_zero e)
/-- A sign of a number. -/
def nsg (c : Nat) : Bool := decide (c = 45 ∨ c = 46 ∨ (48 ≤ c ∧ c ≤ 57))
theorem dig_nsg {l : List UInt8} (h : l.all D6.dig10 = true) : ∀ x ∈ l.map UInt8.toNat, nsg x = true := fun x hx => by
  obtain ⟨y, hy, rfl⟩ := List.mem_map.1 hx
  have := List.all_eq_true.1 h y hy
  unfold D6.dig10 at this
  unfold nsg
  simp only [decide_eq_true_eq] at this ⊢
  omega
theorem dcB_list (n : Nat) : (dcB n).data.toList = Lib.decDigits n := by simp [dcB]
theorem pN_body (n : Int) (s : Nat) (hN : D6.Nu n s) : ∃ x r, bts (if s = 0 then dcB n.natAbs else D6.dotN (dcB n.natAbs) s) = x :: r ∧ (48 ≤ x ∧ x ≤ 57) ∧ ∀ y ∈ x :: r, nsg y = true := by
  obtain ⟨x, r, h1, h2⟩ := D6.body_head n s hN (dcB n.natAbs) (dcB_list _)
  refine ⟨x.toNat, r.map UInt8.toNat, by unfold bts; rw [h1]; rfl, by unfold D6.dig10 at h2; simpa using h2, ?_⟩
  have e : x.toNat :: r.map UInt8.toNat = bts (if s = 0 then dcB n.natAbs else D6.dotN (dcB n.natAbs) s) := by unfold bts; rw [h1]; rfl
  rw [e]
  by_cases s0 : s = 0
  · rw [if_pos s0]
    unfold bts
    rw [dcB_list]
    exact dig_nsg (D6.dec_num _ _ (Nat.le_refl _)).2.1
  · rw [if_neg s0]
    obtain ⟨a, b, h3, h4, h5, _⟩ := D6.dot_parts n.natAbs s (by omega) (by have := hN.n0; have := hN.n1; omega) (dcB n.natAbs) (dcB_list _)
    unfold bts
    rw [h3, List.map_append, List.map_cons]
    intro y hy
    rcases List.mem_append.1 hy with hy | hy
    · exact dig_nsg h4 y hy
    · rcases List.mem_cons.1 hy with rfl | hy
      · decide
      · exact dig_nsg h5 y hy
theorem bts_app9 (s t : ByteArray) : bts (s ++ t) = bts s ++ bts t := by
  unfold bts
  rw [show (s ++ t).data.toList = s.data.toList ++ t.data.toList by simp [ByteArray.data_append], List.map_append]
theorem pN_first (n : Int) (s : Nat) (hN : D6.Nu n s) : ∃ x r, pN n s = x :: r ∧ (x = 45 ∨ (48 ≤ x ∧ x ≤ 57)) ∧ ∀ y ∈ x :: r, nsg y = true := by
  obtain ⟨x, r, h1, h2, h3⟩ := pN_body n s hN
  unfold pN D6.txt
  split
  · refine ⟨45, x :: r, by rw [bts_app9, h1]; rfl, .inl rfl, fun y hy => ?_⟩
    rcases List.mem_cons.1 hy with rfl | hy
    · decide
    · exact h3 y hy
  · exact ⟨x, r, h1, .inr h2, h3⟩
theorem nsg_pln {c : Nat} (h : nsg c = true) : 32 ≤ c ∧ c ≤ 126 := by
  unfold nsg at h
  simp only [decide_eq_true_eq] at h
  omega
theorem pN_nat (n : Nat) : pN (n : Int) 0 = pD n := by
  unfold pN D6.txt pD
  rw [if_neg (by omega), if_pos rfl, Int.natAbs_natCast]
theorem nat_nu {n : Nat} (h : n ≤ 9007199254740992) : D6.Nu (n : Int) 0 := ⟨by omega, by omega, by omega, .inl rfl⟩
theorem pN_len (n : Int) (s : Nat) (hN : D6.Nu n s) : (pN n s).length ≤ 41 := by
  have h1 := D6.dig_size n.natAbs (by have := hN.n0; have := hN.n1; omega)
  have h2 := D6.dotN_size (dcB n.natAbs) s h1.1 h1.2 hN.t1
  have hb : (if s = 0 then dcB n.natAbs else D6.dotN (dcB n.natAbs) s).size ≤ 40 := by
    split
    · have := h1.2
      show (dcB n.natAbs).size ≤ 40
      unfold dcB
      omega
    · exact h2
  unfold pN D6.txt
  rw [bts_len]
  split
  · rw [ByteArray.size_append]
    have : (⟨#[45]⟩ : ByteArray).size = 1 := rfl
    omega
  · omega
/-! ### what a text begins with -/
def fst9 (k : Int) (c : Nat) : Prop := (k = 1 ∧ c = 110) ∨ (k = 2 ∧ (c = 116 ∨ c = 102)) ∨ ((k = 3 ∨ k = 4) ∧ (c = 45 ∨ (48 ≤ c ∧ c ≤ 57))) ∨ (k = 5 ∧ c = 64) ∨ (k = 6 ∧ c = 39) ∨ (k = 7 ∧ c = 35) ∨ (k = 8 ∧ c = 91) ∨ (k = 9 ∧ c = 123)
theorem pr_first {p : Vt} {d : Int} (hw : WfV p) (h : chkV p d = 0) : ∃ c t, prV p = c :: t ∧ fst9 p.1.k c := by
  obtain ⟨_, ho, _⟩ := ckv9 h
  have hk := (form9 (own_fine ho).1).1
  unfold prV pH fst9
  rcases hk with hk | hk | hk | hk | hk | hk | hk | hk | hk
  · exact ⟨110, [117, 108, 108], by simp [hk], by simp [hk]⟩
  · by_cases h1 : p.1.n = 1
    · exact ⟨116, [114, 117, 101], by simp [hk, h1], by simp [hk]⟩
    · exact ⟨102, [97, 108, 115, 101], by simp [hk, h1], by simp [hk]⟩
  · obtain ⟨x, r, e1, e2, _⟩ := pN_first _ _ (num9 hw.1 ho (.inl hk)).1
    exact ⟨x, r, by simp [hk, e1], by simp [hk]; exact e2⟩
  · obtain ⟨x, r, e1, e2, _⟩ := pN_first _ _ (num9 hw.1 ho (.inr hk)).1
    exact ⟨x, r, by simp [hk, e1], by simp [hk]; exact e2⟩
  · exact ⟨64, pD p.1.n.toNat, by simp [hk], by simp [hk]⟩
  · exact ⟨39, pS (bts p.1.t) ++ [39], by simp [hk, pQ], by simp [hk]⟩
  · exact ⟨35, pY (bts p.1.t), by simp [hk, pB], by simp [hk]⟩
  · exact ⟨91, prF p.2 false p.1.ns true ++ [93], by simp [hk], by simp [hk]⟩
  · exact ⟨123, prF p.2 true p.1.ns true ++ [125], by simp [hk], by simp [hk]⟩
theorem first_of {p : Vt} {d : Int} {c : Nat} {l m : List Nat} (hw : WfV p) (h : chkV p d = 0) (e : c :: l = prV p ++ m) : fst9 p.1.k c := by
  obtain ⟨x, t, e1, e2⟩ := pr_first hw h
  rw [e1, List.cons_append] at e
  injection e with e _
  subst e
  exact e2
/-! ### what is read -/
/-- What may stand behind a value. -/
def Stp (m : List Nat) : Prop := m = [] ∨ ∃ c t, m = c :: t ∧ (c = 44 ∨ c = 93 ∨ c = 125)
/-- Something is read: what is behind it; whatever is so written is read. -/
structure Rt {α : Type} (enc : α → List Nat) (Pc : α → List Nat → Prop) (l : List Nat) (bad : Bool) (l' : List Nat) (bad' : Bool) (x : α) : Prop where
  suf : ∃ c, l = c ++ l'
  st : bad = true → bad' = true
  co : bad = false → ∀ y m, Pc y m → l = enc y ++ m → bad' = false ∧ x = y ∧ l' = m
theorem Rt.len {α : Type} {enc : α → List Nat} {Pc : α → List Nat → Prop} {l l' : List Nat} {bad bad' : Bool} {x : α} (h : Rt enc Pc l bad l' bad' x) : l'.length ≤ l.length := by
  obtain ⟨c, rfl⟩ := h.suf
  simp
theorem Rt.stay {α : Type} {enc : α → List Nat} {Pc : α → List Nat → Prop} {l l' : List Nat} {bad bad' : Bool} {x : α} (h : Rt enc Pc l bad l' bad' x) (hb : bad' = false) : bad = false := by
  cases hbb : bad with
  | false => rfl
  | true => rw [h.st hbb] at hb; cases hb
theorem suf_trans {l l1 l2 : List Nat} (h : ∃ c, l = c ++ l1) (g : ∃ c, l1 = c ++ l2) : ∃ c, l = c ++ l2 := by
  obtain ⟨c, rfl⟩ := h
  obtain ⟨e, rfl⟩ := g
  exact ⟨c ++ e, by rw [List.append_assoc]⟩
/-- A mark. -/
abbrev Rm (mark l : List Nat) (bad : Bool) (l' : List Nat) (bad' : Bool) : Prop := Rt (fun _ : Unit => mark) (fun _ _ => True) l bad l' bad' ()
theorem rm_yes (mark l' : List Nat) (bad : Bool) : Rm mark (mark ++ l') bad l' bad :=
  ⟨⟨mark, rfl⟩, id, fun h y m _ e => ⟨h, rfl, List.append_cancel_left e⟩⟩
theorem rm_no {mark l : List Nat} {bad : Bool} (h : bad = false → ∀ t, l ≠ mark ++ t) : Rm mark l bad l true :=
  ⟨⟨[], rfl⟩, fun _ => rfl, fun hb y m _ e => absurd e (h hb m)⟩
theorem rm_nil (l : List Nat) (bad : Bool) : Rm [] l bad l bad := ⟨⟨[], rfl⟩, id, fun h y m _ e => ⟨h, rfl, e⟩⟩
/-- A value. -/
structure Vx (d : Int) (l : List Nat) (bad : Bool) (l' : List Nat) (bad' : Bool) (v : Vt) : Prop where
  rt : Rt prV (fun y m => WfV y ∧ chkV y d = 0 ∧ Stp m) l bad l' bad' v
  pr : bad' = false → ws v + l'.length ≤ l.length
theorem vx_of {α : Type} {enc : α → List Nat} {Pc : α → List Nat → Prop} {d : Int} {l l' : List Nat} {bad bad' : Bool} {x : α} (mk : α → Vt) (R : Rt enc Pc l bad l' bad' x)
    (h2 : ∀ (y : Vt) m, WfV y → chkV y d = 0 → Stp m → l = prV y ++ m → ∃ z, y = mk z ∧ Pc z m ∧ prV y = enc z)
    (hw : bad' = false → ws (mk x) + l'.length ≤ l.length) : Vx d l bad l' bad' (mk x) := by
  refine ⟨⟨R.suf, R.st, fun hb y m ⟨w1, w2, w3⟩ e => ?_⟩, hw⟩
  obtain ⟨z, z1, z2, z3⟩ := h2 y m w1 w2 w3 e
  obtain ⟨a1, a2, a3⟩ := R.co hb z m z2 (by rw [← z3]; exact e)
  exact ⟨a1, by rw [a2, z1], a3⟩
/-- Too deep, or nothing that a value begins with. -/
theorem vx_bad {d : Int} {l l' : List Nat} {bad : Bool} {v : Vt} (hs : ∃ c, l = c ++ l') (h : bad = false → ∀ (y : Vt) m, WfV y → chkV y d = 0 → Stp m → l ≠ prV y ++ m) : Vx d l bad l' true v :=
  ⟨⟨hs, fun _ => rfl, fun hb y m ⟨w1, w2, w3⟩ e => absurd e (h hb y m w1 w2 w3)⟩, fun h => by cases h⟩
theorem vx_deep {d : Int} {l l' : List Nat} {bad : Bool} {v : Vt} (hd : 16 < d) (hs : ∃ c, l = c ++ l') : Vx d l bad l' true v :=
  vx_bad hs fun _ y m _ hc _ => absurd hd (ckv9 hc).1
theorem vx_end {d : Int} {l' : List Nat} {bad : Bool} {v : Vt} (hs : ∃ c, ([] : List Nat) = c ++ l') : Vx d [] bad l' true v :=
  vx_bad hs fun _ y m w1 hc _ e => by
    obtain ⟨c, t, e1, _⟩ := pr_first w1 hc
    rw [e1] at e
    cases e
theorem vx_none {d : Int} {c : Nat} {l l' : List Nat} {bad : Bool} {v : Vt} (hs : ∃ e, c :: l = e ++ l') (hc : c ≠ 110 ∧ c ≠ 116 ∧ c ≠ 102 ∧ c ≠ 45 ∧ ¬ (48 ≤ c ∧ c ≤ 57) ∧ c ≠ 64 ∧ c ≠ 39 ∧ c ≠ 35 ∧ c ≠ 91 ∧ c ≠ 123) : Vx d (c :: l) bad l' true v :=
  vx_bad hs fun _ y m w1 hc2 _ e => by
    have := first_of w1 hc2 e
    unfold fst9 at this
    omega
theorem ws_lf (k n s : Int) (t : ByteArray) : ws (lf k n s t) = 1 + t.size / 20 := by simp [ws, wsH, lf, Fo.ws]
theorem vx_null {d : Int} {t l' : List Nat} {bad bad' : Bool} (R : Rm [110, 117, 108, 108] (110 :: t) bad l' bad') (hp : bad' = false → l'.length < (110 :: t).length) : Vx d (110 :: t) bad l' bad' (lf 1 0 0 em) := by
  refine vx_of (fun _ => lf 1 0 0 em) R (fun y m w1 hc _ e => ⟨(), ?_⟩) (fun h => by have := hp h; rw [ws_lf, show em.size = 0 from rfl]; omega)
  have hf := first_of w1 hc e
  obtain ⟨hk, a1, a2, a3, a4, a5⟩ := form9 (own_fine (ckv9 hc).2.1).1
  have k1 : y.1.k = 1 := by unfold fst9 at hf; omega
  have ey : y = lf 1 0 0 em := by rw [flat9 hc (by omega) (by omega), k1, a1 (by omega) (by omega) (by omega) (by omega), a2 (by omega), a3 (by omega) (by omega)]; rfl
  exact ⟨ey, trivial, by rw [ey]; rfl⟩
theorem bool9 {y : Vt} {d : Int} (hc : chkV y d = 0) (hk : y.1.k = 2) : y = lf 2 y.1.n 0 em ∧ (y.1.n = 0 ∨ y.1.n = 1) := by
  obtain ⟨_, a1, a2, a3, a4, a5⟩ := form9 (own_fine (ckv9 hc).2.1).1
  have e : y = lf 2 y.1.n 0 em := by
    have h := flat9 hc (by omega) (by omega)
    rw [hk, a2 (by omega), a3 (by omega) (by omega)] at h
    exact h
  refine ⟨e, ?_⟩
  have := (own_fine (ckv9 hc).2.1).1
  unfold formed at this
  simp [hk] at this
  omega
theorem vx_true {d : Int} {t l' : List Nat} {bad bad' : Bool} (R : Rm [116, 114, 117, 101] (116 :: t) bad l' bad') (hp : bad' = false → l'.length < (116 :: t).length) : Vx d (116 :: t) bad l' bad' (lf 2 1 0 em) := by
  refine vx_of (fun _ => lf 2 1 0 em) R (fun y m w1 hc _ e => ⟨(), ?_⟩) (fun h => by have := hp h; rw [ws_lf, show em.size = 0 from rfl]; omega)
  have hf := first_of w1 hc e
  have k1 : y.1.k = 2 := by unfold fst9 at hf; omega
  obtain ⟨ey, hn⟩ := bool9 hc k1
  have hn1 : y.1.n = 1 := by
    rcases hn with h | h
    · rw [h] at ey
      rw [ey] at e
      simp [prV, pH, lf] at e
    · exact h
  rw [hn1] at ey
  exact ⟨ey, trivial, by rw [ey]; rfl⟩
theorem vx_false {d : Int} {t l' : List Nat} {bad bad' : Bool} (R : Rm [102, 97, 108, 115, 101] (102 :: t) bad l' bad') (hp : bad' = false → l'.length < (102 :: t).length) : Vx d (102 :: t) bad l' bad' (lf 2 0 0 em) := by
  refine vx_of (fun _ => lf 2 0 0 em) R (fun y m w1 hc _ e => ⟨(), ?_⟩) (fun h => by have := hp h; rw [ws_lf, show em.size = 0 from rfl]; omega)
  have hf := first_of w1 hc e
  have k1 : y.1.k = 2 := by unfold fst9 at hf; omega
  obtain ⟨ey, hn⟩ := bool9 hc k1
  have hn1 : y.1.n = 0 := by
    rcases hn with h | h
    · exact h
    · rw [h] at ey
      rw [ey] at e
      simp [prV, pH, lf] at e
  rw [hn1] at ey
  exact ⟨ey, trivial, by rw [ey]; rfl⟩
/-- A number: its kind, its digits, its scale. -/
structure Num9 (h : Hd) : Prop where
  nu : D6.Nu h.n h.s.toNat
  s0 : 0 ≤ h.s
  k : h.k = D6.kd h.s.toNat
  t : h.t = em
  ns : h.ns = []
def pNh (h : Hd) : List Nat := pN h.n h.s.toNat
theorem numy {y : Vt} {d : Int} (w1 : WfV y) (hc : chkV y d = 0) (hk : y.1.k = 3 ∨ y.1.k = 4) : y = (y.1, .nil) ∧ Num9 y.1 ∧ prV y = pNh y.1 := by
  obtain ⟨_, ho, _⟩ := ckv9 hc
  obtain ⟨_, a1, a2, a3, a4, a5⟩ := form9 (own_fine ho).1
  obtain ⟨n1, n2, n3⟩ := num9 w1.1 ho hk
  have e1 := nil9 (a5 (by omega) (by omega))
  have e : y = (y.1, .nil) := by
    obtain ⟨h, f⟩ := y
    simp only at e1 ⊢
    rw [e1]
  refine ⟨e, ⟨n1, n2, ?_, a3 (by omega) (by omega), a4 (by omega)⟩, ?_⟩
  · unfold D6.kd
    split
    · have : y.1.s = 0 := by omega
      exact n3.1 this
    · have : y.1.s ≠ 0 := by omega
      rcases hk with hk | hk
      · exact absurd (n3.2 hk) this
      · exact hk
  · unfold prV pH pNh
    rcases hk with hk | hk <;> simp [hk]
theorem vx_num {d : Int} {c : Nat} {t l' : List Nat} {bad bad' : Bool} {h : Hd} (hc0 : c = 45 ∨ (48 ≤ c ∧ c ≤ 57)) (R : Rt pNh (fun h m => Num9 h ∧ Stp m) (c :: t) bad l' bad' h) (hh : h.t = em ∧ h.ns = []) (hp : bad' = false → l'.length < (c :: t).length) : Vx d (c :: t) bad l' bad' (h, .nil) := by
  refine vx_of (fun h : Hd => (h, Fo.nil)) R (fun y m w1 hc hst e => ⟨y.1, ?_⟩) (fun hb => by
    have := hp hb
    show wsH h + 0 + _ ≤ _
    unfold wsH
    rw [hh.1, hh.2, show em.size = 0 from rfl, List.length_nil]
    omega)
  have hf := first_of w1 hc e
  have k1 : y.1.k = 3 ∨ y.1.k = 4 := by unfold fst9 at hf; omega
  obtain ⟨e1, e2, e3⟩ := numy w1 hc k1
  exact ⟨e1, ⟨e2, hst⟩, e3⟩
/-- A Time: the number behind its mark. -/
theorem vx_time {d : Int} {t l1 l' : List Nat} {bad bad1 bad' : Bool} {h : Hd} (R1 : Rm [64] (64 :: t) bad l1 bad1) (R : Rt pNh (fun h m => Num9 h ∧ Stp m) l1 bad1 l' bad' h) (hh : h.t = em ∧ h.ns = []) (hp : bad' = false → l'.length < (64 :: t).length) : Vx d (64 :: t) bad l' bad' (⟨5, h.n, h.s, h.t, h.ns⟩, .nil) := by
  refine ⟨⟨suf_trans R1.suf R.suf, fun hb => R.st (R1.st hb), fun hb y m ⟨w1, hc, hst⟩ e => ?_⟩, fun hb => by
    have := hp hb
    show wsH _ + 0 + _ ≤ _
    unfold wsH
    simp only [hh.1, hh.2, List.length_nil]
    rw [show em.size = 0 from rfl]
    omega⟩
  have hf := first_of w1 hc e
  obtain ⟨_, ho, _⟩ := ckv9 hc
  obtain ⟨_, a1, a2, a3, a4, a5⟩ := form9 (own_fine ho).1
  have k1 : y.1.k = 5 := by unfold fst9 at hf; omega
  have hn : 0 ≤ y.1.n ∧ y.1.n ≤ 9007199254740992 := by
    have := (own_fine ho).1
    unfold formed at this
    simp [k1] at this
    omega
  have ey : y = lf 5 y.1.n 0 em := by
    have h := flat9 hc (by omega) (by omega)
    rw [k1, a2 (by omega), a3 (by omega) (by omega)] at h
    exact h
  have ep : prV y = 64 :: pD y.1.n.toNat := by unfold prV pH; simp [k1]
  rw [ep] at e
  obtain ⟨b1, _, b3⟩ := R1.co hb () (pD y.1.n.toNat ++ m) trivial e
  have hnn : ((y.1.n.toNat : Nat) : Int) = y.1.n := by omega
  have hN : Num9 ⟨3, y.1.n, 0, em, []⟩ := ⟨by have := nat_nu (n := y.1.n.toNat) (by omega); rw [hnn] at this; exact this, Int.le_refl _, rfl, rfl, rfl⟩
  have hpn : pNh ⟨3, y.1.n, 0, em, []⟩ = pD y.1.n.toNat := by rw [← pN_nat, hnn]; rfl
  obtain ⟨c1, c2, c3⟩ := R.co b1 ⟨3, y.1.n, 0, em, []⟩ m ⟨hN, hst⟩ (by rw [hpn]; exact b3)
  subst c2
  exact ⟨c1, by rw [ey]; rfl, c3⟩
theorem vx_text {d : Int} {t l' : List Nat} {bad bad' : Bool} {s : ByteArray} (R : Rt pQ (fun _ m => ∀ t, m ≠ 39 :: t) (39 :: t) bad l' bad' s) (hp : bad' = false → s.size + 1 + l'.length ≤ (39 :: t).length) : Vx d (39 :: t) bad l' bad' (lf 6 0 0 s) := by
  refine vx_of (fun s => lf 6 0 0 s) R (fun y m w1 hc hst e => ⟨y.1.t, ?_⟩) (fun h => by have := hp h; rw [ws_lf]; omega)
  have hf := first_of w1 hc e
  obtain ⟨_, ho, _⟩ := ckv9 hc
  obtain ⟨_, a1, a2, a3, a4, a5⟩ := form9 (own_fine ho).1
  have k1 : y.1.k = 6 := by unfold fst9 at hf; omega
  have ey : y = lf 6 0 0 y.1.t := by
    have h := flat9 hc (by omega) (by omega)
    rw [k1, a1 (by omega) (by omega) (by omega) (by omega), a2 (by omega)] at h
    exact h
  refine ⟨ey, fun t e => ?_, by unfold prV pH; simp [k1]⟩
  rcases hst with h | ⟨c, t', h, h2⟩
  · rw [h] at e; cases e
  · rw [h] at e; injection e with e _; omega
theorem vx_blob {d : Int} {t l' : List Nat} {bad bad' : Bool} {s : ByteArray} (R : Rt pB (fun _ m => Stp m) (35 :: t) bad l' bad' s) (hp : bad' = false → s.size + 1 + l'.length ≤ (35 :: t).length) : Vx d (35 :: t) bad l' bad' (lf 7 0 0 s) := by
  refine vx_of (fun s => lf 7 0 0 s) R (fun y m w1 hc hst e => ⟨y.1.t, ?_⟩) (fun h => by have := hp h; rw [ws_lf]; omega)
  have hf := first_of w1 hc e
  obtain ⟨_, ho, _⟩ := ckv9 hc
  obtain ⟨_, a1, a2, a3, a4, a5⟩ := form9 (own_fine ho).1
  have k1 : y.1.k = 7 := by unfold fst9 at hf; omega
  have ey : y = lf 7 0 0 y.1.t := by
    have h := flat9 hc (by omega) (by omega)
    rw [k1, a1 (by omega) (by omega) (by omega) (by omega), a2 (by omega)] at h
    exact h
  exact ⟨ey, hst, by unfold prV pH; simp [k1]⟩
end Go.Proofs.YtpfiejmhnkcjbaaGreatDoor
