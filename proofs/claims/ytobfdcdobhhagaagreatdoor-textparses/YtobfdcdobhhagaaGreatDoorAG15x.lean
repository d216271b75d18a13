/-
   · 
-/
import Derived.Test.YtobfdcdobhhagaaGreatDoorAG12x
import Derived.Test.YtobfdcdobhhagaaGreatDoorAG14x
namespace Go.Proofs.YtobfdcdobhhagaaGreatDoor
open Go.RowKit Math
set_option linter.unusedVariables false
set_option linter.unusedSimpArgs false
def Fo.app9 : Fo -> Fo -> Fo
 | .nil, g => g
 | .cons h k r, g => .cons h k (r.app9 g)
theorem app9_snoc (p : Vt) (g : Fo) : ∀ f : Fo, (f.snoc p).app9 g = f.app9 (.cons p.1 p.2 g)
 | .nil => rfl
 | .cons h k r => by
   show Fo.cons h k ((r.snoc p).app9 g) = .cons h k (r.app9 _)
   rw [app9_snoc p g r]
theorem app9_nil : ∀ f : Fo, f.app9 .nil = f
 | .nil => rfl
 | .cons h k r => by
   show Fo.cons h k (r.app9 .nil) = _
   rw [app9_nil r]
theorem ws_snoc (p : Vt) : ∀ f : Fo, (f.snoc p).ws = f.ws + ws p
 | .nil => by
   show Fo.ws (.cons p.1 p.2 .nil) = _
   simp [Fo.ws, ws]
 | .cons h k r => by
   show Fo.ws (.cons h k (r.snoc p)) = Fo.ws (.cons h k r) + ws p
   simp only [Fo.ws]
   rw [ws_snoc p r]
   omega
theorem byt_ext9 {a : ByteArray} (h : a.toList = []) : a = ⟨#[]⟩ := by
 rw [ByteArray.toList_eq] at h
 obtain ⟨⟨l⟩⟩ := a
 simp only at h
 rw [h]
theorem form9 {h : Hd} {kl : Nat} (hf : formed h kl = true) : (h.k = 1 ∨ h.k = 2 ∨ h.k = 3 ∨ h.k = 4 ∨ h.k = 5 ∨ h.k = 6 ∨ h.k = 7 ∨ h.k = 8 ∨ h.k = 9) /\ (h.k ≠ 2 -> h.k ≠ 3 -> h.k ≠ 4 -> h.k ≠ 5 -> h.n = 0) /\ (h.k ≠ 4 -> h.s = 0) /\ (h.k ≠ 6 -> h.k ≠ 7 -> h.t = ⟨#[]⟩) /\ (h.k ≠ 9 -> h.ns = []) /\ (h.k ≠ 8 -> h.k ≠ 9 -> kl = 0) := by
 by_cases hk : h.k = 1 ∨ h.k = 2 ∨ h.k = 3 ∨ h.k = 4 ∨ h.k = 5 ∨ h.k = 6 ∨ h.k = 7 ∨ h.k = 8 ∨ h.k = 9
 . refine ⟨hk, ?_⟩
   have ht : h.t.toList = [] -> h.t = ⟨#[]⟩ := byt_ext9
   rcases hk with hk | hk | hk | hk | hk | hk | hk | hk | hk <;> simp [formed, only, hk] at hf <;> simp [hk] <;> simp_all
 . simp only [not_or] at hk
   obtain ⟨k1, k2, k3, k4, k5, k6, k7, k8, k9⟩ := hk
   simp [formed, k1, k2, k3, k4, k5, k6, k7, k8, k9] at hf
theorem hd9 {a b : Hd} (h1 : a.k = b.k) (h2 : a.n = b.n) (h3 : a.s = b.s) (h4 : a.t = b.t) (h5 : a.ns = b.ns) : a = b := by
 obtain ⟨k, n, s, t, ns⟩ := a
 obtain ⟨k', n', s', t', ns'⟩ := b
 simp only at *
 rw [h1, h2, h3, h4, h5]
theorem nil9 {f : Fo} (h : f.list.length = 0) : f = .nil := by
 cases f with
 | nil => rfl
 | cons a b c => simp [Fo.list] at h
theorem ckv9 {p : Vt} {d : Int} (h : chkV p d = 0) : ¬ 16 < d /\ own p.1 p.2.list.length = 0 /\ chk p.2 (d + 1) = 0 := by
 unfold chkV at h
 split at h
 . cases h
 . next h1 =>
   split at h
   . next h2 => exact absurd h h2
   . next h2 => exact ⟨h1, Classical.byContradiction h2, h⟩
theorem wfc9 {h : Hd} {k r : Fo} (hw : Wf (.cons h k r)) : WfV (h, k) /\ Wf r := hw
theorem chkc9 {h : Hd} {k r : Fo} {d : Int} (hc : chk (.cons h k r) d = 0) : chkV (h, k) d = 0 /\ chk r d = 0 := by
 have e : chk (.cons h k r) d = if chkV (h, k) d ≠ 0 then chkV (h, k) d else chk r d := rfl
 rw [e] at hc
 split at hc
 . next x => exact absurd hc x
 . next x => exact ⟨Classical.byContradiction x, hc⟩
theorem flat9 {p : Vt} {d : Int} (h : chkV p d = 0) (h8 : p.1.k ≠ 8) (h9 : p.1.k ≠ 9) : p = (⟨p.1.k, p.1.n, p.1.s, p.1.t, []⟩, .nil) := by
 obtain ⟨_, ho, _⟩ := ckv9 h
 obtain ⟨hk, a1, a2, a3, a4, a5⟩ := form9 (own_fine ho).1
 have e1 := nil9 (a5 h8 h9)
 have e2 := a4 h9
 obtain ⟨⟨k, n, s, t, ns⟩, f⟩ := p
 simp only at e1 e2 ⊢
 rw [e1, e2]
theorem num9 {h : Hd} {kl : Nat} (hw : Hok h) (ho : own h kl = 0) (hk : h.k = 3 ∨ h.k = 4) : D6.Nu h.n h.s.toNat /\ 0 <= h.s /\ (h.s = 0 ↔ h.k = 3) := by
 have hf := (own_fine ho).1
 have a2 := (form9 hf).2.2.1
 unfold formed at hf
 rcases hk with hk | hk
 . have := a2 (by omega)
   exact ⟨⟨hw.n0, hw.n1, by rw [this]; decide, .inl (by rw [this]; rfl)⟩, by omega, by simp [this, hk]⟩
 . simp [hk] at hf
   obtain ⟨⟨⟨_, h1⟩, h2⟩, h3⟩ := hf
   refine ⟨⟨hw.n0, hw.n1, by omega, .inr fun e => h3 ?_⟩, by omega, by constructor <;> intro <;> omega⟩
   exact Int.tmod_eq_zero_of_dvd (Int.dvd_of_emod_eq_zero e)
def nsg (c : Nat) : Bool := decide (c = 45 ∨ c = 46 ∨ (48 <= c /\ c <= 57))
theorem dig_nsg {l : List UInt8} (h : l.all D6.dig10 = true) : ∀ x ∈ l.map UInt8.toNat, nsg x = true := fun x hx => by
 obtain ⟨y, hy, rfl⟩ := List.mem_map.1 hx
 have := List.all_eq_true.1 h y hy
 unfold D6.dig10 at this
 unfold nsg
 simp only [decide_eq_true_eq] at this ⊢
 omega
theorem dcB_list (n : Nat) : (dcB n).data.toList = Lib.decDigits n := by simp [dcB]
theorem pN_body (n : Int) (s : Nat) (hN : D6.Nu n s) : ∃ x r, bts (if s = 0 then dcB n.natAbs else D6.dotN (dcB n.natAbs) s) = x :: r /\ (48 <= x /\ x <= 57) /\ ∀ y ∈ x :: r, nsg y = true := by
 obtain ⟨x, r, h1, h2⟩ := D6.body_head n s hN (dcB n.natAbs) (dcB_list _)
 refine ⟨x.toNat, r.map UInt8.toNat, by unfold bts; rw [h1]; rfl, by unfold D6.dig10 at h2; simpa using h2, ?_⟩
 have e : x.toNat :: r.map UInt8.toNat = bts (if s = 0 then dcB n.natAbs else D6.dotN (dcB n.natAbs) s) := by unfold bts; rw [h1]; rfl
 rw [e]
 by_cases s0 : s = 0
 . rw [if_pos s0]
   unfold bts
   rw [dcB_list]
   exact dig_nsg (D6.dec_num _ _ (Nat.le_refl _)).2.1
 . rw [if_neg s0]
   obtain ⟨a, b, h3, h4, h5, _⟩ := D6.dot_parts n.natAbs s (by omega) (by have := hN.n0; have := hN.n1; omega) (dcB n.natAbs) (dcB_list _)
   unfold bts
   rw [h3, List.map_append, List.map_cons]
   intro y hy
   rcases List.mem_append.1 hy with hy | hy
   . exact dig_nsg h4 y hy
   . rcases List.mem_cons.1 hy with rfl | hy
     . decide
     . exact dig_nsg h5 y hy
theorem bts_app9 (s t : ByteArray) : bts (s ++ t) = bts s ++ bts t := by
 unfold bts
 rw [show (s ++ t).data.toList = s.data.toList ++ t.data.toList by simp [ByteArray.data_append], List.map_append]
theorem pN_first (n : Int) (s : Nat) (hN : D6.Nu n s) : ∃ x r, pN n s = x :: r /\ (x = 45 ∨ (48 <= x /\ x <= 57)) /\ ∀ y ∈ x :: r, nsg y = true := by
 obtain ⟨x, r, h1, h2, h3⟩ := pN_body n s hN
 unfold pN D6.txt
 split
 . refine ⟨45, x :: r, by rw [bts_app9, h1]; rfl, .inl rfl, fun y hy => ?_⟩
   rcases List.mem_cons.1 hy with rfl | hy
   . decide
   . exact h3 y hy
 . exact ⟨x, r, h1, .inr h2, h3⟩
theorem nsg_pln {c : Nat} (h : nsg c = true) : 32 <= c /\ c <= 126 := by
 unfold nsg at h
 simp only [decide_eq_true_eq] at h
 omega
theorem pN_nat (n : Nat) : pN (n : Int) 0 = pD n := by
 unfold pN D6.txt pD
 rw [if_neg (by omega), if_pos rfl, Int.natAbs_natCast]
theorem nat_nu {n : Nat} (h : n <= 9007199254740992) : D6.Nu (n : Int) 0 := ⟨by omega, by omega, by omega, .inl rfl⟩
theorem pN_len (n : Int) (s : Nat) (hN : D6.Nu n s) : (pN n s).length <= 41 := by
 have h1 := D6.dig_size n.natAbs (by have := hN.n0; have := hN.n1; omega)
 have h2 := D6.dotN_size (dcB n.natAbs) s h1.1 h1.2 hN.t1
 have hb : (if s = 0 then dcB n.natAbs else D6.dotN (dcB n.natAbs) s).size <= 40 := by
  split
  . have := h1.2
    show (dcB n.natAbs).size <= 40
    unfold dcB
    omega
  . exact h2
 unfold pN D6.txt
 rw [bts_len]
 split
 . rw [ByteArray.size_append]
   have : (⟨#[45]⟩ : ByteArray).size = 1 := rfl
   omega
 . omega
def fst9 (k : Int) (c : Nat) : Prop := (k = 1 /\ c = 110) ∨ (k = 2 /\ (c = 116 ∨ c = 102)) ∨ ((k = 3 ∨ k = 4) /\ (c = 45 ∨ (48 <= c /\ c <= 57))) ∨ (k = 5 /\ c = 64) ∨ (k = 6 /\ c = 39) ∨ (k = 7 /\ c = 35) ∨ (k = 8 /\ c = 91) ∨ (k = 9 /\ c = 123)
theorem pr_first {p : Vt} {d : Int} (hw : WfV p) (h : chkV p d = 0) : ∃ c t, prV p = c :: t /\ fst9 p.1.k c := by
 obtain ⟨_, ho, _⟩ := ckv9 h
 have hk := (form9 (own_fine ho).1).1
 unfold prV pH fst9
 rcases hk with hk | hk | hk | hk | hk | hk | hk | hk | hk
 . exact ⟨110, [117, 108, 108], by simp [hk], by simp [hk]⟩
 . by_cases h1 : p.1.n = 1
   . exact ⟨116, [114, 117, 101], by simp [hk, h1], by simp [hk]⟩
   . exact ⟨102, [97, 108, 115, 101], by simp [hk, h1], by simp [hk]⟩
 . obtain ⟨x, r, e1, e2, _⟩ := pN_first _ _ (num9 hw.1 ho (.inl hk)).1
   exact ⟨x, r, by simp [hk, e1], by simp [hk]; exact e2⟩
 . obtain ⟨x, r, e1, e2, _⟩ := pN_first _ _ (num9 hw.1 ho (.inr hk)).1
   exact ⟨x, r, by simp [hk, e1], by simp [hk]; exact e2⟩
 . exact ⟨64, pD p.1.n.toNat, by simp [hk], by simp [hk]⟩
 . exact ⟨39, pS (bts p.1.t) ++ [39], by simp [hk, pQ], by simp [hk]⟩
 . exact ⟨35, pY (bts p.1.t), by simp [hk, pB], by simp [hk]⟩
 . exact ⟨91, prF p.2 false p.1.ns true ++ [93], by simp [hk], by simp [hk]⟩
 . exact ⟨123, prF p.2 true p.1.ns true ++ [125], by simp [hk], by simp [hk]⟩
theorem first_of {p : Vt} {d : Int} {c : Nat} {l m : List Nat} (hw : WfV p) (h : chkV p d = 0) (e : c :: l = prV p ++ m) : fst9 p.1.k c := by
 obtain ⟨x, t, e1, e2⟩ := pr_first hw h
 rw [e1, List.cons_append] at e
 injection e with e _
 subst e
 exact e2
def Stp (m : List Nat) : Prop := m = [] ∨ ∃ c t, m = c :: t /\ (c = 44 ∨ c = 93 ∨ c = 125)
structure Rt {α : Type} (enc : α -> List Nat) (Pc : α -> List Nat -> Prop) (l : List Nat) (bad : Bool) (l' : List Nat) (bad' : Bool) (x : α) : Prop where
 suf : ∃ c, l = c ++ l'
 st : bad = true -> bad' = true
 co : bad = false -> ∀ y m, Pc y m -> l = enc y ++ m -> bad' = false /\ x = y /\ l' = m
theorem Rt.len {α : Type} {enc : α -> List Nat} {Pc : α -> List Nat -> Prop} {l l' : List Nat} {bad bad' : Bool} {x : α} (h : Rt enc Pc l bad l' bad' x) : l'.length <= l.length := by
 obtain ⟨c, rfl⟩ := h.suf
 simp
theorem Rt.stay {α : Type} {enc : α -> List Nat} {Pc : α -> List Nat -> Prop} {l l' : List Nat} {bad bad' : Bool} {x : α} (h : Rt enc Pc l bad l' bad' x) (hb : bad' = false) : bad = false := by
 cases hbb : bad with
 | false => rfl
 | true => rw [h.st hbb] at hb; cases hb
theorem suf_trans {l l1 l2 : List Nat} (h : ∃ c, l = c ++ l1) (g : ∃ c, l1 = c ++ l2) : ∃ c, l = c ++ l2 := by
 obtain ⟨c, rfl⟩ := h
 obtain ⟨e, rfl⟩ := g
 exact ⟨c ++ e, by rw [List.append_assoc]⟩
abbrev Rm (mark l : List Nat) (bad : Bool) (l' : List Nat) (bad' : Bool) : Prop := Rt (fun _ : Unit => mark) (fun _ _ => True) l bad l' bad' ()
theorem rm_yes (mark l' : List Nat) (bad : Bool) : Rm mark (mark ++ l') bad l' bad :=
 ⟨⟨mark, rfl⟩, id, fun h y m _ e => ⟨h, rfl, List.append_cancel_left e⟩⟩
theorem rm_no {mark l : List Nat} {bad : Bool} (h : bad = false -> ∀ t, l ≠ mark ++ t) : Rm mark l bad l true :=
 ⟨⟨[], rfl⟩, fun _ => rfl, fun hb y m _ e => absurd e (h hb m)⟩
theorem rm_nil (l : List Nat) (bad : Bool) : Rm [] l bad l bad := ⟨⟨[], rfl⟩, id, fun h y m _ e => ⟨h, rfl, e⟩⟩
structure Vx (d : Int) (l : List Nat) (bad : Bool) (l' : List Nat) (bad' : Bool) (v : Vt) : Prop where
 rt : Rt prV (fun y m => WfV y /\ chkV y d = 0 /\ Stp m) l bad l' bad' v
 pr : bad' = false -> ws v + l'.length <= l.length
theorem vx_of {α : Type} {enc : α -> List Nat} {Pc : α -> List Nat -> Prop} {d : Int} {l l' : List Nat} {bad bad' : Bool} {x : α} (mk : α -> Vt) (R : Rt enc Pc l bad l' bad' x)
 (h2 : ∀ (y : Vt) m, WfV y -> chkV y d = 0 -> Stp m -> l = prV y ++ m -> ∃ z, y = mk z /\ Pc z m /\ prV y = enc z)
 (hw : bad' = false -> ws (mk x) + l'.length <= l.length) : Vx d l bad l' bad' (mk x) := by
 refine ⟨⟨R.suf, R.st, fun hb y m ⟨w1, w2, w3⟩ e => ?_⟩, hw⟩
 obtain ⟨z, z1, z2, z3⟩ := h2 y m w1 w2 w3 e
 obtain ⟨a1, a2, a3⟩ := R.co hb z m z2 (by rw [<- z3]; exact e)
 exact ⟨a1, by rw [a2, z1], a3⟩
theorem vx_bad {d : Int} {l l' : List Nat} {bad : Bool} {v : Vt} (hs : ∃ c, l = c ++ l') (h : bad = false -> ∀ (y : Vt) m, WfV y -> chkV y d = 0 -> Stp m -> l ≠ prV y ++ m) : Vx d l bad l' true v :=
 ⟨⟨hs, fun _ => rfl, fun hb y m ⟨w1, w2, w3⟩ e => absurd e (h hb y m w1 w2 w3)⟩, fun h => by cases h⟩
theorem vx_deep {d : Int} {l l' : List Nat} {bad : Bool} {v : Vt} (hd : 16 < d) (hs : ∃ c, l = c ++ l') : Vx d l bad l' true v :=
 vx_bad hs fun _ y m _ hc _ => absurd hd (ckv9 hc).1
theorem vx_end {d : Int} {l' : List Nat} {bad : Bool} {v : Vt} (hs : ∃ c, ([] : List Nat) = c ++ l') : Vx d [] bad l' true v :=
 vx_bad hs fun _ y m w1 hc _ e => by
  obtain ⟨c, t, e1, _⟩ := pr_first w1 hc
  rw [e1] at e
  cases e
theorem vx_none {d : Int} {c : Nat} {l l' : List Nat} {bad : Bool} {v : Vt} (hs : ∃ e, c :: l = e ++ l') (hc : c ≠ 110 /\ c ≠ 116 /\ c ≠ 102 /\ c ≠ 45 /\ ¬ (48 <= c /\ c <= 57) /\ c ≠ 64 /\ c ≠ 39 /\ c ≠ 35 /\ c ≠ 91 /\ c ≠ 123) : Vx d (c :: l) bad l' true v :=
 vx_bad hs fun _ y m w1 hc2 _ e => by
  have := first_of w1 hc2 e
  unfold fst9 at this
  omega
theorem ws_lf (k n s : Int) (t : ByteArray) : ws (lf k n s t) = 1 + t.size / 20 := by simp [ws, wsH, lf, Fo.ws]
theorem vx_null {d : Int} {t l' : List Nat} {bad bad' : Bool} (R : Rm [110, 117, 108, 108] (110 :: t) bad l' bad') (hp : bad' = false -> l'.length < (110 :: t).length) : Vx d (110 :: t) bad l' bad' (lf 1 0 0 em) := by
 refine vx_of (fun _ => lf 1 0 0 em) R (fun y m w1 hc _ e => ⟨(), ?_⟩) (fun h => by have := hp h; rw [ws_lf, show em.size = 0 from rfl]; omega)
 have hf := first_of w1 hc e
 obtain ⟨hk, a1, a2, a3, a4, a5⟩ := form9 (own_fine (ckv9 hc).2.1).1
 have k1 : y.1.k = 1 := by unfold fst9 at hf; omega
 have ey : y = lf 1 0 0 em := by rw [flat9 hc (by omega) (by omega), k1, a1 (by omega) (by omega) (by omega) (by omega), a2 (by omega), a3 (by omega) (by omega)]; rfl
 exact ⟨ey, trivial, by rw [ey]; rfl⟩
theorem bool9 {y : Vt} {d : Int} (hc : chkV y d = 0) (hk : y.1.k = 2) : y = lf 2 y.1.n 0 em /\ (y.1.n = 0 ∨ y.1.n = 1) := by
 obtain ⟨_, a1, a2, a3, a4, a5⟩ := form9 (own_fine (ckv9 hc).2.1).1
 have e : y = lf 2 y.1.n 0 em := by
  have h := flat9 hc (by omega) (by omega)
  rw [hk, a2 (by omega), a3 (by omega) (by omega)] at h
  exact h
 refine ⟨e, ?_⟩
 have := (own_fine (ckv9 hc).2.1).1
 unfold formed at this
 simp [hk] at this
 omega
theorem vx_true {d : Int} {t l' : List Nat} {bad bad' : Bool} (R : Rm [116, 114, 117, 101] (116 :: t) bad l' bad') (hp : bad' = false -> l'.length < (116 :: t).length) : Vx d (116 :: t) bad l' bad' (lf 2 1 0 em) := by
 refine vx_of (fun _ => lf 2 1 0 em) R (fun y m w1 hc _ e => ⟨(), ?_⟩) (fun h => by have := hp h; rw [ws_lf, show em.size = 0 from rfl]; omega)
 have hf := first_of w1 hc e
 have k1 : y.1.k = 2 := by unfold fst9 at hf; omega
 obtain ⟨ey, hn⟩ := bool9 hc k1
 have hn1 : y.1.n = 1 := by
  rcases hn with h | h
  . rw [h] at ey
    rw [ey] at e
    simp [prV, pH, lf] at e
  . exact h
 rw [hn1] at ey
 exact ⟨ey, trivial, by rw [ey]; rfl⟩
theorem vx_false {d : Int} {t l' : List Nat} {bad bad' : Bool} (R : Rm [102, 97, 108, 115, 101] (102 :: t) bad l' bad') (hp : bad' = false -> l'.length < (102 :: t).length) : Vx d (102 :: t) bad l' bad' (lf 2 0 0 em) := by
 refine vx_of (fun _ => lf 2 0 0 em) R (fun y m w1 hc _ e => ⟨(), ?_⟩) (fun h => by have := hp h; rw [ws_lf, show em.size = 0 from rfl]; omega)
 have hf := first_of w1 hc e
 have k1 : y.1.k = 2 := by unfold fst9 at hf; omega
 obtain ⟨ey, hn⟩ := bool9 hc k1
 have hn1 : y.1.n = 0 := by
  rcases hn with h | h
  . exact h
  . rw [h] at ey
    rw [ey] at e
    simp [prV, pH, lf] at e
 rw [hn1] at ey
 exact ⟨ey, trivial, by rw [ey]; rfl⟩
structure Num9 (h : Hd) : Prop where
 nu : D6.Nu h.n h.s.toNat
 s0 : 0 <= h.s
 k : h.k = D6.kd h.s.toNat
 t : h.t = em
 ns : h.ns = []
def pNh (h : Hd) : List Nat := pN h.n h.s.toNat
theorem numy {y : Vt} {d : Int} (w1 : WfV y) (hc : chkV y d = 0) (hk : y.1.k = 3 ∨ y.1.k = 4) : y = (y.1, .nil) /\ Num9 y.1 /\ prV y = pNh y.1 := by
 obtain ⟨_, ho, _⟩ := ckv9 hc
 obtain ⟨_, a1, a2, a3, a4, a5⟩ := form9 (own_fine ho).1
 obtain ⟨n1, n2, n3⟩ := num9 w1.1 ho hk
 have e1 := nil9 (a5 (by omega) (by omega))
 have e : y = (y.1, .nil) := by
  obtain ⟨h, f⟩ := y
  simp only at e1 ⊢
  rw [e1]
 refine ⟨e, ⟨n1, n2, ?_, a3 (by omega) (by omega), a4 (by omega)⟩, ?_⟩
 . unfold D6.kd
   split
   . have : y.1.s = 0 := by omega
     exact n3.1 this
   . have : y.1.s ≠ 0 := by omega
     rcases hk with hk | hk
     . exact absurd (n3.2 hk) this
     . exact hk
 . unfold prV pH pNh
   rcases hk with hk | hk <;> simp [hk]
theorem vx_num {d : Int} {c : Nat} {t l' : List Nat} {bad bad' : Bool} {h : Hd} (hc0 : c = 45 ∨ (48 <= c /\ c <= 57)) (R : Rt pNh (fun h m => Num9 h /\ Stp m) (c :: t) bad l' bad' h) (hh : h.t = em /\ h.ns = []) (hp : bad' = false -> l'.length < (c :: t).length) : Vx d (c :: t) bad l' bad' (h, .nil) := by
 refine vx_of (fun h : Hd => (h, Fo.nil)) R (fun y m w1 hc hst e => ⟨y.1, ?_⟩) (fun hb => by
  have := hp hb
  show wsH h + 0 + _ <= _
  unfold wsH
  rw [hh.1, hh.2, show em.size = 0 from rfl, List.length_nil]
  omega)
 have hf := first_of w1 hc e
 have k1 : y.1.k = 3 ∨ y.1.k = 4 := by unfold fst9 at hf; omega
 obtain ⟨e1, e2, e3⟩ := numy w1 hc k1
 exact ⟨e1, ⟨e2, hst⟩, e3⟩
theorem vx_time {d : Int} {t l1 l' : List Nat} {bad bad1 bad' : Bool} {h : Hd} (R1 : Rm [64] (64 :: t) bad l1 bad1) (R : Rt pNh (fun h m => Num9 h /\ Stp m) l1 bad1 l' bad' h) (hh : h.t = em /\ h.ns = []) (hp : bad' = false -> l'.length < (64 :: t).length) : Vx d (64 :: t) bad l' bad' (⟨5, h.n, h.s, h.t, h.ns⟩, .nil) := by
 refine ⟨⟨suf_trans R1.suf R.suf, fun hb => R.st (R1.st hb), fun hb y m ⟨w1, hc, hst⟩ e => ?_⟩, fun hb => by
  have := hp hb
  show wsH _ + 0 + _ <= _
  unfold wsH
  simp only [hh.1, hh.2, List.length_nil]
  rw [show em.size = 0 from rfl]
  omega⟩
 have hf := first_of w1 hc e
 obtain ⟨_, ho, _⟩ := ckv9 hc
 obtain ⟨_, a1, a2, a3, a4, a5⟩ := form9 (own_fine ho).1
 have k1 : y.1.k = 5 := by unfold fst9 at hf; omega
 have hn : 0 <= y.1.n /\ y.1.n <= 9007199254740992 := by
  have := (own_fine ho).1
  unfold formed at this
  simp [k1] at this
  omega
 have ey : y = lf 5 y.1.n 0 em := by
  have h := flat9 hc (by omega) (by omega)
  rw [k1, a2 (by omega), a3 (by omega) (by omega)] at h
  exact h
 have ep : prV y = 64 :: pD y.1.n.toNat := by unfold prV pH; simp [k1]
 rw [ep] at e
 obtain ⟨b1, _, b3⟩ := R1.co hb () (pD y.1.n.toNat ++ m) trivial e
 have hnn : ((y.1.n.toNat : Nat) : Int) = y.1.n := by omega
 have hN : Num9 ⟨3, y.1.n, 0, em, []⟩ := ⟨by have := nat_nu (n := y.1.n.toNat) (by omega); rw [hnn] at this; exact this, Int.le_refl _, rfl, rfl, rfl⟩
 have hpn : pNh ⟨3, y.1.n, 0, em, []⟩ = pD y.1.n.toNat := by rw [<- pN_nat, hnn]; rfl
 obtain ⟨c1, c2, c3⟩ := R.co b1 ⟨3, y.1.n, 0, em, []⟩ m ⟨hN, hst⟩ (by rw [hpn]; exact b3)
 subst c2
 exact ⟨c1, by rw [ey]; rfl, c3⟩
theorem vx_text {d : Int} {t l' : List Nat} {bad bad' : Bool} {s : ByteArray} (R : Rt pQ (fun _ m => ∀ t, m ≠ 39 :: t) (39 :: t) bad l' bad' s) (hp : bad' = false -> s.size + 1 + l'.length <= (39 :: t).length) : Vx d (39 :: t) bad l' bad' (lf 6 0 0 s) := by
 refine vx_of (fun s => lf 6 0 0 s) R (fun y m w1 hc hst e => ⟨y.1.t, ?_⟩) (fun h => by have := hp h; rw [ws_lf]; omega)
 have hf := first_of w1 hc e
 obtain ⟨_, ho, _⟩ := ckv9 hc
 obtain ⟨_, a1, a2, a3, a4, a5⟩ := form9 (own_fine ho).1
 have k1 : y.1.k = 6 := by unfold fst9 at hf; omega
 have ey : y = lf 6 0 0 y.1.t := by
  have h := flat9 hc (by omega) (by omega)
  rw [k1, a1 (by omega) (by omega) (by omega) (by omega), a2 (by omega)] at h
  exact h
 refine ⟨ey, fun t e => ?_, by unfold prV pH; simp [k1]⟩
 rcases hst with h | ⟨c, t', h, h2⟩
 . rw [h] at e; cases e
 . rw [h] at e; injection e with e _; omega
theorem vx_blob {d : Int} {t l' : List Nat} {bad bad' : Bool} {s : ByteArray} (R : Rt pB (fun _ m => Stp m) (35 :: t) bad l' bad' s) (hp : bad' = false -> s.size + 1 + l'.length <= (35 :: t).length) : Vx d (35 :: t) bad l' bad' (lf 7 0 0 s) := by
 refine vx_of (fun s => lf 7 0 0 s) R (fun y m w1 hc hst e => ⟨y.1.t, ?_⟩) (fun h => by have := hp h; rw [ws_lf]; omega)
 have hf := first_of w1 hc e
 obtain ⟨_, ho, _⟩ := ckv9 hc
 obtain ⟨_, a1, a2, a3, a4, a5⟩ := form9 (own_fine ho).1
 have k1 : y.1.k = 7 := by unfold fst9 at hf; omega
 have ey : y = lf 7 0 0 y.1.t := by
  have h := flat9 hc (by omega) (by omega)
  rw [k1, a1 (by omega) (by omega) (by omega) (by omega), a2 (by omega)] at h
  exact h
 exact ⟨ey, hst, by unfold prV pH; simp [k1]⟩
end Go.Proofs.YtobfdcdobhhagaaGreatDoor
namespace Go.Proofs.YtobfdcdobhhagaaGreatDoor
open Go.RowKit Math
set_option linter.unusedVariables false
set_option linter.unusedSimpArgs false
def isHx (c : Nat) : Bool := decide ((48 <= c /\ c <= 57) ∨ (97 <= c /\ c <= 102))
theorem hxd_is {n : Nat} (h : n < 16) : isHx (hxd n) = true := by
 unfold isHx hxd
 simp only [decide_eq_true_eq]
 split <;> omega
theorem hxd_inj {m n : Nat} (hm : m < 16) (hn : n < 16) (h : hxd m = hxd n) : m = n := by
 unfold hxd at h
 split at h <;> split at h <;> omega
abbrev Rh (l : List Nat) (bad : Bool) (l' : List Nat) (bad' : Bool) (c : Nat) : Prop := Rt (fun c : Nat => [hxd c]) (fun c _ => c < 16) l bad l' bad' c
abbrev Rp (l : List Nat) (bad : Bool) (l' : List Nat) (bad' : Bool) (c : Nat) : Prop := Rt pX (fun c _ => c < 256) l bad l' bad' c
theorem rp_of {l l1 l2 : List Nat} {bad bad1 bad2 : Bool} {a b c : Nat} (R1 : Rh l bad l1 bad1 a) (R2 : Rh l1 bad1 l2 bad2 b) (hc : c = a * 16 + b) : Rp l bad l2 bad2 c := by
 refine ⟨suf_trans R1.suf R2.suf, fun h => R2.st (R1.st h), fun hb y m hy e => ?_⟩
 obtain ⟨a1, a2, a3⟩ := R1.co hb (y / 16) ([hxd (y % 16)] ++ m) (by omega) e
 obtain ⟨b1, b2, b3⟩ := R2.co a1 (y % 16) m (by omega) a3
 exact ⟨b1, by omega, b3⟩
structure Tx (l : List Nat) (bad : Bool) (lk : List Nat) (badk : Bool) (acc : List Nat) : Prop where
 suf : ∃ c, l = c ++ lk
 st : bad = true -> badk = true
 co : bad = false -> ∀ (y : ByteArray) m, (∀ t, m ≠ 39 :: t) -> l = pQ y ++ m -> badk = false /\ ∃ y2, bts y = acc ++ y2 /\ lk = pS y2 ++ (39 :: m)
 pr : badk = false -> acc.length + 1 + lk.length <= l.length
 oc : Oct acc
theorem Tx.start {l l1 : List Nat} {bad bad1 : Bool} (R : Rm [39] l bad l1 bad1) (hp : bad1 = false -> 1 + l1.length <= l.length) : Tx l bad l1 bad1 [] :=
 ⟨R.suf, R.st, fun hb y m hm e => by
   obtain ⟨a1, _, a3⟩ := R.co hb () (pS (bts y) ++ ([39] ++ m)) trivial (by rw [e]; simp [pQ])
   exact ⟨a1, bts y, rfl, by rw [a3]; rfl⟩, fun h => by have := hp h; simp only [List.length_nil]; omega, fun x hx => by cases hx⟩
theorem pE_cases (c : Nat) : (c = 39 /\ pE c = [39, 39]) ∨ (c ≠ 39 /\ pE c = 92 :: pX c) ∨ (c ≠ 39 /\ c ≠ 92 /\ pE c = [c]) := by
 unfold pE
 by_cases h : c = 39
 . exact .inl ⟨h, by rw [if_pos h]⟩
 by_cases h2 : c < 32 ∨ 126 < c ∨ c = 92
 . exact .inr (.inl ⟨h, by rw [if_neg h, if_pos h2]⟩)
 . exact .inr (.inr ⟨h, fun e => h2 (.inr (.inr e)), by rw [if_neg h, if_neg h2]⟩)
section
variable {l lk l1 l2 : List Nat} {bad badk bad2 : Bool} {acc : List Nat}
theorem Tx.quote (h : Tx l bad lk badk acc) (e : lk = 39 :: 39 :: l2) : Tx l bad l2 badk (acc ++ [39]) := by
 refine ⟨suf_trans h.suf ⟨[39, 39], by rw [e]; rfl⟩, h.st, fun hb y m hm el => ?_, fun hp => ?_, h.oc.app (fun x hx => by simp at hx; omega)⟩
 . obtain ⟨a1, y2, a2, a3⟩ := h.co hb y m hm el
   refine ⟨a1, ?_⟩
   cases y2 with
   | nil =>
     rw [e] at a3
     injection a3 with _ a3
     exact absurd a3.symm (hm l2)
   | cons c y3 =>
     rw [e] at a3
     have a3 : 39 :: 39 :: l2 = (pE c ++ pS y3) ++ (39 :: m) := a3
     rcases pE_cases c with ⟨rfl, hc⟩ | ⟨hc, h2⟩ | ⟨hc, _, h2⟩
     . rw [hc] at a3
       injection a3 with _ a3
       injection a3 with _ a3
       exact ⟨y3, by rw [a2]; simp, a3⟩
     . rw [h2] at a3
       injection a3 with a3 _
       cases a3
     . rw [h2] at a3
       injection a3 with a3 _
       exact absurd a3.symm hc
 . have := h.pr hp
   rw [e] at this
   simp only [List.length_append, List.length_cons, List.length_nil] at this ⊢
   omega
theorem Tx.done (h : Tx l bad lk badk acc) (e : lk = 39 :: l1) (hn : ∀ t, l1 ≠ 39 :: t) : Rt pQ (fun _ m => ∀ t, m ≠ 39 :: t) l bad l1 badk (ofB acc) := by
 refine ⟨suf_trans h.suf ⟨[39], by rw [e]; rfl⟩, h.st, fun hb y m hm el => ?_⟩
 obtain ⟨a1, y2, a2, a3⟩ := h.co hb y m hm el
 refine ⟨a1, ?_⟩
 cases y2 with
 | nil =>
   rw [e] at a3
   injection a3 with _ a3
   rw [List.append_nil] at a2
   exact ⟨by rw [<- a2, ofB_bts], a3⟩
 | cons c y3 =>
   exfalso
   rw [e] at a3
   have a3 : 39 :: l1 = (pE c ++ pS y3) ++ (39 :: m) := a3
   rcases pE_cases c with ⟨rfl, hc⟩ | ⟨hc, h2⟩ | ⟨hc, _, h2⟩
   . rw [hc] at a3
     injection a3 with _ a3
     exact hn _ a3
   . rw [h2] at a3
     injection a3 with a3 _
     cases a3
   . rw [h2] at a3
     injection a3 with a3 _
     exact absurd a3.symm hc
theorem Tx.esc {x : Nat} (h : Tx l bad lk badk acc) (e : lk = 92 :: l1) (R : Rp l1 badk l2 bad2 x) (hx : x < 256) (hp : bad2 = false -> 1 + l2.length <= l1.length) : Tx l bad l2 bad2 (acc ++ [x]) := by
 refine ⟨suf_trans h.suf (suf_trans ⟨[92], by rw [e]; rfl⟩ R.suf), fun hb => R.st (h.st hb), fun hb y m hm el => ?_, fun hq => ?_, h.oc.app (fun z hz => by simp at hz; omega)⟩
 . obtain ⟨a1, y2, a2, a3⟩ := h.co hb y m hm el
   cases y2 with
   | nil =>
     rw [e] at a3
     injection a3 with a3 _
     cases a3
   | cons c y3 =>
     rw [e] at a3
     have a3 : 92 :: l1 = (pE c ++ pS y3) ++ (39 :: m) := a3
     have hc2 : c < 256 := bts_oct y c (by rw [a2]; simp)
     rcases pE_cases c with ⟨rfl, hc⟩ | ⟨hc, h2⟩ | ⟨hc, h9, h2⟩
     . rw [hc] at a3
       injection a3 with a3 _
       cases a3
     . rw [h2] at a3
       injection a3 with _ a3
       obtain ⟨b1, b2, b3⟩ := R.co a1 c (pS y3 ++ (39 :: m)) hc2 (by rw [a3]; simp)
       exact ⟨b1, y3, by rw [a2, b2]; simp, b3⟩
     . rw [h2] at a3
       injection a3 with a3 _
       exact absurd a3.symm h9
 . have h1 := h.pr (R.stay hq)
   have h2 := hp hq
   rw [e] at h1
   simp only [List.length_append, List.length_cons, List.length_nil] at h1 ⊢
   omega
theorem Tx.plain {x : Nat} (h : Tx l bad lk badk acc) (e : lk = x :: l1) (h39 : x ≠ 39) (h92 : x ≠ 92) (hx : x < 256) : Tx l bad l1 badk (acc ++ [x]) := by
 refine ⟨suf_trans h.suf ⟨[x], by rw [e]; rfl⟩, h.st, fun hb y m hm el => ?_, fun hq => ?_, h.oc.app (fun z hz => by simp at hz; omega)⟩
 . obtain ⟨a1, y2, a2, a3⟩ := h.co hb y m hm el
   refine ⟨a1, ?_⟩
   cases y2 with
   | nil =>
     rw [e] at a3
     injection a3 with a3 _
     exact absurd a3 h39
   | cons c y3 =>
     rw [e] at a3
     have a3 : x :: l1 = (pE c ++ pS y3) ++ (39 :: m) := a3
     rcases pE_cases c with ⟨rfl, hc⟩ | ⟨hc, h2⟩ | ⟨hc, _, h2⟩
     . rw [hc] at a3
       injection a3 with a3 _
       exact absurd a3 h39
     . rw [h2] at a3
       injection a3 with a3 _
       exact absurd a3 h92
     . rw [h2] at a3
       injection a3 with a3 a4
       exact ⟨y3, by rw [a2, a3]; simp, a4⟩
 . have h1 := h.pr hq
   rw [e] at h1
   simp only [List.length_append, List.length_cons, List.length_nil] at h1 ⊢
   omega
theorem Tx.none (h : Tx l bad [] badk acc) (z : ByteArray) : Rt pQ (fun _ m => ∀ t, m ≠ 39 :: t) l bad [] true z :=
 ⟨h.suf, fun _ => rfl, fun hb y m hm el => by
   obtain ⟨a1, y2, a2, a3⟩ := h.co hb y m hm el
   exfalso
   have := congrArg List.length a3
   simp at this⟩
theorem Tx.isBad (h : Tx l bad lk true acc) (z : ByteArray) : Rt pQ (fun _ m => ∀ t, m ≠ 39 :: t) l bad lk true z :=
 ⟨h.suf, fun _ => rfl, fun hb y m hm el => by
   have := (h.co hb y m hm el).1
   cases this⟩
end
structure Bx (l : List Nat) (bad : Bool) (lk : List Nat) (badk : Bool) (acc : List Nat) : Prop where
 suf : ∃ c, l = c ++ lk
 st : bad = true -> badk = true
 co : bad = false -> ∀ (y : ByteArray) m, Stp m -> l = pB y ++ m -> badk = false /\ ∃ y2, bts y = acc ++ y2 /\ lk = pY y2 ++ m
 pr : badk = false -> acc.length + 1 + lk.length <= l.length
 oc : Oct acc
theorem Bx.start {l l1 : List Nat} {bad bad1 : Bool} (R : Rm [35] l bad l1 bad1) (hp : bad1 = false -> 1 + l1.length <= l.length) : Bx l bad l1 bad1 [] :=
 ⟨R.suf, R.st, fun hb y m hm e => by
   obtain ⟨a1, _, a3⟩ := R.co hb () (pY (bts y) ++ m) trivial (by rw [e]; simp [pB])
   exact ⟨a1, bts y, rfl, a3⟩, fun h => by have := hp h; simp only [List.length_nil]; omega, fun x hx => by cases hx⟩
theorem stp_hx {c : Nat} {t m : List Nat} (hm : Stp m) (h : isHx c = true) : m ≠ c :: t := fun e => by
 unfold isHx at h
 simp only [decide_eq_true_eq] at h
 rcases hm with rfl | ⟨d, t', rfl, hd⟩
 . cases e
 . injection e with e _
   omega
section
variable {l lk l1 l2 : List Nat} {bad badk bad2 : Bool} {acc : List Nat}
theorem Bx.step {x c : Nat} {t : List Nat} (h : Bx l bad lk badk acc) (e : lk = c :: t) (hc : isHx c = true) (R : Rp lk badk l2 bad2 x) (hx : x < 256) (hp : bad2 = false -> 1 + l2.length <= lk.length) : Bx l bad l2 bad2 (acc ++ [x]) := by
 refine ⟨suf_trans h.suf R.suf, fun hb => R.st (h.st hb), fun hb y m hm el => ?_, fun hq => ?_, h.oc.app (fun z hz => by simp at hz; omega)⟩
 . obtain ⟨a1, y2, a2, a3⟩ := h.co hb y m hm el
   cases y2 with
   | nil => exact absurd (a3.symm.trans e) (stp_hx hm hc)
   | cons d y3 =>
     have hd : d < 256 := bts_oct y d (by rw [a2]; simp)
     obtain ⟨b1, b2, b3⟩ := R.co a1 d (pY y3 ++ m) hd (by rw [a3]; simp [pY])
     exact ⟨b1, y3, by rw [a2, b2]; simp, b3⟩
 . have h1 := h.pr (R.stay hq)
   have h2 := hp hq
   simp only [List.length_append, List.length_cons, List.length_nil]
   omega
theorem Bx.done (h : Bx l bad lk badk acc) (e : ∀ c t, lk = c :: t -> isHx c = false) : Rt pB (fun _ m => Stp m) l bad lk badk (ofB acc) := by
 refine ⟨h.suf, h.st, fun hb y m hm el => ?_⟩
 obtain ⟨a1, y2, a2, a3⟩ := h.co hb y m hm el
 refine ⟨a1, ?_⟩
 cases y2 with
 | nil =>
   rw [List.append_nil] at a2
   exact ⟨by rw [<- a2, ofB_bts], a3⟩
 | cons d y3 =>
   have hd : d < 256 := bts_oct y d (by rw [a2]; simp)
   have := e (hxd (d / 16)) ([hxd (d % 16)] ++ pY y3 ++ m) (by rw [a3]; simp [pY, pX])
   rw [hxd_is (by omega)] at this
   cases this
end
def endc (b : Bool) : Nat := if b then 125 else 93
structure NxOk (b : Bool) (d : Int) (x : Fo × List ByteArray) : Prop where
 wf : Wf x.1
 ck : chk x.1 (d + 1) = 0
 ln : b = true -> x.2.length = x.1.list.length
 no : b = false -> x.2 = []
def encX (b : Bool) (x : Fo × List ByteArray) : List Nat := prF x.1 b x.2 true ++ [endc b]
structure Nx (b : Bool) (d : Int) (l : List Nat) (bad : Bool) (lk : List Nat) (badk : Bool) (f : Fo) (ns : List ByteArray) : Prop where
 suf : ∃ c, l = c ++ lk
 st : bad = true -> badk = true
 co : bad = false -> ∀ (x : Fo × List ByteArray) m, NxOk b d x -> Stp m -> l = encX b x ++ m -> badk = false /\ ∃ g ms, x.1 = f.app9 g /\ x.2 = ns ++ ms /\ lk = prF g b ms (decide (f.list.length = 0)) ++ (endc b :: m) /\ Wf g /\ chk g (d + 1) = 0 /\ (b = true -> ms.length = g.list.length)
 ln : b = true -> ns.length = f.list.length
 no : b = false -> ns = []
 pr : badk = false -> f.ws + ns.length + lk.length <= l.length
theorem Nx.start (b : Bool) (d : Int) (l : List Nat) (bad : Bool) : Nx b d l bad l bad .nil [] :=
 ⟨⟨[], rfl⟩, id, fun h x m hx hm hl => ⟨h, x.1, x.2, rfl, rfl, by rw [hl]; simp [encX, Fo.list], hx.wf, hx.ck, hx.ln⟩, fun _ => rfl, fun _ => rfl, fun _ => by simp [Fo.ws]⟩
theorem stp_rest (b : Bool) (g : Fo) (ms : List ByteArray) (m : List Nat) : Stp (prF g b ms false ++ (endc b :: m)) := by
 cases g with
 | nil => exact .inr ⟨endc b, m, rfl, by unfold endc; cases b <;> simp⟩
 | cons h k r => exact .inr ⟨44, _, rfl, .inl rfl⟩
section
variable {b : Bool} {d : Int} {l lk l1 l2 l3 l4 : List Nat} {bad badk bad1 bad2 bad3 bad4 : Bool} {f : Fo} {ns : List ByteArray} {v : Vt}
theorem snoc_nz (p : Vt) (f : Fo) : decide ((f.snoc p).list.length = 0) = false := by
 rw [snoc_list]
 simp
theorem ws_pos (p : Vt) : 1 <= ws p := by unfold ws wsH; omega
theorem Nx.kid (h : Nx false d l bad lk badk f []) (hne : ∀ t, lk ≠ 93 :: t) (R1 : Rm (if f.list.length = 0 then [] else [44, 32]) lk badk l1 bad1) (R : Vx (d + 1) l1 bad1 l2 bad2 v) : Nx false d l bad l2 bad2 (f.snoc v) [] := by
 refine ⟨suf_trans h.suf (suf_trans R1.suf R.rt.suf), fun hb => R.rt.st (R1.st (h.st hb)), fun hb x m hx hm hl => ?_, fun e => (by cases e), fun _ => rfl, fun hq => ?_⟩
 . obtain ⟨a1, g, ms, e1, e2, e3, e4, e5, e6⟩ := h.co hb x m hx hm hl
   cases g with
   | nil => exact absurd e3 (hne m)
   | cons hd k r =>
     obtain ⟨w1, w2⟩ := wfc9 e4
     obtain ⟨c1, c2⟩ := chkc9 e5
     rw [prF_cons (hd, k)] at e3
     simp only [Bool.false_eq_true, if_false, List.nil_append, List.append_assoc] at e3
     obtain ⟨r1, _, r3⟩ := R1.co a1 () (prV (hd, k) ++ (prF r false ms.tail false ++ (endc false :: m))) trivial (by
      rw [e3]
      by_cases h0 : f.list.length = 0 <;> simp [h0])
     obtain ⟨s1, s2, s3⟩ := R.rt.co r1 (hd, k) _ ⟨w1, c1, stp_rest _ _ _ _⟩ r3
     refine ⟨s1, r, [], by rw [e1, s2, app9_snoc], by rw [hx.no rfl]; rfl, ?_, w2, c2, fun e => by cases e⟩
     rw [s3, snoc_nz, prF_false r ms.tail []]
 . have h1 := h.pr (R1.stay (R.rt.stay hq))
   have h2 := R1.len
   have h3 := R.pr hq
   rw [ws_snoc]
   simp only [List.length_nil] at h1 ⊢
   omega
theorem Nx.field {s : ByteArray} (h : Nx true d l bad lk badk f ns) (hne : ∀ t, lk ≠ 125 :: t) (R1 : Rm (if f.list.length = 0 then [] else [44, 32]) lk badk l1 bad1) (R2 : Rt pQ (fun _ m => ∀ t, m ≠ 39 :: t) l1 bad1 l2 bad2 s) (hp : bad2 = false -> 1 + l2.length <= l1.length) (R3 : Rm [58, 32] l2 bad2 l3 bad3) (R : Vx (d + 1) l3 bad3 l4 bad4 v) : Nx true d l bad l4 bad4 (f.snoc v) (ns ++ [s]) := by
 refine ⟨suf_trans h.suf (suf_trans R1.suf (suf_trans R2.suf (suf_trans R3.suf R.rt.suf))), fun hb => R.rt.st (R3.st (R2.st (R1.st (h.st hb)))), fun hb x m hx hm hl => ?_, fun _ => by rw [snoc_list, List.length_append, List.length_append, h.ln rfl]; rfl, fun e => (by cases e), fun hq => ?_⟩
 . obtain ⟨a1, g, ms, e1, e2, e3, e4, e5, e6⟩ := h.co hb x m hx hm hl
   cases g with
   | nil => exact absurd e3 (hne m)
   | cons hd k r =>
     cases ms with
     | nil => have := e6 rfl; simp [Fo.list] at this
     | cons n ms =>
       obtain ⟨w1, w2⟩ := wfc9 e4
       obtain ⟨c1, c2⟩ := chkc9 e5
       rw [prF_cons (hd, k)] at e3
       simp only [if_true, List.headD_cons, List.tail_cons, List.append_assoc] at e3
       obtain ⟨r1, _, r3⟩ := R1.co a1 () (pQ n ++ ([58, 32] ++ (prV (hd, k) ++ (prF r true ms false ++ (endc true :: m))))) trivial (by
        rw [e3]
        by_cases h0 : f.list.length = 0 <;> simp [h0])
       obtain ⟨s1, s2, s3⟩ := R2.co r1 n _ (fun t e => by cases e) r3
       obtain ⟨t1, _, t3⟩ := R3.co s1 () _ trivial s3
       obtain ⟨u1, u2, u3⟩ := R.rt.co t1 (hd, k) _ ⟨w1, c1, stp_rest _ _ _ _⟩ t3
       refine ⟨u1, r, ms, by rw [e1, u2, app9_snoc], by rw [e2, s2]; simp, by rw [u3, snoc_nz], w2, c2, fun _ => ?_⟩
       have := e6 rfl
       simpa [Fo.list] using this
 . have b3 := R.rt.stay hq
   have b2 := R3.stay b3
   have h1 := h.pr (R1.stay (R2.stay b2))
   have h2 := R1.len
   have h3 := R.pr hq
   have h4 := hp b2
   have h5 := R3.len
   rw [ws_snoc]
   simp only [List.length_append, List.length_singleton]
   omega
theorem Nx.done (h : Nx b d l bad lk badk f ns) (e : lk = endc b :: l1) : Rt (encX b) (fun x m => NxOk b d x /\ Stp m) l bad l1 badk (f, ns) := by
 refine ⟨suf_trans h.suf ⟨[endc b], by rw [e]; rfl⟩, h.st, fun hb x m ⟨hx, hm⟩ hl => ?_⟩
 obtain ⟨a1, g, ms, e1, e2, e3, e4, e5, e6⟩ := h.co hb x m hx hm hl
 refine ⟨a1, ?_⟩
 cases g with
 | nil =>
   rw [e] at e3
   injection e3 with _ e3
   have hms : ms = [] := by
    cases b with
    | true => exact List.eq_nil_of_length_eq_zero (e6 rfl)
    | false =>
      have := hx.no rfl
      rw [e2] at this
      exact (List.append_eq_nil_iff.1 this).2
   rw [app9_nil] at e1
   rw [hms, List.append_nil] at e2
   obtain ⟨x1, x2⟩ := x
   simp only at e1 e2
   exact ⟨by rw [e1, e2], e3⟩
 | cons hd k r =>
   exfalso
   rw [e, prF_cons (hd, k)] at e3
   obtain ⟨w1, w2⟩ := wfc9 e4
   obtain ⟨c1, c2⟩ := chkc9 e5
   obtain ⟨c, t, hc, hf⟩ := pr_first w1 c1
   by_cases h0 : f.list.length = 0
   . cases b with
     | true =>
       simp only [h0, decide_true, if_true, List.nil_append, pQ, List.cons_append] at e3
       injection e3 with e3 _
       cases e3
     | false =>
       rw [hc] at e3
       simp only [h0, decide_true, if_true, List.nil_append, Bool.false_eq_true, if_false, List.cons_append] at e3
       injection e3 with e3 _
       unfold fst9 at hf
       unfold endc at e3
       simp at e3
       omega
   . simp only [h0, decide_false, Bool.false_eq_true, if_false, List.cons_append] at e3
     injection e3 with e3 _
     unfold endc at e3
     cases b <;> simp at e3
theorem Nx.isBad (h : Nx b d l bad lk true f ns) (y : Fo × List ByteArray) : Rt (encX b) (fun x m => NxOk b d x /\ Stp m) l bad lk true y :=
 ⟨h.suf, fun _ => rfl, fun hb x m ⟨hx, hm⟩ hl => by have := (h.co hb x m hx hm hl).1; cases this⟩
theorem Nx.brk (h : Nx b d l bad lk badk f ns) (hne : ∀ t, lk ≠ endc b :: t) (R1 : Rm (if f.list.length = 0 then [] else [44, 32]) lk badk l1 true) (y : Fo × List ByteArray) : Rt (encX b) (fun x m => NxOk b d x /\ Stp m) l bad l1 true y := by
 refine ⟨suf_trans h.suf R1.suf, fun _ => rfl, fun hb x m ⟨hx, hm⟩ hl => ?_⟩
 obtain ⟨a1, g, ms, e1, e2, e3, e4, e5, e6⟩ := h.co hb x m hx hm hl
 cases g with
 | nil => exact absurd e3 (hne m)
 | cons hd k r =>
   rw [prF_cons (hd, k)] at e3
   have := (R1.co a1 () (((if b then pQ (ms.headD ⟨#[]⟩) ++ [58, 32] else []) ++ (prV (hd, k) ++ prF r b ms.tail false)) ++ (endc b :: m)) trivial (by
    rw [e3]
    by_cases h0 : f.list.length = 0 <;> simp [h0])).1
   cases this
theorem vx_nest {k : Int} {c : Nat} {t : List Nat} {x : Fo × List ByteArray} (hkc : (k = 8 /\ b = false /\ c = 91) ∨ (k = 9 /\ b = true /\ c = 123)) (R1 : Rm [c] (c :: t) bad l1 bad1) (R2 : Rt (encX b) (fun x m => NxOk b d x /\ Stp m) l1 bad1 l2 bad2 x) (hp : bad2 = false -> x.1.ws + x.2.length + 1 + l2.length <= (c :: t).length) : Vx d (c :: t) bad l2 bad2 (nst k x) := by
 refine ⟨⟨suf_trans R1.suf R2.suf, fun hb => R2.st (R1.st hb), fun hb y m ⟨w1, hc, hst⟩ e => ?_⟩, fun hb => ?_⟩
 . have hf := first_of w1 hc e
   obtain ⟨_, ho, hck⟩ := ckv9 hc
   have fn := own_fine ho
   obtain ⟨hk, a1, a2, a3, a4, a5⟩ := form9 fn.1
   have k1 : y.1.k = k := by unfold fst9 at hf; omega
   have ey : y = nst k (y.2, y.1.ns) := by
    refine Prod.ext (hd9 k1 (a1 (by omega) (by omega) (by omega) (by omega)) (a2 (by omega)) (a3 (by omega) (by omega)) rfl) rfl
   have ep : prV y = [c] ++ encX b (y.2, y.1.ns) := by
    unfold prV pH encX
    rcases hkc with ⟨rfl, rfl, rfl⟩ | ⟨rfl, rfl, rfl⟩
    . simp [k1, endc]
    . simp [k1, endc]
   rw [ep, List.append_assoc] at e
   obtain ⟨b1, _, b3⟩ := R1.co hb () _ trivial e
   have hok : NxOk b d (y.2, y.1.ns) := by
    refine ⟨w1.2.2, hck, fun hbb => ?_, fun hbb => ?_⟩
    . have k9 : y.1.k = 9 := by
       rcases hkc with ⟨_, e, _⟩ | ⟨e, _⟩
       . rw [e] at hbb; cases hbb
       . omega
      exact (names_len (fn.nm k9)).1
    . have k8 : y.1.k = 8 := by
       rcases hkc with ⟨e, _⟩ | ⟨_, e, _⟩
       . omega
       . rw [e] at hbb; cases hbb
      exact a4 (by omega)
   obtain ⟨c1, c2, c3⟩ := R2.co b1 _ m ⟨hok, hst⟩ b3
   exact ⟨c1, by rw [c2]; exact ey.symm, c3⟩
 . have := hp hb
   show wsH _ + x.1.ws + _ <= _
   have e : wsH (nst k x).1 = 1 + 0 + x.2.length := by
    show 1 + em.size / 20 + x.2.length = _
    rw [show em.size = 0 from rfl]
   rw [e]
   omega
end
end Go.Proofs.YtobfdcdobhhagaaGreatDoor
