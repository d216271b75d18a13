/-
  Blocks over lists: what an entry is, its bytes, a block's bytes, and the first reason why it is none. No program is named.
-/
import Derived.Test.YtmbglggodifboabRG14x
namespace Go.Proofs.Ytmbglggodifboab.Sh
open Go.RowKit Math Mt
set_option linter.unusedVariables false
theorem encOk {p : Vt} (h : encE p = 0) : chkV p 1 = 0 ∧ encB p = encV p ∧ (encV p).length ≤ 65536 := by
  by_cases h1 : chkV p 1 = 0
  · by_cases h2 : 65536 < (encV p).length
    · have := (encE_long h1 h2).1
      omega
    · exact ⟨h1, (encE_yes h1 h2).2, by omega⟩
  · have := (encE_no h1).1
    omega
/-- Two values have the same bytes just if they are one. -/
theorem encOf {p : Vt} (ep : encE p = 0) : Oct (encB p) ∧ (encB p).length ≤ 65536 := by
  obtain ⟨a1, a2, a3⟩ := encOk ep
  rw [a2]
  exact ⟨encV_oct p (chk1 a1), a3⟩
/-- An entry. -/
structure En where
  k : Int
  t : ByteArray
  tb : Int
  dc : Int
  vr : Int
  v : Vt
  h : List Nat
  g : Bool
  ab : Int
  ae : Int
/-- A block. -/
structure Bk where
  ix : Int
  tm : Int
  tx : Int
  pv : List Nat
  es : List En
def zr : List Nat := List.replicate 32 0
/-- Nothing. -/
def nv : Vt := lf 0 0 0 em
def I64 (n : Int) : Prop := -9223372036854775808 ≤ n ∧ n < 9223372036854775808
/-- A digest. -/
def H32 (l : List Nat) : Prop := l.length = 32 ∧ Oct l
/-- What an entry of the language can be. -/
structure EnW (e : En) : Prop where
  k : I64 e.k
  t : e.t.size ≤ 140737488355328
  tb : I64 e.tb
  dc : I64 e.dc
  vr : I64 e.vr
  v : WfV e.v
  h : H32 e.h
  ab : I64 e.ab
  ae : I64 e.ae
structure BkW (b : Bk) : Prop where
  ix : I64 b.ix
  tm : I64 b.tm
  tx : I64 b.tx
  pv : H32 b.pv
  es : ∀ e ∈ b.es, EnW e
  len : b.es.length ≤ 140737488355328
abbrev inP (n lo hi : Int) : Prop := lo ≤ n ∧ n ≤ hi
def nvB (p : Vt) : Bool := decide (p.1.k = 0 ∧ p.1.n = 0 ∧ p.1.s = 0 ∧ p.1.t.size = 0 ∧ p.1.ns.length = 0 ∧ p.2.list.length = 0)
theorem nvB_iff (p : Vt) : nvB p = true ↔ p = nv := by
  unfold nvB
  rw [decide_eq_true_iff]
  constructor
  · rintro ⟨h1, h2, h3, h4, h5, h6⟩
    have e : p.1.t.data.toList = [] := List.eq_nil_of_length_eq_zero (by simpa using h4)
    have e2 : p.1.t.data = #[] := by rw [← Array.toList_inj]; exact e
    have e3 : p.1.t = ⟨#[]⟩ := by cases h : p.1.t with | mk d => rw [h] at e2; rw [← e2]
    exact vt_eq h1 h2 h3 (e3.trans rfl) (List.eq_nil_of_length_eq_zero h5) (fo_nil h6)
  · rintro rfl
    exact ⟨rfl, rfl, rfl, rfl, rfl, rfl⟩
/-- What the numbers of an entry may be: those of Text's length, Table, Doc, Version, At. -/
structure Sp where
  t0 : Int := 0
  t1 : Int := 0
  b0 : Int := 0
  b1 : Int := 0
  d0 : Int := 0
  d1 : Int := 0
  v0 : Int := 0
  v1 : Int := 0
  a0 : Int := 0
  a1 : Int := 0
def spn (k : Int) : Option Sp :=
  if k = 1 then some { t0 := 1, t1 := 4096 }
  else if k = 2 then some { b0 := 1, b1 := 64, d0 := 1, d1 := 65536, v1 := 2147483648 }
  else if k = 3 then some { b0 := 1, b1 := 64, d0 := 1, d1 := 65536, v0 := 1, v1 := 2147483648 }
  else if k = 4 then some { a1 := 2147483648 }
  else if k = 5 ∨ k = 7 then some { t0 := 1, t1 := 40, b0 := 1, b1 := 64 }
  else if k = 6 then some { b0 := 1, b1 := 64 }
  else none
structure Fit (s : Sp) (e : En) : Prop where
  t : inP (e.t.size : Int) s.t0 s.t1
  tb : inP e.tb s.b0 s.b1
  dc : inP e.dc s.d0 s.d1
  vr : inP e.vr s.v0 s.v1
  ab : inP e.ab s.a0 s.a1
  ae : inP e.ae s.a0 s.a1
def fitB (s : Sp) (e : En) : Bool := decide (inP (e.t.size : Int) s.t0 s.t1) && decide (inP e.tb s.b0 s.b1) && decide (inP e.dc s.d0 s.d1) && decide (inP e.vr s.v0 s.v1) && decide (inP e.ab s.a0 s.a1) && decide (inP e.ae s.a0 s.a1)
theorem fitB_iff {s : Sp} {e : En} : fitB s e = true ↔ Fit s e := by
  unfold fitB
  simp only [Bool.and_eq_true, decide_eq_true_iff]
  exact ⟨fun ⟨⟨⟨⟨⟨h1, h2⟩, h3⟩, h4⟩, h5⟩, h6⟩ => ⟨h1, h2, h3, h4, h5, h6⟩, fun h => ⟨⟨⟨⟨⟨h.t, h.tb⟩, h.dc⟩, h.vr⟩, h.ab⟩, h.ae⟩⟩
/-- Is it one, whatever the Data and the DataHash of a Revision are? -/
def restB (e : En) : Bool := if e.k = 2 then !e.g || nvB e.v else !e.g && nvB e.v && decide (e.h = zr)
def formB (e : En) : Bool := match spn e.k with
  | none => false
  | some s => fitB s e && restB e
abbrev Form (e : En) : Prop := formB e = true
theorem form_iff {e : En} : Form e ↔ ∃ s, spn e.k = some s ∧ Fit s e ∧ restB e = true := by
  unfold Form formB
  cases h : spn e.k with
  | none => simp
  | some s => simp [fitB_iff]
def hshV (p : Vt) : List Nat := D (0 :: encB p)
/-- An entry's error. -/
def mayE (e : En) : Int := if ¬ Form e then 3 else if e.k ≠ 2 ∨ e.g = true then 0 else if encE e.v ≠ 0 then encE e.v else if hshV e.v ≠ e.h then 18 else 0
def fstE : List En → Int
  | [] => 0
  | e :: r => if mayE e ≠ 0 then mayE e else fstE r
def uvI (n : Int) : List Nat := uv n.toNat
/-- An entry's bytes. -/
def entB (e : En) : List Nat := [e.k.toNat] ++ uvI e.tb ++ uvI e.dc ++ uvI e.vr ++ uv e.t.size ++ bts e.t ++ uvI e.ab ++ uvI e.ae ++ (if e.k = 2 then e.h else [])
/-- The bytes of its Data, if it has any. -/
def datL (e : En) : List Nat := if e.k = 2 ∧ e.g = false then encB e.v else []
/-- What stands behind an entry's bytes. -/
def tail (k : Int) (dl : List Nat) (data : Bool) : List Nat := if k = 2 then (if data = false ∨ dl = [] then [0] else [1] ++ uv dl.length ++ dl) else []
def itmB (data : Bool) (e : En) : List Nat := entB e ++ tail e.k (datL e) data
def hedB (b : Bk) : List Nat := uvI b.ix ++ uvI b.tm ++ uvI b.tx ++ b.pv
def blkB (b : Bk) (data : Bool) : List Nat := hedB b ++ uv b.es.length ++ b.es.flatMap (itmB data)
abbrev HeadP (b : Bk) (n : Int) : Prop := inP b.ix 0 2147483648 ∧ inP b.tm 0 9007199254740992 ∧ inP b.tx 0 9007199254740992 ∧ inP n 1 200
/-- A block's error. -/
def chkB (b : Bk) : Int := if ¬ HeadP b (b.es.length : Int) then 1 else if fstE b.es ≠ 0 then fstE b.es else if 262144 < (blkB b true).length then 5 else 0
theorem may_form {e : En} (h : mayE e = 0) : Form e := by
  unfold mayE at h
  by_cases c : Form e
  · exact c
  · rw [if_pos c] at h; cases h
theorem may_data {e : En} (h : mayE e = 0) (hk : e.k = 2) (hg : e.g = false) : encE e.v = 0 ∧ hshV e.v = e.h := by
  have hf := may_form h
  unfold mayE at h
  rw [if_neg (by simpa using hf), if_neg (by rw [hk, hg]; simp)] at h
  by_cases c : encE e.v = 0
  · rw [if_neg (by simpa using c)] at h
    by_cases d : hshV e.v = e.h
    · exact ⟨c, d⟩
    · rw [if_pos d] at h; cases h
  · rw [if_pos c] at h; exact absurd h c
theorem may_no {e : En} (h : ¬ Form e) : mayE e = 3 := by unfold mayE; rw [if_pos h]
theorem may_plain {e : En} (h : Form e) (hk : e.k ≠ 2 ∨ e.g = true) : mayE e = 0 := by unfold mayE; rw [if_neg (by simpa using h), if_pos hk]
theorem may_enc {e : En} (h : Form e) (hk : e.k = 2) (hg : e.g = false) (c : encE e.v ≠ 0) : mayE e = encE e.v := by unfold mayE; rw [if_neg (by simpa using h), if_neg (by rw [hk, hg]; simp), if_pos c]
theorem may_hash {e : En} (h : Form e) (hk : e.k = 2) (hg : e.g = false) (c : encE e.v = 0) (d : hshV e.v ≠ e.h) : mayE e = 18 := by unfold mayE; rw [if_neg (by simpa using h), if_neg (by rw [hk, hg]; simp), if_neg (by simpa using c), if_pos d]
theorem may_yes {e : En} (h : Form e) (hk : e.k = 2) (hg : e.g = false) (c : encE e.v = 0) (d : hshV e.v = e.h) : mayE e = 0 := by unfold mayE; rw [if_neg (by simpa using h), if_neg (by rw [hk, hg]; simp), if_neg (by simpa using c), if_neg (by simpa using d)]
theorem fst_all : ∀ {l : List En}, fstE l = 0 → ∀ e ∈ l, mayE e = 0
  | e :: r, h, x, hx => by
    unfold fstE at h
    by_cases c : mayE e = 0
    · rw [if_neg (by simpa using c)] at h
      rcases List.mem_cons.1 hx with rfl | hx
      · exact c
      · exact fst_all h x hx
    · rw [if_pos c] at h; exact absurd h c
theorem fst_snoc {e : En} : ∀ {l : List En}, fstE l = 0 → fstE (l ++ [e]) = mayE e
  | [], _ => by
    show (if mayE e ≠ 0 then mayE e else 0) = mayE e
    by_cases c : mayE e = 0
    · rw [if_neg (by simpa using c), c]
    · rw [if_pos c]
  | x :: r, h => by
    have hx := fst_all h x (by simp)
    have hr : fstE r = 0 := by unfold fstE at h; rw [if_neg (by simpa using hx)] at h; exact h
    show (if mayE x ≠ 0 then mayE x else fstE (r ++ [e])) = _
    rw [if_neg (by simpa using hx), fst_snoc hr]
theorem fst_app {m : List En} : ∀ {l : List En}, fstE l = 0 → fstE (l ++ m) = fstE m
  | [], _ => rfl
  | x :: r, h => by
    have hx := fst_all h x (by simp)
    have hr : fstE r = 0 := by unfold fstE at h; rw [if_neg (by simpa using hx)] at h; exact h
    show (if mayE x ≠ 0 then mayE x else fstE (r ++ m)) = _
    rw [if_neg (by simpa using hx), fst_app hr]
theorem fst_left {m : List En} : ∀ {l : List En}, fstE l ≠ 0 → fstE (l ++ m) = fstE l
  | [], h => absurd rfl h
  | x :: r, h => by
    show (if mayE x ≠ 0 then mayE x else fstE (r ++ m)) = if mayE x ≠ 0 then mayE x else fstE r
    by_cases c : mayE x = 0
    · rw [if_neg (by simpa using c), if_neg (by simpa using c)]
      refine fst_left fun h0 => h ?_
      unfold fstE; rw [if_neg (by simpa using c), h0]
    · rw [if_pos c, if_pos c]
theorem chk_zero {b : Bk} (h : chkB b = 0) : HeadP b (b.es.length : Int) ∧ fstE b.es = 0 ∧ (blkB b true).length ≤ 262144 := by
  unfold chkB at h
  by_cases c : HeadP b (b.es.length : Int)
  · rw [if_neg (fun q => q c)] at h
    by_cases d : fstE b.es = 0
    · rw [if_neg (by simpa using d)] at h
      by_cases e : 262144 < (blkB b true).length
      · rw [if_pos e] at h; cases h
      · exact ⟨c, d, by omega⟩
    · rw [if_pos d] at h; exact absurd h d
  · rw [if_pos c] at h; cases h
theorem chk_head {b : Bk} (h : ¬ HeadP b (b.es.length : Int)) : chkB b = 1 := by unfold chkB; rw [if_pos h]
theorem chk_may {b : Bk} (h : HeadP b (b.es.length : Int)) (d : fstE b.es ≠ 0) : chkB b = fstE b.es := by unfold chkB; rw [if_neg (fun q => q h), if_pos d]
theorem chk_long {b : Bk} (h : HeadP b (b.es.length : Int)) (d : fstE b.es = 0) (c : 262144 < (blkB b true).length) : chkB b = 5 := by unfold chkB; rw [if_neg (fun q => q h), if_neg (by simpa using d), if_pos c]
theorem chk_yes {b : Bk} (h : HeadP b (b.es.length : Int)) (d : fstE b.es = 0) (c : ¬ 262144 < (blkB b true).length) : chkB b = 0 := by unfold chkB; rw [if_neg (fun q => q h), if_neg (by simpa using d), if_neg c]
/-- What Form says of the numbers. -/
structure Num (e : En) : Prop where
  k : 1 ≤ e.k ∧ e.k ≤ 7
  t : e.t.size ≤ 4096
  tb : 0 ≤ e.tb ∧ e.tb ≤ 64
  dc : 0 ≤ e.dc ∧ e.dc ≤ 65536
  vr : 0 ≤ e.vr ∧ e.vr ≤ 2147483648
  ab : 0 ≤ e.ab ∧ e.ab ≤ 2147483648
  ae : 0 ≤ e.ae ∧ e.ae ≤ 2147483648
theorem Form.num {e : En} (h : Form e) : Num e := by
  obtain ⟨s, hs, f, _⟩ := form_iff.1 h
  have f1 := f.t; have f2 := f.tb; have f3 := f.dc; have f4 := f.vr; have f5 := f.ab; have f6 := f.ae
  unfold inP at f1 f2 f3 f4 f5 f6
  unfold spn at hs
  split at hs
  · cases hs; simp only at f1 f2 f3 f4 f5 f6; exact ⟨by omega, by omega, by omega, by omega, by omega, by omega, by omega⟩
  split at hs
  · cases hs; simp only at f1 f2 f3 f4 f5 f6; exact ⟨by omega, by omega, by omega, by omega, by omega, by omega, by omega⟩
  split at hs
  · cases hs; simp only at f1 f2 f3 f4 f5 f6; exact ⟨by omega, by omega, by omega, by omega, by omega, by omega, by omega⟩
  split at hs
  · cases hs; simp only at f1 f2 f3 f4 f5 f6; exact ⟨by omega, by omega, by omega, by omega, by omega, by omega, by omega⟩
  split at hs
  · cases hs; simp only at f1 f2 f3 f4 f5 f6; exact ⟨by omega, by omega, by omega, by omega, by omega, by omega, by omega⟩
  split at hs
  · cases hs; simp only at f1 f2 f3 f4 f5 f6; exact ⟨by omega, by omega, by omega, by omega, by omega, by omega, by omega⟩
  · cases hs
theorem uvI_len {n : Int} (h : n ≤ 9223372036854775807) : (uvI n).length ≤ 10 := uv_ten _ (by omega)
theorem uvI_oct (n : Int) : Oct (uvI n) := uv_oct _
theorem ent_len {e : En} (hw : EnW e) (h : Num e) : (entB e).length ≤ 4096 + 100 := by
  have a1 := uvI_len (n := e.tb) (by have := h.tb; omega)
  have a2 := uvI_len (n := e.dc) (by have := h.dc; omega)
  have a3 := uvI_len (n := e.vr) (by have := h.vr; omega)
  have a4 := uvI_len (n := e.ab) (by have := h.ab; omega)
  have a5 := uvI_len (n := e.ae) (by have := h.ae; omega)
  have a6 := uv_ten e.t.size (by have := h.t; omega)
  have a7 := h.t
  have a8 := hw.h.1
  have a9 : (if e.k = 2 then e.h else []).length ≤ 32 := by split <;> simp [a8]
  unfold entB
  simp only [List.length_append, bts_len, List.length_cons, List.length_nil]
  omega
theorem ent_oct {e : En} (hw : EnW e) (h : Num e) : Oct (entB e) := by
  have hk := h.k
  unfold entB
  refine ((((((((one_oct (by omega)).app (uvI_oct _)).app (uvI_oct _)).app (uvI_oct _)).app (uv_oct _)).app (bts_oct _)).app (uvI_oct _)).app (uvI_oct _)).app ?_
  split
  · exact hw.h.2
  · intro x hx; cases hx
theorem dat_ok {e : En} (h : mayE e = 0) : Oct (datL e) ∧ (datL e).length ≤ 65536 ∧ (e.k = 2 → e.g = false → datL e = encV e.v ∧ datL e ≠ []) ∧ (e.k ≠ 2 ∨ e.g = true → datL e = []) := by
  by_cases c : e.k = 2 ∧ e.g = false
  · obtain ⟨h1, h2⟩ := may_data h c.1 c.2
    obtain ⟨q1, q2⟩ := encOf h1
    have e1 : datL e = encB e.v := by unfold datL; rw [if_pos c]
    have e2 := (encOk h1).2.1
    rw [e1]
    refine ⟨q1, q2, fun _ _ => ⟨e2, ?_⟩, fun h => ?_⟩
    · rw [e2]; unfold encV headB; simp
    · rcases h with h | h
      · exact absurd c.1 h
      · rw [c.2] at h; cases h
  · have e1 : datL e = [] := by unfold datL; rw [if_neg c]
    rw [e1]
    exact ⟨(fun x hx => by cases hx), by simp, fun h1 h2 => absurd ⟨h1, h2⟩ c, fun _ => rfl⟩
theorem tail_oct {k : Int} {dl : List Nat} (h : Oct dl) (d : Bool) : Oct (tail k dl d) := by
  unfold tail
  split
  · split
    · exact one_oct (by omega)
    · exact ((one_oct (by omega)).app (uv_oct _)).app h
  · intro x hx; cases hx
theorem tail_len {k : Int} {dl : List Nat} (h : dl.length ≤ 65536) (d : Bool) : (tail k dl d).length ≤ 65536 + 20 := by
  have := uv_ten dl.length (by omega)
  unfold tail
  split
  · split
    · simp
    · simp only [List.length_append, List.length_cons, List.length_nil]; omega
  · simp
theorem itm_oct {e : En} (hw : EnW e) (h : mayE e = 0) (d : Bool) : Oct (itmB d e) := (ent_oct hw (may_form h).num).app (tail_oct (dat_ok h).1 d)
theorem itm_len {e : En} (hw : EnW e) (h : mayE e = 0) (d : Bool) : (itmB d e).length ≤ 70000 := by
  have a := ent_len hw (may_form h).num
  have b := tail_len (k := e.k) (dat_ok h).2.1 d
  unfold itmB
  rw [List.length_append]
  omega
theorem itms_len (d : Bool) : ∀ {l : List En}, (∀ e ∈ l, EnW e) → (∀ e ∈ l, mayE e = 0) → (l.flatMap (itmB d)).length ≤ 70000 * l.length
  | [], _, _ => by simp
  | e :: r, h1, h2 => by
    have a := itm_len (h1 e (by simp)) (h2 e (by simp)) d
    have b := itms_len d (l := r) (fun x hx => h1 x (by simp [hx])) (fun x hx => h2 x (by simp [hx]))
    simp only [List.flatMap_cons, List.length_append, List.length_cons]
    omega
theorem itms_oct (d : Bool) : ∀ {l : List En}, (∀ e ∈ l, EnW e) → (∀ e ∈ l, mayE e = 0) → Oct (l.flatMap (itmB d))
  | [], _, _ => fun x hx => by cases hx
  | e :: r, h1, h2 => by
    simp only [List.flatMap_cons]
    exact (itm_oct (h1 e (by simp)) (h2 e (by simp)) d).app (itms_oct d (l := r) (fun x hx => h1 x (by simp [hx])) (fun x hx => h2 x (by simp [hx])))
theorem hed_len {b : Bk} (h : BkW b) : (hedB b).length ≤ 62 := by
  have a1 := uvI_len (n := b.ix) (by have := h.ix.2; omega)
  have a2 := uvI_len (n := b.tm) (by have := h.tm.2; omega)
  have a3 := uvI_len (n := b.tx) (by have := h.tx.2; omega)
  have a4 := h.pv.1
  unfold hedB
  simp only [List.length_append]
  omega
theorem hed_oct {b : Bk} (h : BkW b) : Oct (hedB b) := (((uvI_oct _).app (uvI_oct _)).app (uvI_oct _)).app h.pv.2
theorem blk_oct {b : Bk} (h : BkW b) (hf : fstE b.es = 0) (d : Bool) : Oct (blkB b d) := ((hed_oct h).app (uv_oct _)).app (itms_oct d h.es (fst_all hf))
end Go.Proofs.Ytmbglggodifboab.Sh
