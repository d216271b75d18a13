/-
  Blocks over lists: what an entry is, its bytes, a block's bytes, and the first reason why it is none. No program is named. · Arrays in memory: a block and its cells, what stores leave of it, and the operations on whole arrays as laws that leave the world under a name.
-/
import Derived.Test.YtlefdnjokppibaaGreatDoorVG12x
import Derived.Test.YtlefdnjokppibaaGreatDoorVG9x
import Derived.Deep.MidRow
import Derived.Maps.Range
import Derived.Maps.AppendAt
namespace Go.Proofs.YtlefdnjokppibaaGreatDoor.Sh
open Go.RowKit Math Mt
set_option linter.unusedVariables false
theorem encOk {p : Vt} (h : encE p = 0) : chkV p 1 = 0 ∧ encB p = encV p ∧ (encV p).length ≤ 65536 := by
  by_cases h1 : chkV p 1 = 0
  · by_cases h2 : 65536 < (encV p).length
    · have := (encE_long h1 h2).1
      omega
    · exact ⟨h1, (encE_yes h1 h2).2, by omega⟩
  · have := (encE_no h1).1
    omega
/-- Two values have the same bytes just if they are one. -/
theorem encOf {p : Vt} (ep : encE p = 0) : Oct (encB p) ∧ (encB p).length ≤ 65536 := by
  obtain ⟨a1, a2, a3⟩ := encOk ep
  rw [a2]
  exact ⟨encV_oct p (chk1 a1), a3⟩
/-- An entry. -/
structure En where
  k : Int
  t : ByteArray
  tb : Int
  dc : Int
  vr : Int
  v : Vt
  h : List Nat
  g : Bool
  ab : Int
  ae : Int
/-- A block. -/
structure Bk where
  ix : Int
  tm : Int
  tx : Int
  pv : List Nat
  es : List En
def zr : List Nat := List.replicate 32 0
/-- Nothing. -/
def nv : Vt := lf 0 0 0 em
def I64 (n : Int) : Prop := -9223372036854775808 ≤ n ∧ n < 9223372036854775808
/-- A digest. -/
def H32 (l : List Nat) : Prop := l.length = 32 ∧ Oct l
/-- What an entry of the language can be. -/
structure EnW (e : En) : Prop where
  k : I64 e.k
  t : e.t.size ≤ 140737488355328
  tb : I64 e.tb
  dc : I64 e.dc
  vr : I64 e.vr
  v : WfV e.v
  h : H32 e.h
  ab : I64 e.ab
  ae : I64 e.ae
structure BkW (b : Bk) : Prop where
  ix : I64 b.ix
  tm : I64 b.tm
  tx : I64 b.tx
  pv : H32 b.pv
  es : ∀ e ∈ b.es, EnW e
  len : b.es.length ≤ 140737488355328
abbrev inP (n lo hi : Int) : Prop := lo ≤ n ∧ n ≤ hi
def nvB (p : Vt) : Bool := decide (p.1.k = 0 ∧ p.1.n = 0 ∧ p.1.s = 0 ∧ p.1.t.size = 0 ∧ p.1.ns.length = 0 ∧ p.2.list.length = 0)
theorem nvB_iff (p : Vt) : nvB p = true ↔ p = nv := by
  unfold nvB
  rw [decide_eq_true_iff]
  constructor
  · rintro ⟨h1, h2, h3, h4, h5, h6⟩
    have e : p.1.t.data.toList = [] := List.eq_nil_of_length_eq_zero (by simpa using h4)
    have e2 : p.1.t.data = #[] := by rw [← Array.toList_inj]; exact e
    have e3 : p.1.t = ⟨#[]⟩ := by cases h : p.1.t with | mk d => rw [h] at e2; rw [← e2]
    exact vt_eq h1 h2 h3 (e3.trans rfl) (List.eq_nil_of_length_eq_zero h5) (fo_nil h6)
  · rintro rfl
    exact ⟨rfl, rfl, rfl, rfl, rfl, rfl⟩
/-- What the numbers of an entry may be: those of Text's length, Table, Doc, Version, At. -/
structure Sp where
  t0 : Int := 0
  t1 : Int := 0
  b0 : Int := 0
  b1 : Int := 0
  d0 : Int := 0
  d1 : Int := 0
  v0 : Int := 0
  v1 : Int := 0
  a0 : Int := 0
  a1 : Int := 0
def spn (k : Int) : Option Sp :=
  if k = 1 then some { t0 := 1, t1 := 4096 }
  else if k = 2 then some { b0 := 1, b1 := 64, d0 := 1, d1 := 65536, v1 := 2147483648 }
  else if k = 3 then some { b0 := 1, b1 := 64, d0 := 1, d1 := 65536, v0 := 1, v1 := 2147483648 }
  else if k = 4 then some { a1 := 2147483648 }
  else if k = 5 ∨ k = 7 then some { t0 := 1, t1 := 40, b0 := 1, b1 := 64 }
  else if k = 6 then some { b0 := 1, b1 := 64 }
  else none
structure Fit (s : Sp) (e : En) : Prop where
  t : inP (e.t.size : Int) s.t0 s.t1
  tb : inP e.tb s.b0 s.b1
  dc : inP e.dc s.d0 s.d1
  vr : inP e.vr s.v0 s.v1
  ab : inP e.ab s.a0 s.a1
  ae : inP e.ae s.a0 s.a1
def fitB (s : Sp) (e : En) : Bool := decide (inP (e.t.size : Int) s.t0 s.t1) && decide (inP e.tb s.b0 s.b1) && decide (inP e.dc s.d0 s.d1) && decide (inP e.vr s.v0 s.v1) && decide (inP e.ab s.a0 s.a1) && decide (inP e.ae s.a0 s.a1)
theorem fitB_iff {s : Sp} {e : En} : fitB s e = true ↔ Fit s e := by
  unfold fitB
  simp only [Bool.and_eq_true, decide_eq_true_iff]
  exact ⟨fun ⟨⟨⟨⟨⟨h1, h2⟩, h3⟩, h4⟩, h5⟩, h6⟩ => ⟨h1, h2, h3, h4, h5, h6⟩, fun h => ⟨⟨⟨⟨⟨h.t, h.tb⟩, h.dc⟩, h.vr⟩, h.ab⟩, h.ae⟩⟩
/-- Is it one, whatever the Data and the DataHash of a Revision are? -/
def restB (e : En) : Bool := if e.k = 2 then !e.g || nvB e.v else !e.g && nvB e.v && decide (e.h = zr)
def formB (e : En) : Bool := match spn e.k with
  | none => false
  | some s => fitB s e && restB e
abbrev Form (e : En) : Prop := formB e = true
theorem form_iff {e : En} : Form e ↔ ∃ s, spn e.k = some s ∧ Fit s e ∧ restB e = true := by
  unfold Form formB
  cases h : spn e.k with
  | none => simp
  | some s => simp [fitB_iff]
def hshV (p : Vt) : List Nat := D (0 :: encB p)
/-- An entry's error. -/
def mayE (e : En) : Int := if ¬ Form e then 3 else if e.k ≠ 2 ∨ e.g = true then 0 else if encE e.v ≠ 0 then encE e.v else if hshV e.v ≠ e.h then 18 else 0
def fstE : List En → Int
  | [] => 0
  | e :: r => if mayE e ≠ 0 then mayE e else fstE r
def uvI (n : Int) : List Nat := uv n.toNat
/-- An entry's bytes. -/
def entB (e : En) : List Nat := [e.k.toNat] ++ uvI e.tb ++ uvI e.dc ++ uvI e.vr ++ uv e.t.size ++ bts e.t ++ uvI e.ab ++ uvI e.ae ++ (if e.k = 2 then e.h else [])
/-- The bytes of its Data, if it has any. -/
def datL (e : En) : List Nat := if e.k = 2 ∧ e.g = false then encB e.v else []
/-- What stands behind an entry's bytes. -/
def tail (k : Int) (dl : List Nat) (data : Bool) : List Nat := if k = 2 then (if data = false ∨ dl = [] then [0] else [1] ++ uv dl.length ++ dl) else []
def itmB (data : Bool) (e : En) : List Nat := entB e ++ tail e.k (datL e) data
def hedB (b : Bk) : List Nat := uvI b.ix ++ uvI b.tm ++ uvI b.tx ++ b.pv
def blkB (b : Bk) (data : Bool) : List Nat := hedB b ++ uv b.es.length ++ b.es.flatMap (itmB data)
abbrev HeadP (b : Bk) (n : Int) : Prop := inP b.ix 0 2147483648 ∧ inP b.tm 0 9007199254740992 ∧ inP b.tx 0 9007199254740992 ∧ inP n 1 200
/-- A block's error. -/
def chkB (b : Bk) : Int := if ¬ HeadP b (b.es.length : Int) then 1 else if fstE b.es ≠ 0 then fstE b.es else if 262144 < (blkB b true).length then 5 else 0
theorem may_form {e : En} (h : mayE e = 0) : Form e := by
  unfold mayE at h
  by_cases c : Form e
  · exact c
  · rw [if_pos c] at h; cases h
theorem may_data {e : En} (h : mayE e = 0) (hk : e.k = 2) (hg : e.g = false) : encE e.v = 0 ∧ hshV e.v = e.h := by
  have hf := may_form h
  unfold mayE at h
  rw [if_neg (by simpa using hf), if_neg (by rw [hk, hg]; simp)] at h
  by_cases c : encE e.v = 0
  · rw [if_neg (by simpa using c)] at h
    by_cases d : hshV e.v = e.h
    · exact ⟨c, d⟩
    · rw [if_pos d] at h; cases h
  · rw [if_pos c] at h; exact absurd h c
theorem may_no {e : En} (h : ¬ Form e) : mayE e = 3 := by unfold mayE; rw [if_pos h]
theorem may_plain {e : En} (h : Form e) (hk : e.k ≠ 2 ∨ e.g = true) : mayE e = 0 := by unfold mayE; rw [if_neg (by simpa using h), if_pos hk]
theorem may_enc {e : En} (h : Form e) (hk : e.k = 2) (hg : e.g = false) (c : encE e.v ≠ 0) : mayE e = encE e.v := by unfold mayE; rw [if_neg (by simpa using h), if_neg (by rw [hk, hg]; simp), if_pos c]
theorem may_hash {e : En} (h : Form e) (hk : e.k = 2) (hg : e.g = false) (c : encE e.v = 0) (d : hshV e.v ≠ e.h) : mayE e = 18 := by unfold mayE; rw [if_neg (by simpa using h), if_neg (by rw [hk, hg]; simp), if_neg (by simpa using c), if_pos d]
theorem may_yes {e : En} (h : Form e) (hk : e.k = 2) (hg : e.g = false) (c : encE e.v = 0) (d : hshV e.v = e.h) : mayE e = 0 := by unfold mayE; rw [if_neg (by simpa using h), if_neg (by rw [hk, hg]; simp), if_neg (by simpa using c), if_neg (by simpa using d)]
theorem fst_all : ∀ {l : List En}, fstE l = 0 → ∀ e ∈ l, mayE e = 0
  | e :: r, h, x, hx => by
    unfold fstE at h
    by_cases c : mayE e = 0
    · rw [if_neg (by simpa using c)] at h
      rcases List.mem_cons.1 hx with rfl | hx
      · exact c
      · exact fst_all h x hx
    · rw [if_pos c] at h; exact absurd h c
theorem fst_snoc {e : En} : ∀ {l : List En}, fstE l = 0 → fstE (l ++ [e]) = mayE e
  | [], _ => by
    show (if mayE e ≠ 0 then mayE e else 0) = mayE e
    by_cases c : mayE e = 0
    · rw [if_neg (by simpa using c), c]
    · rw [if_pos c]
  | x :: r, h => by
    have hx := fst_all h x (by simp)
    have hr : fstE r = 0 := by unfold fstE at h; rw [if_neg (by simpa using hx)] at h; exact h
    show (if mayE x ≠ 0 then mayE x else fstE (r ++ [e])) = _
    rw [if_neg (by simpa using hx), fst_snoc hr]
theorem fst_app {m : List En} : ∀ {l : List En}, fstE l = 0 → fstE (l ++ m) = fstE m
  | [], _ => rfl
  | x :: r, h => by
    have hx := fst_all h x (by simp)
    have hr : fstE r = 0 := by unfold fstE at h; rw [if_neg (by simpa using hx)] at h; exact h
    show (if mayE x ≠ 0 then mayE x else fstE (r ++ m)) = _
    rw [if_neg (by simpa using hx), fst_app hr]
theorem fst_left {m : List En} : ∀ {l : List En}, fstE l ≠ 0 → fstE (l ++ m) = fstE l
  | [], h => absurd rfl h
  | x :: r, h => by
    show (if mayE x ≠ 0 then mayE x else fstE (r ++ m)) = if mayE x ≠ 0 then mayE x else fstE r
    by_cases c : mayE x = 0
    · rw [if_neg (by simpa using c), if_neg (by simpa using c)]
      refine fst_left fun h0 => h ?_
      unfold fstE; rw [if_neg (by simpa using c), h0]
    · rw [if_pos c, if_pos c]
theorem chk_zero {b : Bk} (h : chkB b = 0) : HeadP b (b.es.length : Int) ∧ fstE b.es = 0 ∧ (blkB b true).length ≤ 262144 := by
  unfold chkB at h
  by_cases c : HeadP b (b.es.length : Int)
  · rw [if_neg (fun q => q c)] at h
    by_cases d : fstE b.es = 0
    · rw [if_neg (by simpa using d)] at h
      by_cases e : 262144 < (blkB b true).length
      · rw [if_pos e] at h; cases h
      · exact ⟨c, d, by omega⟩
    · rw [if_pos d] at h; exact absurd h d
  · rw [if_pos c] at h; cases h
theorem chk_head {b : Bk} (h : ¬ HeadP b (b.es.length : Int)) : chkB b = 1 := by unfold chkB; rw [if_pos h]
theorem chk_may {b : Bk} (h : HeadP b (b.es.length : Int)) (d : fstE b.es ≠ 0) : chkB b = fstE b.es := by unfold chkB; rw [if_neg (fun q => q h), if_pos d]
theorem chk_long {b : Bk} (h : HeadP b (b.es.length : Int)) (d : fstE b.es = 0) (c : 262144 < (blkB b true).length) : chkB b = 5 := by unfold chkB; rw [if_neg (fun q => q h), if_neg (by simpa using d), if_pos c]
theorem chk_yes {b : Bk} (h : HeadP b (b.es.length : Int)) (d : fstE b.es = 0) (c : ¬ 262144 < (blkB b true).length) : chkB b = 0 := by unfold chkB; rw [if_neg (fun q => q h), if_neg (by simpa using d), if_neg c]
/-- What Form says of the numbers. -/
structure Num (e : En) : Prop where
  k : 1 ≤ e.k ∧ e.k ≤ 7
  t : e.t.size ≤ 4096
  tb : 0 ≤ e.tb ∧ e.tb ≤ 64
  dc : 0 ≤ e.dc ∧ e.dc ≤ 65536
  vr : 0 ≤ e.vr ∧ e.vr ≤ 2147483648
  ab : 0 ≤ e.ab ∧ e.ab ≤ 2147483648
  ae : 0 ≤ e.ae ∧ e.ae ≤ 2147483648
theorem Form.num {e : En} (h : Form e) : Num e := by
  obtain ⟨s, hs, f, _⟩ := form_iff.1 h
  have f1 := f.t; have f2 := f.tb; have f3 := f.dc; have f4 := f.vr; have f5 := f.ab; have f6 := f.ae
  unfold inP at f1 f2 f3 f4 f5 f6
  unfold spn at hs
  split at hs
  · cases hs; simp only at f1 f2 f3 f4 f5 f6; exact ⟨by omega, by omega, by omega, by omega, by omega, by omega, by omega⟩
  split at hs
  · cases hs; simp only at f1 f2 f3 f4 f5 f6; exact ⟨by omega, by omega, by omega, by omega, by omega, by omega, by omega⟩
  split at hs
  · cases hs; simp only at f1 f2 f3 f4 f5 f6; exact ⟨by omega, by omega, by omega, by omega, by omega, by omega, by omega⟩
  split at hs
  · cases hs; simp only at f1 f2 f3 f4 f5 f6; exact ⟨by omega, by omega, by omega, by omega, by omega, by omega, by omega⟩
  split at hs
  · cases hs; simp only at f1 f2 f3 f4 f5 f6; exact ⟨by omega, by omega, by omega, by omega, by omega, by omega, by omega⟩
  split at hs
  · cases hs; simp only at f1 f2 f3 f4 f5 f6; exact ⟨by omega, by omega, by omega, by omega, by omega, by omega, by omega⟩
  · cases hs
theorem uvI_len {n : Int} (h : n ≤ 9223372036854775807) : (uvI n).length ≤ 10 := uv_ten _ (by omega)
theorem uvI_oct (n : Int) : Oct (uvI n) := uv_oct _
theorem ent_len {e : En} (hw : EnW e) (h : Num e) : (entB e).length ≤ 4096 + 100 := by
  have a1 := uvI_len (n := e.tb) (by have := h.tb; omega)
  have a2 := uvI_len (n := e.dc) (by have := h.dc; omega)
  have a3 := uvI_len (n := e.vr) (by have := h.vr; omega)
  have a4 := uvI_len (n := e.ab) (by have := h.ab; omega)
  have a5 := uvI_len (n := e.ae) (by have := h.ae; omega)
  have a6 := uv_ten e.t.size (by have := h.t; omega)
  have a7 := h.t
  have a8 := hw.h.1
  have a9 : (if e.k = 2 then e.h else []).length ≤ 32 := by split <;> simp [a8]
  unfold entB
  simp only [List.length_append, bts_len, List.length_cons, List.length_nil]
  omega
theorem ent_oct {e : En} (hw : EnW e) (h : Num e) : Oct (entB e) := by
  have hk := h.k
  unfold entB
  refine ((((((((one_oct (by omega)).app (uvI_oct _)).app (uvI_oct _)).app (uvI_oct _)).app (uv_oct _)).app (bts_oct _)).app (uvI_oct _)).app (uvI_oct _)).app ?_
  split
  · exact hw.h.2
  · intro x hx; cases hx
theorem dat_ok {e : En} (h : mayE e = 0) : Oct (datL e) ∧ (datL e).length ≤ 65536 ∧ (e.k = 2 → e.g = false → datL e = encV e.v ∧ datL e ≠ []) ∧ (e.k ≠ 2 ∨ e.g = true → datL e = []) := by
  by_cases c : e.k = 2 ∧ e.g = false
  · obtain ⟨h1, h2⟩ := may_data h c.1 c.2
    obtain ⟨q1, q2⟩ := encOf h1
    have e1 : datL e = encB e.v := by unfold datL; rw [if_pos c]
    have e2 := (encOk h1).2.1
    rw [e1]
    refine ⟨q1, q2, fun _ _ => ⟨e2, ?_⟩, fun h => ?_⟩
    · rw [e2]; unfold encV headB; simp
    · rcases h with h | h
      · exact absurd c.1 h
      · rw [c.2] at h; cases h
  · have e1 : datL e = [] := by unfold datL; rw [if_neg c]
    rw [e1]
    exact ⟨(fun x hx => by cases hx), by simp, fun h1 h2 => absurd ⟨h1, h2⟩ c, fun _ => rfl⟩
theorem tail_oct {k : Int} {dl : List Nat} (h : Oct dl) (d : Bool) : Oct (tail k dl d) := by
  unfold tail
  split
  · split
    · exact one_oct (by omega)
    · exact ((one_oct (by omega)).app (uv_oct _)).app h
  · intro x hx; cases hx
theorem tail_len {k : Int} {dl : List Nat} (h : dl.length ≤ 65536) (d : Bool) : (tail k dl d).length ≤ 65536 + 20 := by
  have := uv_ten dl.length (by omega)
  unfold tail
  split
  · split
    · simp
    · simp only [List.length_append, List.length_cons, List.length_nil]; omega
  · simp
theorem itm_oct {e : En} (hw : EnW e) (h : mayE e = 0) (d : Bool) : Oct (itmB d e) := (ent_oct hw (may_form h).num).app (tail_oct (dat_ok h).1 d)
theorem itm_len {e : En} (hw : EnW e) (h : mayE e = 0) (d : Bool) : (itmB d e).length ≤ 70000 := by
  have a := ent_len hw (may_form h).num
  have b := tail_len (k := e.k) (dat_ok h).2.1 d
  unfold itmB
  rw [List.length_append]
  omega
theorem itms_len (d : Bool) : ∀ {l : List En}, (∀ e ∈ l, EnW e) → (∀ e ∈ l, mayE e = 0) → (l.flatMap (itmB d)).length ≤ 70000 * l.length
  | [], _, _ => by simp
  | e :: r, h1, h2 => by
    have a := itm_len (h1 e (by simp)) (h2 e (by simp)) d
    have b := itms_len d (l := r) (fun x hx => h1 x (by simp [hx])) (fun x hx => h2 x (by simp [hx]))
    simp only [List.flatMap_cons, List.length_append, List.length_cons]
    omega
theorem itms_oct (d : Bool) : ∀ {l : List En}, (∀ e ∈ l, EnW e) → (∀ e ∈ l, mayE e = 0) → Oct (l.flatMap (itmB d))
  | [], _, _ => fun x hx => by cases hx
  | e :: r, h1, h2 => by
    simp only [List.flatMap_cons]
    exact (itm_oct (h1 e (by simp)) (h2 e (by simp)) d).app (itms_oct d (l := r) (fun x hx => h1 x (by simp [hx])) (fun x hx => h2 x (by simp [hx])))
theorem hed_len {b : Bk} (h : BkW b) : (hedB b).length ≤ 62 := by
  have a1 := uvI_len (n := b.ix) (by have := h.ix.2; omega)
  have a2 := uvI_len (n := b.tm) (by have := h.tm.2; omega)
  have a3 := uvI_len (n := b.tx) (by have := h.tx.2; omega)
  have a4 := h.pv.1
  unfold hedB
  simp only [List.length_append]
  omega
theorem hed_oct {b : Bk} (h : BkW b) : Oct (hedB b) := (((uvI_oct _).app (uvI_oct _)).app (uvI_oct _)).app h.pv.2
theorem blk_oct {b : Bk} (h : BkW b) (hf : fstE b.es = 0) (d : Bool) : Oct (blkB b d) := ((hed_oct h).app (uv_oct _)).app (itms_oct d h.es (fst_all hf))
end Go.Proofs.YtlefdnjokppibaaGreatDoor.Sh
namespace Go.Proofs.YtlefdnjokppibaaGreatDoor.Sh
open Go.RowKit Mt
theorem cell_lt {w : World} {b o : Nat} {v : Value} (h : w.cell? ⟨b, o, none⟩ = some v) : b < w.heap.size := by
  apply Nat.lt_of_not_le; intro hle
  have : w.heap[b]? = none := Array.getElem?_eq_none hle
  simp [World.cell?, this] at h
theorem ret_int {k : IntKind} {a b : Int} (h : a = b) : Ending.returned (.int k a) = .returned (.int k b) := by rw [h]

def nums (k : IntKind) (l : List Nat) : List Value := l.map fun n : Nat => Value.int k (n : Int)
theorem nums_length (k : IntKind) (l : List Nat) : (nums k l).length = l.length := by simp [nums]
theorem nums_get (k : IntKind) (l : List Nat) (i : Nat) (h : i < l.length) : (nums k l)[i]? = some (.int k ((l.getD i 0 : Nat) : Int)) := by
  simp [nums, List.getD_eq_getElem?_getD, List.getElem?_eq_getElem h]
theorem nums_one (k : IntKind) (l : List Nat) : ∀ u ∈ nums k l, u.oneCell' = true := by
  intro u hu
  obtain ⟨_, _, rfl⟩ := List.mem_map.1 hu
  rfl
theorem nums_set (k : IntKind) (l : List Nat) (i x : Nat) : (nums k l).set i (.int k (x : Int)) = nums k (l.set i x) := by
  simp [nums, List.map_set]
theorem nums_append (k : IntKind) (l m : List Nat) : nums k (l ++ m) = nums k l ++ nums k m := by simp [nums]
/-- A block of cells, whole. -/
def Blk (w : World) (b : Nat) (t : TypeId) (vs : List Value) : Prop := w.heap[b]? = some (.cells vs.toArray t (0, 0))
theorem Blk.lt {w : World} {b : Nat} {t : TypeId} {vs : List Value} (h : Blk w b t vs) : b < w.heap.size := (Array.getElem?_eq_some_iff.1 h).1
theorem Blk.cell {w : World} {b : Nat} {t : TypeId} {vs : List Value} (h : Blk w b t vs) (i : Nat) : w.cell? ⟨b, i, none⟩ = vs[i]? := by
  rw [cell_of_row w b i _ t (0, 0) h]; simp
theorem Blk.num {w : World} {b : Nat} {t : TypeId} {k : IntKind} {l : List Nat} (h : Blk w b t (nums k l)) (i : Nat) (hi : i < l.length) : w.cell? ⟨b, i, none⟩ = some (.int k ((l.getD i 0 : Nat) : Int)) := by
  rw [h.cell, nums_get k l i hi]
theorem Blk.frozen {w : World} {b : Nat} {t : TypeId} {vs : List Value} (h : Blk w b t vs) (i : Nat) : w.frozen? ⟨b, i, none⟩ = false := frozen_of_row w b i _ t h
theorem Blk.range {w : World} {b : Nat} {t : TypeId} {p m q : List Value} (h : Blk w b t (p ++ (m ++ q))) : w.rangeAt b p.length m := fun j v hj => by
  have hl : j < m.length := (List.getElem?_eq_some_iff.1 hj).1
  rw [h.cell, List.getElem?_append_right (by omega), Nat.add_sub_cancel_left, List.getElem?_append_left hl, hj]
theorem Blk.all {w : World} {b : Nat} {t : TypeId} {m : List Value} (h : Blk w b t m) : w.rangeAt b 0 m := fun j v hj => by
  rw [h.cell, Nat.zero_add, hj]
theorem Blk.there {w : World} {b : Nat} {t : TypeId} {vs : List Value} (h : Blk w b t vs) (o n : Nat) (hn : o + n ≤ vs.length) : w.there b o n := fun j hj => by
  refine ⟨?_, h.frozen _⟩
  rw [h.cell, List.getElem?_eq_getElem (by omega)]; rfl
theorem Blk.kept {w w' : World} {b : Nat} {t : TypeId} {vs : List Value} {row : Option Nat} (h : Blk w b t vs) (hg : w.grownBy w' row) (hne : some b ≠ row) : Blk w' b t vs := by
  unfold Blk; rw [hg.block b h.lt hne]; exact h
theorem Blk.below {w w' : World} {b B : Nat} {t : TypeId} {vs : List Value} (h : Blk w b t vs) (hg : Below B w w') (hb : b < B) : Blk w' b t vs := by
  unfold Blk; rw [hg.block b hb]; exact h
theorem Blk.drewN {w : World} {b : Nat} {t : TypeId} {vs : List Value} (h : Blk w b t vs) (q : Nat) : Blk (w.drewN q) b t vs := by
  unfold Blk at *; simpa [World.drewN] using h
theorem Blk.alloc {w : World} {b : Nat} {t : TypeId} {vs : List Value} (h : Blk w b t vs) (o : Obj) : Blk (w.alloc o) b t vs := h.kept (World.grownBy_alloc w o none) (by simp)
theorem blk_new (w : World) (t : TypeId) (vs : List Value) : Blk (w.alloc (.cells vs.toArray t)) w.heap.size t vs := heap_alloc_new w _
theorem grown_setCell (w : World) (a : Addr) (u : Value) : w.grownBy (w.setCell a u) (some a.block) :=
  ⟨rfl, rfl, rfl, by simp [World.setCell], fun k _ hk => Below.heap_setCell _ _ _ _ (fun e => hk (by rw [e]))⟩
theorem Blk.set {w : World} {b : Nat} {t : TypeId} {vs : List Value} (h : Blk w b t vs) (i : Nat) (v : Value) : Blk (w.setCell ⟨b, i, none⟩ v) b t (vs.set i v) := by
  have := heap_setCell_same w b i _ t v h
  unfold Blk; rw [this]; simp
theorem Blk.setNum {w : World} {b : Nat} {t : TypeId} {k : IntKind} {l : List Nat} (h : Blk w b t (nums k l)) (i x : Nat) : Blk (w.setCell ⟨b, i, none⟩ (.int k (x : Int))) b t (nums k (l.set i x)) := by
  rw [← nums_set]; exact h.set i _
theorem Blk.setOther {w : World} {b : Nat} {t : TypeId} {vs : List Value} (h : Blk w b t vs) {a : Addr} (ha : a.block ≠ b) (u : Value) : Blk (w.setCell a u) b t vs :=
  h.kept (grown_setCell w a u) (fun e => ha (Option.some.inj e).symm)
theorem grown_setCells (b : Nat) : ∀ (vs : List Value) (o : Nat) (w : World), w.grownBy (w.setCells b o vs) (some b)
  | [], _, w => World.grownBy.refl w _
  | v :: r, o, w => (grown_setCell w ⟨b, o, none⟩ v).trans (grown_setCells b r (o + 1) _)
theorem Blk.setCells {b : Nat} {t : TypeId} (q : List Value) : ∀ (m' m p : List Value) (w : World), m'.length = m.length → Blk w b t (p ++ (m ++ q)) → Blk (w.setCells b p.length m') b t (p ++ (m' ++ q))
  | [], [], p, w, _, h => h
  | v :: r, u :: m, p, w, hl, h => by
    have h1 := h.set p.length v
    have e : (p ++ (u :: m ++ q)).set p.length v = (p ++ [v]) ++ (m ++ q) := by
      rw [List.set_append_right _ _ (Nat.le_refl _), Nat.sub_self]; simp
    rw [e] at h1
    have h2 := Blk.setCells q r m (p ++ [v]) _ (by simpa using hl) h1
    rw [World.setCells]
    simpa using h2

/-! ### the operations -/
variable {P : Program} {ops : Array Oper} {rest : List Oper} {o : Oper} {a : Act} {w : World} {Q : Exit → Act → World → Prop}
/-- A new variable of an array's type. -/
theorem al_zero (hg : o.guard = none) (t : TypeId) (ho : o.op = .alloc t) (cs : List Value) (hz : (P.info? t).map (fun i => i.zero.map (·.cells)) = some (some cs.toArray))
    (h : ∀ g w', w.heap.size ≤ g → Blk w' g t cs → w.grownBy w' none → wpList P ops Q rest (a.put o.dst (.pointer (some ⟨g, 0, none⟩))) w') : wpList P ops Q (o :: rest) a w := by
  refine wpList_plain hg fun K hK => ?_
  unfold Oper.wp execOp
  cases hi : P.info? t with
  | none => simp [hi] at hz
  | some i =>
    cases hq : i.zero with
    | none => simp [hi, hq] at hz
    | some z =>
      have hc : z.cells = cs.toArray := by simpa [hi, hq] using hz
      have hzv : (zeroValue t).run P w = .ok z w := by simp [zeroValue, typeInfo, hi, hq]
      simp only [ho, Sem.run_bind, Instr.alloc, hzv, newVar, newRow, run_newObj_alloc, Sem.run_pure, Result.andThen_ok, hc]
      exact hK _ _ (h _ _ (Nat.le_refl _) (blk_new w t cs) (World.grownBy_alloc w _ none))
/-- A parameter gets a place of its own. -/
theorem al_box (hg : o.guard = none) (t : TypeId) (x : Operand) (ho : o.op = .box t x) (cs : List Value) (hx : a.eval x = .agg cs.toArray)
    (h : ∀ g w', w.heap.size ≤ g → Blk w' g t cs → w.grownBy w' none → wpList P ops Q rest (a.put o.dst (.pointer (some ⟨g, 0, none⟩))) w') : wpList P ops Q (o :: rest) a w := by
  refine wpList_plain hg fun K hK => ?_
  unfold Oper.wp execOp
  simp only [ho, hx, Value.cells, Sem.run_bind, Instr.box, newVar, newRow, run_newObj_alloc, Sem.run_pure, Result.andThen_ok]
  exact hK _ _ (h _ _ (Nat.le_refl _) (blk_new w t cs) (World.grownBy_alloc w _ none))
/-- A whole array is stored. -/
theorem st_row (hg : o.guard = none) (ty : TypeId) (x y : Operand) (ho : o.op = .store ty x y) (b off : Nat) (t : TypeId) (p m q m' : List Value)
    (hx : a.eval x = .pointer (some ⟨b, off, none⟩)) (hy : a.eval y = .agg m'.toArray) (hp : p.length = off) (hb : Blk w b t (p ++ (m ++ q))) (hl : m'.length = m.length)
    (hi : (P.info? ty).map (·.size) = some m'.length) (h1 : ∀ v ∈ m', v.oneCell' = true)
    (h : ∀ w', Blk w' b t (p ++ (m' ++ q)) → w.grownBy w' (some b) → wpList P ops Q rest (a.put o.dst undef) w') : wpList P ops Q (o :: rest) a w := by
  subst hp
  refine wpList_store_mid hg ty x y ho b p.length m'.toArray hx hy (hb.there _ _ (by simp; omega)) (by simpa using hi) (all_oneCell_toArray h1) ?_
  exact h _ (by simpa using Blk.setCells q m' m p w hl hb) (by simpa using grown_setCells b m' p.length w)
theorem st_all (hg : o.guard = none) (ty : TypeId) (x y : Operand) (ho : o.op = .store ty x y) (b : Nat) (t : TypeId) (m m' : List Value)
    (hx : a.eval x = .pointer (some ⟨b, 0, none⟩)) (hy : a.eval y = .agg m'.toArray) (hb : Blk w b t m) (hl : m'.length = m.length)
    (hi : (P.info? ty).map (·.size) = some m'.length) (h1 : ∀ v ∈ m', v.oneCell' = true)
    (h : ∀ w', Blk w' b t m' → w.grownBy w' (some b) → wpList P ops Q rest (a.put o.dst undef) w') : wpList P ops Q (o :: rest) a w :=
  st_row hg ty x y ho b 0 t [] m [] m' hx hy rfl (by simpa using hb) hl hi h1 (fun w' h2 h3 => h w' (by simpa using h2) h3)
theorem ld_all (hg : o.guard = none) (ty : TypeId) (x : Operand) (ho : o.op = .load ty x) (b : Nat) (t : TypeId) (m : List Value) (n : Nat) (e : TypeId)
    (hx : a.eval x = .pointer (some ⟨b, 0, none⟩)) (hb : Blk w b t m) (hu : P.underlying ty = some (.array n e)) (hi : (P.info? ty).map (·.size) = some m.length)
    (h : wpList P ops Q rest (a.put o.dst (.agg m.toArray)) w) : wpList P ops Q (o :: rest) a w :=
  wpList_load_mid hg ty x ho b 0 hx m _ hb.all hu rfl hi h
/-- A number is stored into a row of numbers. -/
theorem st_num (hg : o.guard = none) (ty : TypeId) (x y : Operand) (ho : o.op = .store ty x y) (b i : Nat) (t : TypeId) (k : IntKind) (l : List Nat) (v : Int) (n : Nat)
    (hx : a.eval x = .pointer (some ⟨b, i, none⟩)) (hy : a.eval y = .int k v) (hv : v = (n : Int)) (hb : Blk w b t (nums k l)) (hi : i < l.length) (hs : (P.info? ty).map (·.size) = some 1)
    (h : ∀ w', Blk w' b t (nums k (l.set i n)) → w.grownBy w' (some b) → wpList P ops Q rest (a.put o.dst undef) w') : wpList P ops Q (o :: rest) a w := by
  subst hv
  have hst := run_storeCells_cells (P := P) b i [.int k (n : Int)] 0 w (fun j hj => by
      have : j = 0 := by simpa using hj
      subst this
      rw [Nat.add_zero, hb.num i hi]; rfl) (fun j hj => hb.frozen _) (by simp [Value.oneCell'])
  refine wpList_plain hg fun K hK => ?_
  unfold Oper.wp execOp
  cases hq : P.info? ty with
  | none => simp [hq] at hs
  | some q =>
    have hq1 : q.size = 1 := by simpa [hq] using hs
    simp only [Nat.add_zero] at hst
    have hsv : (storeVar ty ⟨b, i, none⟩ (.int k (n : Int))).run P w = .ok () (w.setCells b i [.int k (n : Int)]) := by
      simp [storeVar, Go.sizeOf, typeInfo, hq, Value.cells, hq1, hst]
    simp only [ho, hx, hy, Instr.storeAt, Instr.sureAddr, Sem.run_bind, Sem.run_pure, Result.andThen_ok, hsv]
    exact hK _ _ (h _ (hb.setNum i n) (grown_setCell w _ _))
/-- A result that is an array, out of its cell. -/
theorem res_row {fn : Func} {p : Tmp} {ty : TypeId} (h : fn.results = #[.cell p ty]) (tmps : Array Value) (g : Nat) (t : TypeId) (cs : List Value) (d : TypeDesc)
    (hp : tmps.getD p undef = .pointer (some ⟨g, 0, none⟩)) (hg : Blk w g t cs) (hu : P.underlying ty = some d) (hd : d.isRow = true) (hi : (P.info? ty).map (·.size) = some cs.length) :
    (results fn tmps).run P w = .ok (.agg cs.toArray) w :=
  results_cell_row h tmps w g t cs.toArray (0, 0) d hp hg hu (by cases d <;> simp_all [TypeDesc.isRow]) (by simpa using hi)
/-- An element of an array that is a value. -/
theorem idx_run {t : TypeId} {n : Nat} {e : TypeId} (hu : P.underlying t = some (.array n e)) (hs : ∀ w, (Go.sizeOf e).run P w = .ok 1 w) (ha : ∀ w, (isAgg e).run P w = .ok false w)
    (k : IntKind) (l : List Nat) (i : Nat) (hi : i < n) (hl : i < l.length) (w : World) :
    (Instr.index t (.agg (nums k l).toArray) (.int .i64 (i : Int))).run P w = .ok (.int k ((l.getD i 0 : Nat) : Int)) w := by
  have hv : (nums k l).toArray[i]? = some (.int k ((l.getD i 0 : Nat) : Int)) := by rw [List.getElem?_toArray, nums_get k l i hl]
  have h0 : (0 : Int) ≤ (i : Int) ∧ (i : Int) < (n : Int) := ⟨by omega, by omega⟩
  simp only [Instr.index, asIntOf, Sem.run_bind, Sem.run_pure, Result.andThen_ok, run_underlying hu w, h0, and_self, if_true, hs, part, ha, Int.toNat_natCast, Nat.mul_one, hv, Bool.false_eq_true, if_false]
theorem z25 : (Tryz.prog.info? 23).map (fun i => i.zero.map (·.cells)) = some (some (nums .u8 (List.replicate 32 0)).toArray) := by kernel_rfl
theorem z41 : (Tryz.prog.info? 99).map (fun i => i.zero.map (·.cells)) = some (some (nums .u32 (List.replicate 8 0)).toArray) := by kernel_rfl
theorem z50 : (Tryz.prog.info? 107).map (fun i => i.zero.map (·.cells)) = some (some (nums .u32 (List.replicate 64 0)).toArray) := by kernel_rfl
theorem s25 : (Tryz.prog.info? 23).map (·.size) = some 32 := by kernel_rfl
theorem s41 : (Tryz.prog.info? 99).map (·.size) = some 8 := by kernel_rfl
theorem s42 : (Tryz.prog.info? 100).map (·.size) = some 64 := by kernel_rfl
theorem s50 : (Tryz.prog.info? 107).map (·.size) = some 64 := by kernel_rfl
theorem s40 : (Tryz.prog.info? 98).map (·.size) = some 1 := by kernel_rfl
theorem s5 : (Tryz.prog.info? 5).map (·.size) = some 1 := by kernel_rfl
theorem s45 : (Tryz.prog.info? 102).map (·.size) = some 73 := by kernel_rfl
end Go.Proofs.YtlefdnjokppibaaGreatDoor.Sh
