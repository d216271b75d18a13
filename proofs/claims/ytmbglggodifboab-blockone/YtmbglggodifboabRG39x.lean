/-
  A block's bytes, read: over lists, no program is named. · The document's own reader of codec: one, number, count, text. · The document's own reader of codec: number, count, text.
-/
import Derived.Test.YtmbglggodifboabRBa
import Derived.Test.YtmbglggodifboabRG38x
import Derived.Test.YtmbglggodifboabRG30x
import Derived.Laws.BytesArg
namespace Go.Proofs.Ytmbglggodifboab.Sh
open Go.RowKit Math Mt
set_option linter.unusedVariables false
def nR : Rdr Nat := uvR.bind fun u => if 9007199254740992 < u then .no 3 else .ret u
def tR : Rdr ByteArray := nR.bind fun n => (takeR n).bind fun b => .ret (ofB b)
def dvR : Rdr (Vt × Bool) := nR.bind fun n => (takeR n).bind fun d => if decE d = 0 then .ret (decP d, false) else .no 3
def dtR : Rdr (Vt × Bool) := byR.bind fun x => if x = 0 then .ret (nv, true) else if x = 1 then dvR else .no 3
def rvR (k tb dc vr : Nat) (t : ByteArray) (ab ae : Nat) : Rdr En := if k = 2 then (takeR 32).bind fun h => dtR.bind fun d => .ret ⟨k, t, tb, dc, vr, d.1, h, d.2, ab, ae⟩ else .ret ⟨k, t, tb, dc, vr, nv, zr, false, ab, ae⟩
/-- An entry, be it one or not. -/
def enR : Rdr En := byR.bind fun k => nR.bind fun tb => nR.bind fun dc => nR.bind fun vr => tR.bind fun t => nR.bind fun ab => nR.bind fun ae => rvR k tb dc vr t ab ae
def esR : Nat → Rdr (List En)
  | 0 => .ret []
  | n + 1 => (esR n).bind fun l => enR.bind fun e => .ret (l ++ [e])
def bkR : Rdr Bk := nR.bind fun ix => nR.bind fun tm => nR.bind fun tx => (takeR 32).bind fun pv => nR.bind fun n => (esR n).bind fun es => .ret ⟨ix, tm, tx, pv, es⟩
/-- What Decode answers. -/
def decB (L : List Nat) : Int := match bkR L with
  | .error e => (e : Int)
  | .ok (b, r) => if r ≠ [] then 3 else if chkB b ≠ 0 then chkB b else if 262144 < L.length then 5 else 0
def noB : Bk := ⟨0, 0, 0, zr, []⟩
def decK (L : List Nat) : Bk := match bkR L with
  | .error _ => noB
  | .ok (b, _) => if decB L = 0 then b else noB
theorem good_n : Good nR := good_bind good_uv fun u => good_if (good_no _) (good_ret _)
theorem good_t : Good tR := good_bind good_n fun n => good_bind (good_take n) fun b => good_ret _
theorem good_dv : Good dvR := good_bind good_n fun n => good_bind (good_take n) fun d => good_if (good_ret _) (good_no _)
theorem good_dt : Good dtR := good_bind good_by fun x => good_if (good_ret _) (good_if good_dv (good_no _))
theorem good_rv (k tb dc vr : Nat) (t : ByteArray) (ab ae : Nat) : Good (rvR k tb dc vr t ab ae) := good_if (good_bind (good_take 32) fun h => good_bind good_dt fun d => good_ret _) (good_ret _)
theorem good_en : Good enR := good_bind good_by fun k => good_bind good_n fun tb => good_bind good_n fun dc => good_bind good_n fun vr => good_bind good_t fun t => good_bind good_n fun ab => good_bind good_n fun ae => good_rv k tb dc vr t ab ae
theorem good_es : ∀ n, Good (esR n)
  | 0 => good_ret _
  | n + 1 => good_bind (good_es n) fun l => good_bind good_en fun e => good_ret _
theorem good_bk : Good bkR := good_bind good_n fun ix => good_bind good_n fun tm => good_bind good_n fun tx => good_bind (good_take 32) fun pv => good_bind good_n fun n => good_bind (good_es n) fun es => good_ret _
theorem nz_n : Nz nR := nz_bind nz_uv fun u => nz_if (nz_no (by decide)) (nz_ret _)
theorem nz_t : Nz tR := nz_bind nz_n fun n => nz_bind (nz_take n) fun b => nz_ret _
theorem nz_dv : Nz dvR := nz_bind nz_n fun n => nz_bind (nz_take n) fun d => nz_if (nz_ret _) (nz_no (by decide))
theorem nz_dt : Nz dtR := nz_bind nz_by fun x => nz_if (nz_ret _) (nz_if nz_dv (nz_no (by decide)))
theorem nz_rv (k tb dc vr : Nat) (t : ByteArray) (ab ae : Nat) : Nz (rvR k tb dc vr t ab ae) := nz_if (nz_bind (nz_take 32) fun h => nz_bind nz_dt fun d => nz_ret _) (nz_ret _)
theorem nz_en : Nz enR := nz_bind nz_by fun k => nz_bind nz_n fun tb => nz_bind nz_n fun dc => nz_bind nz_n fun vr => nz_bind nz_t fun t => nz_bind nz_n fun ab => nz_bind nz_n fun ae => nz_rv k tb dc vr t ab ae
theorem nz_es : ∀ n, Nz (esR n)
  | 0 => nz_ret _
  | n + 1 => nz_bind (nz_es n) fun l => nz_bind nz_en fun e => nz_ret _
theorem nz_bk : Nz bkR := nz_bind nz_n fun ix => nz_bind nz_n fun tm => nz_bind nz_n fun tx => nz_bind (nz_take 32) fun pv => nz_bind nz_n fun n => nz_bind (nz_es n) fun es => nz_ret _
/-! ### what is written is read -/
theorem reads_n {u : Nat} (h : u ≤ 9007199254740992) : Reads nR (uv u) u := by
  have := reads_bind (g := fun u => if 9007199254740992 < u then .no 3 else .ret u) (reads_uv u (by omega)) (c2 := []) (y := u) (by rw [if_neg (by omega)]; exact reads_ret u)
  rw [List.append_nil] at this
  exact this
theorem reads_nI {n : Int} (h0 : 0 ≤ n) (h : n ≤ 9007199254740992) : Reads nR (uvI n) n.toNat := reads_n (by omega)
theorem reads_take (c : List Nat) : Reads (takeR c.length) c c := fun m => by
  unfold takeR
  rw [if_neg (by simp), List.take_left, List.drop_left]
theorem reads_t {s : ByteArray} (h : s.size ≤ 9007199254740992) : Reads tR (uv s.size ++ bts s) s := by
  refine reads_bind (reads_n h) ?_
  have h2 := reads_take (bts s)
  rw [bts_len] at h2
  have := reads_to h2 ofB
  rw [ofB_bts] at this
  exact this
theorem reads_dt {e : En} (hw : EnW e) (h : mayE e = 0) (hk : e.k = 2) : Reads dtR (tail e.k (datL e) true) (e.v, e.g) := by
  obtain ⟨d1, d2, d3, d4⟩ := dat_ok h
  cases hg : e.g with
  | true =>
    have hv : e.v = nv := by
      obtain ⟨s, _, _, hr⟩ := form_iff.1 (may_form h)
      unfold restB at hr
      rw [if_pos hk, hg] at hr
      exact (nvB_iff _).1 (by simpa using hr)
    have e1 : tail e.k (datL e) true = [0] := by unfold tail; rw [if_pos hk, if_pos (.inr (d4 (.inr hg)))]
    rw [e1, hv]
    have := reads_bind (g := fun x => if x = 0 then .ret (nv, true) else if x = 1 then dvR else .no 3) (reads_by 0) (c2 := []) (y := (nv, true)) (by rw [if_pos rfl]; exact reads_ret _)
    exact this
  | false =>
    obtain ⟨e1, e2⟩ := d3 hk hg
    have e3 : tail e.k (datL e) true = [1] ++ (uv (datL e).length ++ datL e) := by unfold tail; rw [if_pos hk, if_neg (by simp [e2]), List.append_assoc]
    obtain ⟨q1, q2⟩ := dec_self hw.v (may_data h hk hg).1
    rw [e3]
    refine reads_bind (reads_by 1) ?_
    rw [if_neg (by decide), if_pos rfl]
    refine reads_bind (reads_n (by omega)) ?_
    have := reads_bind (g := fun d => if decE d = 0 then .ret (decP d, false) else .no 3) (reads_take (datL e)) (c2 := []) (y := (e.v, false)) (by rw [e1, if_pos q1, q2]; exact reads_ret _)
    rw [List.append_nil] at this
    exact this
theorem en_eta (e : En) (k : Nat) (hk : e.k = k) (tb dc vr ab ae : Nat) (h1 : e.tb = tb) (h2 : e.dc = dc) (h3 : e.vr = vr) (h4 : e.ab = ab) (h5 : e.ae = ae) (v : Vt) (h : List Nat) (g : Bool) (h6 : e.v = v) (h7 : e.h = h) (h8 : e.g = g) : (⟨k, e.t, tb, dc, vr, v, h, g, ab, ae⟩ : En) = e := by
  cases e; simp_all
theorem reads_en {e : En} (hw : EnW e) (h : mayE e = 0) : Reads enR (itmB true e) e := by
  have hn := (may_form h).num
  have h1 := hn.k; have h2 := hn.tb; have h3 := hn.dc; have h4 := hn.vr; have h5 := hn.ab; have h6 := hn.ae; have h7 := hn.t
  have ek : e.k = ((e.k.toNat : Nat) : Int) := by omega
  have hrest : Reads (rvR e.k.toNat e.tb.toNat e.dc.toNat e.vr.toNat e.t e.ab.toNat e.ae.toNat) ((if e.k = 2 then e.h else []) ++ tail e.k (datL e) true) e := by
    unfold rvR
    by_cases hk : e.k = 2
    · rw [if_pos hk, if_pos (by omega)]
      have ht := reads_take e.h
      rw [hw.h.1] at ht
      refine reads_bind ht ?_
      have := reads_to (reads_dt hw h hk) (fun d => (⟨((e.k.toNat : Nat) : Int), e.t, ((e.tb.toNat : Nat) : Int), ((e.dc.toNat : Nat) : Int), ((e.vr.toNat : Nat) : Int), d.1, e.h, d.2, ((e.ab.toNat : Nat) : Int), ((e.ae.toNat : Nat) : Int)⟩ : En))
      rw [en_eta e _ ek _ _ _ _ _ (by omega) (by omega) (by omega) (by omega) (by omega) _ _ _ rfl rfl rfl] at this
      exact this
    · obtain ⟨s, _, _, hr⟩ := form_iff.1 (may_form h)
      unfold restB at hr
      rw [if_neg hk] at hr
      simp only [Bool.and_eq_true, decide_eq_true_iff, Bool.not_eq_true'] at hr
      have et : tail e.k (datL e) true = [] := by unfold tail; rw [if_neg hk]
      rw [if_neg hk, et, if_neg (by omega), List.append_nil]
      rw [en_eta e _ ek _ _ _ _ _ (by omega) (by omega) (by omega) (by omega) (by omega) _ _ _ ((nvB_iff _).1 hr.1.2) hr.2 hr.1.1]
      exact reads_ret e
  unfold itmB entB
  simp only [List.append_assoc]
  refine reads_bind (reads_by _) (reads_bind (reads_nI h2.1 (by omega)) (reads_bind (reads_nI h3.1 (by omega)) (reads_bind (reads_nI h4.1 (by omega)) ?_)))
  rw [← List.append_assoc (uv e.t.size)]
  exact reads_bind (reads_t (by omega)) (reads_bind (reads_nI h5.1 (by omega)) (reads_bind (reads_nI h6.1 (by omega)) hrest))
theorem snoc_cases {α : Type} (l : List α) : l = [] ∨ ∃ m x, l = m ++ [x] := by
  rcases List.eq_nil_or_concat l with h | ⟨m, x, h⟩
  · exact .inl h
  · exact .inr ⟨m, x, by simpa using h⟩
theorem reads_es : ∀ (n : Nat) (l : List En), l.length = n → (∀ e ∈ l, EnW e) → (∀ e ∈ l, mayE e = 0) → Reads (esR n) (l.flatMap (itmB true)) l
  | 0, l, hn, _, _ => by rw [List.eq_nil_of_length_eq_zero hn]; exact reads_ret _
  | n + 1, l, hn, h1, h2 => by
    rcases snoc_cases l with rfl | ⟨m, x, rfl⟩
    · simp at hn
    · have ih := reads_es n m (by simpa using hn) (fun e he => h1 e (by simp [he])) (fun e he => h2 e (by simp [he]))
      rw [List.flatMap_append]
      refine reads_bind ih ?_
      have := reads_to (reads_en (h1 x (by simp)) (h2 x (by simp))) (fun e => m ++ [e])
      simpa using this
theorem reads_bk {b : Bk} (hw : BkW b) (h : chkB b = 0) : Reads bkR (blkB b true) b := by
  obtain ⟨⟨h1, h2, h3, h4⟩, hf, hl⟩ := chk_zero h
  unfold blkB hedB
  simp only [List.append_assoc]
  have ht := reads_take b.pv
  rw [hw.pv.1] at ht
  refine reads_bind (reads_nI h1.1 (by omega)) (reads_bind (reads_nI h2.1 (by omega)) (reads_bind (reads_nI h3.1 (by omega)) (reads_bind ht (reads_bind (reads_n (by omega)) ?_))))
  have := reads_to (reads_es _ b.es rfl hw.es (fst_all hf)) (fun es => (⟨((b.ix.toNat : Nat) : Int), ((b.tm.toNat : Nat) : Int), ((b.tx.toNat : Nat) : Int), b.pv, es⟩ : Bk))
  have e : (⟨((b.ix.toNat : Nat) : Int), ((b.tm.toNat : Nat) : Int), ((b.tx.toNat : Nat) : Int), b.pv, b.es⟩ : Bk) = b := by
    cases b; simp_all <;> omega
  rw [e] at this
  exact this
/-- Two blocks have the same bytes just if they are one. -/
theorem blk_one {a b : Bk} (ha : BkW a) (hb : BkW b) (ea : chkB a = 0) (eb : chkB b = 0) : blkB a true = blkB b true ↔ a = b := by
  constructor
  · intro h
    have h1 := reads_bk ha ea []
    have h2 := reads_bk hb eb []
    rw [h, h2] at h1
    injection h1 with h1
    injection h1 with h1 _
    exact h1.symm
  · rintro rfl; rfl
theorem dec_bk {b : Bk} (hw : BkW b) (h : chkB b = 0) : decB (blkB b true) = 0 ∧ decK (blkB b true) = b := by
  have h1 := reads_bk hw h []
  rw [List.append_nil] at h1
  have e : decB (blkB b true) = 0 := by
    unfold decB
    rw [h1]
    simp only
    rw [if_neg (by simp), if_neg (by simpa using h), if_neg (by have := (chk_zero h).2.2; omega)]
  refine ⟨e, ?_⟩
  unfold decK
  rw [h1]
  simp only
  rw [if_pos e]
/-- What ends too early. -/
theorem dec_short {b : Bk} (hw : BkW b) (h : chkB b = 0) {c m : List Nat} (e : blkB b true = c ++ m) (hm : m ≠ []) : decB c = 2 := by
  have h1 := reads_bk hw h []
  rw [List.append_nil] at h1
  obtain ⟨c0, e0, e1, e2⟩ := good_bk _ _ _ (blk_oct hw (chk_zero h).2.1 true) h1
  rw [List.append_nil] at e0
  have := e2 c m (by rw [← e0]; exact e) hm
  unfold decB
  rw [this]
  rfl
end Go.Proofs.Ytmbglggodifboab.Sh
namespace Go.Proofs.Ytmbglggodifboab
open Go.RowKit Math
set_option linter.unusedVariables false
set_option linter.unusedSimpArgs false
/-- One step: behind an error nothing is done. -/
def Sq {α : Type} (f : Rdr α) (l : List Nat) (err : Int) (l' : List Nat) (err' : Int) (x : α) : Prop :=
  (err ≠ 0 ∧ l' = l ∧ err' = err) ∨ (err = 0 ∧ ((f l = .ok (x, l') ∧ err' = 0) ∨ ∃ e : Nat, f l = .error e ∧ err' = (e : Int) ∧ e ≠ 0))
theorem sz5 (w : World) : (Go.sizeOf 5).run Try.prog w = .ok 1 w := by
  have : (Try.prog.info? 5).map (·.size) = some 1 := by kernel_rfl
  cases hq : Try.prog.info? 5 with
  | none => simp [hq] at this
  | some i => simp [hq] at this; simp [Go.sizeOf, typeInfo, hq, this]
/-- What is behind the first n bytes. -/
theorem sl_byt {ops : Array Oper} {rest : List Oper} {o : Oper} {a : Act} {w : World} {Q : Exit → Act → World → Prop} (hg : o.guard = none) (x y : Operand) (ho : o.op = .slice 28 x (some y) none none)
    (A : Option Addr) (cap n : Nat) (l : List Nat) (w0 : World) (z : Int) (hz : z = (n : Int)) (hx : a.eval x = .slice A l.length cap) (hy : a.eval y = .int .i64 z) (hn : n ≤ l.length) (hc : l.length ≤ cap) (hB : Byt w0 A l) (hnil : A = none → cap = 0)
    (h : ∀ A', Byt w0 A' (l.drop n) → (A' = none → cap - n = 0) → wpList Try.prog ops Q rest (a.put o.dst (.slice A' (l.length - n) (cap - n))) w) : wpList Try.prog ops Q (o :: rest) a w := by
  subst hz
  refine wpList_plain hg fun K hK => ?_
  unfold Oper.wp execOp
  simp only [ho, hx, hy, Option.map_some, Option.map_none, run_fromW 28 5 Try.underlying28 1 sz5 A l.length cap n hn w, Sem.run_bind, Result.andThen_ok, Sem.run_pure]
  refine hK _ _ (h _ ?_ ?_)
  · by_cases hcn : cap = n
    · left
      exact List.drop_of_length_le (by omega)
    · rw [if_neg hcn]
      rcases hB with rfl | ⟨b, off, rfl, hcl⟩
      · left
        simp
      · right
        exact ⟨b, off + n, by simp [Addr.add_lit], byt_drop hcl n⟩
  · intro h0
    by_cases hcn : cap = n
    · omega
    · rw [if_neg hcn] at h0
      cases A with
      | none => have := hnil rfl; omega
      | some ad => simp at h0
theorem s29 : (Try.prog.info? 28).map (·.size) = some 1 := by kernel_rfl
end Go.Proofs.Ytmbglggodifboab
namespace Go.Proofs.Ytmbglggodifboab
open Go.RowKit Math
set_option linter.unusedVariables false
set_option linter.unusedSimpArgs false
theorem sq_bind {α β : Type} {f : Rdr α} {g : α → Rdr β} {l l1 l2 : List Nat} {err e1 e2 : Int} {x : α} {y : β} (h : Sq f l err l1 e1 x) (h2 : Sq (g x) l1 e1 l2 e2 y) : Sq (f.bind g) l err l2 e2 y := by
  rcases h with ⟨a, rfl, rfl⟩ | ⟨a, ⟨b, rfl⟩ | ⟨e, b, rfl, c⟩⟩
  · rcases h2 with ⟨_, rfl, rfl⟩ | ⟨h, _⟩
    · exact .inl ⟨a, rfl, rfl⟩
    · exact absurd h a
  · right
    refine ⟨a, ?_⟩
    rw [bind_ok b]
    rcases h2 with ⟨h, _⟩ | ⟨_, h⟩
    · exact absurd rfl h
    · exact h
  · right
    refine ⟨a, .inr ⟨e, bind_err b, ?_, c⟩⟩
    rcases h2 with ⟨_, _, h⟩ | ⟨h, _⟩
    · exact h
    · exact absurd (Int.ofNat_eq_zero.1 h) c
theorem sq_ret {α : Type} (x : α) (l : List Nat) (err : Int) : Sq (Rdr.ret x) l err l err x := by
  by_cases h : err = 0
  · exact .inr ⟨h, .inl ⟨rfl, h⟩⟩
  · exact .inl ⟨h, rfl, rfl⟩
theorem sq_err0 {α : Type} {f : Rdr α} {l l' : List Nat} {err err' : Int} {x : α} (h : Sq f l err l' err' x) (he : err' = 0) : err = 0 := by
  rcases h with ⟨a, _, c⟩ | ⟨a, _⟩
  · exact absurd (c ▸ he) a
  · exact a
end Go.Proofs.Ytmbglggodifboab
