/-
  A block's bytes, read: over lists, no program is named. · The document's own reader of codec: one, number, count, text. · The document's own reader of codec: number, count, text. · block's reader: fail, take, next, number, text. · The document's own reader of codec: text.
-/
import Derived.Test.YtlefdnjokppibaaGreatDoorVG13x
import Derived.Test.YtlefdnjokppibaaGreatDoorVG26x
import Derived.Laws.BytesArg
import Derived.Test.YtlefdnjokppibaaGreatDoorVG25x
namespace Go.Proofs.YtlefdnjokppibaaGreatDoor.Sh
open Go.RowKit Math Mt
set_option linter.unusedVariables false
def nR : Rdr Nat := uvR.bind fun u => if 9007199254740992 < u then .no 3 else .ret u
def tR : Rdr ByteArray := nR.bind fun n => (takeR n).bind fun b => .ret (ofB b)
def dvR : Rdr (Vt × Bool) := nR.bind fun n => (takeR n).bind fun d => if decE d = 0 then .ret (decP d, false) else .no 3
def dtR : Rdr (Vt × Bool) := byR.bind fun x => if x = 0 then .ret (nv, true) else if x = 1 then dvR else .no 3
def rvR (k tb dc vr : Nat) (t : ByteArray) (ab ae : Nat) : Rdr En := if k = 2 then (takeR 32).bind fun h => dtR.bind fun d => .ret ⟨k, t, tb, dc, vr, d.1, h, d.2, ab, ae⟩ else .ret ⟨k, t, tb, dc, vr, nv, zr, false, ab, ae⟩
/-- An entry, be it one or not. -/
def enR : Rdr En := byR.bind fun k => nR.bind fun tb => nR.bind fun dc => nR.bind fun vr => tR.bind fun t => nR.bind fun ab => nR.bind fun ae => rvR k tb dc vr t ab ae
def esR : Nat → Rdr (List En)
  | 0 => .ret []
  | n + 1 => (esR n).bind fun l => enR.bind fun e => .ret (l ++ [e])
def bkR : Rdr Bk := nR.bind fun ix => nR.bind fun tm => nR.bind fun tx => (takeR 32).bind fun pv => nR.bind fun n => (esR n).bind fun es => .ret ⟨ix, tm, tx, pv, es⟩
/-- What Decode answers. -/
def decB (L : List Nat) : Int := match bkR L with
  | .error e => (e : Int)
  | .ok (b, r) => if r ≠ [] then 3 else if chkB b ≠ 0 then chkB b else if 262144 < L.length then 5 else 0
def noB : Bk := ⟨0, 0, 0, zr, []⟩
def decK (L : List Nat) : Bk := match bkR L with
  | .error _ => noB
  | .ok (b, _) => if decB L = 0 then b else noB
/-! ### what is written is read -/
theorem reads_n {u : Nat} (h : u ≤ 9007199254740992) : Reads nR (uv u) u := by
  have := reads_bind (g := fun u => if 9007199254740992 < u then .no 3 else .ret u) (reads_uv u (by omega)) (c2 := []) (y := u) (by rw [if_neg (by omega)]; exact reads_ret u)
  rw [List.append_nil] at this
  exact this
theorem reads_nI {n : Int} (h0 : 0 ≤ n) (h : n ≤ 9007199254740992) : Reads nR (uvI n) n.toNat := reads_n (by omega)
theorem reads_take (c : List Nat) : Reads (takeR c.length) c c := fun m => by
  unfold takeR
  rw [if_neg (by simp), List.take_left, List.drop_left]
theorem reads_t {s : ByteArray} (h : s.size ≤ 9007199254740992) : Reads tR (uv s.size ++ bts s) s := by
  refine reads_bind (reads_n h) ?_
  have h2 := reads_take (bts s)
  rw [bts_len] at h2
  have := reads_to h2 ofB
  rw [ofB_bts] at this
  exact this
theorem reads_dt {e : En} (hw : EnW e) (h : mayE e = 0) (hk : e.k = 2) : Reads dtR (tail e.k (datL e) true) (e.v, e.g) := by
  obtain ⟨d1, d2, d3, d4⟩ := dat_ok h
  cases hg : e.g with
  | true =>
    have hv : e.v = nv := by
      obtain ⟨s, _, _, hr⟩ := form_iff.1 (may_form h)
      unfold restB at hr
      rw [if_pos hk, hg] at hr
      exact (nvB_iff _).1 (by simpa using hr)
    have e1 : tail e.k (datL e) true = [0] := by unfold tail; rw [if_pos hk, if_pos (.inr (d4 (.inr hg)))]
    rw [e1, hv]
    have := reads_bind (g := fun x => if x = 0 then .ret (nv, true) else if x = 1 then dvR else .no 3) (reads_by 0) (c2 := []) (y := (nv, true)) (by rw [if_pos rfl]; exact reads_ret _)
    exact this
  | false =>
    obtain ⟨e1, e2⟩ := d3 hk hg
    have e3 : tail e.k (datL e) true = [1] ++ (uv (datL e).length ++ datL e) := by unfold tail; rw [if_pos hk, if_neg (by simp [e2]), List.append_assoc]
    obtain ⟨q1, q2⟩ := dec_self hw.v (may_data h hk hg).1
    rw [e3]
    refine reads_bind (reads_by 1) ?_
    rw [if_neg (by decide), if_pos rfl]
    refine reads_bind (reads_n (by omega)) ?_
    have := reads_bind (g := fun d => if decE d = 0 then .ret (decP d, false) else .no 3) (reads_take (datL e)) (c2 := []) (y := (e.v, false)) (by rw [e1, if_pos q1, q2]; exact reads_ret _)
    rw [List.append_nil] at this
    exact this
theorem en_eta (e : En) (k : Nat) (hk : e.k = k) (tb dc vr ab ae : Nat) (h1 : e.tb = tb) (h2 : e.dc = dc) (h3 : e.vr = vr) (h4 : e.ab = ab) (h5 : e.ae = ae) (v : Vt) (h : List Nat) (g : Bool) (h6 : e.v = v) (h7 : e.h = h) (h8 : e.g = g) : (⟨k, e.t, tb, dc, vr, v, h, g, ab, ae⟩ : En) = e := by
  cases e; simp_all
theorem reads_en {e : En} (hw : EnW e) (h : mayE e = 0) : Reads enR (itmB true e) e := by
  have hn := (may_form h).num
  have h1 := hn.k; have h2 := hn.tb; have h3 := hn.dc; have h4 := hn.vr; have h5 := hn.ab; have h6 := hn.ae; have h7 := hn.t
  have ek : e.k = ((e.k.toNat : Nat) : Int) := by omega
  have hrest : Reads (rvR e.k.toNat e.tb.toNat e.dc.toNat e.vr.toNat e.t e.ab.toNat e.ae.toNat) ((if e.k = 2 then e.h else []) ++ tail e.k (datL e) true) e := by
    unfold rvR
    by_cases hk : e.k = 2
    · rw [if_pos hk, if_pos (by omega)]
      have ht := reads_take e.h
      rw [hw.h.1] at ht
      refine reads_bind ht ?_
      have := reads_to (reads_dt hw h hk) (fun d => (⟨((e.k.toNat : Nat) : Int), e.t, ((e.tb.toNat : Nat) : Int), ((e.dc.toNat : Nat) : Int), ((e.vr.toNat : Nat) : Int), d.1, e.h, d.2, ((e.ab.toNat : Nat) : Int), ((e.ae.toNat : Nat) : Int)⟩ : En))
      rw [en_eta e _ ek _ _ _ _ _ (by omega) (by omega) (by omega) (by omega) (by omega) _ _ _ rfl rfl rfl] at this
      exact this
    · obtain ⟨s, _, _, hr⟩ := form_iff.1 (may_form h)
      unfold restB at hr
      rw [if_neg hk] at hr
      simp only [Bool.and_eq_true, decide_eq_true_iff, Bool.not_eq_true'] at hr
      have et : tail e.k (datL e) true = [] := by unfold tail; rw [if_neg hk]
      rw [if_neg hk, et, if_neg (by omega), List.append_nil]
      rw [en_eta e _ ek _ _ _ _ _ (by omega) (by omega) (by omega) (by omega) (by omega) _ _ _ ((nvB_iff _).1 hr.1.2) hr.2 hr.1.1]
      exact reads_ret e
  unfold itmB entB
  simp only [List.append_assoc]
  refine reads_bind (reads_by _) (reads_bind (reads_nI h2.1 (by omega)) (reads_bind (reads_nI h3.1 (by omega)) (reads_bind (reads_nI h4.1 (by omega)) ?_)))
  rw [← List.append_assoc (uv e.t.size)]
  exact reads_bind (reads_t (by omega)) (reads_bind (reads_nI h5.1 (by omega)) (reads_bind (reads_nI h6.1 (by omega)) hrest))
theorem snoc_cases {α : Type} (l : List α) : l = [] ∨ ∃ m x, l = m ++ [x] := by
  rcases List.eq_nil_or_concat l with h | ⟨m, x, h⟩
  · exact .inl h
  · exact .inr ⟨m, x, by simpa using h⟩
theorem reads_es : ∀ (n : Nat) (l : List En), l.length = n → (∀ e ∈ l, EnW e) → (∀ e ∈ l, mayE e = 0) → Reads (esR n) (l.flatMap (itmB true)) l
  | 0, l, hn, _, _ => by rw [List.eq_nil_of_length_eq_zero hn]; exact reads_ret _
  | n + 1, l, hn, h1, h2 => by
    rcases snoc_cases l with rfl | ⟨m, x, rfl⟩
    · simp at hn
    · have ih := reads_es n m (by simpa using hn) (fun e he => h1 e (by simp [he])) (fun e he => h2 e (by simp [he]))
      rw [List.flatMap_append]
      refine reads_bind ih ?_
      have := reads_to (reads_en (h1 x (by simp)) (h2 x (by simp))) (fun e => m ++ [e])
      simpa using this
theorem reads_bk {b : Bk} (hw : BkW b) (h : chkB b = 0) : Reads bkR (blkB b true) b := by
  obtain ⟨⟨h1, h2, h3, h4⟩, hf, hl⟩ := chk_zero h
  unfold blkB hedB
  simp only [List.append_assoc]
  have ht := reads_take b.pv
  rw [hw.pv.1] at ht
  refine reads_bind (reads_nI h1.1 (by omega)) (reads_bind (reads_nI h2.1 (by omega)) (reads_bind (reads_nI h3.1 (by omega)) (reads_bind ht (reads_bind (reads_n (by omega)) ?_))))
  have := reads_to (reads_es _ b.es rfl hw.es (fst_all hf)) (fun es => (⟨((b.ix.toNat : Nat) : Int), ((b.tm.toNat : Nat) : Int), ((b.tx.toNat : Nat) : Int), b.pv, es⟩ : Bk))
  have e : (⟨((b.ix.toNat : Nat) : Int), ((b.tm.toNat : Nat) : Int), ((b.tx.toNat : Nat) : Int), b.pv, b.es⟩ : Bk) = b := by
    cases b; simp_all <;> omega
  rw [e] at this
  exact this
theorem dec_bk {b : Bk} (hw : BkW b) (h : chkB b = 0) : decB (blkB b true) = 0 ∧ decK (blkB b true) = b := by
  have h1 := reads_bk hw h []
  rw [List.append_nil] at h1
  have e : decB (blkB b true) = 0 := by
    unfold decB
    rw [h1]
    simp only
    rw [if_neg (by simp), if_neg (by simpa using h), if_neg (by have := (chk_zero h).2.2; omega)]
  refine ⟨e, ?_⟩
  unfold decK
  rw [h1]
  simp only
  rw [if_pos e]
end Go.Proofs.YtlefdnjokppibaaGreatDoor.Sh
namespace Go.Proofs.YtlefdnjokppibaaGreatDoor
open Go.RowKit Math
set_option linter.unusedVariables false
set_option linter.unusedSimpArgs false
/-- One step: behind an error nothing is done. -/
def Sq {α : Type} (f : Rdr α) (l : List Nat) (err : Int) (l' : List Nat) (err' : Int) (x : α) : Prop :=
  (err ≠ 0 ∧ l' = l ∧ err' = err) ∨ (err = 0 ∧ ((f l = .ok (x, l') ∧ err' = 0) ∨ ∃ e : Nat, f l = .error e ∧ err' = (e : Int) ∧ e ≠ 0))
theorem sz5 (w : World) : (Go.sizeOf 5).run Tryz.prog w = .ok 1 w := by
  have : (Tryz.prog.info? 5).map (·.size) = some 1 := by kernel_rfl
  cases hq : Tryz.prog.info? 5 with
  | none => simp [hq] at this
  | some i => simp [hq] at this; simp [Go.sizeOf, typeInfo, hq, this]
/-- What is behind the first n bytes. -/
theorem sl_byt {ops : Array Oper} {rest : List Oper} {o : Oper} {a : Act} {w : World} {Q : Exit → Act → World → Prop} (hg : o.guard = none) (x y : Operand) (ho : o.op = .slice 70 x (some y) none none)
    (A : Option Addr) (cap n : Nat) (l : List Nat) (w0 : World) (z : Int) (hz : z = (n : Int)) (hx : a.eval x = .slice A l.length cap) (hy : a.eval y = .int .i64 z) (hn : n ≤ l.length) (hc : l.length ≤ cap) (hB : Byt w0 A l) (hnil : A = none → cap = 0)
    (h : ∀ A', Byt w0 A' (l.drop n) → (A' = none → cap - n = 0) → wpList Tryz.prog ops Q rest (a.put o.dst (.slice A' (l.length - n) (cap - n))) w) : wpList Tryz.prog ops Q (o :: rest) a w := by
  subst hz
  refine wpList_plain hg fun K hK => ?_
  unfold Oper.wp execOp
  simp only [ho, hx, hy, Option.map_some, Option.map_none, run_fromW 70 5 Tryz.underlying70 1 sz5 A l.length cap n hn w, Sem.run_bind, Result.andThen_ok, Sem.run_pure]
  refine hK _ _ (h _ ?_ ?_)
  · by_cases hcn : cap = n
    · left
      exact List.drop_of_length_le (by omega)
    · rw [if_neg hcn]
      rcases hB with rfl | ⟨b, off, rfl, hcl⟩
      · left
        simp
      · right
        exact ⟨b, off + n, by simp [Addr.add_lit], byt_drop hcl n⟩
  · intro h0
    by_cases hcn : cap = n
    · omega
    · rw [if_neg hcn] at h0
      cases A with
      | none => have := hnil rfl; omega
      | some ad => simp at h0
theorem s29 : (Tryz.prog.info? 70).map (·.size) = some 1 := by kernel_rfl
end Go.Proofs.YtlefdnjokppibaaGreatDoor
namespace Go.Proofs.YtlefdnjokppibaaGreatDoor
open Go.RowKit Math
set_option linter.unusedVariables false
set_option linter.unusedSimpArgs false
theorem sq_bind {α β : Type} {f : Rdr α} {g : α → Rdr β} {l l1 l2 : List Nat} {err e1 e2 : Int} {x : α} {y : β} (h : Sq f l err l1 e1 x) (h2 : Sq (g x) l1 e1 l2 e2 y) : Sq (f.bind g) l err l2 e2 y := by
  rcases h with ⟨a, rfl, rfl⟩ | ⟨a, ⟨b, rfl⟩ | ⟨e, b, rfl, c⟩⟩
  · rcases h2 with ⟨_, rfl, rfl⟩ | ⟨h, _⟩
    · exact .inl ⟨a, rfl, rfl⟩
    · exact absurd h a
  · right
    refine ⟨a, ?_⟩
    rw [bind_ok b]
    rcases h2 with ⟨h, _⟩ | ⟨_, h⟩
    · exact absurd rfl h
    · exact h
  · right
    refine ⟨a, .inr ⟨e, bind_err b, ?_, c⟩⟩
    rcases h2 with ⟨_, _, h⟩ | ⟨h, _⟩
    · exact h
    · exact absurd (Int.ofNat_eq_zero.1 h) c
theorem sq_ret {α : Type} (x : α) (l : List Nat) (err : Int) : Sq (Rdr.ret x) l err l err x := by
  by_cases h : err = 0
  · exact .inr ⟨h, .inl ⟨rfl, h⟩⟩
  · exact .inl ⟨h, rfl, rfl⟩
theorem sq_err0 {α : Type} {f : Rdr α} {l l' : List Nat} {err err' : Int} {x : α} (h : Sq f l err l' err' x) (he : err' = 0) : err = 0 := by
  rcases h with ⟨a, _, c⟩ | ⟨a, _⟩
  · exact absurd (c ▸ he) a
  · exact a
end Go.Proofs.YtlefdnjokppibaaGreatDoor
namespace Go.Proofs.YtlefdnjokppibaaGreatDoor.Sh
open Go Go.RowKit Math Mt
set_option linter.unusedVariables false
set_option linter.unusedSimpArgs false
/-- The reader in memory: what is left to read, and the error. -/
structure Rb (w0 : World) (r : Nat) (w : World) (l : List Nat) (e : Int) : Prop where
  ex : ∃ a c, Blk w r 115 [.slice a l.length c, .int .i64 e] ∧ Byt w0 a l ∧ (a = none → c = 0) ∧ l.length ≤ c ∧ c ≤ 9223372036854775807
  bl : Below w0.heap.size w0 w
  lt : w0.heap.size ≤ r
  oct : Oct l
  len : l.length ≤ 1000000
def RbC {α : Type} (F : Nat) (f : Rdr α) (val : α → Value) (P : α → Prop) : Prop := ∀ (w0 W : World) (r : Nat) (l : List Nat) (err : Int), Rb w0 r W l err →
  Calls Tryz.prog F #[.pointer (some ⟨r, 0, none⟩)] W fun e w' => ∃ x l' err', e = .returned (val x) ∧ P x ∧ Hid (Rb w0 r w' l' err' ∧ W.grownBy w' (some r) ∧ Sq f l err l' err' x)
theorem Rb.same {w0 : World} {r : Nat} {w w' : World} {l : List Nat} {e : Int} (h : Rb w0 r w l e) {a : Option Addr} {c : Nat} {l' : List Nat} {e' : Int} (hb : Blk w' r 115 [.slice a l'.length c, .int .i64 e']) (hg : w.grownBy w' (some r)) (h1 : Byt w0 a l') (h2 : a = none → c = 0) (h3 : l'.length ≤ c) (h4 : c ≤ 9223372036854775807) (h5 : Oct l') (h6 : l'.length ≤ 1000000) : Rb w0 r w' l' e' :=
  ⟨⟨a, c, hb, h1, h2, h3, h4⟩, h.bl.grown hg h.bl.size (fun x e => by injection e with e; have := h.lt; omega), h.lt, h5, h6⟩
theorem Rb.keep {w0 : World} {r : Nat} {w w' : World} {l : List Nat} {e : Int} (h : Rb w0 r w l e) {row : Option Nat} (hg : w.grownBy w' row) (hne : some r ≠ row) (hb : Below w0.heap.size w0 w') : Rb w0 r w' l e := by
  obtain ⟨a, c, h1, h2⟩ := h.ex
  exact ⟨⟨a, c, Blk.kept h1 hg hne, h2⟩, hb, h.lt, h.oct, h.len⟩
theorem byt_take {w : World} {a : Option Addr} {l : List Nat} (h : Byt w a l) (n : Nat) : Byt w a (l.take n) := by
  rcases h with rfl | ⟨b, off, rfl, hc⟩
  · left; simp
  · right
    refine ⟨b, off, rfl, ?_⟩
    have : Cells w b off (l.take n ++ l.drop n) := by rw [List.take_append_drop]; exact hc
    exact Cells.left this
set_option maxHeartbeats 400000 in
set_option maxRecDepth 8000 in
theorem bfail_any (w0 W : World) (r : Nat) (l : List Nat) (err e : Int) (h : Rb w0 r W l err) :
    Calls Tryz.prog 73 #[.pointer (some ⟨r, 0, none⟩), .int .i64 e] W fun e' w' => e' = .returned (.tuple #[]) ∧ Hid (Rb w0 r w' l (if err ≠ 0 then err else e) ∧ W.grownBy w' (some r)) := by
  obtain ⟨a, c, hb, hB, hnil, hlc, hcm⟩ := h.ex
  have HR : Hid (Rb w0 r W l err) := h
  have c1 : W.cell? ⟨r, 1, none⟩ = some (.int .i64 err) := hb.cell 1
  have HBk : Hid (Blk (W.alloc (.cells #[.int .i64 err, .int .i64 e] 29)) r 115 [.slice a l.length c, .int .i64 err]) := hb.alloc _
  have HG : Hid (W.grownBy (W.alloc (.cells #[.int .i64 err, .int .i64 e] 29)) (some r)) := World.grownBy_alloc W _ _
  have HY : Hid (Byt w0 a l ∧ (a = none → c = 0)) := ⟨hB, hnil⟩
  have K := or_lit err e W
  generalize (if err ≠ 0 then err else e) = E at *
  clear hb h hB hnil
  go_enter Tryz.func73, Tryz.ntmps73
  go_wp2_with fail
  refine K.mono ?_
  clear K
  generalize W.alloc (.cells #[.int .i64 err, .int .i64 e] 29) = W1 at *
  rintro e w1 ⟨rfl, hw⟩
  have hw' := hw.symm
  subst hw'
  clear hw
  go_wp2_with (refine st_one rfl 29 (.tmp 13) (.tmp 11) rfl r 1 115 _ _ rfl rfl rfl rfl (by simp) HBk.out s30 ?_)
  intro w2 b2 g2
  have HF : Hid (Rb w0 r w2 l E ∧ W.grownBy w2 (some r)) := ⟨HR.out.same b2 (HG.out.trans g2) HY.out.1 HY.out.2 hlc hcm HR.out.oct HR.out.len, HG.out.trans g2⟩
  clear b2 g2 HBk HG
  go_wp2
  go_end0
  exact ⟨rfl, HF.out⟩
set_option maxHeartbeats 400000 in
set_option maxRecDepth 8000 in
theorem btake_any (n : Nat) (hn : n ≤ 9007199254740992) (w0 W : World) (r : Nat) (l : List Nat) (err : Int) (h : Rb w0 r W l err) :
    Calls Tryz.prog 113 #[.pointer (some ⟨r, 0, none⟩), .int .i64 (n : Int)] W fun e w' => ∃ (x l' : List Nat) (err' : Int) (ax : Option Addr) (cx : Nat), e = .returned (.slice ax x.length cx) ∧ Hid (Rb w0 r w' l' err' ∧ W.grownBy w' (some r) ∧ Sq (takeR n) l err l' err' x ∧ Byt w0 ax x ∧ (ax = none → cx = 0) ∧ x.length ≤ cx ∧ cx ≤ 9223372036854775807 ∧ Oct x ∧ x.length ≤ 1000000 ∧ (err' ≠ 0 → x = [])) := by
  obtain ⟨a, c, hb, hB, hnil, hlc, hcm⟩ := h.ex
  have HR : Hid (Rb w0 r W l err) := h
  have HBk : Hid (Blk W r 115 [.slice a l.length c, .int .i64 err]) := hb
  have c0 : W.cell? ⟨r, 0, none⟩ = some (.slice a l.length c) := hb.cell 0
  have c1 : W.cell? ⟨r, 1, none⟩ = some (.int .i64 err) := hb.cell 1
  have HY : Hid (Byt w0 a l ∧ (a = none → c = 0)) := ⟨hB, hnil⟩
  have hlen := h.len
  clear hb hB hnil
  by_cases hl : l.length < n
  · have g1 : (l.length : Int) < (n : Int) := by omega
    have KF := bfail_any w0 W r l err 2 h
    obtain ⟨E, HE⟩ : ∃ E, Hid ((if err ≠ 0 then err else 2) = E) := ⟨_, rfl⟩
    rw [HE.out] at KF
    have hE : E ≠ 0 := by
      rw [← HE.out]
      by_cases e0 : err = 0
      · rw [if_neg (by simpa using e0)]; decide
      · rw [if_pos e0]; exact e0
    have HS : Hid (Sq (takeR n) l err l E []) := by
      by_cases e0 : err = 0
      · refine .inr ⟨e0, .inr ⟨2, by unfold takeR; rw [if_pos hl], by rw [← HE.out, if_neg (by simpa using e0)]; rfl, by decide⟩⟩
      · exact .inl ⟨e0, rfl, by rw [← HE.out, if_pos e0]⟩
    clear h hl HE
    go_enter Tryz.func113, Tryz.ntmps113
    go_wp2_with fail
    refine KF.mono ?_
    rintro e w1 ⟨rfl, H1⟩
    obtain ⟨a1, c1', hb1, _⟩ := H1.out.1.ex
    have ce : w1.cell? ⟨r, 1, none⟩ = some (.int .i64 E) := hb1.cell 1
    have hEb : (E != 0) = true := by simpa using hE
    have HE0 : Hid (E ≠ 0) := hE
    clear KF hb1 c0 c1 hE
    go_wp2
    go_ret
    exact ⟨[], l, E, none, 0, rfl, H1.out.1, H1.out.2, HS.out, .inl rfl, fun _ => rfl, by simp, by omega, (fun x hx => by cases hx), by simp, fun _ => rfl⟩
  · have g1 : ¬ (l.length : Int) < (n : Int) := by omega
    by_cases he : err = 0
    case neg =>
      have hEb : (err != 0) = true := by simpa using he
      have HE0 : Hid (err ≠ 0) := he
      clear h hl he
      go_enter Tryz.func113, Tryz.ntmps113
      go_wp2
      go_ret
      exact ⟨[], l, err, none, 0, rfl, HR.out, World.grownBy.refl _ _, .inl ⟨HE0.out, rfl, rfl⟩, .inl rfl, fun _ => rfl, by simp, by omega, (fun x hx => by cases hx), by simp, fun _ => rfl⟩
    subst he
    have hnc : (n : Int) ≤ (c : Int) := by omega
    have HLT : Hid ((l.take n).length = n) := by show _ = _; rw [List.length_take]; omega
    have HS : Hid (Sq (takeR n) l 0 (l.drop n) 0 (l.take n)) := .inr ⟨rfl, .inl ⟨by unfold takeR; rw [if_neg hl], rfl⟩⟩
    have hnl : n ≤ l.length := by omega
    clear h hl
    go_enter Tryz.func113, Tryz.ntmps113
    go_wp2_with (refine sl_byt rfl (.tmp 30) (.tmp 31) rfl a c n l w0 _ rfl rfl rfl hnl hlc HY.out.1 HY.out.2 ?_)
    intro A' hA hAn
    have HA : Hid (Byt w0 A' (l.drop n) ∧ (A' = none → c - n = 0)) := ⟨hA, hAn⟩
    clear hA hAn
    go_wp2_with (refine st_one rfl 70 (.tmp 34) (.tmp 32) rfl r 0 115 _ (.slice A' (l.length - n) (c - n)) rfl rfl rfl rfl (by simp) HBk.out s29 ?_)
    intro w1 b1 g1'
    have HF : Hid (Rb w0 r w1 (l.drop n) 0 ∧ W.grownBy w1 (some r)) := by
      refine ⟨HR.out.same (a := A') (c := c - n) ?_ g1' HA.out.1 HA.out.2 (by rw [List.length_drop]; omega) (by omega) (oct_drop HR.out.oct n) (by rw [List.length_drop]; omega), g1'⟩
      rw [List.length_drop]
      exact b1
    clear b1 g1'
    go_wp2
    go_ret
    exact ⟨l.take n, l.drop n, 0, a, c, by rw [HLT.out]; rfl, HF.out.1, HF.out.2, HS.out, byt_take HY.out.1 n, HY.out.2, by rw [HLT.out]; omega, hcm, fun x hx => HR.out.oct x (List.mem_of_mem_take hx), by rw [HLT.out]; omega, fun h => absurd rfl h⟩
set_option maxHeartbeats 400000 in
set_option maxRecDepth 8000 in
theorem bnext_z (w0 W : World) (r : Nat) (l : List Nat) (err : Int) (h : Rb w0 r W l err) : Calls Tryz.prog 114 #[.pointer (some ⟨r, 0, none⟩)] W fun e w' => ∃ (x : Nat) (l' : List Nat) (err' : Int), e = .returned (.int .i64 (x : Int)) ∧ x < 256 ∧ Hid (Rb w0 r w' l' err' ∧ W.grownBy w' (some r) ∧ Sq byR l err l' err' x ∧ (err' ≠ 0 → x = 0)) := by
  have K := btake_any 1 (by omega) w0 W r l err h
  clear h
  go_enter Tryz.func114, Tryz.ntmps114
  go_wp2_with fail
  refine K.mono ?_
  clear K
  rintro e w1 ⟨x, l', err', ax, cx, rfl, H⟩
  obtain ⟨hR, hG, hS, hB, hnil, hxc, _, hO, hL, hz⟩ := H.out
  have HF : Hid (Rb w0 r w1 l' err' ∧ W.grownBy w1 (some r)) := ⟨hR, hG⟩
  cases x with
  | nil =>
    have HS : Hid (Sq byR l err l' err' 0) := by
      rcases hS with h1 | ⟨h1, h2 | ⟨q, h2, h3⟩⟩
      · exact .inl h1
      · exfalso
        have := h2.1
        unfold takeR at this
        split at this
        · cases this
        · injection this with this
          injection this with this _
          have := congrArg List.length this
          simp only [List.length_take, List.length_nil] at this
          omega
      · refine .inr ⟨h1, .inr ⟨q, ?_, h3⟩⟩
        unfold takeR at h2
        split at h2
        · have : l = [] := List.eq_nil_of_length_eq_zero (by omega)
          subst this
          injection h2 with h2
          subst h2
          rfl
        · cases h2
    clear hR hG hS hB H
    go_wp2
    go_ret
    exact ⟨0, l', err', rfl, by decide, HF.out.1, HF.out.2, HS.out, fun _ => rfl⟩
  | cons y t =>
    obtain rfl : err' = 0 := Classical.byContradiction fun h0 => by have := hz h0; cases this
    have ht : t = [] ∧ l = y :: l' := by
      rcases hS with ⟨h1, _, h2⟩ | ⟨h1, h2 | ⟨q, h2, h3, h4⟩⟩
      · exact absurd h2.symm h1
      · have h3 := h2.1
        unfold takeR at h3
        split at h3
        · cases h3
        · injection h3 with h3
          injection h3 with e1 e2
          cases l with
          | nil => cases e1
          | cons p q => simp at e1 e2; exact ⟨e1.2, by rw [e1.1, e2]⟩
      · exact absurd (show q = 0 by omega) h4
    obtain ⟨rfl, hl⟩ := ht
    have he0 : err = 0 := sq_err0 hS rfl
    obtain ⟨bb, ob, rfl, hcl⟩ : ∃ b o, ax = some ⟨b, o, none⟩ ∧ Cells w0 b o [y] := by
      rcases hB with h | h
      · cases h
      · exact h
    have hy : y < 256 := hO y (by simp)
    have hcy : w1.cell? ⟨bb, ob, none⟩ = some (.int .u8 (y : Int)) := by
      have := hcl 0 (by simp)
      rw [Nat.add_zero] at this
      exact (hR.bl.cell (p := ⟨bb, ob, none⟩) (cell_lt this)).trans this
    have HS : Hid (Sq byR l err l' 0 y) := .inr ⟨he0, .inl ⟨by rw [hl]; rfl, rfl⟩⟩
    have hne : (([y].length : Int) == 0) = false := rfl
    clear hR hG hS hB H hcl hl he0 hz hO
    go_wp2
    go_ret
    exact ⟨y, l', 0, by simp, hy, HF.out.1, HF.out.2, HS.out, fun h => absurd rfl h⟩
theorem sq_no {α : Type} {f : Rdr α} {l l' : List Nat} {err err' : Int} {x y : α} (h : Sq f l err l' err' x) (he : err' ≠ 0) : Sq f l err l' err' y := by
  rcases h with h | ⟨h1, ⟨_, h2⟩ | h2⟩
  · exact .inl h
  · exact absurd h2 he
  · exact .inr ⟨h1, .inr h2⟩
set_option maxHeartbeats 400000 in
set_option maxRecDepth 8000 in
theorem bnum_any : RbC 94 nR (fun x => .int .i64 (x : Int)) (· ≤ 9007199254740992) := by
  intro w0 W r l err h
  obtain ⟨a, c, hb, hB, hnil, hlc, hcm⟩ := h.ex
  have HR : Hid (Rb w0 r W l err) := h
  have c0 : W.cell? ⟨r, 0, none⟩ = some (.slice a l.length c) := hb.cell 0
  obtain ⟨u, n, e, ht⟩ : ∃ u n e, ruv l 0 0 = (u, n, e) := ⟨_, _, _, rfl⟩
  have KU := ruv_any a c l h.len W (hB.below h.bl) h.oct
  rw [ht] at KU
  replace KU : Calls Tryz.prog 112 #[.slice a l.length c] W fun e' w' => e' = .returned (.tuple #[.int .u64 (u : Int), .int .i64 (n : Int), .int .i64 (e : Int)]) ∧ w' = W := KU
  have KF := bfail_any w0 W r l err (e : Int) h
  obtain ⟨E, HE⟩ : ∃ E, Hid ((if err ≠ 0 then err else (e : Int)) = E) := ⟨_, rfl⟩
  rw [HE.out] at KF
  have HU : Hid ((e = 0 → u < 18446744073709551616 ∧ n ≤ l.length ∧ uvR l = .ok (u, l.drop n)) ∧ (e ≠ 0 → u = 0 ∧ uvR l = .error e)) := by
    refine ⟨fun h0 => ?_, fun h0 => ?_⟩
    · subst h0
      obtain ⟨hu, hnl, _, _⟩ := ruv_good HR.out.oct (by rw [ht])
      rw [ht] at hu hnl
      exact ⟨hu, hnl, by unfold uvR; rw [ht]; rfl⟩
    · obtain ⟨hu, hn⟩ := ruv_bad l 0 0 (by rw [ht]; exact h0)
      rw [ht] at hu
      exact ⟨hu, by unfold uvR; rw [ht]; simp [h0]⟩
  have HBN : Hid (Byt w0 a l ∧ (a = none → c = 0)) := ⟨hB, hnil⟩
  have hlen := h.len
  clear hb hB hnil h ht
  go_enter Tryz.func94, Tryz.ntmps94
  go_wp2_with fail
  refine KU.mono ?_
  clear KU
  rintro e' w' ⟨rfl, hw⟩
  have hw' := hw.symm
  subst hw'
  clear hw
  go_wp2_with fail
  refine KF.mono ?_
  rintro e' w1 ⟨rfl, H1⟩
  obtain ⟨a1, c1, hb1, hB1, hnil1, hlc1, hcm1⟩ := H1.out.1.ex
  clear KF c0
  by_cases hbig : 9007199254740992 < u
  · have he0 : e = 0 := Classical.byContradiction fun h0 => by have := (HU.out.2 h0).1; omega
    have hb2 : decide ((9007199254740992 : Int) < (u : Int)) = true := decide_eq_true (by omega)
    have KG := bfail_any w0 w1 r l E 3 H1.out.1
    obtain ⟨E2, HE2⟩ : ∃ E2, Hid ((if E ≠ 0 then E else 3) = E2) := ⟨_, rfl⟩
    rw [HE2.out] at KG
    have HS : Hid (Sq nR l err l E2 0 ∧ E2 ≠ 0) := by
      have hu := (HU.out.1 he0).2.2
      have hE : E = err := by
        rw [← HE.out]
        by_cases z : err = 0
        · rw [if_neg (by simpa using z), he0, z]; rfl
        · rw [if_pos z]
      by_cases z : err = 0
      · have e2 : E2 = 3 := by rw [← HE2.out, hE, if_neg (by simpa using z)]
        refine ⟨.inr ⟨z, .inr ⟨3, ?_, e2, by decide⟩⟩, by rw [e2]; decide⟩
        unfold nR
        rw [bind_ok hu, if_pos hbig]; rfl
      · have e2 : E2 = err := by rw [← HE2.out, hE, if_pos z]
        exact ⟨.inl ⟨z, rfl, e2⟩, by rw [e2]; exact z⟩
    clear hb1 hB1 hnil1 hbig he0
    go_wp2_with fail
    refine KG.mono ?_
    rintro e' w2 ⟨rfl, H2⟩
    obtain ⟨a2, c2, hb2', _⟩ := H2.out.1.ex
    have ce : w2.cell? ⟨r, 1, none⟩ = some (.int .i64 E2) := hb2'.cell 1
    have hEb : (E2 != 0) = true := by simpa using HS.out.2
    have HF : Hid (Rb w0 r w2 l E2 ∧ W.grownBy w2 (some r)) := ⟨H2.out.1, H1.out.2.trans H2.out.2⟩
    clear KG hb2' H1 H2
    go_wp2
    go_ret
    exact ⟨0, l, E2, rfl, by omega, HF.out.1, HF.out.2, HS.out.1⟩
  · have hb2 : decide ((9007199254740992 : Int) < (u : Int)) = false := decide_eq_false (by omega)
    have ce : w1.cell? ⟨r, 1, none⟩ = some (.int .i64 E) := hb1.cell 1
    by_cases hE0 : E = 0
    case neg =>
      have hEb : (E != 0) = true := by simpa using hE0
      have HS : Hid (Sq nR l err l E 0) := by
        by_cases z : err = 0
        · have e1 : E = (e : Int) := by rw [← HE.out, if_neg (by simpa using z)]
          have he : e ≠ 0 := fun h => hE0 (by rw [e1, h]; rfl)
          refine .inr ⟨z, .inr ⟨e, ?_, e1, he⟩⟩
          unfold nR
          exact bind_no (HU.out.2 he).2
        · exact .inl ⟨z, rfl, by rw [← HE.out, if_pos z]⟩
      have HF : Hid (Rb w0 r w1 l E ∧ W.grownBy w1 (some r)) := H1.out
      clear hb1 hB1 hnil1 hE0 hbig
      go_wp2
      go_ret
      exact ⟨0, l, E, rfl, by omega, HF.out.1, HF.out.2, HS.out⟩
    subst hE0
    have z : err = 0 := Classical.byContradiction fun z => by have := HE.out; rw [if_pos z] at this; exact z this
    have he : e = 0 := by have := HE.out; rw [if_neg (by simpa using z)] at this; omega
    obtain ⟨hu, hnl, hru⟩ := HU.out.1 he
    have HS : Hid (Sq nR l err (l.drop n) 0 u) := by
      refine .inr ⟨z, .inl ⟨?_, rfl⟩⟩
      unfold nR
      rw [bind_ok hru, if_neg hbig]; rfl
    have c0' : w1.cell? ⟨r, 0, none⟩ = some (.slice a1 l.length c1) := hb1.cell 0
    have HBk : Hid (Blk w1 r 115 [.slice a1 l.length c1, .int .i64 0]) := hb1
    have HY1 : Hid (Byt w0 a1 l ∧ (a1 = none → c1 = 0)) := ⟨hB1, hnil1⟩
    have hub : u ≤ 9007199254740992 := by omega
    clear hb1 hB1 hnil1 hru z he HU HE
    go_wp2_with (refine sl_byt rfl (.tmp 31) (.tmp 32) rfl a1 c1 n l w0 _ rfl rfl rfl hnl hlc1 HY1.out.1 HY1.out.2 ?_)
    intro A' hA hAn
    have HA : Hid (Byt w0 A' (l.drop n) ∧ (A' = none → c1 - n = 0)) := ⟨hA, hAn⟩
    clear hA hAn
    go_wp2_with (refine st_one rfl 70 (.tmp 35) (.tmp 33) rfl r 0 115 _ (.slice A' (l.length - n) (c1 - n)) rfl rfl rfl rfl (by simp) HBk.out s29 ?_)
    intro w2 b2 g2
    have HF : Hid (Rb w0 r w2 (l.drop n) 0 ∧ W.grownBy w2 (some r)) := by
      refine ⟨H1.out.1.same (a := A') (c := c1 - n) ?_ g2 HA.out.1 HA.out.2 (by rw [List.length_drop]; omega) (by omega) (oct_drop HR.out.oct n) (by rw [List.length_drop]; omega), H1.out.2.trans g2⟩
      rw [List.length_drop]
      exact b2
    clear b2 g2 H1 HBk HR
    go_wp2
    go_ret
    exact ⟨u, l.drop n, 0, rfl, hub, HF.out.1, HF.out.2, HS.out⟩
end Go.Proofs.YtlefdnjokppibaaGreatDoor.Sh
namespace Go.Proofs.YtlefdnjokppibaaGreatDoor
open Go.RowKit Math
set_option linter.unusedVariables false
set_option linter.unusedSimpArgs false
theorem conv_byt {w : World} {a : Option Addr} {l : List Nat} {c : Nat} (h : Byt w a l) (ho : Oct l) (hnil : a = none → c = 0) : (convert 70 9 (.slice a l.length c)).run Tryz.prog w = .ok (.string (ofB l)) w := by
  cases a with
  | none =>
    have hl : l = [] := by
      rcases h with h | ⟨_, _, h, _⟩
      · exact h
      · cases h
    subst hl
    exact run_convert_bytes_nil w 70 5 Tryz.underlying70 Tryz.underlying5 0 c 9 Tryz.underlying9
  | some ad =>
    rw [← strOf _ ho]
    by_cases hl : l = []
    · subst hl
      rw [run_convert_bytes_string w 70 9 5 (some ad) ([] : List Nat).length c Tryz.underlying70 Tryz.underlying5 Tryz.underlying9]
      have hl : (loadCells ad 0).run Tryz.prog w = .ok #[] w := by simpa using run_loadCells_list (P := Tryz.prog) w ad [] (by simp)
      simp [Conv.bytesToString, hl, strOfNums]
      try rfl
    · rcases h with h | ⟨b, o, h, hc⟩
      · exact absurd h hl
      · obtain rfl := Option.some.inj h
        refine run_convert_bytes_arg w 70 5 Tryz.underlying70 Tryz.underlying5 b o l.length c _ (by rw [List.length_map]) (fun k hk => ?_) 9 Tryz.underlying9
        have := hc k hk
        rw [this]
        simp [List.getD_eq_getElem?_getD, hk]
end Go.Proofs.YtlefdnjokppibaaGreatDoor
