/-
  A node in memory; where a text stands in it (seek).
-/
import Derived.Test.YteokjfpppmnebaaNb
import Derived.BigQuiet
namespace Go.Proofs.Yteokjfpppmnebaa
open Go.RowKit
set_option linter.unusedVariables false
set_option linter.unusedSimpArgs false
/-- A slot. -/
structure Sl where
  t : ByteArray
  n : Int
  k : Option Nat
def pt (b : Option Nat) : Value := .pointer (b.map fun b => ⟨b, 0, none⟩)
def slC (s : Sl) : List Value := [.string s.t, .int .i64 s.n, pt s.k]
def z0 : Sl := ⟨⟨#[]⟩, 0, none⟩
theorem slC_len (s : Sl) : (slC s).length = 3 := rfl
theorem slC_one (s : Sl) : ∀ v ∈ slC s, v.oneCell' = true := by
  intro v hv
  simp only [slC, List.mem_cons, List.not_mem_nil, or_false] at hv
  rcases hv with rfl | rfl | rfl <;> rfl
def rowC (ss : List Sl) : List Value := ss.flatMap slC
theorem rowC_len (ss : List Sl) : (rowC ss).length = ss.length * 3 := by
  induction ss with
  | nil => rfl
  | cons s r ih => simp only [rowC, List.flatMap_cons, List.length_append, slC_len, List.length_cons] at ih ⊢; omega
theorem rowC_app (a b : List Sl) : rowC (a ++ b) = rowC a ++ rowC b := by simp [rowC]
theorem rowC_one (ss : List Sl) : ∀ v ∈ rowC ss, v.oneCell' = true := by
  intro v hv
  obtain ⟨s, _, h⟩ := List.mem_flatMap.1 hv
  exact slC_one s v h
theorem rowC_at {ss : List Sl} {i : Nat} {s : Sl} (h : ss[i]? = some s) (j : Nat) (hj : j < 3) : (rowC ss)[i * 3 + j]? = (slC s)[j]? := by
  have hi : i < ss.length := (List.getElem?_eq_some_iff.1 h).1
  have e : ss = ss.take i ++ (s :: ss.drop (i + 1)) := by
    have h2 : ss.drop i = s :: ss.drop (i + 1) := by rw [List.drop_eq_getElem_cons hi]; congr 1; exact (List.getElem?_eq_some_iff.1 h).2
    rw [← h2, List.take_append_drop]
  have hl : (rowC (ss.take i)).length = i * 3 := by rw [rowC_len, List.length_take]; omega
  rw [e, rowC_app, List.getElem?_append_right (by omega), hl, Nat.add_sub_cancel_left]
  show (slC s ++ rowC (ss.drop (i + 1)))[j]? = _
  rw [List.getElem?_append_left (by rw [slC_len]; exact hj)]
def pad (ss : List Sl) : List Sl := ss ++ List.replicate (16 - ss.length) z0
theorem pad_len {ss : List Sl} (h : ss.length ≤ 16) : (pad ss).length = 16 := by simp [pad]; omega
/-- A node's cells: its level, how many slots, the slots, the next one, who reads. -/
def nC (lv : Int) (ss : List Sl) (nx : Option Nat) (rd : Int) : List Value := [.int .i64 lv, .int .i64 (ss.length : Int)] ++ (rowC (pad ss) ++ [pt nx, .int .i64 rd])
theorem nC_len {lv : Int} {ss : List Sl} {nx : Option Nat} {rd : Int} (h : ss.length ≤ 16) : (nC lv ss nx rd).length = 52 := by
  simp [nC, rowC_len, pad_len h]
structure Nd (w : World) (b : Nat) (lv : Int) (ss : List Sl) (nx : Option Nat) (rd : Int) : Prop where
  blk : Blk w b 71 (nC lv ss nx rd)
  le : ss.length ≤ 16
theorem Nd.lt {w : World} {b : Nat} {lv : Int} {ss : List Sl} {nx : Option Nat} {rd : Int} (h : Nd w b lv ss nx rd) : b < w.heap.size := h.blk.lt
theorem Nd.level {w : World} {b : Nat} {lv : Int} {ss : List Sl} {nx : Option Nat} {rd : Int} (h : Nd w b lv ss nx rd) : w.cell? ⟨b, 0, none⟩ = some (.int .i64 lv) := h.blk.cell 0
theorem Nd.count {w : World} {b : Nat} {lv : Int} {ss : List Sl} {nx : Option Nat} {rd : Int} (h : Nd w b lv ss nx rd) : w.cell? ⟨b, 1, none⟩ = some (.int .i64 (ss.length : Int)) := h.blk.cell 1
theorem nC_row {lv : Int} {ss : List Sl} {nx : Option Nat} {rd : Int} (j : Nat) (hj : j < (rowC (pad ss)).length) : (nC lv ss nx rd)[2 + j]? = (rowC (pad ss))[j]? := by
  unfold nC
  rw [List.getElem?_append_right (by simp), List.getElem?_append_left (by simpa using hj)]
  simp
theorem Nd.slot {w : World} {b : Nat} {lv : Int} {ss : List Sl} {nx : Option Nat} {rd : Int} (h : Nd w b lv ss nx rd) (i : Nat) (s : Sl) (hs : (pad ss)[i]? = some s) (j : Nat) (hj : j < 3) : w.cell? ⟨b, 2 + i * 3 + j, none⟩ = (slC s)[j]? := by
  have hi : i < (pad ss).length := (List.getElem?_eq_some_iff.1 hs).1
  rw [h.blk.cell, Nat.add_assoc, nC_row _ (by rw [rowC_len]; omega), rowC_at hs j hj]
theorem Nd.range {w : World} {b : Nat} {lv : Int} {ss : List Sl} {nx : Option Nat} {rd : Int} (h : Nd w b lv ss nx rd) (i : Nat) (s : Sl) (hs : (pad ss)[i]? = some s) : w.rangeAt b (2 + i * 3) (slC s) := fun j v hj => by
  have hl : j < 3 := by have := (List.getElem?_eq_some_iff.1 hj).1; rw [slC_len] at this; exact this
  rw [h.slot i s hs j hl]; exact hj
theorem Nd.next {w : World} {b : Nat} {lv : Int} {ss : List Sl} {nx : Option Nat} {rd : Int} (h : Nd w b lv ss nx rd) : w.cell? ⟨b, 50, none⟩ = some (pt nx) := by
  rw [h.blk.cell]
  unfold nC
  rw [List.getElem?_append_right (by simp), List.getElem?_append_right (by rw [rowC_len, pad_len h.le]; simp)]
  simp [rowC_len, pad_len h.le]
theorem Nd.read {w : World} {b : Nat} {lv : Int} {ss : List Sl} {nx : Option Nat} {rd : Int} (h : Nd w b lv ss nx rd) : w.cell? ⟨b, 51, none⟩ = some (.int .i64 rd) := by
  rw [h.blk.cell]
  unfold nC
  rw [List.getElem?_append_right (by simp), List.getElem?_append_right (by rw [rowC_len, pad_len h.le]; simp)]
  simp [rowC_len, pad_len h.le]
theorem Nd.below {w w' : World} {b B : Nat} {lv : Int} {ss : List Sl} {nx : Option Nat} {rd : Int} (h : Nd w b lv ss nx rd) (g : Below B w w') (hb : b < B) : Nd w' b lv ss nx rd := ⟨h.blk.below g hb, h.le⟩
theorem Nd.kept {w w' : World} {b : Nat} {lv : Int} {ss : List Sl} {nx : Option Nat} {rd : Int} {row : Option Nat} (h : Nd w b lv ss nx rd) (g : w.grownBy w' row) (hne : some b ≠ row) : Nd w' b lv ss nx rd := ⟨h.blk.kept g hne, h.le⟩
theorem pad_at {ss : List Sl} {i : Nat} {s : Sl} (h : ss[i]? = some s) : (pad ss)[i]? = some s := by
  unfold pad
  rw [List.getElem?_append_left (List.getElem?_eq_some_iff.1 h).1]; exact h
/-! ### laws for quiet regions -/
theorem q_callv {C : World → Prop} {a : Act} {o : Oper} {K : Act → Prop} (k : Nat) (xs : Array Operand) (ts : Array TypeId)
    (hop : o.op = Op.call { callee := Callee.value (Operand.func k), args := xs, argTypes := ts }) (args : Array Value) (hargs : xs.map a.eval = args)
    (hent : ∀ (args : Array Value) (w : World), (callFunc k args).run Try.prog w = .ok (.enter k args) w) (v : Value)
    (hc : ∀ w, C w → Calls Try.prog k args w fun e w' => e = .returned v ∧ C w') (hk : K (a.put o.dst v)) : o.quiet Try.prog a C K :=
  ⟨v, fun w hw => by
    unfold Oper.quietAt
    have : (execOp a.eval o).run Try.prog w = .ok (.enter k args) w := by
      simp [execOp, hop, resolve, invoke, Act.eval, hargs, hent, Deferred.ofValue]
    rw [this]
    exact ⟨rfl, hc w hw⟩, hk⟩
theorem q_cell {C : World → Prop} {a : Act} {o : Oper} {K : Act → Prop} (T : TypeId) (hT : T = 3 ∨ T = 9 ∨ T = 53) (x : Operand) (ho : o.op = .load T x) (b k : Nat) (hx : a.eval x = .pointer (some ⟨b, k, none⟩)) (v : Value) (hS : ∀ w, C w → w.cell? ⟨b, k, none⟩ = some v) (hk : K (a.put o.dst v)) : o.quiet Try.prog a C K :=
  ⟨_, fun w hw => by
    have h := hS w hw
    unfold Oper.quietAt execOp
    rcases hT with rfl | rfl | rfl <;> (simp only [ho, hx]; go_simp), hk⟩
theorem ld_w {P : Program} {ops : Array Oper} {rest : List Oper} {o : Oper} {a : Act} {w : World} {Q : Exit → Act → World → Prop} (hw : Region.wanted o (yielded ops a.tmps) = true) (ty : TypeId) (x : Operand) (ho : o.op = .load ty x) (b k : Nat) (hx : a.eval x = .pointer (some ⟨b, k, none⟩)) (cs : List Value) (d : TypeDesc) (hS : w.rangeAt b k cs) (hu : P.underlying ty = some d) (hd : d.isRow = true) (hi : (P.info? ty).map (·.size) = some cs.length)
    (h : wpList P ops Q rest (a.put o.dst (.agg cs.toArray)) w) : wpList P ops Q (o :: rest) a w :=
  wpList_step fun _ hK => by rw [if_pos hw]; exact wp_load_mid ty x ho b k hx cs d hS hu hd hi (hK _ _ h)
theorem sSl (s : Sl) : (Try.prog.info? 60).map (·.size) = some (slC s).length := by rw [slC_len]; kernel_rfl
/-! ### the search -/
theorem cmp_slot (s : Sl) (key : ByteArray) (w : World) : Calls Try.prog 53 #[.agg (slC s).toArray, .string key] w fun e w' => e = .returned (.int .i64 (tx s.t key)) ∧ Hid (Below w.heap.size w w') := by
  go_enter Try.func53, Try.ntmps53
  go_wp2_with (refine al_box rfl 60 (.tmp 0) rfl (slC s) rfl ?_)
  intro g w1 l1 B1 G0
  have HZ : Hid (Below w.heap.size w w1) := (Below.refl w.heap.size w).grown G0 (Nat.le_refl _) (by simp)
  have c0 : w1.cell? ⟨g, 0, none⟩ = some (.string s.t) := B1.cell 0
  clear G0 B1
  go_wp2_with (go_at_call 54; refine (cmp_lit _ _ _).mono ?_; rintro e w' ⟨rfl, rfl⟩)
  go_ret
  exact ⟨rfl, HZ.out⟩
def bsL (f : Nat → Bool) : Nat → Nat → Nat → Nat
  | 0, i, _ => i
  | m + 1, i, j => if i < j then (if f ((i + j) / 2) then bsL f m ((i + j) / 2 + 1) j else bsL f m i ((i + j) / 2)) else i
theorem bsL_stop (f : Nat → Bool) (m i j : Nat) (h : ¬ i < j) : bsL f m i j = i := by
  cases m with
  | zero => rfl
  | succ m => unfold bsL; rw [if_neg h]
theorem bsL_range (f : Nat → Bool) : ∀ (m i j : Nat), i ≤ j → i ≤ bsL f m i j ∧ bsL f m i j ≤ j
  | 0, i, j, h => ⟨Nat.le_refl _, h⟩
  | m + 1, i, j, h => by
    unfold bsL
    by_cases hij : i < j
    · rw [if_pos hij]
      by_cases hf : f ((i + j) / 2) = true
      · rw [if_pos hf]
        have := bsL_range f m ((i + j) / 2 + 1) j (by omega)
        omega
      · rw [if_neg hf]
        have := bsL_range f m i ((i + j) / 2) (by omega)
        omega
    · rw [if_neg hij]; omega
def lessAt (ss : List Sl) (key : ByteArray) (h : Nat) : Bool := decide (tx (ss.getD h z0).t key < 0)
/-- The first place with a text that is not below. -/
def sk (ss : List Sl) (key : ByteArray) : Nat := bsL (lessAt ss key) ss.length 0 ss.length
/-- Is it that text? -/
def hit (ss : List Sl) (key : ByteArray) : Bool := decide (sk ss key < ss.length) && decide (tx (ss.getD (sk ss key) z0).t key = 0)
theorem sk_le (ss : List Sl) (key : ByteArray) : sk ss key ≤ ss.length := (bsL_range _ _ _ _ (Nat.zero_le _)).2
theorem hit_lt {ss : List Sl} {key : ByteArray} (h : hit ss key = true) : sk ss key < ss.length := by
  unfold hit at h
  simp only [Bool.and_eq_true, decide_eq_true_eq] at h
  exact h.1
def Rows3 (w : World) (b off : Nat) (ss : List Sl) : Prop := ∀ i s, ss[i]? = some s → w.rangeAt b (off + i * 3) (slC s)
theorem Rows3.below {w w' : World} {b off B : Nat} {ss : List Sl} (h : Rows3 w b off ss) (g : Below B w w') (hb : b < B) : Rows3 w' b off ss := fun i s hs j v hj => (g.cell (p := ⟨b, off + i * 3 + j, none⟩) hb).trans (h i s hs j v hj)
set_option maxRecDepth 8000 in
set_option maxHeartbeats 1000000 in
theorem bs_any (ss : List Sl) (b off cap : Nat) (key : ByteArray) (hn : ss.length ≤ 16) (w : World) (hb : b < w.heap.size) (hS : Rows3 w b off ss) :
    Calls Try.prog 52 #[.slice (some ⟨b, off, none⟩) ss.length cap, .string key, .func (.func 53) #[] #[]] w fun e w' => e = .returned (.tuple #[.int .i64 (sk ss key : Int), .bool (hit ss key)]) ∧ Hid (Below w.heap.size w w') := by
  have HS : Hid (Rows3 w b off ss) := hS
  obtain ⟨R, HR⟩ : ∃ R, Hid (sk ss key = R) := ⟨_, rfl⟩
  have HH : Hid (hit ss key = (decide (R < ss.length) && decide (tx (ss.getD R z0).t key = 0))) := by rw [← HR.out]; rfl
  have HR0 : Hid (bsL (lessAt ss key) ss.length 0 ss.length = R) := HR.out
  rw [HR.out]
  obtain ⟨T, HT⟩ : ∃ T, Hid (hit ss key = T) := ⟨_, rfl⟩
  rw [HT.out] at HH ⊢
  clear hS HR HT
  go_enter Try.func52, Try.ntmps52
  go_wp2
  go_loopw [9, 10, 11] (fun i j _ wr => ∃ p q m : Nat, i = .int .i64 (p : Int) ∧ j = .int .i64 (q : Int) ∧ p ≤ q ∧ q ≤ ss.length ∧ Hid (q - p ≤ m ∧ bsL (lessAt ss key) m p q = R) ∧ Hid (Below w.heap.size w wr)) (fun i j _ _ => (intOf j).toNat - (intOf i).toNat)
  case atStart => exact ⟨0, ss.length, ss.length, rfl, rfl, by omega, by omega, ⟨by omega, HR0.out⟩, Below.refl _ _⟩
  case round =>
    obtain ⟨p, q, m, rfl, rfl, hpq, hq, HB, HZ⟩ := hrel
    by_cases hlt : p < q
    case neg =>
      obtain rfl : p = R := by rw [← HB.out.2, bsL_stop _ _ _ _ hlt]
      clear HB HR0
      by_cases hin : p < ss.length
      · obtain ⟨x, hx⟩ : ∃ x, ss[p]? = some x := ⟨_, List.getElem?_eq_getElem hin⟩
        have HX : Hid (T = decide (tx x.t key = 0)) := by
          show T = _
          have := HH.out
          rw [List.getD_eq_getElem?_getD, hx] at this
          simpa [hin] using this
        have HC : Hid (wr.rangeAt b (off + p * 3) (slC x)) := (HS.out.below HZ.out hb) p x hx
        have K := cmp_slot x key wr
        clear hx HH HS
        go_wp2_with (refine ld_w (by rfl) 60 (.tmp 43) rfl b (off + p * 3) rfl (slC x) _ HC.out Try.underlying60 rfl (sSl x) ?_)
        refine K.mono ?_
        clear K
        rintro e w' ⟨rfl, H⟩
        have HF : Hid (Below w.heap.size w w') := HZ.out.trans (H.out.mono HZ.out.size)
        clear H HZ HC
        go_wp2
        go_ret2
        refine ⟨?_, HF.out⟩
        rw [HX.out]
        rfl
      · have HT : Hid (T = false) := by show T = false; have := HH.out; simpa [hin] using this
        clear HH HS
        go_wp2
        go_ret2
        rw [HT.out]
        exact ⟨rfl, HZ.out⟩
    have hm : (p + q) / 2 < ss.length := by omega
    obtain ⟨x, hx⟩ : ∃ x, ss[(p + q) / 2]? = some x := ⟨_, List.getElem?_eq_getElem hm⟩
    have HC : Hid (wr.rangeAt b (off + (p + q) / 2 * 3) (slC x)) := (HS.out.below HZ.out hb) _ x hx
    have HX : Hid (lessAt ss key ((p + q) / 2) = decide (tx x.t key < 0)) := by
      show _ = _
      unfold lessAt
      rw [List.getD_eq_getElem?_getD, hx]
      rfl
    have K := cmp_slot x key wr
    clear hx
    go_wp2_with (refine ld_w (by rfl) 60 (.tmp 27) rfl b (off + (p + q) / 2 * 3) rfl (slC x) _ HC.out Try.underlying60 rfl (sSl x) ?_)
    refine K.mono ?_
    clear K
    rintro e w' ⟨rfl, H⟩
    have HF : Hid (Below w.heap.size w w') := HZ.out.trans (H.out.mono HZ.out.size)
    clear H HZ HC
    obtain ⟨m', rfl⟩ : ∃ m', m = m' + 1 := ⟨m - 1, by have := HB.out.1; omega⟩
    by_cases hl : tx x.t key < 0
    · have HB2 : Hid (bsL (lessAt ss key) m' ((p + q) / 2 + 1) q = R) := by
        have h := HB.out.2
        unfold bsL at h
        rw [if_pos hlt, if_pos (by rw [HX.out]; simpa using hl)] at h
        exact h
      have HM : Hid (q - p ≤ m' + 1) := HB.out.1
      clear HB HX
      go_wp2
      go_roundw
      case rel => exact ⟨(p + q) / 2 + 1, q, m', by go_num, rfl, by omega, hq, ⟨by have := HM.out; omega, HB2.out⟩, HF.out⟩
      case measure => simp [intOf]; omega
    · have HB2 : Hid (bsL (lessAt ss key) m' p ((p + q) / 2) = R) := by
        have h := HB.out.2
        unfold bsL at h
        rw [if_pos hlt, if_neg (by rw [HX.out]; simpa using hl)] at h
        exact h
      have HM : Hid (q - p ≤ m' + 1) := HB.out.1
      clear HB HX
      go_wp2
      go_roundw
      case rel => exact ⟨p, (p + q) / 2, m', rfl, by go_num, by omega, by omega, ⟨by have := HM.out; omega, HB2.out⟩, HF.out⟩
      case measure => simp [intOf]; omega
#print axioms bs_any
end Go.Proofs.Yteokjfpppmnebaa
