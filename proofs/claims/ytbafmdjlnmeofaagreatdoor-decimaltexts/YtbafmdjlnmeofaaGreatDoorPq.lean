/-
  The document's own Parse: its first loop.
-/
import Derived.Test.YtbafmdjlnmeofaaGreatDoorOby
namespace Go.Proofs.YtbafmdjlnmeofaaGreatDoor
open Go.RowKit
set_option linter.unusedVariables false
def u8s (l : List UInt8) : List Nat := l.map UInt8.toNat
structure L1 (w wr : World) (R : ByteArray) (k : Nat) (pt : Int) (ds : List UInt8) (dv : Value) : Prop where
  sc : Scan (R.data.toList.take k) pt ds
  own : Own wr (w.heap.size + 1) dv (u8s ds)
  blk : Blk wr w.heap.size 25 [.int .i64 0, .int .i64 0, .int .i64 0, .string ⟨#[]⟩, .slice none 0 0, .slice none 0 0]
  gr : Grow w wr
  len : ds.length ≤ k
theorem u8s_snoc (l : List UInt8) (x : UInt8) : u8s (l ++ [x]) = u8s l ++ [x.toNat] := by simp [u8s]
theorem L1.dig {w wr w1 : World} {R : ByteArray} {k : Nat} {pt : Int} {ds : List UInt8} {dv v1 : Value} (h : L1 w wr R k pt ds dv) (hl : k < R.data.toList.length) (hx : dig10 R.data.toList[k] = true) (o : Obj)
    (ho : Own w1 (w.heap.size + 1) v1 (u8s ds ++ [R.data.toList[k].toNat])) (hg : (wr.alloc o).grownBy w1 dv.ownBlock) : L1 w w1 R (k + 1) pt (ds ++ [R.data.toList[k]]) v1 := by
  have hne : ∀ b, dv.ownBlock = some b → w.heap.size + 1 ≤ b := fun b hb => (World.ownsRow.lt h.own b hb).1
  refine ⟨?_, by rw [u8s_snoc]; exact ho, (h.blk.alloc o).kept hg (fun e => by have := hne _ e.symm; omega), ?_, by have := h.len; simp; omega⟩
  · rw [List.take_add_one, List.getElem?_eq_getElem hl, Option.toList_some]
    exact h.sc.dig hx
  · have g1 : Below w.heap.size w (wr.alloc o) := Grow.alloc h.gr o
    exact g1.grown hg g1.size (fun b hb => by have := hne b hb; omega)
theorem L1.dot {w wr : World} {R : ByteArray} {k : Nat} {pt : Int} {ds : List UInt8} {dv : Value} (h : L1 w wr R k pt ds dv) (hl : k < R.data.toList.length) (hx : R.data.toList[k] = 46) (hp : pt < 0) : L1 w wr R (k + 1) k ds dv := by
  refine ⟨?_, h.own, h.blk, h.gr, by have := h.len; omega⟩
  rw [List.take_add_one, List.getElem?_eq_getElem hl, Option.toList_some, hx]
  have := h.sc.dot hp
  rw [List.length_take, Nat.min_eq_left (by omega)] at this
  exact this
theorem L1.bad {w wr : World} {R : ByteArray} {k : Nat} {pt : Int} {ds : List UInt8} {dv : Value} (h : L1 w wr R k pt ds dv) (hl : k < R.data.toList.length) (hx : dig10 R.data.toList[k] = false) (hp : R.data.toList[k] = 46 → 0 ≤ pt) : ∀ pt' ds', ¬ Scan R.data.toList pt' ds' := by
  intro pt' ds'
  have := h.sc.bad hx hp (R.data.toList.drop (k + 1)) pt' ds'
  rw [← List.drop_eq_getElem_cons hl, List.take_append_drop] at this
  exact this
theorem Own.blk {w : World} {base : Nat} {v : Value} {l : List Nat} (h : Own w base v l) (hl : 0 < l.length) :
    ∃ g cap cur, v = .slice (some ⟨g, 0, none⟩) l.length cap ∧ base ≤ g ∧ Blk w g 5 cur ∧ l.length ≤ cap ∧ cap ≤ maxLen ∧ ∀ i, i < l.length → cur[i]? = some (.int .u8 ((l.getD i 0 : Nat) : Int)) := by
  have h' := h
  rcases h with ⟨_, ⟨rfl, h0⟩ | ⟨g, cap, cur, rfl, hg, hh, hle, hm, _⟩⟩
  · omega
  · refine ⟨g, cap, cur.toList, rfl, hg, hh, hle, hm, fun i hi => ?_⟩
    have e := World.ownsRow.cellAt h' i (by omega)
    have b : Blk w g 5 cur.toList := hh
    rw [b.cell, vals_get l i hi] at e
    exact e
def someB (l : List UInt8) : Bool := l.any (fun x => x != 48)
structure L2 (w wr : World) (b : Bool) (bw g : Nat) (cur : List Value) (D : List UInt8) (k h l : Nat) : Prop where
  wd : Wd h l (numL (D.take k) % 340282366920938463463374607431768211456)
  b0 : Blk wr w.heap.size 25 [.int .i64 0, .int .i64 0, .int .i64 0, .string ⟨#[]⟩, .slice none 0 0, .slice none 0 0]
  bd : Blk wr g 5 cur
  bw : Blk wr bw 57 [.int .u64 (h : Int), .int .u64 (l : Int), .bool b]
  gr : Grow w wr
theorem q_byte {C : World → Prop} {a : Act} {o : Oper} {K : Act → Prop} (x : Operand) (ho : o.op = .load 5 x) (b k : Nat) (hx : a.eval x = .pointer (some ⟨b, k, none⟩)) (v : Value) (hS : ∀ w, C w → w.cell? ⟨b, k, none⟩ = some v)
    (hk : K (a.put o.dst v)) : o.quiet Tryz.prog a C K :=
  ⟨_, fun w hw => by
    have h := hS w hw
    unfold Oper.quietAt execOp
    simp only [ho, hx] <;> go_simp, hk⟩
/-- One digit more. -/
theorem step_num {D : List UInt8} {k : Nat} (hk : k < D.length) (hd : dig10 D[k] = true) {h2 l2 m : Nat} (hm : numL (D.take k) % 340282366920938463463374607431768211456 = m) (w2 : Wd h2 l2 ((m * 10 % 340282366920938463463374607431768211456 + (D[k].toNat - 48)) % 340282366920938463463374607431768211456)) :
    Wd h2 l2 (numL (D.take (k + 1)) % 340282366920938463463374607431768211456) ∧ (decide (340282366920938463463374607431768211456 ≤ numL (D.take k)) || !decide (m * 10 < 340282366920938463463374607431768211456) || !decide (m * 10 % 340282366920938463463374607431768211456 + (D[k].toNat - 48) < 340282366920938463463374607431768211456)) = decide (340282366920938463463374607431768211456 ≤ numL (D.take (k + 1))) := by
  have e : numL (D.take (k + 1)) = numL (D.take k) * 10 + (D[k].toNat - 48) := by
    rw [List.take_add_one, List.getElem?_eq_getElem hk, Option.toList_some, numL_snoc]
  rw [e]
  subst hm
  generalize numL (D.take k) = N at *
  unfold dig10 at hd
  rw [decide_eq_true_eq] at hd
  generalize D[k].toNat = x at *
  refine ⟨?_, ?_⟩
  · have : (N % 340282366920938463463374607431768211456 * 10 % 340282366920938463463374607431768211456 + (x - 48)) % 340282366920938463463374607431768211456 = (N * 10 + (x - 48)) % 340282366920938463463374607431768211456 := by omega
    rw [this] at w2
    exact w2
  · by_cases h1 : 340282366920938463463374607431768211456 ≤ N
    · have h2 : 340282366920938463463374607431768211456 ≤ N * 10 + (x - 48) := by omega
      simp [h1, h2]
    · rw [Nat.mod_eq_of_lt (show N < 340282366920938463463374607431768211456 by omega)]
      by_cases h2 : N * 10 < 340282366920938463463374607431768211456
      · rw [Nat.mod_eq_of_lt h2]
        by_cases h3 : N * 10 + (x - 48) < 340282366920938463463374607431768211456
        · have : ¬ 340282366920938463463374607431768211456 ≤ N * 10 + (x - 48) := by omega
          simp [h1, h2, h3, this]
        · have : 340282366920938463463374607431768211456 ≤ N * 10 + (x - 48) := by omega
          simp [h1, h2, h3, this]
      · have : 340282366920938463463374607431768211456 ≤ N * 10 + (x - 48) := by omega
        simp [h1, h2, this]
theorem some_snoc {D : List UInt8} {k : Nat} (hk : k < D.length) : someB (D.take (k + 1)) = (someB (D.take k) || (D[k] != 48)) := by
  rw [List.take_add_one, List.getElem?_eq_getElem hk, Option.toList_some]
  unfold someB
  rw [List.any_append]
  simp
theorem some_not {l : List UInt8} : l.all (· == 48) = !someB l := by
  unfold someB
  induction l with
  | nil => rfl
  | cons x l ih =>
    rw [List.all_cons, List.any_cons, ih, Bool.not_or]
    simp [bne]
theorem u8_get (l : List UInt8) (i : Nat) (h : i < l.length) : (u8s l).getD i 0 = l[i].toNat := by
  simp [u8s, List.getD_eq_getElem?_getD, List.getElem?_eq_getElem h]
structure T2 (b d : Bool) (R A B : ByteArray) (D : List UInt8) (cur : List Value) : Prop where
  len : D.length = A.size + B.size
  cu : ∀ i (h : i < D.length), cur[i]? = some (.int .u8 (D[i].toNat : Int))
  dg : ∀ i (h : i < D.length), dig10 D[i] = true
  x0 : ∀ (h : 0 < D.length), 1 < A.size → D[0] = 48 → parseV b d R A B = none
  num : (∀ h : 0 < D.length, A.size = 1 ∨ ¬ D[0] = 48) → (b = true → someB D = true) → parseV b d R A B = some (if 340282366920938463463374607431768211456 ≤ numL D then .rg else rs (sgn b (numL D)) B.size)
  neg : b = true → someB D = false → parseV b d R A B = none
theorem t2_of {b d : Bool} {R A B : ByteArray} {ds : List UInt8} {cur : List Value} (hc : Cuts R A B d) (dA : A.data.toList.all dig10 = true) (dB : B.data.toList.all dig10 = true) (hds : ds = A.data.toList ++ B.data.toList) (hA : 0 < A.size) (hB : d = true → 0 < B.size ∧ B.size ≤ 18)
    (hcur : ∀ i, i < (u8s ds).length → cur[i]? = some (.int .u8 (((u8s ds).getD i 0 : Nat) : Int))) : T2 b d R A B ds cur := by
  subst hds
  have hl : (A.data.toList ++ B.data.toList).length = A.size + B.size := by rw [List.length_append, ← size_list, ← size_list]
  have hh : ∀ h : 0 < (A.data.toList ++ B.data.toList).length, A.data.toList.head? = some (A.data.toList ++ B.data.toList)[0] := fun h => by
    rw [size_list] at hA
    rw [List.getElem_append_left hA, List.head?_eq_getElem?, List.getElem?_eq_getElem hA]
  have hng : noughtB R.data.toList = !someB (A.data.toList ++ B.data.toList) := by rw [nought_cut hc dA dB, some_not]
  refine ⟨hl, fun i h => ?_, fun i h => ?_, fun h h1 h2 => pv_nought h1 (by rw [hh h, h2]), fun h1 h2 => pv_num hc dA dB hA ?_ hB (fun hb => by rw [hng, h2 hb]; rfl), fun hb hs => ?_⟩
  · rw [hcur i (by simpa [u8s] using h), u8_get _ i h]
  · have : (A.data.toList ++ B.data.toList).all dig10 = true := by rw [List.all_append, dA, dB]; rfl
    exact List.all_eq_true.1 this _ (List.getElem_mem h)
  · rcases h1 (by omega) with h3 | h3
    · exact .inl h3
    · refine .inr fun e => h3 ?_
      rw [hh (by omega)] at e
      exact Option.some.inj e
  · subst hb
    exact pv_minus (by rw [hng, hs]; rfl)
end Go.Proofs.YtbafmdjlnmeofaaGreatDoor
