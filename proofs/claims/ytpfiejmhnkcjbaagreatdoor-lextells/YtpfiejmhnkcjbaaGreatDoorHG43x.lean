/-
   ·  · 
-/
import Derived.Test.YtpfiejmhnkcjbaaGreatDoorHG28x
import Derived.Test.YtpfiejmhnkcjbaaGreatDoorHG26x
import Derived.Laws.AppendOwnNone
import Derived.OpenShut
namespace Go.Proofs.YtpfiejmhnkcjbaaGreatDoor.D6
open Go.RowKit
set_option linter.unusedVariables false
def Scan (l : List UInt8) (pt : Int) (ds : List UInt8) : Prop :=
 (pt = -1 /\ ds = l /\ l.all dig10 = true) ∨ ∃ a c, l = a ++ 46 :: c /\ pt = (a.length : Int) /\ ds = a ++ c /\ a.all dig10 = true /\ c.all dig10 = true
theorem Scan.nil : Scan [] (-1) [] := .inl ⟨rfl, rfl, rfl⟩
theorem Scan.dig {l ds : List UInt8} {pt : Int} {x : UInt8} (h : Scan l pt ds) (hx : dig10 x = true) : Scan (l ++ [x]) pt (ds ++ [x]) := by
 rcases h with ⟨h1, rfl, h3⟩ | ⟨a, c, rfl, h2, rfl, h4, h5⟩
 . exact .inl ⟨h1, rfl, by simp [List.all_append, h3, hx]⟩
 . exact .inr ⟨a, c ++ [x], by simp, h2, by simp, h4, by simp [List.all_append, h5, hx]⟩
theorem Scan.dot {l ds : List UInt8} {pt : Int} (h : Scan l pt ds) (hp : pt < 0) : Scan (l ++ [46]) (l.length : Int) ds := by
 rcases h with ⟨h1, rfl, h3⟩ | ⟨a, c, rfl, h2, rfl, h4, h5⟩
 . exact .inr ⟨ds, [], rfl, rfl, by simp, h3, rfl⟩
 . omega
theorem Scan.bad {l ds : List UInt8} {pt : Int} {x : UInt8} (h : Scan l pt ds) (hx : dig10 x = false) (hp : x = 46 -> 0 <= pt) (r : List UInt8) (pt' : Int) (ds' : List UInt8) : ¬ Scan (l ++ x :: r) pt' ds' := by
 intro h2
 have no : ∀ (q : List UInt8), q.all dig10 = true -> x ∈ q -> False := fun q hq hm => by
  have := List.all_eq_true.1 hq x hm
  rw [hx] at this; cases this
 have key : x = 46 /\ l.all dig10 = true := by
  rcases h2 with ⟨_, _, h3⟩ | ⟨a, c, e, _, _, h4, h5⟩
  . exact (no _ h3 (by simp)).elim
  . rcases List.append_eq_append_iff.1 e with ⟨a', e1, e2⟩ | ⟨c', e1, e2⟩
    . cases a' with
      | nil =>
        simp only [List.nil_append, List.cons.injEq] at e2
        simp only [List.append_nil] at e1
        exact ⟨e2.1, by rw [<- e1]; exact h4⟩
      | cons y a' =>
        simp only [List.cons_append, List.cons.injEq] at e2
        exact (no _ h4 (by rw [e1, e2.1]; simp)).elim
    . cases c' with
      | nil =>
        simp only [List.nil_append, List.cons.injEq] at e2
        simp only [List.append_nil] at e1
        exact ⟨e2.1.symm, by rw [e1]; exact h4⟩
      | cons y c' =>
        simp only [List.cons_append, List.cons.injEq] at e2
        exact (no _ h5 (by rw [e2.2]; simp)).elim
 have h0 := hp key.1
 rcases h with ⟨h1, _, _⟩ | ⟨a, c, rfl, _, _, _, _⟩
 . omega
 . have := List.all_eq_true.1 key.2 46 (by simp)
   cases this
theorem no_dot {l : List UInt8} (h : l.all dig10 = true) : ¬ (46 : UInt8) ∈ l := fun hm => by
 have := List.all_eq_true.1 h 46 hm
 cases this
theorem cut_one {a c a' c' : List UInt8} (h : a ++ 46 :: c = a' ++ 46 :: c') (ha : ¬ (46 : UInt8) ∈ a) (ha' : ¬ (46 : UInt8) ∈ a') : a = a' /\ c = c' := by
 rcases List.append_eq_append_iff.1 h with ⟨b, e1, e2⟩ | ⟨b, e1, e2⟩
 . cases b with
   | nil =>
     simp only [List.nil_append, List.cons.injEq] at e2
     simp only [List.append_nil] at e1
     exact ⟨e1.symm, e2.2⟩
   | cons y b =>
     simp only [List.cons_append, List.cons.injEq] at e2
     exact (ha' (by rw [e1, <- e2.1]; simp)).elim
 . cases b with
   | nil =>
     simp only [List.nil_append, List.cons.injEq] at e2
     simp only [List.append_nil] at e1
     exact ⟨e1, e2.2.symm⟩
   | cons y b =>
     simp only [List.cons_append, List.cons.injEq] at e2
     exact (ha (by rw [e1, <- e2.1]; simp)).elim
theorem Scan.cuts {R A B : ByteArray} {d : Bool} {pt : Int} {ds : List UInt8} (h : Scan R.data.toList pt ds) (hc : Cuts R A B d) :
 A.data.toList.all dig10 = true /\ B.data.toList.all dig10 = true /\ ds = A.data.toList ++ B.data.toList /\ pt = (if d then (A.size : Int) else -1) := by
 cases hc with
 | none h1 ha hb =>
   subst ha hb
   rcases h with ⟨e1, rfl, e3⟩ | ⟨a, c, e, _⟩
   . exact ⟨e3, rfl, by simp, by simpa using e1⟩
   . exact (h1 (by rw [e]; simp)).elim
 | «at» h1 ha =>
   rcases h with ⟨e1, rfl, e3⟩ | ⟨a, c, e, e2, rfl, e4, e5⟩
   . exact (no_dot e3 (by rw [h1]; simp)).elim
   . rw [h1] at e
     obtain ⟨x1, x2⟩ := cut_one e ha (no_dot e4)
     rw [x1, x2]
     exact ⟨e4, e5, rfl, by rw [e2, <- x1, size_list]; rfl⟩
theorem scan_of {R A B : ByteArray} {d : Bool} (hc : Cuts R A B d) (hA : A.data.toList.all dig10 = true) (hB : B.data.toList.all dig10 = true) : ∃ pt ds, Scan R.data.toList pt ds := by
 cases hc with
 | none h1 ha hb => subst ha; exact ⟨_, _, .inl ⟨rfl, rfl, hA⟩⟩
 | «at» h1 ha => rw [h1]; exact ⟨_, _, .inr ⟨_, _, rfl, rfl, rfl, hA, hB⟩⟩
theorem cuts_nil {R A B : ByteArray} (hc : Cuts R A B false) : B = ⟨#[]⟩ := by
 cases hc with
 | none h1 ha hb => exact hb
theorem parse_no {R A B : ByteArray} {b d : Bool} (hc : Cuts R A B d) (h : ∀ pt ds, ¬ Scan R.data.toList pt ds) : parseV b d R A B = none := by
 unfold parseV
 rw [if_neg]
 rintro ⟨h1, h2, _⟩
 have hA := whole_dig h1
 have hB : B.data.toList.all dig10 = true := by
  cases d
  . rw [cuts_nil hc]; rfl
  . exact (part_dig (h2 rfl)).1
 obtain ⟨pt, ds, hs⟩ := scan_of hc hA hB
 exact h _ _ hs
theorem num_two (a c : List UInt8) (hc : c.all dig10 = true) : numL (a ++ c) = numL a * 10 ^ c.length + numL c := by
 have : ∀ (c : List UInt8) (n : Nat), c.foldl (fun n b => n * 10 + (b.toNat - 48)) n = n * 10 ^ c.length + numL c := by
  intro c
  induction c with
  | nil => intro n; simp [numL]
  | cons x c ih =>
    intro n
    have e : numL (x :: c) = (0 * 10 + (x.toNat - 48)) * 10 ^ c.length + numL c := ih _
    rw [List.foldl_cons, ih, e, List.length_cons, Nat.pow_succ]
    generalize 10 ^ c.length = P
    generalize x.toNat - 48 = d
    grind
 unfold numL
 rw [List.foldl_append, this]
 rfl
theorem num_head {x : UInt8} {r : List UInt8} (hx : dig10 x = true) (hr : r.all dig10 = true) (h0 : x ≠ 48) : 10 ^ r.length <= numL (x :: r) := by
 have h : numL (x :: r) = numL [x] * 10 ^ r.length + numL r := num_two [x] r hr
 have h1 : 1 <= numL [x] := by
  unfold dig10 at hx
  rw [decide_eq_true_eq] at hx
  have : x.toNat ≠ 48 := fun e => h0 (UInt8.toNat_inj.1 e)
  simp [numL]
  omega
 rw [h]
 have := Nat.mul_le_mul_right (10 ^ r.length) h1
 omega
theorem rs_long {b : Bool} {m s : Nat} (h : 10 ^ 19 * 10 ^ s <= m) : rs (sgn b m) s = .rg := by
 have e : res (sgn b m) s = none := by
  unfold res
  rw [if_neg]
  intro hf
  simp only [fits, Bool.and_eq_true, decide_eq_true_eq] at hf
  have h1 := natAbs_dn (sgn b m) s
  have ha : (sgn b m).natAbs = m := by cases b <;> simp [sgn]
  rw [ha] at h1
  have h2 := dnN_val s m
  have h3 : (dnN m s).1 <= 9223372036854775808 := by omega
  have h4 : 10 ^ (s - (dnN m s).2) <= 10 ^ s := Nat.pow_le_pow_right (by decide) (by omega)
  have h5 := Nat.mul_le_mul h3 h4
  rw [h2] at h5
  have h6 := Nat.le_trans h h5
  have := Nat.le_of_mul_le_mul_right h6 (ten_pos s)
  exact absurd this (by decide)
 simp [rs, e]
theorem nought_dig {l : List UInt8} (h : l.all dig10 = true) : noughtB l = l.all (· == 48) := by
 unfold noughtB
 rw [Bool.eq_iff_iff, List.all_eq_true, List.all_eq_true]
 refine forall_congr' fun x => forall_congr' fun hx => ?_
 have := List.all_eq_true.1 h x hx
 have : x ≠ 46 := fun e => by rw [e] at this; cases this
 simp [this]
theorem nought_cut {R A B : ByteArray} {d : Bool} (hc : Cuts R A B d) (hA : A.data.toList.all dig10 = true) (hB : B.data.toList.all dig10 = true) : noughtB R.data.toList = (A.data.toList ++ B.data.toList).all (· == 48) := by
 cases hc with
 | none h1 ha hb =>
   subst ha hb
   rw [nought_dig hA]
   simp
 | «at» h1 ha =>
   rw [h1, List.all_append, <- nought_dig hA, <- nought_dig hB]
   unfold noughtB
   rw [List.all_append, List.all_cons]
   simp
theorem pv_empty {R A B : ByteArray} {b d : Bool} (h : A.size = 0) : parseV b d R A B = none := by
 unfold parseV
 rw [if_neg]
 rintro ⟨h1, _⟩
 have := dig_pos (s := A) (by unfold wholeB at h1; rw [Bool.and_eq_true] at h1; exact h1.1)
 omega
theorem pv_nought {R A B : ByteArray} {b d : Bool} (h : 1 < A.size) (h0 : A.data.toList.head? = some 48) : parseV b d R A B = none := by
 unfold parseV
 rw [if_neg]
 rintro ⟨h1, _⟩
 unfold wholeB at h1
 simp only [Bool.and_eq_true, Bool.or_eq_true, decide_eq_true_eq] at h1
 rcases h1.2 with h2 | h2
 . exact h2 h0
 . omega
theorem pv_part {R A B : ByteArray} {b : Bool} (h : B.size = 0 ∨ 18 < B.size) : parseV b true R A B = none := by
 unfold parseV
 rw [if_neg]
 rintro ⟨_, h1, _⟩
 have h1 := h1 rfl
 unfold partB at h1
 simp only [Bool.and_eq_true, decide_eq_true_eq] at h1
 have := dig_pos h1.1
 omega
theorem pv_minus {R A B : ByteArray} {d : Bool} (h : noughtB R.data.toList = true) : parseV true d R A B = none := by
 unfold parseV
 rw [if_neg]
 rintro ⟨_, _, h1⟩
 rw [h1 rfl] at h
 cases h
theorem all_dig {l : List UInt8} (h : l.all dig10 = true) (h0 : 0 < l.length) : allDig l = true := by
 unfold allDig
 rw [h]
 cases l with
 | nil => simp at h0
 | cons a l => rfl
theorem pv_num {R A B : ByteArray} {b d : Bool} (hc : Cuts R A B d) (dA : A.data.toList.all dig10 = true) (dB : B.data.toList.all dig10 = true) (hA : 0 < A.size) (h0 : A.size = 1 ∨ ¬ A.data.toList.head? = some 48) (hB : d = true -> 0 < B.size /\ B.size <= 18) (hm : b = true -> noughtB R.data.toList = false) :
 parseV b d R A B = some (if 340282366920938463463374607431768211456 <= numL (A.data.toList ++ B.data.toList) then .rg else rs (sgn b (numL (A.data.toList ++ B.data.toList))) B.size) := by
 have hw : wholeB A = true := by
  unfold wholeB
  rw [all_dig dA (by rw [<- size_list]; exact hA)]
  rcases h0 with h0 | h0
  . simp [h0]
  . simp [h0]
 have hp : d = true -> partB B = true := fun hd => by
  unfold partB
  rw [all_dig dB (by rw [<- size_list]; exact (hB hd).1)]
  simp [(hB hd).2]
 have hB18 : B.size <= 18 := by
  cases d
  . rw [cuts_nil hc]; decide
  . exact (hB rfl).2
 unfold parseV
 rw [if_pos ⟨hw, hp, hm⟩]
 have e := num_two A.data.toList B.data.toList dB
 rw [<- size_list] at e
 rw [<- e]
 by_cases hl : 19 < A.size
 . rw [if_pos hl]
   have h1 : 10 ^ 19 * 10 ^ B.size <= numL (A.data.toList ++ B.data.toList) := by
    rw [e]
    have h2 : 10 ^ 19 <= numL A.data.toList := by
     rw [size_list] at hl
     cases hq : A.data.toList with
     | nil => rw [hq] at hl; simp at hl
     | cons x r =>
       rw [hq] at dA hl
       rw [List.all_cons, Bool.and_eq_true] at dA
       have hx : x ≠ 48 := fun e => by
        rcases h0 with h0 | h0
        . rw [size_list, hq] at h0; simp only [List.length_cons] at h0 hl; omega
        . exact h0 (by rw [hq, e]; rfl)
       exact Nat.le_trans (Nat.pow_le_pow_right (by decide) (by simp only [List.length_cons] at hl; omega)) (num_head dA.1 dA.2 hx)
    have := Nat.mul_le_mul_right (10 ^ B.size) h2
    omega
   rw [rs_long h1]
   split <;> rfl
 . rw [if_neg hl, if_neg]
   intro h
   have l1 := numL_lt _ (A.data.toList ++ B.data.toList) rfl (by rw [List.all_append, dA, dB]; rfl)
   have l2 : (A.data.toList ++ B.data.toList).length <= 37 := by rw [List.length_append, <- size_list, <- size_list]; omega
   have l3 := Nat.lt_of_lt_of_le l1 (Nat.pow_le_pow_right (by decide : 0 < 10) l2)
   have l4 : (10 : Nat) ^ 37 < 340282366920938463463374607431768211456 := by decide
   omega
end Go.Proofs.YtpfiejmhnkcjbaaGreatDoor.D6
namespace Go.Proofs.YtpfiejmhnkcjbaaGreatDoor.D6
open Go.RowKit Go.ChangeShapes Go.WideShapes
set_option linter.unusedVariables false
def Cells (w : World) (b off : Nat) (l : List Nat) : Prop := ∀ i, i < l.length -> w.cell? ⟨b, off + i, none⟩ = some (.int .u8 ((l.getD i 0 : Nat) : Int))
def Byt (w : World) (a : Option Addr) (l : List Nat) : Prop := l = [] ∨ ∃ b off, a = some ⟨b, off, none⟩ /\ Cells w b off l
theorem Tryz.info5 : (Tryz.prog.info? 5).map (fun i => (i.zero, i.size, i.bytes)) = some (some (.int .u8 0), 1, 1) := by kernel_rfl
def vals (l : List Nat) : List Value := l.map fun n : Nat => Value.int .u8 (n : Int)
theorem vals_length (l : List Nat) : (vals l).length = l.length := by simp [vals]
theorem vals_get (l : List Nat) (i : Nat) (h : i < l.length) : (vals l)[i]? = some (.int .u8 ((l.getD i 0 : Nat) : Int)) := by
 simp [vals, List.getD_eq_getElem?_getD, List.getElem?_eq_getElem h]
theorem vals_one (l : List Nat) : ∀ u ∈ vals l, u.oneCell' = true := by
 intro u hu
 obtain ⟨_, _, rfl⟩ := List.mem_map.1 hu
 rfl
def Own (w : World) (base : Nat) (v : Value) (l : List Nat) : Prop := w.ownsRow base 5 1 v l.length (vals l)
theorem app_bytes {ops : Array Oper} {rest : List Oper} {o : Oper} {a : Act} {Q : Exit -> Act -> World -> Prop} {w : World} (hgd : o.guard = none) (s x : Operand)
 (ho : o.op = .call { callee := .builtin .append, args := #[s, x], argTypes := #[34, 34] })
 (base : Nat) (v : Value) (l : List Nat) (hs : a.eval s = v) (hown : Own w base v l)
 (ax : Option Addr) (m c : Nat) (l2 : List Nat) (hm : m = l2.length) (hx : a.eval x = .slice ax m c) (hsrc : Byt w ax l2) (hnil : ax = none -> c = 0)
 (hb : l.length + l2.length <= 1000000) (hbase : base <= w.heap.size)
 (h : ∀ v' w', Own w' base v' (l ++ l2) -> w.grownBy w' v.ownBlock -> wpList Tryz.prog ops Q rest (a.put o.dst v') w') : wpList Tryz.prog ops Q (o :: rest) a w := by
 subst hm
 obtain ⟨i, hi, hz0, hz1, hz2⟩ := info_parts Tryz.info5
 cases ax with
 | none =>
   obtain rfl := hnil rfl
   have hl : l2 = [] := by
    rcases hsrc with h | ⟨_, _, h, _⟩
    . exact h
    . cases h
   subst hl
   refine wpList_append_own_none hgd s x 34 ho base 5 i 1 Tryz.underlying34 hi v _ _ hs hown hx (h v w ?_ (World.grownBy.refl _ _))
   simpa using hown
 | some ad =>
   refine wpList_append_own _ hgd s x 34 ho base 5 i (.int .u8 0) 1 1 Tryz.underlying34 hi hz0 hz1 hz2 rfl (by decide) v _ _ hs hown ad l2.length c (vals l2) hx (by simp [vals_length]) ?_ (vals_one l2) (by unfold maxLen; omega) (by omega) hbase ?_
   . intro j u hj
     have hjl : j < l2.length := by
      have := (List.getElem?_eq_some_iff.1 hj).1
      simpa [vals_length] using this
     rcases hsrc with rfl | ⟨b, off, he, hc⟩
     . simp at hjl
     . obtain rfl := Option.some.inj he
       rw [vals_get l2 j hjl] at hj
       rw [Addr.add_lit, hc j hjl]
       exact hj
   . intro v' w' h1 h2 _
     refine h v' w' ?_ h2
     unfold Own
     rw [List.length_append, show vals (l ++ l2) = vals l ++ vals l2 by simp [vals]]
     exact h1
theorem byt_lit (w : World) (l : List Nat) : Byt (w.alloc (.cells (vals l).toArray 5)) (some ⟨w.heap.size, 0, none⟩) l := by
 refine .inr ⟨_, _, rfl, fun i hi => ?_⟩
 rw [Nat.zero_add, World.cell?_alloc_new, List.getElem?_toArray, vals_get l i hi]
theorem Own.alloc {w : World} {base : Nat} {v : Value} {l : List Nat} (h : Own w base v l) (o : Obj) : Own (w.alloc o) base v l := World.ownsRow.alloc h o
theorem Own.byt {w : World} {B : Nat} {v : Value} {l : List Nat} (h : Own w B v l) : ∃ a c, v = .slice a l.length c /\ Byt w a l /\ (a = none -> c = 0) /\ l.length <= c /\ c <= maxLen := by
 have h' := h
 rcases h with ⟨_, ⟨rfl, h0⟩ | ⟨g, cap, cur, rfl, hg, hh, hle, hm, _⟩⟩
 . have : l = [] := List.eq_nil_of_length_eq_zero h0
   subst this
   exact ⟨none, 0, rfl, .inl rfl, fun _ => rfl, Nat.le_refl _, by unfold maxLen; omega⟩
 . refine ⟨_, cap, rfl, .inr ⟨g, 0, rfl, fun i hi => ?_⟩, (fun e => by cases e), hle, hm⟩
   rw [Nat.zero_add, World.ownsRow.cellAt h' i (by omega), vals_get l i hi]
end Go.Proofs.YtpfiejmhnkcjbaaGreatDoor.D6
namespace Go.Proofs.YtpfiejmhnkcjbaaGreatDoor.D6
open Go.RowKit
set_option linter.unusedVariables false
def u8s (l : List UInt8) : List Nat := l.map UInt8.toNat
structure L1 (w wr : World) (R : ByteArray) (k : Nat) (pt : Int) (ds : List UInt8) (dv : Value) : Prop where
 sc : Scan (R.data.toList.take k) pt ds
 own : Own wr (w.heap.size + 1) dv (u8s ds)
 blk : Blk wr w.heap.size 41 [.int .i64 0, .int .i64 0, .int .i64 0, .string ⟨#[]⟩, .slice none 0 0, .slice none 0 0]
 gr : Grow w wr
 len : ds.length <= k
theorem u8s_snoc (l : List UInt8) (x : UInt8) : u8s (l ++ [x]) = u8s l ++ [x.toNat] := by simp [u8s]
theorem L1.dig {w wr w1 : World} {R : ByteArray} {k : Nat} {pt : Int} {ds : List UInt8} {dv v1 : Value} (h : L1 w wr R k pt ds dv) (hl : k < R.data.toList.length) (hx : dig10 R.data.toList[k] = true) (o : Obj)
 (ho : Own w1 (w.heap.size + 1) v1 (u8s ds ++ [R.data.toList[k].toNat])) (hg : (wr.alloc o).grownBy w1 dv.ownBlock) : L1 w w1 R (k + 1) pt (ds ++ [R.data.toList[k]]) v1 := by
 have hne : ∀ b, dv.ownBlock = some b -> w.heap.size + 1 <= b := fun b hb => (World.ownsRow.lt h.own b hb).1
 refine ⟨?_, by rw [u8s_snoc]; exact ho, (h.blk.alloc o).kept hg (fun e => by have := hne _ e.symm; omega), ?_, by have := h.len; simp; omega⟩
 . rw [List.take_add_one, List.getElem?_eq_getElem hl, Option.toList_some]
   exact h.sc.dig hx
 . have g1 : Below w.heap.size w (wr.alloc o) := Grow.alloc h.gr o
   exact g1.grown hg g1.size (fun b hb => by have := hne b hb; omega)
theorem L1.dot {w wr : World} {R : ByteArray} {k : Nat} {pt : Int} {ds : List UInt8} {dv : Value} (h : L1 w wr R k pt ds dv) (hl : k < R.data.toList.length) (hx : R.data.toList[k] = 46) (hp : pt < 0) : L1 w wr R (k + 1) k ds dv := by
 refine ⟨?_, h.own, h.blk, h.gr, by have := h.len; omega⟩
 rw [List.take_add_one, List.getElem?_eq_getElem hl, Option.toList_some, hx]
 have := h.sc.dot hp
 rw [List.length_take, Nat.min_eq_left (by omega)] at this
 exact this
theorem L1.bad {w wr : World} {R : ByteArray} {k : Nat} {pt : Int} {ds : List UInt8} {dv : Value} (h : L1 w wr R k pt ds dv) (hl : k < R.data.toList.length) (hx : dig10 R.data.toList[k] = false) (hp : R.data.toList[k] = 46 -> 0 <= pt) : ∀ pt' ds', ¬ Scan R.data.toList pt' ds' := by
 intro pt' ds'
 have := h.sc.bad hx hp (R.data.toList.drop (k + 1)) pt' ds'
 rw [<- List.drop_eq_getElem_cons hl, List.take_append_drop] at this
 exact this
theorem Own.blk {w : World} {base : Nat} {v : Value} {l : List Nat} (h : Own w base v l) (hl : 0 < l.length) :
 ∃ g cap cur, v = .slice (some ⟨g, 0, none⟩) l.length cap /\ base <= g /\ Blk w g 5 cur /\ l.length <= cap /\ cap <= maxLen /\ ∀ i, i < l.length -> cur[i]? = some (.int .u8 ((l.getD i 0 : Nat) : Int)) := by
 have h' := h
 rcases h with ⟨_, ⟨rfl, h0⟩ | ⟨g, cap, cur, rfl, hg, hh, hle, hm, _⟩⟩
 . omega
 . refine ⟨g, cap, cur.toList, rfl, hg, hh, hle, hm, fun i hi => ?_⟩
   have e := World.ownsRow.cellAt h' i (by omega)
   have b : Blk w g 5 cur.toList := hh
   rw [b.cell, vals_get l i hi] at e
   exact e
def someB (l : List UInt8) : Bool := l.any (fun x => x != 48)
structure L2 (w wr : World) (b : Bool) (bw g : Nat) (cur : List Value) (D : List UInt8) (k h l : Nat) : Prop where
 wd : Wd h l (numL (D.take k) % 340282366920938463463374607431768211456)
 b0 : Blk wr w.heap.size 41 [.int .i64 0, .int .i64 0, .int .i64 0, .string ⟨#[]⟩, .slice none 0 0, .slice none 0 0]
 bd : Blk wr g 5 cur
 bw : Blk wr bw 75 [.int .u64 (h : Int), .int .u64 (l : Int), .bool b]
 gr : Grow w wr
theorem q_byte {C : World -> Prop} {a : Act} {o : Oper} {K : Act -> Prop} (x : Operand) (ho : o.op = .load 5 x) (b k : Nat) (hx : a.eval x = .pointer (some ⟨b, k, none⟩)) (v : Value) (hS : ∀ w, C w -> w.cell? ⟨b, k, none⟩ = some v)
 (hk : K (a.put o.dst v)) : o.quiet Tryz.prog a C K :=
 ⟨_, fun w hw => by
   have h := hS w hw
   unfold Oper.quietAt execOp
   simp only [ho, hx] <;> go_simp, hk⟩
theorem step_num {D : List UInt8} {k : Nat} (hk : k < D.length) (hd : dig10 D[k] = true) {h2 l2 m : Nat} (hm : numL (D.take k) % 340282366920938463463374607431768211456 = m) (w2 : Wd h2 l2 ((m * 10 % 340282366920938463463374607431768211456 + (D[k].toNat - 48)) % 340282366920938463463374607431768211456)) :
 Wd h2 l2 (numL (D.take (k + 1)) % 340282366920938463463374607431768211456) /\ (decide (340282366920938463463374607431768211456 <= numL (D.take k)) || !decide (m * 10 < 340282366920938463463374607431768211456) || !decide (m * 10 % 340282366920938463463374607431768211456 + (D[k].toNat - 48) < 340282366920938463463374607431768211456)) = decide (340282366920938463463374607431768211456 <= numL (D.take (k + 1))) := by
 have e : numL (D.take (k + 1)) = numL (D.take k) * 10 + (D[k].toNat - 48) := by
  rw [List.take_add_one, List.getElem?_eq_getElem hk, Option.toList_some, numL_snoc]
 rw [e]
 subst hm
 generalize numL (D.take k) = N at *
 unfold dig10 at hd
 rw [decide_eq_true_eq] at hd
 generalize D[k].toNat = x at *
 refine ⟨?_, ?_⟩
 . have : (N % 340282366920938463463374607431768211456 * 10 % 340282366920938463463374607431768211456 + (x - 48)) % 340282366920938463463374607431768211456 = (N * 10 + (x - 48)) % 340282366920938463463374607431768211456 := by omega
   rw [this] at w2
   exact w2
 . by_cases h1 : 340282366920938463463374607431768211456 <= N
   . have h2 : 340282366920938463463374607431768211456 <= N * 10 + (x - 48) := by omega
     simp [h1, h2]
   . rw [Nat.mod_eq_of_lt (show N < 340282366920938463463374607431768211456 by omega)]
     by_cases h2 : N * 10 < 340282366920938463463374607431768211456
     . rw [Nat.mod_eq_of_lt h2]
       by_cases h3 : N * 10 + (x - 48) < 340282366920938463463374607431768211456
       . have : ¬ 340282366920938463463374607431768211456 <= N * 10 + (x - 48) := by omega
         simp [h1, h2, h3, this]
       . have : 340282366920938463463374607431768211456 <= N * 10 + (x - 48) := by omega
         simp [h1, h2, h3, this]
     . have : 340282366920938463463374607431768211456 <= N * 10 + (x - 48) := by omega
       simp [h1, h2, this]
theorem some_snoc {D : List UInt8} {k : Nat} (hk : k < D.length) : someB (D.take (k + 1)) = (someB (D.take k) || (D[k] != 48)) := by
 rw [List.take_add_one, List.getElem?_eq_getElem hk, Option.toList_some]
 unfold someB
 rw [List.any_append]
 simp
theorem some_not {l : List UInt8} : l.all (· == 48) = !someB l := by
 unfold someB
 induction l with
 | nil => rfl
 | cons x l ih =>
   rw [List.all_cons, List.any_cons, ih, Bool.not_or]
   simp [bne]
theorem u8_get (l : List UInt8) (i : Nat) (h : i < l.length) : (u8s l).getD i 0 = l[i].toNat := by
 simp [u8s, List.getD_eq_getElem?_getD, List.getElem?_eq_getElem h]
structure T2 (b d : Bool) (R A B : ByteArray) (D : List UInt8) (cur : List Value) : Prop where
 len : D.length = A.size + B.size
 cu : ∀ i (h : i < D.length), cur[i]? = some (.int .u8 (D[i].toNat : Int))
 dg : ∀ i (h : i < D.length), dig10 D[i] = true
 x0 : ∀ (h : 0 < D.length), 1 < A.size -> D[0] = 48 -> parseV b d R A B = none
 num : (∀ h : 0 < D.length, A.size = 1 ∨ ¬ D[0] = 48) -> (b = true -> someB D = true) -> parseV b d R A B = some (if 340282366920938463463374607431768211456 <= numL D then .rg else rs (sgn b (numL D)) B.size)
 neg : b = true -> someB D = false -> parseV b d R A B = none
theorem t2_of {b d : Bool} {R A B : ByteArray} {ds : List UInt8} {cur : List Value} (hc : Cuts R A B d) (dA : A.data.toList.all dig10 = true) (dB : B.data.toList.all dig10 = true) (hds : ds = A.data.toList ++ B.data.toList) (hA : 0 < A.size) (hB : d = true -> 0 < B.size /\ B.size <= 18)
 (hcur : ∀ i, i < (u8s ds).length -> cur[i]? = some (.int .u8 (((u8s ds).getD i 0 : Nat) : Int))) : T2 b d R A B ds cur := by
 subst hds
 have hl : (A.data.toList ++ B.data.toList).length = A.size + B.size := by rw [List.length_append, <- size_list, <- size_list]
 have hh : ∀ h : 0 < (A.data.toList ++ B.data.toList).length, A.data.toList.head? = some (A.data.toList ++ B.data.toList)[0] := fun h => by
  rw [size_list] at hA
  rw [List.getElem_append_left hA, List.head?_eq_getElem?, List.getElem?_eq_getElem hA]
 have hng : noughtB R.data.toList = !someB (A.data.toList ++ B.data.toList) := by rw [nought_cut hc dA dB, some_not]
 refine ⟨hl, fun i h => ?_, fun i h => ?_, fun h h1 h2 => pv_nought h1 (by rw [hh h, h2]), fun h1 h2 => pv_num hc dA dB hA ?_ hB (fun hb => by rw [hng, h2 hb]; rfl), fun hb hs => ?_⟩
 . rw [hcur i (by simpa [u8s] using h), u8_get _ i h]
 . have : (A.data.toList ++ B.data.toList).all dig10 = true := by rw [List.all_append, dA, dB]; rfl
   exact List.all_eq_true.1 this _ (List.getElem_mem h)
 . rcases h1 (by omega) with h3 | h3
   . exact .inl h3
   . refine .inr fun e => h3 ?_
     rw [hh (by omega)] at e
     exact Option.some.inj e
 . subst hb
   exact pv_minus (by rw [hng, hs]; rfl)
end Go.Proofs.YtpfiejmhnkcjbaaGreatDoor.D6
