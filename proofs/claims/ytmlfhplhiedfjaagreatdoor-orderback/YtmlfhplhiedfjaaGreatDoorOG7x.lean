/-
  Appending to bytes that the call made: where they lie then, and what stays as it was. · Keys, over lists of bytes: plain mathematics. · The contracts of octet.highFirst, Big, Short and of the document's own Big, Short: each makes the bytes of a number, the highest first.
-/
import Derived.Test.YtmlfhplhiedfjaaGreatDoorOG2x
import Derived.Test.YtmlfhplhiedfjaaGreatDoorOG3x
import Derived.Test.YtmlfhplhiedfjaaGreatDoorOClo
import Derived.Lib.AppendStr
import Derived.Laws.MakeOwn
namespace Go.Proofs.YtmlfhplhiedfjaaGreatDoor
open Go.RowKit Math
set_option linter.unusedVariables false
/-- A step that appends: the new slice is the call's own; nothing else of what was there has turned. -/
structure Ap (B : Nat) (W w' : World) (v v' : Value) (l' : List Nat) : Prop where
  own : Own w' B v' l'
  gr : W.grownBy w' v.ownBlock
  ob : ∀ b, v'.ownBlock = some b → v.ownBlock = some b ∨ W.heap.size ≤ b
theorem Ap.trans {B : Nat} {W w1 w2 : World} {v v1 v2 : Value} {l1 l2 : List Nat} (h : Ap B W w1 v v1 l1) (k : Ap B w1 w2 v1 v2 l2) : Ap B W w2 v v2 l2 := by
  have hs := h.gr.size
  refine ⟨k.own, ⟨k.gr.os.trans h.gr.os, k.gr.tape.trans h.gr.tape, k.gr.output.trans h.gr.output, Nat.le_trans hs k.gr.size, fun i hi hne => ?_⟩, fun b hb => ?_⟩
  · rw [k.gr.block i (Nat.lt_of_lt_of_le hi hs) (fun e => ?_), h.gr.block i hi hne]
    rcases h.ob i e.symm with h1 | h1
    · exact hne h1.symm
    · omega
  · rcases k.ob b hb with h1 | h1
    · exact h.ob b h1
    · exact .inr (Nat.le_trans hs h1)
theorem Ap.refl {B : Nat} {W : World} {v : Value} {l : List Nat} (h : Own W B v l) : Ap B W W v v l := ⟨h, World.grownBy.refl _ _, fun b hb => .inl hb⟩
/-- New blocks ahead of a step. -/
theorem Ap.after {B : Nat} {W w1 w2 : World} {v v2 : Value} {l2 : List Nat} (g : Below W.heap.size W w1) (k : Ap B w1 w2 v v2 l2) : Ap B W w2 v v2 l2 :=
  ⟨k.own, ⟨k.gr.os.trans g.os, k.gr.tape.trans g.tape, k.gr.output.trans g.output, Nat.le_trans g.size k.gr.size, fun i hi hne => (k.gr.block i (Nat.lt_of_lt_of_le hi g.size) hne).trans (g.block i hi)⟩,
   fun b hb => (k.ob b hb).imp id (fun h => Nat.le_trans g.size h)⟩
theorem Own.below {w w' : World} {B : Nat} {v : Value} {l : List Nat} (h : Own w B v l) (g : Below w.heap.size w w') : Own w' B v l :=
  World.ownsRow.kept (row := none) h ⟨g.os, g.tape, g.output, g.size, fun x hx _ => g.block x hx⟩ (by simpa using Classical.em _)
theorem Ap.below {B C : Nat} {w0 W w' : World} {v v' : Value} {l l' : List Nat} (k : Ap B W w' v v' l') (h : Own W B v l) (hb : Below C w0 W) (hC : C ≤ W.heap.size) (hCB : C ≤ B) : Below C w0 w' :=
  hb.grown k.gr hC fun x hx => Nat.le_trans hCB (World.ownsRow.lt h x hx).1
theorem Ap.blk {B : Nat} {W w' : World} {v v' : Value} {l' : List Nat} (k : Ap B W w' v v' l') {b : Nat} {t : TypeId} {vs : List Value} (h : Blk W b t vs) (hne : v.ownBlock ≠ some b) : Blk w' b t vs := h.kept k.gr (fun e => hne e.symm)
theorem Own.ne {w : World} {B : Nat} {v : Value} {l : List Nat} (h : Own w B v l) : v.ownBlock ≠ some w.heap.size := fun e => by
  have := (World.ownsRow.lt h _ e).2
  omega
theorem vals_app (l m : List Nat) : vals (l ++ m) = vals l ++ vals m := by simp [vals]
theorem ap_bytes {ops : Array Oper} {rest : List Oper} {o : Oper} {a : Act} {Q : Exit → Act → World → Prop} {w : World} (hgd : o.guard = none) (s x : Operand)
    (ho : o.op = .call { callee := .builtin .append, args := #[s, x], argTypes := #[52, 52] })
    (base : Nat) (v : Value) (l : List Nat) (hs : a.eval s = v) (hown : Own w base v l)
    (ax : Option Addr) (m c : Nat) (l2 : List Nat) (hm : m = l2.length) (hx : a.eval x = .slice ax m c) (hsrc : Byt w ax l2) (hnil : ax = none → c = 0)
    (hb : l.length + l2.length ≤ 1000000000) (hbase : base ≤ w.heap.size)
    (h : ∀ v' w', Ap base w w' v v' (l ++ l2) → wpList Tryz.prog ops Q rest (a.put o.dst v') w') : wpList Tryz.prog ops Q (o :: rest) a w := by
  subst hm
  refine wpList_plain hgd fun K hK => ?_
  obtain ⟨i, hi, hz0, hz1, hz2⟩ := info_parts Tryz.info5
  cases ax with
  | none =>
    obtain rfl := hnil rfl
    have hl : l2 = [] := by
      rcases hsrc with h | ⟨_, _, h, _⟩
      · exact h
      · cases h
    subst hl
    have hr := run_append_owned_none (P := Tryz.prog) (w := w) base 52 o.type 5 i 1 Tryz.underlying52 hi v _ _ hown
    unfold Oper.wp execOp
    simp only [ho, resolve, invoke, builtin, Sem.run_bind, Sem.run_pure, Result.andThen_ok, List.map_toArray, List.map_cons, List.map_nil, hs, hx, List.length_nil, hr]
    exact hK _ _ (h v w (by rw [List.append_nil]; exact Ap.refl hown))
  | some ad =>
    obtain ⟨v', w', r1, r2, r3, _, r5⟩ := run_append_own_at (P := Tryz.prog) w base 52 o.type 5 i _ 1 1 Tryz.underlying52 hi hz0 hz1 hz2 rfl (by decide) v _ _ hown ad l2.length c (vals l2) (by simp [vals_length]) (by
      intro j u hj
      have hjl : j < l2.length := by
        have := (List.getElem?_eq_some_iff.1 hj).1
        simpa [vals_length] using this
      rcases hsrc with rfl | ⟨b, off, he, hc⟩
      · simp at hjl
      · obtain rfl := Option.some.inj he
        rw [vals_get l2 j hjl] at hj
        rw [Addr.add_lit, hc j hjl]
        exact hj) (vals_one l2) (by unfold maxLen; omega) (by omega) hbase
    unfold Oper.wp execOp
    simp only [ho, resolve, invoke, builtin, Sem.run_bind, Sem.run_pure, Result.andThen_ok, List.map_toArray, List.map_cons, List.map_nil, hs, hx, r1]
    refine hK _ _ (h v' w' ⟨?_, r3, fun b hb => ?_⟩)
    · unfold Own
      rw [List.length_append, vals_app]
      exact r2
    · rcases r5 with e | e
      · exact .inl (e.symm.trans hb)
      · rw [e] at hb
        exact .inr (by injection hb with hb; omega)
theorem str_vals (s : ByteArray) : Lib.strCells s = vals (bts s) := by
  simp [Lib.strCells, vals, bts]
theorem ap_str {ops : Array Oper} {rest : List Oper} {o : Oper} {a : Act} {Q : Exit → Act → World → Prop} {w : World} (hgd : o.guard = none) (sl x : Operand)
    (ho : o.op = .call { callee := .builtin .append, args := #[sl, x], argTypes := #[52, 9] })
    (base : Nat) (v : Value) (l : List Nat) (hs : a.eval sl = v) (hown : Own w base v l) (s : ByteArray) (hx : a.eval x = .string s)
    (hb : l.length + s.size ≤ 1000000000) (hbase : base ≤ w.heap.size)
    (h : ∀ v' w', Ap base w w' v v' (l ++ bts s) → wpList Tryz.prog ops Q rest (a.put o.dst v') w') : wpList Tryz.prog ops Q (o :: rest) a w := by
  refine wpList_plain hgd fun K hK => ?_
  obtain ⟨i, hi, hz0, hz1, hz2⟩ := info_parts Tryz.info5
  obtain ⟨v', w', r1, r2, r3, r4⟩ := Lib.run_append_own_string (P := Tryz.prog) w base 52 9 o.type 5 i Tryz.underlying52 Tryz.underlying9 hi hz0 hz1 hz2 v _ _ hown s (by unfold maxLen; omega) (by omega) hbase
  have ob : ∀ b, v'.ownBlock = some b → v.ownBlock = some b ∨ w.heap.size ≤ b := by
    intro b hvb
    rcases hown.2 with ⟨rfl, hn0⟩ | ⟨g, cap, cur, rfl, hbg, hg, hnc, hcm, hcs, htake⟩
    · by_cases hm : s.size = 0
      · have := r4.2 ⟨rfl, hm⟩
        rw [this] at hvb
        cases hvb
      · have hr := run_append_nil_string (P := Tryz.prog) w 52 9 o.type 5 i (.int .u8 0) Tryz.underlying52 Tryz.underlying9 hi hz0 s (by omega) (by omega) (by rw [hz2]; omega)
        rw [r1] at hr
        injection hr with e1 e2
        rw [e1] at hvb
        simp only [Value.ownBlock, Option.some.injEq] at hvb
        exact .inr (by omega)
    · by_cases hroom : l.length + s.size ≤ cap
      · have hcs' : cur.size = cap := by simpa using hcs
        have hr := Lib.run_append_room_string (P := Tryz.prog) w 52 9 o.type 5 i Tryz.underlying52 Tryz.underlying9 hi hz1 g l.length cap cur hg s hroom (by omega)
        rw [r1] at hr
        injection hr with e1 e2
        rw [e1] at hvb
        exact .inl hvb
      · have holds : ∀ j u, (vals l)[j]? = some u → w.cell? ((⟨g, 0, none⟩ : Addr).add j) = some u := World.ownsRow.cells hown (g := g) rfl
        have hr := Lib.run_append_grow_string (P := Tryz.prog) w 52 9 o.type 5 i (.int .u8 0) Tryz.underlying52 Tryz.underlying9 hi hz0 ⟨g, 0, none⟩ l.length cap (vals l) (by rw [hz1, vals_length]; simp) holds s (by omega) (by omega) (by rw [hz2]; exact growslice_fits (by omega) (by omega))
        rw [r1] at hr
        injection hr with e1 e2
        rw [e1] at hvb
        simp only [Value.ownBlock, Option.some.injEq] at hvb
        exact .inr (by omega)
  unfold Oper.wp execOp
  simp only [ho, resolve, invoke, builtin, Sem.run_bind, Sem.run_pure, Result.andThen_ok, List.map_toArray, List.map_cons, List.map_nil, hs, hx, r1]
  refine hK _ _ (h v' w' ⟨?_, r3, ob⟩)
  unfold Own
  rw [List.length_append, bts_len, vals_app, ← str_vals]
  exact r2
/-- A slice that the call made, as a source. -/
theorem Own.byt {w : World} {B : Nat} {v : Value} {l : List Nat} (h : Own w B v l) : ∃ a c, v = .slice a l.length c ∧ Byt w a l ∧ (a = none → c = 0) ∧ l.length ≤ c ∧ c ≤ maxLen := by
  have h' := h
  rcases h with ⟨_, ⟨rfl, h0⟩ | ⟨g, cap, cur, rfl, hg, hh, hle, hm, _⟩⟩
  · have : l = [] := List.eq_nil_of_length_eq_zero h0
    subst this
    exact ⟨none, 0, rfl, .inl rfl, fun _ => rfl, Nat.le_refl _, by unfold maxLen; omega⟩
  · refine ⟨_, cap, rfl, .inr ⟨g, 0, rfl, fun i hi => ?_⟩, (fun e => by cases e), hle, hm⟩
    rw [Nat.zero_add, World.ownsRow.cellAt h' i (by omega), vals_get l i hi]
end Go.Proofs.YtmlfhplhiedfjaaGreatDoor
namespace Go.Proofs.YtmlfhplhiedfjaaGreatDoor
open Math
set_option linter.unusedVariables false
/-- The lowest n bytes of a number, the highest first; from the k-th on noughts. -/
def hfk (v n k : Nat) : List Nat := (List.range n).map fun i => if i < k then v / 256 ^ (n - 1 - i) % 256 else 0
def hf (v n : Nat) : List Nat := hfk v n n
theorem hfk_length (v n k : Nat) : (hfk v n k).length = n := by simp [hfk]
theorem hf_length (v n : Nat) : (hf v n).length = n := hfk_length v n n
/-- A text's bytes in a key: behind each 00 stands ff. -/
def esc : List Nat → List Nat
  | [] => []
  | x :: l => if x = 0 then 0 :: 255 :: esc l else x :: esc l
theorem esc_app (l m : List Nat) : esc (l ++ m) = esc l ++ esc m := by
  induction l with
  | nil => rfl
  | cons x l ih =>
    rw [List.cons_append, esc, esc, ih]
    split <;> rfl
theorem esc_len (l : List Nat) : l.length ≤ (esc l).length ∧ (esc l).length ≤ 2 * l.length := by
  induction l with
  | nil => simp [esc]
  | cons x l ih =>
    rw [esc]
    split <;> simp <;> omega
theorem esc_oct {l : List Nat} (h : ∀ x ∈ l, x < 256) : ∀ x ∈ esc l, x < 256 := by
  induction l with
  | nil => intro x hx; cases hx
  | cons y l ih =>
    intro x hx
    have hy := h y (by simp)
    have hl := ih (fun z hz => h z (by simp [hz]))
    rw [esc] at hx
    split at hx
    · rcases List.mem_cons.1 hx with rfl | hx
      · omega
      · rcases List.mem_cons.1 hx with rfl | hx
        · omega
        · exact hl x hx
    · rcases List.mem_cons.1 hx with rfl | hx
      · exact hy
      · exact hl x hx
def txK (s : ByteArray) : List Nat := esc (bts s) ++ [0, 0]
/-- The digits of a number, the greatest first. -/
def dgs : Nat → Nat → List Nat
  | 0, _ => []
  | f + 1, n => if n = 0 then [] else dgs f (n / 10) ++ [n % 10]
theorem dgs_fuel : ∀ (f n : Nat), n < 10 ^ f → ∀ g, f ≤ g → dgs g n = dgs f n
  | 0, n, h, g, _ => by
    have : n = 0 := by simpa using h
    subst this
    cases g <;> rfl
  | f + 1, n, h, g, hg => by
    obtain ⟨g, rfl⟩ : ∃ k, g = k + 1 := ⟨g - 1, by omega⟩
    rw [dgs, dgs]
    split
    · rfl
    · rw [dgs_fuel f (n / 10) (by rw [Nat.pow_succ] at h; omega) g (by omega)]
theorem dgs_len : ∀ (f n : Nat), (dgs f n).length ≤ f
  | 0, _ => by simp [dgs]
  | f + 1, n => by
    rw [dgs]
    split
    · simp
    · have := dgs_len f (n / 10)
      simp; omega
theorem dgs_lt : ∀ (f n : Nat), ∀ x ∈ dgs f n, x < 10
  | 0, _, x, hx => by cases hx
  | f + 1, n, x, hx => by
    rw [dgs] at hx
    split at hx
    · cases hx
    · rcases List.mem_append.1 hx with hx | hx
      · exact dgs_lt f _ x hx
      · obtain rfl := List.mem_singleton.1 hx
        omega
theorem dgs_pos (f n : Nat) (h : n ≠ 0) : 0 < (dgs (f + 1) n).length := by
  rw [dgs, if_neg h]
  simp
/-- The digits without the noughts at their end. -/
def trz (l : List Nat) : List Nat := (l.reverse.dropWhile (fun x => x == 0)).reverse
theorem trz_snoc_z (l : List Nat) : trz (l ++ [0]) = trz l := by simp [trz]
theorem trz_snoc_n (l : List Nat) (x : Nat) (h : x ≠ 0) : trz (l ++ [x]) = l ++ [x] := by
  simp [trz, h]
theorem trz_take (l : List Nat) (k : Nat) (hk : k ≤ l.length) (h1 : ∀ j, k ≤ j → j < l.length → l.getD j 0 = 0) (h2 : 0 < k → l.getD (k - 1) 0 ≠ 0) : trz l = l.take k := by
  obtain ⟨n, hn⟩ : ∃ n, l.length = k + n := ⟨l.length - k, by omega⟩
  induction n generalizing l with
  | zero =>
    rw [List.take_of_length_le (by omega)]
    rcases Nat.eq_zero_or_pos k with rfl | hp
    · have : l = [] := List.eq_nil_of_length_eq_zero (by omega)
      subst this; rfl
    · have hne : l ≠ [] := fun e => by subst e; simp at hn; omega
      rw [← List.dropLast_concat_getLast hne]
      have hx : l.getLast hne = l.getD (k - 1) 0 := by
        rw [List.getLast_eq_getElem, List.getD_eq_getElem?_getD, List.getElem?_eq_getElem (by omega)]
        simp [hn]
      exact trz_snoc_n _ _ (by rw [hx]; exact h2 hp)
  | succ n ih =>
    have hne : l ≠ [] := fun e => by subst e; simp at hn
    have hx : l.getLast hne = 0 := by
      rw [List.getLast_eq_getElem]
      have := h1 (l.length - 1) (by omega) (by omega)
      rwa [List.getD_eq_getElem?_getD, List.getElem?_eq_getElem (by omega)] at this
    have hl : l = l.dropLast ++ [0] := by
      conv => lhs; rw [← List.dropLast_concat_getLast hne, hx]
    have hd : l.dropLast.length = k + n := by rw [List.length_dropLast]; omega
    have hg : ∀ j, j < l.dropLast.length → l.dropLast.getD j 0 = l.getD j 0 := fun j hj => by
      conv => rhs; rw [hl]
      rw [List.getD_eq_getElem?_getD, List.getD_eq_getElem?_getD, List.getElem?_append_left hj]
    rw [hl, trz_snoc_z, ih l.dropLast (by omega) (fun j hj hj2 => by rw [hg j hj2]; exact h1 j hj (by omega)) (fun hp => by rw [hg _ (by omega)]; exact h2 hp) hd, List.take_append_of_le_length (by omega)]
theorem trz_len (l : List Nat) : (trz l).length ≤ l.length := by
  have := (List.dropWhile_sublist (fun x : Nat => x == 0) (l := l.reverse)).length_le
  simpa [trz] using this
theorem trz_mem {l : List Nat} {x : Nat} (h : x ∈ trz l) : x ∈ l := by
  have := (List.dropWhile_sublist (fun x : Nat => x == 0) (l := l.reverse)).mem (List.mem_reverse.1 h)
  simpa using this
/-- A number above nought, behind its class. -/
def posB (m : Nat) (s : Int) : List Nat := (192 + ((dgs 20 m).length : Int) - s).toNat :: ((trz (dgs 20 m)).map (· + 1) ++ [0])
def turnB (l : List Nat) : List Nat := l.map fun x => 255 - x
def numB (n s : Int) : List Nat := if n = 0 then [128] else if n < 0 then turnB (posB n.natAbs s) else posB n.natAbs s
def headK (h : Hd) : List Nat :=
  if h.k = 1 then [16] else if h.k = 2 then [32, h.n.toNat] else if h.k = 3 then 48 :: numB h.n h.s else if h.k = 4 then 48 :: numB h.n h.s
  else if h.k = 5 then 64 :: hf h.n.toNat 8 else if h.k = 6 then 80 :: txK h.t else if h.k = 7 then 96 :: txK h.t else if h.k = 8 then [112] else [128]
/-- Values one behind the other, each behind its name where they have names. -/
def keyF : Fo → Bool → List ByteArray → List Nat
  | .nil, _, _ => []
  | .cons h k r, b, ns => ((if b then 1 :: txK (ns.headD ⟨#[]⟩) else []) ++ (headK h ++ (if 8 ≤ h.k then keyF k (decide (h.k = 9)) h.ns ++ [0] else []))) ++ keyF r b ns.tail
def keyV (p : Vt) : List Nat := headK p.1 ++ (if 8 ≤ p.1.k then keyF p.2 (decide (p.1.k = 9)) p.1.ns ++ [0] else [])
theorem keyF_cons (p : Vt) (r : Fo) (b : Bool) (ns : List ByteArray) : keyF (.cons p.1 p.2 r) b ns = ((if b then 1 :: txK (ns.headD ⟨#[]⟩) else []) ++ keyV p) ++ keyF r b ns.tail := rfl
theorem keyF_drop {f : Fo} {b : Bool} {ns : List ByteArray} {k : Nat} {q : Vt} (h : f.list[k]? = some q) : keyF (f.drop k) b (ns.drop k) = ((if b then 1 :: txK ((ns.drop k).headD ⟨#[]⟩) else []) ++ keyV q) ++ keyF (f.drop (k + 1)) b (ns.drop (k + 1)) := by
  rw [Fo.drop_at f k q h, keyF_cons]
  congr 2
  simp
end Go.Proofs.YtmlfhplhiedfjaaGreatDoor
namespace Go.Proofs.YtmlfhplhiedfjaaGreatDoor
open Go.RowKit Math
theorem vals_set (l : List Nat) (j z : Nat) : vals (l.set j z) = (vals l).set j (.int .u8 (z : Int)) := by simp [vals, List.map_set]
theorem own_put {w : World} {base g c n : Nat} {l : List Nat} (hl : l.length = n) (h : Own w base (.slice (some ⟨g, 0, none⟩) n c) l) (j z : Nat) :
    Own (w.setCell ⟨g, j, none⟩ (.int .u8 (z : Int))) base (.slice (some ⟨g, 0, none⟩) n c) (l.set j z) := by
  subst hl
  have o2 := (World.ownsRow.stored h j (.int .u8 (z : Int))).1
  rw [← vals_set l _ z] at o2
  unfold Own
  rw [List.length_set]
  exact o2
theorem hfk_set (v n k : Nat) : (hfk v n k).set k (v / 256 ^ (n - 1 - k) % 256) = hfk v n (k + 1) := by
  apply List.ext_getElem
  · simp [hfk]
  · intro i h1 h2
    rw [List.getElem_set]
    simp only [hfk, List.getElem_map, List.getElem_range]
    by_cases hi : k = i
    · subst hi; simp
    · rw [if_neg hi]
      by_cases h3 : i < k
      · rw [if_pos h3, if_pos (by omega)]
      · rw [if_neg h3, if_neg (by omega)]
theorem hfk_zero (v n : Nat) : (madeCells #[Value.int .u8 0] n).toList = vals (hfk v n 0) := by
  rw [toList_madeCells_one]
  apply List.ext_getElem
  · simp [hfk, vals]
  · intro i h1 h2
    simp [hfk, vals]
theorem hf_byte (v m : Nat) : (v : Int) / 2 ^ (8 * m) % 256 = ((v / 256 ^ m % 256 : Nat) : Int) := by
  have hp : ((2 : Int) ^ (8 * m)) = ((256 ^ m : Nat) : Int) := by
    rw [show (256 : Nat) = 2 ^ 8 by decide, ← Nat.pow_mul]; simp
  rw [hp]
  generalize 256 ^ m = p
  rw [← Int.natCast_ediv]
  omega
set_option maxRecDepth 8000 in
set_option maxHeartbeats 400000 in
theorem hf_any (v n : Nat) (_hv : v < 18446744073709551616) (hn : n ≤ 8) (w : World) :
    Calls Tryz.prog 83 #[.int .u64 v, .int .i64 n] w fun e w' => ∃ g, e = .returned (.slice (some ⟨g, 0, none⟩) n n) ∧ Own w' w.heap.size (.slice (some ⟨g, 0, none⟩) n n) (hfk v n n) ∧ Below w.heap.size w w' := by
  obtain ⟨i0, hi, hz0, hz1, hz2⟩ := info_parts Tryz.info5
  go_enter Tryz.func83, Tryz.ntmps83
  go_wp2_with (at_make; go_must (refine wpList_make_full _ rfl _ _ 52 rfl w.heap.size 5 i0 (.int .u8 0) 1 Tryz.underlying52 hi hz0 hz1 _ _ _ _ n rfl rfl rfl rfl (by rw [hz2]; omega) (by unfold maxLen; omega) (Nat.le_refl _) ?_))
  intro w1 o1 g1
  have b1 : Below w.heap.size w w1 := (Below.refl _ _).grown g1 (Nat.le_refl _) (by simp)
  have o2 : Own w1 w.heap.size (.slice (some ⟨w.heap.size, 0, none⟩) n n) (hfk v n 0) := by
    unfold Own; rw [hfk_length, ← hfk_zero]; exact o1
  clear o1 g1 hi hz0 hz1 hz2
  go_wp2
  go_loopw [11] (fun i wr => ∃ k : Nat, k ≤ n ∧ i = .int .i64 k ∧ Own wr w.heap.size (.slice (some ⟨w.heap.size, 0, none⟩) n n) (hfk v n k) ∧ Below w.heap.size w wr) (fun i _ => n - (intOf i).toNat)
  case atStart => exact ⟨0, by omega, rfl, o2, b1⟩
  case round =>
    obtain ⟨k, hk, rfl, o3, b3⟩ := hrel
    clear o2 b1
    by_cases hlt : k < n
    · have hce := World.ownsRow.cellAt (by unfold Own at o3; rw [hfk_length] at o3; exact o3) k (by omega)
      rw [vals_get _ k (by rw [hfk_length]; exact hlt)] at hce
      have hfr : wr.frozen? ⟨w.heap.size, k, none⟩ = false := World.ownsRow.frozenAt (by unfold Own at o3; rw [hfk_length] at o3; exact o3) k
      generalize (hfk v n k).getD k 0 = z0 at hce
      have o4 := own_put (hfk_length v n k) o3 k (v / 256 ^ (n - 1 - k) % 256)
      rw [hfk_set v n k] at o4
      have HB := hf_byte v (n - 1 - k)
      have hB := b3.setCell (p := ⟨w.heap.size, k, none⟩) (Nat.le_refl _) (.int .u8 ((v / 256 ^ (n - 1 - k) % 256 : Nat) : Int))
      generalize v / 256 ^ (n - 1 - k) % 256 = z at HB o4 hB
      go_wp2
      go_roundw
      case rel => exact ⟨k + 1, by omega, by go_num, o4, hB⟩
      case measure => simp [intOf]; omega
    · have hkn : k = n := by omega
      subst hkn
      go_wp2
      go_ret
      exact ⟨_, rfl, o3, b3⟩
/-- The lowest n bytes of a number, the highest first. -/
theorem hf_oct (v n : Nat) : Oct (hf v n) := by
  intro x hx
  unfold hf hfk at hx
  obtain ⟨i, _, rfl⟩ := List.mem_map.1 hx
  split <;> omega
theorem hf_four (v : Nat) : hf v 4 = [v / 16777216 % 256, v / 65536 % 256, v / 256 % 256, v % 256] := by
  simp [hf, hfk, List.range, List.range.loop]
theorem hf_eight (v : Nat) : hf v 8 = [v / 72057594037927936 % 256, v / 281474976710656 % 256, v / 1099511627776 % 256, v / 4294967296 % 256, v / 16777216 % 256, v / 65536 % 256, v / 256 % 256, v % 256] := by
  simp [hf, hfk, List.range, List.range.loop]
theorem hf_join (v : Nat) : hf (v / 4294967296) 4 ++ hf (v % 4294967296) 4 = hf v 8 := by
  rw [hf_four, hf_four, hf_eight]
  simp only [List.cons_append, List.nil_append, List.cons.injEq, and_true]
  have hm : ∀ m p : Nat, p = m * 256 → v % 4294967296 / m % 256 = v / m % 256 ∨ ¬ (4294967296 % p = 0 ∧ 0 < m) := by
    intro m p hp
    by_cases hd : 4294967296 % p = 0 ∧ 0 < m
    · left
      obtain ⟨d, hd'⟩ := Nat.dvd_of_mod_eq_zero hd.1
      rw [hd', hp, Nat.mul_assoc, Nat.mod_mul_right_div_self, Nat.mod_mul_right_mod]
    · exact .inr hd
  refine ⟨by rw [Nat.div_div_eq_div_mul], by rw [Nat.div_div_eq_div_mul], by rw [Nat.div_div_eq_div_mul], trivial, ?_, ?_, ?_, ?_⟩
  · exact (hm 16777216 4294967296 (by decide)).resolve_right (by decide)
  · exact (hm 65536 16777216 (by decide)).resolve_right (by decide)
  · exact (hm 256 65536 (by decide)).resolve_right (by decide)
  · omega
set_option maxRecDepth 8000 in
set_option maxHeartbeats 400000 in
theorem big_any (v : Nat) (hv : v < 18446744073709551616) (w : World) :
    Calls Tryz.prog 39 #[.int .u64 v] w fun e w' => ∃ g, e = .returned (.slice (some ⟨g, 0, none⟩) 8 8) ∧ Own w' w.heap.size (.slice (some ⟨g, 0, none⟩) 8 8) (hf v 8) ∧ Below w.heap.size w w' := by
  have hH : Hid (∀ W : World, Calls Tryz.prog 83 #[.int .u64 v, .int .i64 8] W fun e w' => ∃ g, e = .returned (.slice (some ⟨g, 0, none⟩) 8 8) ∧ Own w' W.heap.size (.slice (some ⟨g, 0, none⟩) 8 8) (hf v 8) ∧ Below W.heap.size W w') := fun W => hf_any v 8 hv (by decide) W
  go_enter Tryz.func39, Tryz.ntmps39
  go_wp2_with fail
  refine (hH.out w).mono ?_
  rintro e w1 ⟨g, rfl, o1, b1⟩
  go_wp2
  go_ret
  exact ⟨g, rfl, o1, b1⟩
set_option maxRecDepth 8000 in
set_option maxHeartbeats 400000 in
theorem shortr_any (v : Nat) (hv : v < 4294967296) (w : World) :
    Calls Tryz.prog 164 #[.int .u32 v] w fun e w' => e = .returned (.slice (some ⟨w.heap.size, 0, none⟩) 4 4) ∧ Own w' w.heap.size (.slice (some ⟨w.heap.size, 0, none⟩) 4 4) (hf v 4) ∧ Below w.heap.size w w' := by
  have HO : Hid (Own (w.alloc (.cells #[.int .u8 ((v : Int) / 16777216), .int .u8 ((v : Int) / 65536 % 256), .int .u8 ((v : Int) / 256 % 256), .int .u8 ((v : Int) % 256)] 5)) w.heap.size (.slice (some ⟨w.heap.size, 0, none⟩) 4 4) (hf v 4)) := by
    have h := World.ownsRow_lit (base := w.heap.size) (e := 5) (size := 1) w #[.int .u8 ((v : Int) / 16777216), .int .u8 ((v : Int) / 65536 % 256), .int .u8 ((v : Int) / 256 % 256), .int .u8 ((v : Int) % 256)] 4 (Nat.le_refl _) (by decide) rfl
    have e : vals (hf v 4) = [.int .u8 ((v : Int) / 16777216), .int .u8 ((v : Int) / 65536 % 256), .int .u8 ((v : Int) / 256 % 256), .int .u8 ((v : Int) % 256)] := by
      rw [hf_four]
      simp only [vals, List.map_cons, List.map_nil, List.cons.injEq, Value.int.injEq, true_and, and_true]
      omega
    unfold Hid Own
    rw [e, hf_length]
    exact h
  go_enter Tryz.func164, Tryz.ntmps164
  go_wp2
  go_ret
  exact ⟨rfl, HO.out, (Below.refl _ _).alloc (Nat.le_refl _) _⟩
set_option maxRecDepth 8000 in
set_option maxHeartbeats 400000 in
theorem bigr_any (v : Nat) (hv : v < 18446744073709551616) (w : World) :
    Calls Tryz.prog 132 #[.int .u64 v] w fun e w' => ∃ g c, e = .returned (.slice (some ⟨g, 0, none⟩) 8 c) ∧ Own w' w.heap.size (.slice (some ⟨g, 0, none⟩) 8 c) (hf v 8) ∧ Below w.heap.size w w' := by
  have hH : Hid (∀ W : World, Calls Tryz.prog 164 #[.int .u32 ((v : Int) / 4294967296)] W fun e w' => e = .returned (.slice (some ⟨W.heap.size, 0, none⟩) 4 4) ∧ Own w' W.heap.size (.slice (some ⟨W.heap.size, 0, none⟩) 4 4) (hf (v / 4294967296) 4) ∧ Below W.heap.size W w') := fun W => by
    rw [show (v : Int) / 4294967296 = ((v / 4294967296 : Nat) : Int) by omega]
    exact shortr_any _ (by omega) W
  have hL : Hid (∀ W : World, Calls Tryz.prog 164 #[.int .u32 ((v : Int) % 4294967296)] W fun e w' => e = .returned (.slice (some ⟨W.heap.size, 0, none⟩) 4 4) ∧ Own w' W.heap.size (.slice (some ⟨W.heap.size, 0, none⟩) 4 4) (hf (v % 4294967296) 4) ∧ Below W.heap.size W w') := fun W => by
    rw [show (v : Int) % 4294967296 = ((v % 4294967296 : Nat) : Int) by omega]
    exact shortr_any _ (by omega) W
  have HJ : Hid _ := hf_join v
  have hl1 := hf_length (v / 4294967296) 4
  have hl2 := hf_length (v % 4294967296) 4
  generalize hf (v / 4294967296) 4 = A, hf (v % 4294967296) 4 = B at hH hL HJ hl1 hl2
  go_enter Tryz.func132, Tryz.ntmps132
  go_wp2_with fail
  refine (hH.out w).mono ?_
  rintro e w1 ⟨rfl, o1, b1⟩
  have s1 := b1.size
  go_wp2_with fail
  refine (hL.out w1).mono ?_
  rintro e w2 ⟨rfl, o2, b2⟩
  clear hH hL
  have hs1 := (World.ownsRow.lt o1 _ rfl).2
  have o1' : Own w2 w.heap.size (.slice (some ⟨w.heap.size, 0, none⟩) 4 4) A := World.ownsRow.kept (row := none) o1 ⟨b2.os, b2.tape, b2.output, b2.size, fun k hk _ => b2.block k hk⟩ (by simp [Value.ownBlock])
  obtain ⟨g2, c2, hv2, _, _, _, _, hcell2⟩ := o2.form (by omega)
  have hsrc : Byt w2 (some ⟨w1.heap.size, 0, none⟩) B := by
    simp only [Value.slice.injEq, Option.some.injEq, Addr.mk.injEq, and_true] at hv2
    obtain ⟨rfl, _, _⟩ := hv2
    exact .inr ⟨_, _, rfl, hcell2⟩
  have b12 := b1.trans (b2.mono s1)
  clear o1 o2 hcell2 hv2
  have hl1' : A.length = 4 := hl1
  go_wp2_with (at_builtin; go_must (refine app_bytes rfl (.tmp 6) (.tmp 9) rfl w.heap.size _ A rfl o1' _ _ _ B hl2.symm rfl hsrc (by simp) (by omega) (by omega) ?_))
  intro v3 w3 o3 g3
  have b3 := below_app b12 b12.size o1' g3
  rw [HJ.out] at o3
  obtain ⟨g, c, rfl, _⟩ := o3.form (by rw [hf_length]; decide)
  rw [hf_length] at *
  clear g3 o1' hsrc
  go_wp2
  go_ret
  exact ⟨g, c, rfl, o3, b3⟩
end Go.Proofs.YtmlfhplhiedfjaaGreatDoor
