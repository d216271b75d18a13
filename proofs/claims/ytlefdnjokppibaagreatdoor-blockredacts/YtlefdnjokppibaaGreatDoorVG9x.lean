/-
  What the walks share: a row of bytes in memory, as a list of numbers. · The contracts of the law package's helpers: same, roomy, stands; and one law on append onto a slice of bytes that the call made. · The contracts of octet.Uvarint and of the document's own Uvarint: each makes the same bytes of a number. · Zig and Zag, both. · Appending to bytes that the call made: where they lie then, and what stays as it was. · codec's appendUvarint, appendInt, appendText.
-/
import Derived.Test.YtlefdnjokppibaaGreatDoorRows
import Derived.Test.YtlefdnjokppibaaGreatDoorVG8x
import Derived.WalkKit
import Derived.WalkSpells
import Derived.StillTactics
import Derived.Laws.Pointers
import Derived.RowKit3
import Derived.Below
import Derived.Deep.QuietTactic
import Derived.BigQuiet
import Derived.WalkSmall
import Derived.Laws.AppendOwnNone
import Derived.OpenShut
import Derived.Test.YtlefdnjokppibaaGreatDoorVG0x
import Derived.Test.YtlefdnjokppibaaGreatDoorVClo
import Derived.Lib.AppendStr
namespace Go.Proofs.YtlefdnjokppibaaGreatDoor
open Go.RowKit Math

/-- The cells of a row of bytes. -/
def Cells (w : World) (b off : Nat) (l : List Nat) : Prop := ∀ i, i < l.length → w.cell? ⟨b, off + i, none⟩ = some (.int .u8 ((l.getD i 0 : Nat) : Int))
theorem oct_get {l : List Nat} (h : Oct l) (i : Nat) : l.getD i 0 < 256 := by
  rw [List.getD_eq_getElem?_getD]
  cases e : l[i]? with
  | none => decide
  | some x => exact h x (List.mem_of_getElem? e)

/-- A slice's address, and its bytes. -/
def Byt (w : World) (a : Option Addr) (l : List Nat) : Prop := l = [] ∨ ∃ b off, a = some ⟨b, off, none⟩ ∧ Cells w b off l
theorem take_snoc (l : List Nat) (k : Nat) (hlt : k < l.length) : l.take (k + 1) = l.take k ++ [l.getD k 0] := by
  rw [List.take_succ_eq_append_getElem hlt, List.getD_eq_getElem?_getD, List.getElem?_eq_getElem hlt]; rfl
end Go.Proofs.YtlefdnjokppibaaGreatDoor
namespace Go.Proofs.YtlefdnjokppibaaGreatDoor
open Go.RowKit Go.ChangeShapes Go.WideShapes Math
theorem Tryz.info5 : (Tryz.prog.info? 5).map (fun i => (i.zero, i.size, i.bytes)) = some (some (.int .u8 0), 1, 1) := by kernel_rfl
/-- Bytes as cells. -/
def vals (l : List Nat) : List Value := l.map fun n : Nat => Value.int .u8 (n : Int)
theorem vals_length (l : List Nat) : (vals l).length = l.length := by simp [vals]
theorem vals_get (l : List Nat) (i : Nat) (h : i < l.length) : (vals l)[i]? = some (.int .u8 ((l.getD i 0 : Nat) : Int)) := by
  simp [vals, List.getD_eq_getElem?_getD, List.getElem?_eq_getElem h]
theorem vals_one (l : List Nat) : ∀ u ∈ vals l, u.oneCell' = true := by
  intro u hu
  obtain ⟨_, _, rfl⟩ := List.mem_map.1 hu
  rfl
/-- A slice of bytes that the call made. -/
def Own (w : World) (base : Nat) (v : Value) (l : List Nat) : Prop := w.ownsRow base 5 1 v l.length (vals l)
theorem app_bytes {ops : Array Oper} {rest : List Oper} {o : Oper} {a : Act} {Q : Exit → Act → World → Prop} {w : World} (hgd : o.guard = none) (s x : Operand)
    (ho : o.op = .call { callee := .builtin .append, args := #[s, x], argTypes := #[70, 70] })
    (base : Nat) (v : Value) (l : List Nat) (hs : a.eval s = v) (hown : Own w base v l)
    (ax : Option Addr) (m c : Nat) (l2 : List Nat) (hm : m = l2.length) (hx : a.eval x = .slice ax m c) (hsrc : Byt w ax l2) (hnil : ax = none → c = 0)
    (hb : l.length + l2.length ≤ 1000000) (hbase : base ≤ w.heap.size)
    (h : ∀ v' w', Own w' base v' (l ++ l2) → w.grownBy w' v.ownBlock → wpList Tryz.prog ops Q rest (a.put o.dst v') w') : wpList Tryz.prog ops Q (o :: rest) a w := by
  subst hm
  obtain ⟨i, hi, hz0, hz1, hz2⟩ := info_parts Tryz.info5
  cases ax with
  | none =>
    obtain rfl := hnil rfl
    have hl : l2 = [] := by
      rcases hsrc with h | ⟨_, _, h, _⟩
      · exact h
      · cases h
    subst hl
    refine wpList_append_own_none hgd s x 70 ho base 5 i 1 Tryz.underlying70 hi v _ _ hs hown hx (h v w ?_ (World.grownBy.refl _ _))
    simpa using hown
  | some ad =>
    refine wpList_append_own _ hgd s x 70 ho base 5 i (.int .u8 0) 1 1 Tryz.underlying70 hi hz0 hz1 hz2 rfl (by decide) v _ _ hs hown ad l2.length c (vals l2) hx (by simp [vals_length]) ?_ (vals_one l2) (by unfold maxLen; omega) (by omega) hbase ?_
    · intro j u hj
      have hjl : j < l2.length := by
        have := (List.getElem?_eq_some_iff.1 hj).1
        simpa [vals_length] using this
      rcases hsrc with rfl | ⟨b, off, he, hc⟩
      · simp at hjl
      · obtain rfl := Option.some.inj he
        rw [vals_get l2 j hjl] at hj
        rw [Addr.add_lit, hc j hjl]
        exact hj
    · intro v' w' h1 h2 _
      refine h v' w' ?_ h2
      unfold Own
      rw [List.length_append, show vals (l ++ l2) = vals l ++ vals l2 by simp [vals]]
      exact h1
theorem Own.form {w : World} {base : Nat} {v : Value} {l : List Nat} (h : Own w base v l) (hl : 0 < l.length) :
    ∃ g cap, v = .slice (some ⟨g, 0, none⟩) l.length cap ∧ base ≤ g ∧ g < w.heap.size ∧ l.length ≤ cap ∧ cap ≤ maxLen ∧ Cells w g 0 l := by
  have h' := h
  rcases h with ⟨_, ⟨rfl, h0⟩ | ⟨g, cap, cur, rfl, hg, hh, hle, hm, _⟩⟩
  · omega
  · refine ⟨g, cap, rfl, hg, (Array.getElem?_eq_some_iff.1 hh).1, hle, hm, fun i hi => ?_⟩
    rw [Nat.zero_add, World.ownsRow.cellAt h' i (by omega), vals_get l i hi]
theorem own_empty (w : World) (base : Nat) (hb : base ≤ w.heap.size) : Own (w.alloc (.cells #[] 5)) base (.slice (some ⟨w.heap.size, 0, none⟩) 0 0) [] :=
  World.ownsRow_lit w #[] 0 hb (by decide) rfl
theorem Cells.below {w w' : World} {b off : Nat} {l : List Nat} (h : Cells w b off l) (hb : Below w.heap.size w w') : Cells w' b off l :=
  fun i hi => (hb.cell (p := ⟨b, off + i, none⟩) (cell_lt (h i hi))).trans (h i hi)
theorem Cells.left {w : World} {b off : Nat} {l m : List Nat} (h : Cells w b off (l ++ m)) : Cells w b off l := fun i hi => by
  rw [h i (by simp; omega), List.getD_eq_getElem?_getD, List.getD_eq_getElem?_getD, List.getElem?_append_left hi]
theorem Byt.below {w w' : World} {a : Option Addr} {l : List Nat} (h : Byt w a l) (hb : Below w.heap.size w w') : Byt w' a l := by
  rcases h with h | ⟨b, off, rfl, hc⟩
  · exact .inl h
  · exact .inr ⟨b, off, rfl, hc.below hb⟩
theorem byt_lit (w : World) (l : List Nat) : Byt (w.alloc (.cells (vals l).toArray 5)) (some ⟨w.heap.size, 0, none⟩) l := by
  refine .inr ⟨_, _, rfl, fun i hi => ?_⟩
  rw [Nat.zero_add, World.cell?_alloc_new, List.getElem?_toArray, vals_get l i hi]
theorem Own.alloc {w : World} {base : Nat} {v : Value} {l : List Nat} (h : Own w base v l) (o : Obj) : Own (w.alloc o) base v l := World.ownsRow.alloc h o
/-- Behind an append onto what the call made nothing that was there has turned. -/
theorem below_app {B : Nat} {w0 w w' : World} {v : Value} {l : List Nat} (hb : Below B w0 w) (hB : B ≤ w.heap.size) (h : Own w B v l) (hg : w.grownBy w' v.ownBlock) : Below B w0 w' :=
  hb.grown hg hB fun k hk => (World.ownsRow.lt h k hk).1
end Go.Proofs.YtlefdnjokppibaaGreatDoor
namespace Go.Proofs.YtlefdnjokppibaaGreatDoor
open Go.RowKit Math
set_option maxHeartbeats 400000 in
theorem uv_any (v : Nat) (hv : v < 18446744073709551616) (w : World) :
    Calls Tryz.prog 57 #[.int .u64 v] w fun e w' => ∃ r, e = .returned r ∧ Own w' w.heap.size r (uv v) ∧ Below w.heap.size w w' := by
  have h10 := uv_ten v hv
  go_enter Tryz.func57, Tryz.ntmps57
  go_wp2
  go_loopw [0, 3] (fun x o wr => ∃ (u : Nat) (pre : List Nat), x = .int .u64 u ∧ u < 18446744073709551616 ∧ Hid (uv v = pre ++ uv u) ∧ Own wr w.heap.size o pre ∧ Below w.heap.size w wr) (fun x _ _ => (intOf x).toNat)
  case atStart => exact ⟨v, [], rfl, hv, rfl, World.ownsRow_nil _ _ _ _, Below.refl _ _⟩
  case round =>
    obtain ⟨u, pre, rfl, hu, HE, hown, hbel⟩ := hrel
    have hs := hbel.size
    have hlen : pre.length + 1 ≤ 10 := by
      have := congrArg List.length HE.out
      have h1 := uv_pos u
      simp at this; omega
    by_cases h127 : u < 128
    · have HF : Hid (uv v = pre ++ [u]) := by show _ = _; rw [HE.out, uv_lo u (by omega)]
      go_wp2_with (at_builtin; go_must (refine app_bytes rfl (.tmp 14) (.tmp 17) rfl w.heap.size _ pre rfl (hown.alloc _) _ _ _ [u] rfl rfl (byt_lit wr [u]) (by simp) (by simp; omega) (by simp; omega) ?_))
      intro v1 w1 o1 g1
      have b1 := below_app (hbel.alloc hs _) (by simp; omega) (hown.alloc _) g1
      clear g1 hown
      go_wp2
      go_ret
      exact ⟨v1, rfl, by rw [HF.out]; exact o1, b1⟩
    · obtain ⟨y, hy, HY⟩ : ∃ y : Nat, bits .or .u8 ((u : Int) % 256) 128 = (y : Int) ∧ Hid (y = u % 128 + 128) := ⟨_, or_u8 u, rfl⟩
      have HF : Hid (uv v = (pre ++ [y]) ++ uv (u / 128)) := by show _ = _; rw [HE.out, uv_hi u (by omega), HY.out, List.append_assoc]; rfl
      go_wp2_with (at_builtin; go_must (refine app_bytes rfl (.tmp 6) (.tmp 10) rfl w.heap.size _ pre rfl (hown.alloc _) _ _ _ [y] rfl rfl (byt_lit wr [y]) (by simp) (by simp; omega) (by simp; omega) ?_))
      intro v1 w1 o1 g1
      have b1 := below_app (hbel.alloc hs _) (by simp; omega) (hown.alloc _) g1
      clear g1 hown hy
      go_wp2
      go_roundw
      case rel => exact ⟨u / 128, pre ++ [y], by go_num, by omega, HF, o1, b1⟩
      case measure => simp [intOf]; omega
set_option maxRecDepth 8000 in
set_option maxHeartbeats 400000 in
theorem uvr_any (v : Nat) (hv : v < 18446744073709551616) (w : World) :
    Calls Tryz.prog 45 #[.int .u64 v] w fun e w' => ∃ r, e = .returned r ∧ Own w' w.heap.size r (uv v) ∧ Below w.heap.size w w' := by
  have h10 := uv_ten v hv
  go_enter Tryz.func45, Tryz.ntmps45
  go_wp2
  go_loopw [0, 3] (fun x o wr => ∃ (u : Nat) (pre : List Nat), x = .int .u64 u ∧ u < 18446744073709551616 ∧ Hid (uv v = pre ++ uv u) ∧ Own wr w.heap.size o pre ∧ Below w.heap.size w wr) (fun x _ _ => (intOf x).toNat)
  case atStart => exact ⟨v, [], rfl, hv, rfl, World.ownsRow_nil _ _ _ _, Below.refl _ _⟩
  case round =>
    obtain ⟨u, pre, rfl, hu, HE, hown, hbel⟩ := hrel
    have hs := hbel.size
    have hlen : pre.length + 1 ≤ 10 := by
      have := congrArg List.length HE.out
      have h1 := uv_pos u
      simp at this; omega
    by_cases h127 : u < 128
    · have HF : Hid (uv v = pre ++ [u]) := by show _ = _; rw [HE.out, uv_lo u (by omega)]
      go_wp2_with (at_builtin; go_must (refine app_bytes rfl (.tmp 15) (.tmp 18) rfl w.heap.size _ pre rfl (hown.alloc _) _ _ _ [u] rfl rfl (byt_lit wr [u]) (by simp) (by simp; omega) (by simp; omega) ?_))
      intro v1 w1 o1 g1
      have b1 := below_app (hbel.alloc hs _) (by simp; omega) (hown.alloc _) g1
      clear g1 hown
      go_wp2
      go_ret
      exact ⟨v1, rfl, by rw [HF.out]; exact o1, b1⟩
    · obtain ⟨t, ht, ht128, HT⟩ : ∃ t : Nat, bits .and .u64 (u : Int) 127 = (t : Int) ∧ t < 128 ∧ Hid (t = u % 128) := ⟨_, and_127 u hu, by omega, rfl⟩
      obtain ⟨y, hy, HY⟩ : ∃ y : Nat, bits .or .u8 (t : Int) 128 = (y : Int) ∧ Hid (y = u % 128 + 128) := ⟨_, or_t t ht128, by show _ = _; rw [HT.out]⟩
      have HF : Hid (uv v = (pre ++ [y]) ++ uv (u / 128)) := by show _ = _; rw [HE.out, uv_hi u (by omega), HY.out, List.append_assoc]; rfl
      go_wp2_with (at_builtin; go_must (refine app_bytes rfl (.tmp 6) (.tmp 11) rfl w.heap.size _ pre rfl (hown.alloc _) _ _ _ [y] rfl rfl (byt_lit wr [y]) (by simp) (by simp; omega) (by simp; omega) ?_))
      intro v1 w1 o1 g1
      have b1 := below_app (hbel.alloc hs _) (by simp; omega) (hown.alloc _) g1
      clear g1 hown hy
      go_wp2
      go_roundw
      case rel => exact ⟨u / 128, pre ++ [y], by go_num, by omega, HF, o1, b1⟩
      case measure => simp [intOf]; omega
end Go.Proofs.YtlefdnjokppibaaGreatDoor
namespace Go.Proofs.YtlefdnjokppibaaGreatDoor
open Go.RowKit Go.ChangeShapes Go.WideShapes Math
set_option linter.unusedVariables false
set_option maxHeartbeats 400000 in
theorem zig_any (v : Int) (h1 : -9223372036854775808 ≤ v) (h2 : v ≤ 9223372036854775807) (w : World) :
    Calls Tryz.prog 123 #[.int .i64 v] w fun e w' => e = .returned (.int .u64 (zigS v)) ∧ w' = w := by
  have hz := zig_bits v h1 h2
  go_enter Tryz.func123, Tryz.ntmps123
  go_wp2
  go_ret
  exact ⟨rfl, rfl⟩
set_option maxHeartbeats 400000 in
theorem zigr_any (v : Int) (h1 : -9223372036854775808 ≤ v) (h2 : v ≤ 9223372036854775807) (w : World) :
    Calls Tryz.prog 103 #[.int .i64 v] w fun e w' => e = .returned (.int .u64 (zigS v)) ∧ w' = w := by
  by_cases h : 0 ≤ v
  · have HZ : Hid (zigS v = 2 * v) := by show _ = _; unfold zigS; rw [if_pos h]
    go_enter Tryz.func103, Tryz.ntmps103
    go_wp2
    go_ret
    exact ⟨ret_int HZ.out.symm, rfl⟩
  · have HZ : Hid (zigS v = 2 * -(v + 1) + 1) := by show _ = _; unfold zigS; rw [if_neg h]
    go_enter Tryz.func103, Tryz.ntmps103
    go_wp2
    go_ret
    exact ⟨ret_int HZ.out.symm, rfl⟩
end Go.Proofs.YtlefdnjokppibaaGreatDoor
namespace Go.Proofs.YtlefdnjokppibaaGreatDoor
open Go.RowKit Math
set_option linter.unusedVariables false
/-- A step that appends: the new slice is the call's own; nothing else of what was there has turned. -/
structure Ap (B : Nat) (W w' : World) (v v' : Value) (l' : List Nat) : Prop where
  own : Own w' B v' l'
  gr : W.grownBy w' v.ownBlock
  ob : ∀ b, v'.ownBlock = some b → v.ownBlock = some b ∨ W.heap.size ≤ b
theorem Ap.trans {B : Nat} {W w1 w2 : World} {v v1 v2 : Value} {l1 l2 : List Nat} (h : Ap B W w1 v v1 l1) (k : Ap B w1 w2 v1 v2 l2) : Ap B W w2 v v2 l2 := by
  have hs := h.gr.size
  refine ⟨k.own, ⟨k.gr.os.trans h.gr.os, k.gr.tape.trans h.gr.tape, k.gr.output.trans h.gr.output, Nat.le_trans hs k.gr.size, fun i hi hne => ?_⟩, fun b hb => ?_⟩
  · rw [k.gr.block i (Nat.lt_of_lt_of_le hi hs) (fun e => ?_), h.gr.block i hi hne]
    rcases h.ob i e.symm with h1 | h1
    · exact hne h1.symm
    · omega
  · rcases k.ob b hb with h1 | h1
    · exact h.ob b h1
    · exact .inr (Nat.le_trans hs h1)
theorem Ap.refl {B : Nat} {W : World} {v : Value} {l : List Nat} (h : Own W B v l) : Ap B W W v v l := ⟨h, World.grownBy.refl _ _, fun b hb => .inl hb⟩
/-- New blocks ahead of a step. -/
theorem Ap.after {B : Nat} {W w1 w2 : World} {v v2 : Value} {l2 : List Nat} (g : Below W.heap.size W w1) (k : Ap B w1 w2 v v2 l2) : Ap B W w2 v v2 l2 :=
  ⟨k.own, ⟨k.gr.os.trans g.os, k.gr.tape.trans g.tape, k.gr.output.trans g.output, Nat.le_trans g.size k.gr.size, fun i hi hne => (k.gr.block i (Nat.lt_of_lt_of_le hi g.size) hne).trans (g.block i hi)⟩,
   fun b hb => (k.ob b hb).imp id (fun h => Nat.le_trans g.size h)⟩
theorem Own.below {w w' : World} {B : Nat} {v : Value} {l : List Nat} (h : Own w B v l) (g : Below w.heap.size w w') : Own w' B v l :=
  World.ownsRow.kept (row := none) h ⟨g.os, g.tape, g.output, g.size, fun x hx _ => g.block x hx⟩ (by simpa using Classical.em _)
theorem Ap.below {B C : Nat} {w0 W w' : World} {v v' : Value} {l l' : List Nat} (k : Ap B W w' v v' l') (h : Own W B v l) (hb : Below C w0 W) (hC : C ≤ W.heap.size) (hCB : C ≤ B) : Below C w0 w' :=
  hb.grown k.gr hC fun x hx => Nat.le_trans hCB (World.ownsRow.lt h x hx).1
theorem Ap.blk {B : Nat} {W w' : World} {v v' : Value} {l' : List Nat} (k : Ap B W w' v v' l') {b : Nat} {t : TypeId} {vs : List Value} (h : Blk W b t vs) (hne : v.ownBlock ≠ some b) : Blk w' b t vs := h.kept k.gr (fun e => hne e.symm)
theorem Own.ne {w : World} {B : Nat} {v : Value} {l : List Nat} (h : Own w B v l) : v.ownBlock ≠ some w.heap.size := fun e => by
  have := (World.ownsRow.lt h _ e).2
  omega
theorem vals_app (l m : List Nat) : vals (l ++ m) = vals l ++ vals m := by simp [vals]
theorem ap_bytes {ops : Array Oper} {rest : List Oper} {o : Oper} {a : Act} {Q : Exit → Act → World → Prop} {w : World} (hgd : o.guard = none) (s x : Operand)
    (ho : o.op = .call { callee := .builtin .append, args := #[s, x], argTypes := #[70, 70] })
    (base : Nat) (v : Value) (l : List Nat) (hs : a.eval s = v) (hown : Own w base v l)
    (ax : Option Addr) (m c : Nat) (l2 : List Nat) (hm : m = l2.length) (hx : a.eval x = .slice ax m c) (hsrc : Byt w ax l2) (hnil : ax = none → c = 0)
    (hb : l.length + l2.length ≤ 1000000000) (hbase : base ≤ w.heap.size)
    (h : ∀ v' w', Ap base w w' v v' (l ++ l2) → wpList Tryz.prog ops Q rest (a.put o.dst v') w') : wpList Tryz.prog ops Q (o :: rest) a w := by
  subst hm
  refine wpList_plain hgd fun K hK => ?_
  obtain ⟨i, hi, hz0, hz1, hz2⟩ := info_parts Tryz.info5
  cases ax with
  | none =>
    obtain rfl := hnil rfl
    have hl : l2 = [] := by
      rcases hsrc with h | ⟨_, _, h, _⟩
      · exact h
      · cases h
    subst hl
    have hr := run_append_owned_none (P := Tryz.prog) (w := w) base 70 o.type 5 i 1 Tryz.underlying70 hi v _ _ hown
    unfold Oper.wp execOp
    simp only [ho, resolve, invoke, builtin, Sem.run_bind, Sem.run_pure, Result.andThen_ok, List.map_toArray, List.map_cons, List.map_nil, hs, hx, List.length_nil, hr]
    exact hK _ _ (h v w (by rw [List.append_nil]; exact Ap.refl hown))
  | some ad =>
    obtain ⟨v', w', r1, r2, r3, _, r5⟩ := run_append_own_at (P := Tryz.prog) w base 70 o.type 5 i _ 1 1 Tryz.underlying70 hi hz0 hz1 hz2 rfl (by decide) v _ _ hown ad l2.length c (vals l2) (by simp [vals_length]) (by
      intro j u hj
      have hjl : j < l2.length := by
        have := (List.getElem?_eq_some_iff.1 hj).1
        simpa [vals_length] using this
      rcases hsrc with rfl | ⟨b, off, he, hc⟩
      · simp at hjl
      · obtain rfl := Option.some.inj he
        rw [vals_get l2 j hjl] at hj
        rw [Addr.add_lit, hc j hjl]
        exact hj) (vals_one l2) (by unfold maxLen; omega) (by omega) hbase
    unfold Oper.wp execOp
    simp only [ho, resolve, invoke, builtin, Sem.run_bind, Sem.run_pure, Result.andThen_ok, List.map_toArray, List.map_cons, List.map_nil, hs, hx, r1]
    refine hK _ _ (h v' w' ⟨?_, r3, fun b hb => ?_⟩)
    · unfold Own
      rw [List.length_append, vals_app]
      exact r2
    · rcases r5 with e | e
      · exact .inl (e.symm.trans hb)
      · rw [e] at hb
        exact .inr (by injection hb with hb; omega)
theorem str_vals (s : ByteArray) : Lib.strCells s = vals (bts s) := by
  simp [Lib.strCells, vals, bts]
theorem ap_str {ops : Array Oper} {rest : List Oper} {o : Oper} {a : Act} {Q : Exit → Act → World → Prop} {w : World} (hgd : o.guard = none) (sl x : Operand)
    (ho : o.op = .call { callee := .builtin .append, args := #[sl, x], argTypes := #[70, 9] })
    (base : Nat) (v : Value) (l : List Nat) (hs : a.eval sl = v) (hown : Own w base v l) (s : ByteArray) (hx : a.eval x = .string s)
    (hb : l.length + s.size ≤ 1000000000) (hbase : base ≤ w.heap.size)
    (h : ∀ v' w', Ap base w w' v v' (l ++ bts s) → wpList Tryz.prog ops Q rest (a.put o.dst v') w') : wpList Tryz.prog ops Q (o :: rest) a w := by
  refine wpList_plain hgd fun K hK => ?_
  obtain ⟨i, hi, hz0, hz1, hz2⟩ := info_parts Tryz.info5
  obtain ⟨v', w', r1, r2, r3, r4⟩ := Lib.run_append_own_string (P := Tryz.prog) w base 70 9 o.type 5 i Tryz.underlying70 Tryz.underlying9 hi hz0 hz1 hz2 v _ _ hown s (by unfold maxLen; omega) (by omega) hbase
  have ob : ∀ b, v'.ownBlock = some b → v.ownBlock = some b ∨ w.heap.size ≤ b := by
    intro b hvb
    rcases hown.2 with ⟨rfl, hn0⟩ | ⟨g, cap, cur, rfl, hbg, hg, hnc, hcm, hcs, htake⟩
    · by_cases hm : s.size = 0
      · have := r4.2 ⟨rfl, hm⟩
        rw [this] at hvb
        cases hvb
      · have hr := run_append_nil_string (P := Tryz.prog) w 70 9 o.type 5 i (.int .u8 0) Tryz.underlying70 Tryz.underlying9 hi hz0 s (by omega) (by omega) (by rw [hz2]; omega)
        rw [r1] at hr
        injection hr with e1 e2
        rw [e1] at hvb
        simp only [Value.ownBlock, Option.some.injEq] at hvb
        exact .inr (by omega)
    · by_cases hroom : l.length + s.size ≤ cap
      · have hcs' : cur.size = cap := by simpa using hcs
        have hr := Lib.run_append_room_string (P := Tryz.prog) w 70 9 o.type 5 i Tryz.underlying70 Tryz.underlying9 hi hz1 g l.length cap cur hg s hroom (by omega)
        rw [r1] at hr
        injection hr with e1 e2
        rw [e1] at hvb
        exact .inl hvb
      · have holds : ∀ j u, (vals l)[j]? = some u → w.cell? ((⟨g, 0, none⟩ : Addr).add j) = some u := World.ownsRow.cells hown (g := g) rfl
        have hr := Lib.run_append_grow_string (P := Tryz.prog) w 70 9 o.type 5 i (.int .u8 0) Tryz.underlying70 Tryz.underlying9 hi hz0 ⟨g, 0, none⟩ l.length cap (vals l) (by rw [hz1, vals_length]; simp) holds s (by omega) (by omega) (by rw [hz2]; exact growslice_fits (by omega) (by omega))
        rw [r1] at hr
        injection hr with e1 e2
        rw [e1] at hvb
        simp only [Value.ownBlock, Option.some.injEq] at hvb
        exact .inr (by omega)
  unfold Oper.wp execOp
  simp only [ho, resolve, invoke, builtin, Sem.run_bind, Sem.run_pure, Result.andThen_ok, List.map_toArray, List.map_cons, List.map_nil, hs, hx, r1]
  refine hK _ _ (h v' w' ⟨?_, r3, ob⟩)
  unfold Own
  rw [List.length_append, bts_len, vals_app, ← str_vals]
  exact r2
/-- A slice that the call made, as a source. -/
theorem Own.byt {w : World} {B : Nat} {v : Value} {l : List Nat} (h : Own w B v l) : ∃ a c, v = .slice a l.length c ∧ Byt w a l ∧ (a = none → c = 0) ∧ l.length ≤ c ∧ c ≤ maxLen := by
  have h' := h
  rcases h with ⟨_, ⟨rfl, h0⟩ | ⟨g, cap, cur, rfl, hg, hh, hle, hm, _⟩⟩
  · have : l = [] := List.eq_nil_of_length_eq_zero h0
    subst this
    exact ⟨none, 0, rfl, .inl rfl, fun _ => rfl, Nat.le_refl _, by unfold maxLen; omega⟩
  · refine ⟨_, cap, rfl, .inr ⟨g, 0, rfl, fun i hi => ?_⟩, (fun e => by cases e), hle, hm⟩
    rw [Nat.zero_add, World.ownsRow.cellAt h' i (by omega), vals_get l i hi]
end Go.Proofs.YtlefdnjokppibaaGreatDoor
namespace Go.Proofs.YtlefdnjokppibaaGreatDoor
open Go.RowKit Math
set_option linter.unusedVariables false
theorem zigN (n : Int) (h1 : -9223372036854775808 ≤ n) (h2 : n < 9223372036854775808) (w : World) :
    Calls Tryz.prog 123 #[.int .i64 n] w fun e w' => e = .returned (.int .u64 ((zigS n).toNat : Int)) ∧ w' = w := by
  have := zig_any n h1 (by omega) w
  rw [show zigS n = ((zigS n).toNat : Int) from (Int.toNat_of_nonneg (zig_bd n h1 (by omega)).1).symm] at this
  exact this
theorem zigrN (n : Int) (h1 : -9223372036854775808 ≤ n) (h2 : n < 9223372036854775808) (w : World) :
    Calls Tryz.prog 103 #[.int .i64 n] w fun e w' => e = .returned (.int .u64 ((zigS n).toNat : Int)) ∧ w' = w := by
  have := zigr_any n h1 (by omega) w
  rw [show zigS n = ((zigS n).toNat : Int) from (Int.toNat_of_nonneg (zig_bd n h1 (by omega)).1).symm] at this
  exact this
theorem apUv (v : Value) (l : List Nat) (u : Nat) (hu : u < 18446744073709551616) (B : Nat) (W : World) (ho : Own W B v l) (hB : B ≤ W.heap.size) (hl : l.length ≤ 900000000) :
    Calls Tryz.prog 109 #[v, .int .u64 (u : Int)] W fun e w' => ∃ v', e = .returned v' ∧ Ap B W w' v v' (l ++ uv u) := by
  have h10 := uv_ten u hu
  have K := fun W => uv_any u hu W
  have HO : Hid (Own W B v l) := ho
  clear ho
  go_enter Tryz.func109, Tryz.ntmps109
  go_wp2_with fail
  refine (K _).mono ?_
  rintro e w1 ⟨r, rfl, o1, b1⟩
  obtain ⟨ax, c, rfl, hby, hnil, _⟩ := o1.byt
  have hs := b1.size
  have HB : Hid (Below W.heap.size W w1) := b1
  have HY : Hid (Byt w1 ax (uv u)) := hby
  clear o1 b1 K hby
  go_wp2_with (at_builtin; go_must (refine ap_bytes rfl (.tmp 5) (.tmp 7) rfl B v l rfl (HO.out.below HB.out) ax _ c (uv u) rfl rfl HY.out hnil (by omega) (by omega) ?_))
  intro v' w2 A
  have HA : Hid (Ap B W w2 v v' (l ++ uv u)) := Ap.after HB.out A
  clear A HB HY HO
  go_wp2
  go_ret
  exact ⟨v', rfl, HA.out⟩
theorem apInt (v : Value) (l : List Nat) (n : Int) (h1 : -9223372036854775808 ≤ n) (h2 : n < 9223372036854775808) (B : Nat) (W : World) (ho : Own W B v l) (hB : B ≤ W.heap.size) (hl : l.length ≤ 900000000) :
    Calls Tryz.prog 108 #[v, .int .i64 n] W fun e w' => ∃ v', e = .returned v' ∧ Ap B W w' v v' (l ++ uv (zigS n).toNat) := by
  have z := (zig_nat n h1 h2).1
  have K := fun W => zigN n h1 h2 W
  have K2 := apUv v l (zigS n).toNat z B W ho hB hl
  generalize (zigS n).toNat = u at *
  clear ho
  go_enter Tryz.func108, Tryz.ntmps108
  go_wp2_with fail
  refine (K _).mono ?_
  rintro e w1 ⟨rfl, hw⟩
  have hw' := hw.symm
  subst hw'
  clear hw
  go_wp2_with fail
  refine K2.mono ?_
  rintro e w2 ⟨v', rfl, A⟩
  have HA : Hid (Ap B W w2 v v' (l ++ uv u)) := A
  clear A K K2
  go_wp2
  go_ret
  exact ⟨v', rfl, HA.out⟩
theorem apTx (v : Value) (l : List Nat) (s : ByteArray) (B : Nat) (W : World) (ho : Own W B v l) (hB : B ≤ W.heap.size) (hl : l.length + s.size ≤ 800000000) :
    Calls Tryz.prog 110 #[v, .string s] W fun e w' => ∃ v', e = .returned v' ∧ Ap B W w' v v' (l ++ txB s) := by
  have K2 := apUv v l s.size (by omega) B W ho hB (by omega)
  have h10 := uv_ten s.size (by omega)
  clear ho
  go_enter Tryz.func110, Tryz.ntmps110
  go_wp2_with fail
  refine K2.mono ?_
  rintro e w1 ⟨v1, rfl, A⟩
  have HA : Hid (Ap B W w1 v v1 (l ++ uv s.size)) := A
  have hs := A.gr.size
  clear A K2
  go_wp2_with (at_builtin; go_must (refine ap_str rfl (.tmp 9) (.tmp 10) rfl B v1 (l ++ uv s.size) rfl HA.out.own s rfl (by rw [List.length_append]; omega) (by omega) ?_))
  intro v2 w2 A2
  have HA2 : Hid (Ap B W w2 v v2 (l ++ txB s)) := by
    exact HA.out.trans A2
  clear A2 HA
  go_wp2
  go_ret
  exact ⟨v2, rfl, HA2.out⟩
end Go.Proofs.YtlefdnjokppibaaGreatDoor
