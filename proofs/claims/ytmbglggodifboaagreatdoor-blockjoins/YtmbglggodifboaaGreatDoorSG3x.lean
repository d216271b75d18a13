/-
  What the walks share: a row of bytes in memory, as a list of numbers. · The contracts of the law package's helpers: same, roomy, stands; and one law on append onto a slice of bytes that the call made. · The contracts of octet.Uvarint and of the document's own Uvarint: each makes the same bytes of a number. · The contract of the document's own check, at values that have no kids. · Zig and Zag, both. · The contract of the document's own check, at lists. · The contract of the document's own check, at structs; and whole. · The contract of value.checkAt and of value.Check. · The contract of the document's own check, whole; and of its Check.
-/
import Derived.Test.YtmbglggodifboaaGreatDoorRows
import Derived.Test.YtmbglggodifboaaGreatDoorSG2x
import Derived.WalkKit
import Derived.WalkSpells
import Derived.StillTactics
import Derived.Laws.Pointers
import Derived.RowKit3
import Derived.Below
import Derived.Deep.QuietTactic
import Derived.BigQuiet
import Derived.WalkSmall
import Derived.Laws.AppendOwnNone
import Derived.OpenShut
import Derived.Test.YtmbglggodifboaaGreatDoorSG0x
namespace Go.Proofs.YtmbglggodifboaaGreatDoor
open Go.RowKit Math

/-- The cells of a row of bytes. -/
def Cells (w : World) (b off : Nat) (l : List Nat) : Prop := ∀ i, i < l.length → w.cell? ⟨b, off + i, none⟩ = some (.int .u8 ((l.getD i 0 : Nat) : Int))
theorem oct_get {l : List Nat} (h : Oct l) (i : Nat) : l.getD i 0 < 256 := by
  rw [List.getD_eq_getElem?_getD]
  cases e : l[i]? with
  | none => decide
  | some x => exact h x (List.mem_of_getElem? e)

/-- A slice's address, and its bytes. -/
def Byt (w : World) (a : Option Addr) (l : List Nat) : Prop := l = [] ∨ ∃ b off, a = some ⟨b, off, none⟩ ∧ Cells w b off l
theorem take_snoc (l : List Nat) (k : Nat) (hlt : k < l.length) : l.take (k + 1) = l.take k ++ [l.getD k 0] := by
  rw [List.take_succ_eq_append_getElem hlt, List.getD_eq_getElem?_getD, List.getElem?_eq_getElem hlt]; rfl
end Go.Proofs.YtmbglggodifboaaGreatDoor
namespace Go.Proofs.YtmbglggodifboaaGreatDoor
open Go.RowKit Go.ChangeShapes Go.WideShapes Math
theorem Tryz.info5 : (Tryz.prog.info? 5).map (fun i => (i.zero, i.size, i.bytes)) = some (some (.int .u8 0), 1, 1) := by kernel_rfl
/-- Bytes as cells. -/
def vals (l : List Nat) : List Value := l.map fun n : Nat => Value.int .u8 (n : Int)
theorem vals_length (l : List Nat) : (vals l).length = l.length := by simp [vals]
theorem vals_get (l : List Nat) (i : Nat) (h : i < l.length) : (vals l)[i]? = some (.int .u8 ((l.getD i 0 : Nat) : Int)) := by
  simp [vals, List.getD_eq_getElem?_getD, List.getElem?_eq_getElem h]
theorem vals_one (l : List Nat) : ∀ u ∈ vals l, u.oneCell' = true := by
  intro u hu
  obtain ⟨_, _, rfl⟩ := List.mem_map.1 hu
  rfl
/-- A slice of bytes that the call made. -/
def Own (w : World) (base : Nat) (v : Value) (l : List Nat) : Prop := w.ownsRow base 5 1 v l.length (vals l)
theorem app_bytes {ops : Array Oper} {rest : List Oper} {o : Oper} {a : Act} {Q : Exit → Act → World → Prop} {w : World} (hgd : o.guard = none) (s x : Operand)
    (ho : o.op = .call { callee := .builtin .append, args := #[s, x], argTypes := #[70, 70] })
    (base : Nat) (v : Value) (l : List Nat) (hs : a.eval s = v) (hown : Own w base v l)
    (ax : Option Addr) (m c : Nat) (l2 : List Nat) (hm : m = l2.length) (hx : a.eval x = .slice ax m c) (hsrc : Byt w ax l2) (hnil : ax = none → c = 0)
    (hb : l.length + l2.length ≤ 1000000) (hbase : base ≤ w.heap.size)
    (h : ∀ v' w', Own w' base v' (l ++ l2) → w.grownBy w' v.ownBlock → wpList Tryz.prog ops Q rest (a.put o.dst v') w') : wpList Tryz.prog ops Q (o :: rest) a w := by
  subst hm
  obtain ⟨i, hi, hz0, hz1, hz2⟩ := info_parts Tryz.info5
  cases ax with
  | none =>
    obtain rfl := hnil rfl
    have hl : l2 = [] := by
      rcases hsrc with h | ⟨_, _, h, _⟩
      · exact h
      · cases h
    subst hl
    refine wpList_append_own_none hgd s x 70 ho base 5 i 1 Tryz.underlying70 hi v _ _ hs hown hx (h v w ?_ (World.grownBy.refl _ _))
    simpa using hown
  | some ad =>
    refine wpList_append_own _ hgd s x 70 ho base 5 i (.int .u8 0) 1 1 Tryz.underlying70 hi hz0 hz1 hz2 rfl (by decide) v _ _ hs hown ad l2.length c (vals l2) hx (by simp [vals_length]) ?_ (vals_one l2) (by unfold maxLen; omega) (by omega) hbase ?_
    · intro j u hj
      have hjl : j < l2.length := by
        have := (List.getElem?_eq_some_iff.1 hj).1
        simpa [vals_length] using this
      rcases hsrc with rfl | ⟨b, off, he, hc⟩
      · simp at hjl
      · obtain rfl := Option.some.inj he
        rw [vals_get l2 j hjl] at hj
        rw [Addr.add_lit, hc j hjl]
        exact hj
    · intro v' w' h1 h2 _
      refine h v' w' ?_ h2
      unfold Own
      rw [List.length_append, show vals (l ++ l2) = vals l ++ vals l2 by simp [vals]]
      exact h1
theorem Own.form {w : World} {base : Nat} {v : Value} {l : List Nat} (h : Own w base v l) (hl : 0 < l.length) :
    ∃ g cap, v = .slice (some ⟨g, 0, none⟩) l.length cap ∧ base ≤ g ∧ g < w.heap.size ∧ l.length ≤ cap ∧ cap ≤ maxLen ∧ Cells w g 0 l := by
  have h' := h
  rcases h with ⟨_, ⟨rfl, h0⟩ | ⟨g, cap, cur, rfl, hg, hh, hle, hm, _⟩⟩
  · omega
  · refine ⟨g, cap, rfl, hg, (Array.getElem?_eq_some_iff.1 hh).1, hle, hm, fun i hi => ?_⟩
    rw [Nat.zero_add, World.ownsRow.cellAt h' i (by omega), vals_get l i hi]
theorem own_empty (w : World) (base : Nat) (hb : base ≤ w.heap.size) : Own (w.alloc (.cells #[] 5)) base (.slice (some ⟨w.heap.size, 0, none⟩) 0 0) [] :=
  World.ownsRow_lit w #[] 0 hb (by decide) rfl
theorem Cells.below {w w' : World} {b off : Nat} {l : List Nat} (h : Cells w b off l) (hb : Below w.heap.size w w') : Cells w' b off l :=
  fun i hi => (hb.cell (p := ⟨b, off + i, none⟩) (cell_lt (h i hi))).trans (h i hi)
theorem Cells.left {w : World} {b off : Nat} {l m : List Nat} (h : Cells w b off (l ++ m)) : Cells w b off l := fun i hi => by
  rw [h i (by simp; omega), List.getD_eq_getElem?_getD, List.getD_eq_getElem?_getD, List.getElem?_append_left hi]
theorem Byt.below {w w' : World} {a : Option Addr} {l : List Nat} (h : Byt w a l) (hb : Below w.heap.size w w') : Byt w' a l := by
  rcases h with h | ⟨b, off, rfl, hc⟩
  · exact .inl h
  · exact .inr ⟨b, off, rfl, hc.below hb⟩
theorem byt_lit (w : World) (l : List Nat) : Byt (w.alloc (.cells (vals l).toArray 5)) (some ⟨w.heap.size, 0, none⟩) l := by
  refine .inr ⟨_, _, rfl, fun i hi => ?_⟩
  rw [Nat.zero_add, World.cell?_alloc_new, List.getElem?_toArray, vals_get l i hi]
theorem Own.alloc {w : World} {base : Nat} {v : Value} {l : List Nat} (h : Own w base v l) (o : Obj) : Own (w.alloc o) base v l := World.ownsRow.alloc h o
/-- Behind an append onto what the call made nothing that was there has turned. -/
theorem below_app {B : Nat} {w0 w w' : World} {v : Value} {l : List Nat} (hb : Below B w0 w) (hB : B ≤ w.heap.size) (h : Own w B v l) (hg : w.grownBy w' v.ownBlock) : Below B w0 w' :=
  hb.grown hg hB fun k hk => (World.ownsRow.lt h k hk).1
end Go.Proofs.YtmbglggodifboaaGreatDoor
namespace Go.Proofs.YtmbglggodifboaaGreatDoor
open Go.RowKit Math
set_option maxHeartbeats 400000 in
theorem uv_any (v : Nat) (hv : v < 18446744073709551616) (w : World) :
    Calls Tryz.prog 57 #[.int .u64 v] w fun e w' => ∃ r, e = .returned r ∧ Own w' w.heap.size r (uv v) ∧ Below w.heap.size w w' := by
  have h10 := uv_ten v hv
  go_enter Tryz.func57, Tryz.ntmps57
  go_wp2
  go_loopw [0, 3] (fun x o wr => ∃ (u : Nat) (pre : List Nat), x = .int .u64 u ∧ u < 18446744073709551616 ∧ Hid (uv v = pre ++ uv u) ∧ Own wr w.heap.size o pre ∧ Below w.heap.size w wr) (fun x _ _ => (intOf x).toNat)
  case atStart => exact ⟨v, [], rfl, hv, rfl, World.ownsRow_nil _ _ _ _, Below.refl _ _⟩
  case round =>
    obtain ⟨u, pre, rfl, hu, HE, hown, hbel⟩ := hrel
    have hs := hbel.size
    have hlen : pre.length + 1 ≤ 10 := by
      have := congrArg List.length HE.out
      have h1 := uv_pos u
      simp at this; omega
    by_cases h127 : u < 128
    · have HF : Hid (uv v = pre ++ [u]) := by show _ = _; rw [HE.out, uv_lo u (by omega)]
      go_wp2_with (at_builtin; go_must (refine app_bytes rfl (.tmp 14) (.tmp 17) rfl w.heap.size _ pre rfl (hown.alloc _) _ _ _ [u] rfl rfl (byt_lit wr [u]) (by simp) (by simp; omega) (by simp; omega) ?_))
      intro v1 w1 o1 g1
      have b1 := below_app (hbel.alloc hs _) (by simp; omega) (hown.alloc _) g1
      clear g1 hown
      go_wp2
      go_ret
      exact ⟨v1, rfl, by rw [HF.out]; exact o1, b1⟩
    · obtain ⟨y, hy, HY⟩ : ∃ y : Nat, bits .or .u8 ((u : Int) % 256) 128 = (y : Int) ∧ Hid (y = u % 128 + 128) := ⟨_, or_u8 u, rfl⟩
      have HF : Hid (uv v = (pre ++ [y]) ++ uv (u / 128)) := by show _ = _; rw [HE.out, uv_hi u (by omega), HY.out, List.append_assoc]; rfl
      go_wp2_with (at_builtin; go_must (refine app_bytes rfl (.tmp 6) (.tmp 10) rfl w.heap.size _ pre rfl (hown.alloc _) _ _ _ [y] rfl rfl (byt_lit wr [y]) (by simp) (by simp; omega) (by simp; omega) ?_))
      intro v1 w1 o1 g1
      have b1 := below_app (hbel.alloc hs _) (by simp; omega) (hown.alloc _) g1
      clear g1 hown hy
      go_wp2
      go_roundw
      case rel => exact ⟨u / 128, pre ++ [y], by go_num, by omega, HF, o1, b1⟩
      case measure => simp [intOf]; omega
set_option maxRecDepth 8000 in
set_option maxHeartbeats 400000 in
theorem uvr_any (v : Nat) (hv : v < 18446744073709551616) (w : World) :
    Calls Tryz.prog 45 #[.int .u64 v] w fun e w' => ∃ r, e = .returned r ∧ Own w' w.heap.size r (uv v) ∧ Below w.heap.size w w' := by
  have h10 := uv_ten v hv
  go_enter Tryz.func45, Tryz.ntmps45
  go_wp2
  go_loopw [0, 3] (fun x o wr => ∃ (u : Nat) (pre : List Nat), x = .int .u64 u ∧ u < 18446744073709551616 ∧ Hid (uv v = pre ++ uv u) ∧ Own wr w.heap.size o pre ∧ Below w.heap.size w wr) (fun x _ _ => (intOf x).toNat)
  case atStart => exact ⟨v, [], rfl, hv, rfl, World.ownsRow_nil _ _ _ _, Below.refl _ _⟩
  case round =>
    obtain ⟨u, pre, rfl, hu, HE, hown, hbel⟩ := hrel
    have hs := hbel.size
    have hlen : pre.length + 1 ≤ 10 := by
      have := congrArg List.length HE.out
      have h1 := uv_pos u
      simp at this; omega
    by_cases h127 : u < 128
    · have HF : Hid (uv v = pre ++ [u]) := by show _ = _; rw [HE.out, uv_lo u (by omega)]
      go_wp2_with (at_builtin; go_must (refine app_bytes rfl (.tmp 15) (.tmp 18) rfl w.heap.size _ pre rfl (hown.alloc _) _ _ _ [u] rfl rfl (byt_lit wr [u]) (by simp) (by simp; omega) (by simp; omega) ?_))
      intro v1 w1 o1 g1
      have b1 := below_app (hbel.alloc hs _) (by simp; omega) (hown.alloc _) g1
      clear g1 hown
      go_wp2
      go_ret
      exact ⟨v1, rfl, by rw [HF.out]; exact o1, b1⟩
    · obtain ⟨t, ht, ht128, HT⟩ : ∃ t : Nat, bits .and .u64 (u : Int) 127 = (t : Int) ∧ t < 128 ∧ Hid (t = u % 128) := ⟨_, and_127 u hu, by omega, rfl⟩
      obtain ⟨y, hy, HY⟩ : ∃ y : Nat, bits .or .u8 (t : Int) 128 = (y : Int) ∧ Hid (y = u % 128 + 128) := ⟨_, or_t t ht128, by show _ = _; rw [HT.out]⟩
      have HF : Hid (uv v = (pre ++ [y]) ++ uv (u / 128)) := by show _ = _; rw [HE.out, uv_hi u (by omega), HY.out, List.append_assoc]; rfl
      go_wp2_with (at_builtin; go_must (refine app_bytes rfl (.tmp 6) (.tmp 11) rfl w.heap.size _ pre rfl (hown.alloc _) _ _ _ [y] rfl rfl (byt_lit wr [y]) (by simp) (by simp; omega) (by simp; omega) ?_))
      intro v1 w1 o1 g1
      have b1 := below_app (hbel.alloc hs _) (by simp; omega) (hown.alloc _) g1
      clear g1 hown hy
      go_wp2
      go_roundw
      case rel => exact ⟨u / 128, pre ++ [y], by go_num, by omega, HF, o1, b1⟩
      case measure => simp [intOf]; omega
end Go.Proofs.YtmbglggodifboaaGreatDoor
namespace Go.Proofs.YtmbglggodifboaaGreatDoor
open Go.RowKit
set_option linter.unusedVariables false
theorem ret_int {k : IntKind} {a b : Int} (h : a = b) : Ending.returned (.int k a) = .returned (.int k b) := by rw [h]
theorem own_no {h : Hd} {kl : Nat} (hf : formed h kl = false) : 3 = own h kl := by simp [own, hf]
end Go.Proofs.YtmbglggodifboaaGreatDoor
namespace Go.Proofs.YtmbglggodifboaaGreatDoor
open Go.RowKit Go.ChangeShapes Go.WideShapes Math
set_option linter.unusedVariables false
set_option maxHeartbeats 400000 in
theorem zig_any (v : Int) (h1 : -9223372036854775808 ≤ v) (h2 : v ≤ 9223372036854775807) (w : World) :
    Calls Tryz.prog 123 #[.int .i64 v] w fun e w' => e = .returned (.int .u64 (zigS v)) ∧ w' = w := by
  have hz := zig_bits v h1 h2
  go_enter Tryz.func123, Tryz.ntmps123
  go_wp2
  go_ret
  exact ⟨rfl, rfl⟩
set_option maxHeartbeats 400000 in
theorem zag_any (v : Int) (h1 : 0 ≤ v) (h2 : v ≤ 18446744073709551615) (w : World) :
    Calls Tryz.prog 136 #[.int .u64 v] w fun e w' => e = .returned (.int .i64 (zagS v)) ∧ w' = w := by
  have HZ : Hid (bits BinOp.xor IntKind.i64 (v / 2) (wrap64 (-wrap64 (bits BinOp.and IntKind.u64 v 1))) = zagS v) := by
    have h := zag_bits v h1 h2
    simp only [IntWalk.i64_left] at h
    exact h
  go_enter Tryz.func136, Tryz.ntmps136
  go_wp2
  go_ret
  exact ⟨ret_int HZ.out, rfl⟩
end Go.Proofs.YtmbglggodifboaaGreatDoor
namespace Go.Proofs.YtmbglggodifboaaGreatDoor
open Go.RowKit
set_option linter.unusedVariables false
/-- What check answers, of each value that is smaller. -/
def RIh (F : Nat) (p : Vt) : Prop := ∀ q : Vt, wt q < wt p → WfV q → ∀ (na : Option Addr) (nc : Nat) (ka : Option Addr) (kc : Nat) (d : Int) (W : World), 0 ≤ d → d ≤ 17 → Vl W q na nc ka kc →
  Calls Tryz.prog F #[.agg #[.int .i64 q.1.k, .int .i64 q.1.n, .int .i64 q.1.s, .string q.1.t, .slice na q.1.ns.length nc, .slice ka q.2.list.length kc], .int .i64 d] W fun e w' => e = .returned (.int .i64 (chkV q d)) ∧ Below W.heap.size W w'
theorem chkV_own {p : Vt} {d : Int} (hd : d ≤ 16) (h : own p.1 p.2.list.length ≠ 0) : own p.1 p.2.list.length = chkV p d := by
  simp only [chkV]
  rw [if_neg (by omega), if_pos h]
theorem chkV_kids {p : Vt} {d : Int} (hd : d ≤ 16) (h : own p.1 p.2.list.length = 0) : chkV p d = chk p.2 (d + 1) := by
  simp only [chkV]
  rw [if_neg (by omega), if_neg (by simp [h])]
theorem chk_step {f : Fo} {k : Nat} {q : Vt} {d : Int} (h : f.list[k]? = some q) : chk (f.drop k) d = if chkV q d ≠ 0 then chkV q d else chk (f.drop (k + 1)) d := by
  rw [Fo.drop_at f k q h, chk_cons]
theorem NdV.below {w w' : World} {b o : Nat} {p : Vt} (h : NdV w b o p) (hb : Below w.heap.size w w') : NdV w' b o p := by
  obtain ⟨na, nc, ka, kc, h1, h2⟩ := h
  exact ⟨na, nc, ka, kc, h1.below hb, h2.below hb⟩
/-- What a walk over a value's kids has of them. -/
theorem Vl.kid {w wr : World} {p : Vt} {na ka : Option Addr} {nc kc : Nat} (h : Vl w p na nc ka kc) (hb : Below w.heap.size w wr) {k : Nat} (hk : k < p.2.list.length) :
    ∃ q b o na' nc' ka' kc', p.2.list[k]? = some q ∧ ka = some ⟨b, o, none⟩ ∧ Nd wr b (o + k * 6) q.1 na' nc' ka' q.2.list.length kc' ∧ Vl wr q na' nc' ka' kc' := by
  obtain ⟨q, hq⟩ : ∃ q, p.2.list[k]? = some q := ⟨_, List.getElem?_eq_getElem hk⟩
  obtain ⟨b, o, e, hn⟩ := h.slc.get hq
  obtain ⟨na', nc', ka', kc', h1, h2⟩ := hn.below hb
  exact ⟨q, b, o, na', nc', ka', kc', hq, e, h1, h2⟩
end Go.Proofs.YtmbglggodifboaaGreatDoor
namespace Go.Proofs.YtmbglggodifboaaGreatDoor
open Go.RowKit
set_option linter.unusedVariables false
theorem below_dq {B : Nat} (w : World) (q : Nat) : Below B w (w.drewN q) := ⟨rfl, rfl, rfl, Nat.le_refl _, fun _ _ => rfl⟩
end Go.Proofs.YtmbglggodifboaaGreatDoor
namespace Go.Proofs.YtmbglggodifboaaGreatDoor
open Go.RowKit
set_option linter.unusedVariables false
set_option maxRecDepth 8000 in
set_option maxHeartbeats 4000000 in
theorem vcheck_step (p : Vt) (ih : RIh 107 p) (hwf : WfV p) (na : Option Addr) (nc : Nat) (ka : Option Addr) (kc : Nat) (d : Int) (hd0 : 0 ≤ d) (hd1 : d ≤ 17) (w : World) (hv : Vl w p na nc ka kc) :
    Calls Tryz.prog 107 #[.agg #[.int .i64 p.1.k, .int .i64 p.1.n, .int .i64 p.1.s, .string p.1.t, .slice na p.1.ns.length nc, .slice ka p.2.list.length kc], .int .i64 d] w fun e w' => e = .returned (.int .i64 (chkV p d)) ∧ Below w.heap.size w w' := by
  by_cases hd : d ≤ 16
  case neg =>
    go_enter Tryz.func107, Tryz.ntmps107
    go_wp2
    go_ret
    exact ⟨ret_int (by rw [chkV, if_pos (by omega)]), (Below.refl _ _).alloc (Nat.le_refl _) _⟩
  have HI : Hid (RIh 107 p) := ih
  have HW : Hid (WfV p) := hwf
  have hkl := hwf.2.1
  have htl := hwf.1.t1
  have b0 : Below w.heap.size w (w.alloc (.cells #[.int .i64 p.1.k, .int .i64 p.1.n, .int .i64 p.1.s, .string p.1.t, .slice na p.1.ns.length nc, .slice ka p.2.list.length kc] 41)) := (Below.refl _ _).alloc (Nat.le_refl _) _
  have HV : Hid (Vl (w.alloc (.cells #[.int .i64 p.1.k, .int .i64 p.1.n, .int .i64 p.1.s, .string p.1.t, .slice na p.1.ns.length nc, .slice ka p.2.list.length kc] 41)) p na nc ka kc) := hv.below b0
  have HB0 : Hid _ := b0
  have HF : Hid (∀ W, Calls Tryz.prog 121 #[.agg #[.int .i64 p.1.k, .int .i64 p.1.n, .int .i64 p.1.s, .string p.1.t, .slice na p.1.ns.length nc, .slice ka p.2.list.length kc]] W fun e w' => e = .returned (.bool (formed p.1 p.2.list.length)) ∧ Below W.heap.size W w') := fun W => formed_any p.1 na nc ka p.2.list.length kc W
  have HN : Hid (∀ W, Nms W na p.1.ns → Calls Tryz.prog 122 #[.agg #[.int .i64 p.1.k, .int .i64 p.1.n, .int .i64 p.1.s, .string p.1.t, .slice na p.1.ns.length nc, .slice ka p.2.list.length kc]] W fun e w' => e = .returned (.bool (named p.1.ns p.2.list.length)) ∧ Below W.heap.size W w') := fun W h => named_any p.1 na nc ka p.2.list.length kc W h hwf.1.c1 hwf.1.e1
  have HC : Hid (∀ W, Below (w.alloc (.cells #[.int .i64 p.1.k, .int .i64 p.1.n, .int .i64 p.1.s, .string p.1.t, .slice na p.1.ns.length nc, .slice ka p.2.list.length kc] 41)).heap.size (w.alloc (.cells #[.int .i64 p.1.k, .int .i64 p.1.n, .int .i64 p.1.s, .string p.1.t, .slice na p.1.ns.length nc, .slice ka p.2.list.length kc] 41)) W → Nd W w.heap.size 0 p.1 na nc ka p.2.list.length kc) := fun W hb =>
    ⟨box_get (six p.1 na nc ka p.2.list.length kc) 41 hb 0 _ rfl, box_get (six p.1 na nc ka p.2.list.length kc) 41 hb 1 _ rfl, box_get (six p.1 na nc ka p.2.list.length kc) 41 hb 2 _ rfl, box_get (six p.1 na nc ka p.2.list.length kc) 41 hb 3 _ rfl, box_get (six p.1 na nc ka p.2.list.length kc) 41 hb 4 _ rfl, box_get (six p.1 na nc ka p.2.list.length kc) 41 hb 5 _ rfl⟩
  clear hv ih hwf b0
  go_enter Tryz.func107, Tryz.ntmps107
  go_wp2_with fail
  generalize (w.alloc (.cells #[.int .i64 p.1.k, .int .i64 p.1.n, .int .i64 p.1.s, .string p.1.t, .slice na p.1.ns.length nc, .slice ka p.2.list.length kc] 41)) = w1 at *
  refine (HF.out w1).mono ?_
  rintro e w2 ⟨rfl, hb2⟩
  have HB2 : Hid (Below w1.heap.size w1 w2) := hb2
  obtain ⟨c0, c1, c2, c3, c4, c5⟩ := HC.out w2 hb2
  simp only [Nat.zero_add] at c1 c2 c3 c4 c5
  clear hb2 HF
  cases hf : formed p.1 p.2.list.length with
  | false =>
    go_wp2
    go_ret
    exact ⟨ret_int ((own_no hf).trans (chkV_own hd (by rw [← own_no hf]; decide))), HB0.out.trans (HB2.out.mono HB0.out.size)⟩
  | true =>
  by_cases hT : 16384 < p.1.t.size ∨ 200 < p.2.list.length
  · have hO : 5 = own p.1 p.2.list.length := by simp only [own, hf, if_true]; rw [if_pos hT]
    have HO : Hid (5 = chkV p d) := hO.trans (chkV_own hd (by rw [← hO]; decide))
    clear hO
    by_cases hT2 : 16384 < p.1.t.size
    · go_wp2
      go_ret
      exact ⟨ret_int HO.out, HB0.out.trans (HB2.out.mono HB0.out.size)⟩
    · have hT3 : 200 < p.2.list.length := by omega
      go_wp2
      go_ret
      exact ⟨ret_int HO.out, HB0.out.trans (HB2.out.mono HB0.out.size)⟩
  have hT2 : ¬ 16384 < p.1.t.size := by omega
  have hT3 : ¬ 200 < p.2.list.length := by omega
  by_cases hk9 : p.1.k = 9
  · have HK9 : Hid (p.1.k = 9) := hk9
    have hkb : (p.1.k == 9) = true := by simp [hk9]
    clear hk9
    go_wp2_with fail
    refine (HN.out w2 (HV.out.nms.below HB2.out)).mono ?_
    rintro e w3 ⟨rfl, hb3⟩
    have HB3 : Hid (Below w1.heap.size w1 w3) := HB2.out.trans (hb3.mono HB2.out.size)
    have d5 := (HC.out w3 HB3.out).c5
    simp only [Nat.zero_add] at d5
    clear hb3
    cases hnm : named p.1.ns p.2.list.length with
    | false =>
      have hO : 3 = own p.1 p.2.list.length := by
        simp only [own, hf, if_true]
        rw [if_neg hT, if_pos ⟨HK9.out, hnm⟩]
      have HO : Hid (3 = chkV p d) := hO.trans (chkV_own hd (by rw [← hO]; decide))
      clear hO HB2
      go_wp2
      go_ret
      exact ⟨ret_int HO.out, HB0.out.trans (HB3.out.mono HB0.out.size)⟩
    | true =>
      have HR : Hid (chkV p d = chk (p.2.drop 0) (d + 1)) := chkV_kids hd (by
        simp only [own, hf, if_true]
        rw [if_neg hT, if_neg (by simp [hnm])])
      have HB2 : Hid (Below w1.heap.size w1 w3) := HB3.out
      clear HB3
      go_wp2
      go_loopw [34] (fun i wr => ∃ k : Nat, k ≤ p.2.list.length ∧ i = .int .i64 (k : Int) ∧ Hid (Below w1.heap.size w1 wr) ∧ Hid (chkV p d = chk (p.2.drop k) (d + 1))) (fun i _ => p.2.list.length - (intOf i).toNat)
      case atStart => exact ⟨0, by omega, rfl, HB2.out, HR.out⟩
      case round =>
        obtain ⟨k, hk0, rfl, HB, HRk⟩ := hrel
        by_cases hlt : k < p.2.list.length
        case neg =>
          go_wp2
          go_ret
          exact ⟨ret_int (by rw [HRk.out, Fo.drop_end _ _ (by omega)]; rfl), HB0.out.trans (HB.out.mono HB0.out.size)⟩
        obtain ⟨q, b, o, na', nc', ka', kc', hq, rfl, hnd, hvl⟩ := HV.out.kid HB.out (k := k) hlt
        have HQ := HI.out q (wt_kid (List.mem_of_getElem? hq)) (HW.out.kid (List.mem_of_getElem? hq)) na' nc' ka' kc' (d + 1) (wr.alloc (.cells #[.int .i64 q.1.k, .int .i64 q.1.n, .int .i64 q.1.s, .string q.1.t, .slice na' q.1.ns.length nc', .slice ka' q.2.list.length kc'] 41)) (by omega) (by omega) (hvl.below ((Below.refl _ _).alloc (Nat.le_refl _) _))
        have HS : Hid (chkV p d = if chkV q (d + 1) ≠ 0 then chkV q (d + 1) else chk (p.2.drop (k + 1)) (d + 1)) := HRk.out.trans (chk_step hq)
        obtain ⟨d0, d1, d2, d3, d4, d5⟩ := hnd
        generalize chkV q (d + 1) = E at *
        clear hvl hq HRk
        go_wp2_with fail
        refine HQ.mono ?_
        rintro e w3 ⟨rfl, hb3⟩
        have HB3 : Hid (Below w1.heap.size w1 w3) := HB.out.trans ((box_below _ hb3).mono HB.out.size)
        clear HQ hb3
        by_cases hE : E = 0
        · subst hE
          go_wp2
          go_roundw
          case rel => exact ⟨k + 1, by omega, by go_num, HB3.out, show chkV p d = _ by simpa using HS.out⟩
          case measure => simp [intOf]; omega
        · go_wp2
          go_ret
          exact ⟨ret_int (by rw [HS.out, if_pos hE]), HB0.out.trans (HB3.out.mono HB0.out.size)⟩
  · have HR : Hid (chkV p d = chk (p.2.drop 0) (d + 1)) := chkV_kids hd (by
      simp only [own, hf, if_true]
      rw [if_neg hT, if_neg (by simp [hk9])])
    go_wp2
    go_loopw [34] (fun i wr => ∃ k : Nat, k ≤ p.2.list.length ∧ i = .int .i64 (k : Int) ∧ Hid (Below w1.heap.size w1 wr) ∧ Hid (chkV p d = chk (p.2.drop k) (d + 1))) (fun i _ => p.2.list.length - (intOf i).toNat)
    case atStart => exact ⟨0, by omega, rfl, HB2.out, HR.out⟩
    case round =>
      obtain ⟨k, hk0, rfl, HB, HRk⟩ := hrel
      by_cases hlt : k < p.2.list.length
      case neg =>
        go_wp2
        go_ret
        exact ⟨ret_int (by rw [HRk.out, Fo.drop_end _ _ (by omega)]; rfl), HB0.out.trans (HB.out.mono HB0.out.size)⟩
      obtain ⟨q, b, o, na', nc', ka', kc', hq, rfl, hnd, hvl⟩ := HV.out.kid HB.out (k := k) hlt
      have HQ := HI.out q (wt_kid (List.mem_of_getElem? hq)) (HW.out.kid (List.mem_of_getElem? hq)) na' nc' ka' kc' (d + 1) (wr.alloc (.cells #[.int .i64 q.1.k, .int .i64 q.1.n, .int .i64 q.1.s, .string q.1.t, .slice na' q.1.ns.length nc', .slice ka' q.2.list.length kc'] 41)) (by omega) (by omega) (hvl.below ((Below.refl _ _).alloc (Nat.le_refl _) _))
      have HS : Hid (chkV p d = if chkV q (d + 1) ≠ 0 then chkV q (d + 1) else chk (p.2.drop (k + 1)) (d + 1)) := HRk.out.trans (chk_step hq)
      obtain ⟨d0, d1, d2, d3, d4, d5⟩ := hnd
      generalize chkV q (d + 1) = E at *
      clear hvl hq HRk
      go_wp2_with fail
      refine HQ.mono ?_
      rintro e w3 ⟨rfl, hb3⟩
      have HB3 : Hid (Below w1.heap.size w1 w3) := HB.out.trans ((box_below _ hb3).mono HB.out.size)
      clear HQ hb3
      by_cases hE : E = 0
      · subst hE
        go_wp2
        go_roundw
        case rel => exact ⟨k + 1, by omega, by go_num, HB3.out, show chkV p d = _ by simpa using HS.out⟩
        case measure => simp [intOf]; omega
      · go_wp2
        go_ret
        exact ⟨ret_int (by rw [HS.out, if_pos hE]), HB0.out.trans (HB3.out.mono HB0.out.size)⟩
theorem vcheck_any : ∀ (n : Nat) (p : Vt), wt p ≤ n → WfV p → ∀ (na : Option Addr) (nc : Nat) (ka : Option Addr) (kc : Nat) (d : Int) (W : World), 0 ≤ d → d ≤ 17 → Vl W p na nc ka kc →
    Calls Tryz.prog 107 #[.agg #[.int .i64 p.1.k, .int .i64 p.1.n, .int .i64 p.1.s, .string p.1.t, .slice na p.1.ns.length nc, .slice ka p.2.list.length kc], .int .i64 d] W fun e w' => e = .returned (.int .i64 (chkV p d)) ∧ Below W.heap.size W w' := by
  intro n
  induction n with
  | zero => intro p hp; exfalso; unfold wt at hp; omega
  | succ n ih =>
    intro p hp hwf na nc ka kc d W hd0 hd1 hv
    exact vcheck_step p (fun q hq hwq na nc ka kc d W h1 h2 h3 => ih q (by omega) hwq na nc ka kc d W h1 h2 h3) hwf na nc ka kc d hd0 hd1 W hv
/-- What Check answers. -/
def CkC (F : Nat) : Prop := ∀ (p : Vt), WfV p → ∀ (na : Option Addr) (nc : Nat) (ka : Option Addr) (kc : Nat) (W : World), Vl W p na nc ka kc →
    Calls Tryz.prog F #[.agg #[.int .i64 p.1.k, .int .i64 p.1.n, .int .i64 p.1.s, .string p.1.t, .slice na p.1.ns.length nc, .slice ka p.2.list.length kc]] W fun e w' => e = .returned (.int .i64 (chkV p 1)) ∧ Below W.heap.size W w'
theorem vCheck_any : CkC 92 := by
  intro p hwf na nc ka kc W hv
  have HQ : Hid (∀ W', Vl W' p na nc ka kc → Calls Tryz.prog 107 #[.agg #[.int .i64 p.1.k, .int .i64 p.1.n, .int .i64 p.1.s, .string p.1.t, .slice na p.1.ns.length nc, .slice ka p.2.list.length kc], .int .i64 1] W' fun e w' => e = .returned (.int .i64 (chkV p 1)) ∧ Below W'.heap.size W' w') := fun W' h => vcheck_any _ p (Nat.le_refl _) hwf na nc ka kc 1 W' (by omega) (by omega) h
  generalize chkV p 1 = E at *
  have HV : Hid (Vl W p na nc ka kc) := hv
  clear hv
  go_enter Tryz.func92, Tryz.ntmps92
  go_wp2_with fail
  refine (HQ.out _ (HV.out.below ((Below.refl _ _).alloc (Nat.le_refl _) _))).mono ?_
  rintro e w2 ⟨rfl, hb2⟩
  have HB : Hid (Below W.heap.size W w2) := box_below _ hb2
  clear hb2 HQ
  go_wp2
  go_ret
  exact ⟨rfl, HB.out⟩
end Go.Proofs.YtmbglggodifboaaGreatDoor
namespace Go.Proofs.YtmbglggodifboaaGreatDoor
open Go.RowKit
set_option linter.unusedVariables false
end Go.Proofs.YtmbglggodifboaaGreatDoor
