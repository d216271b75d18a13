/-
  What the walks share: a row of bytes in memory, as a list of numbers. · The contracts of the law package's helpers: same, roomy, stands; and one law on append onto a slice of bytes that the call made. · The contracts of octet.Uvarint and of the document's own Uvarint: each makes the same bytes of a number. · The contract of the document's own check, at values that have no kids.
-/
import Derived.Test.YtlefdnjokppibaaGreatDoorRows
import Derived.Test.YtlefdnjokppibaaGreatDoorUG2x
import Derived.WalkKit
import Derived.WalkSpells
import Derived.StillTactics
import Derived.Laws.Pointers
import Derived.RowKit3
import Derived.Below
import Derived.Deep.QuietTactic
import Derived.BigQuiet
import Derived.WalkSmall
import Derived.Laws.AppendOwnNone
import Derived.OpenShut
import Derived.Test.YtlefdnjokppibaaGreatDoorUG0x
namespace Go.Proofs.YtlefdnjokppibaaGreatDoor
open Go.RowKit Math

/-- The cells of a row of bytes. -/
def Cells (w : World) (b off : Nat) (l : List Nat) : Prop := ∀ i, i < l.length → w.cell? ⟨b, off + i, none⟩ = some (.int .u8 ((l.getD i 0 : Nat) : Int))
theorem oct_get {l : List Nat} (h : Oct l) (i : Nat) : l.getD i 0 < 256 := by
  rw [List.getD_eq_getElem?_getD]
  cases e : l[i]? with
  | none => decide
  | some x => exact h x (List.mem_of_getElem? e)

/-- A slice's address, and its bytes. -/
def Byt (w : World) (a : Option Addr) (l : List Nat) : Prop := l = [] ∨ ∃ b off, a = some ⟨b, off, none⟩ ∧ Cells w b off l
theorem take_snoc (l : List Nat) (k : Nat) (hlt : k < l.length) : l.take (k + 1) = l.take k ++ [l.getD k 0] := by
  rw [List.take_succ_eq_append_getElem hlt, List.getD_eq_getElem?_getD, List.getElem?_eq_getElem hlt]; rfl
end Go.Proofs.YtlefdnjokppibaaGreatDoor
namespace Go.Proofs.YtlefdnjokppibaaGreatDoor
open Go.RowKit Go.ChangeShapes Go.WideShapes Math
theorem Tryz.info5 : (Tryz.prog.info? 5).map (fun i => (i.zero, i.size, i.bytes)) = some (some (.int .u8 0), 1, 1) := by kernel_rfl
/-- Bytes as cells. -/
def vals (l : List Nat) : List Value := l.map fun n : Nat => Value.int .u8 (n : Int)
theorem vals_length (l : List Nat) : (vals l).length = l.length := by simp [vals]
theorem vals_get (l : List Nat) (i : Nat) (h : i < l.length) : (vals l)[i]? = some (.int .u8 ((l.getD i 0 : Nat) : Int)) := by
  simp [vals, List.getD_eq_getElem?_getD, List.getElem?_eq_getElem h]
theorem vals_one (l : List Nat) : ∀ u ∈ vals l, u.oneCell' = true := by
  intro u hu
  obtain ⟨_, _, rfl⟩ := List.mem_map.1 hu
  rfl
/-- A slice of bytes that the call made. -/
def Own (w : World) (base : Nat) (v : Value) (l : List Nat) : Prop := w.ownsRow base 5 1 v l.length (vals l)
theorem app_bytes {ops : Array Oper} {rest : List Oper} {o : Oper} {a : Act} {Q : Exit → Act → World → Prop} {w : World} (hgd : o.guard = none) (s x : Operand)
    (ho : o.op = .call { callee := .builtin .append, args := #[s, x], argTypes := #[70, 70] })
    (base : Nat) (v : Value) (l : List Nat) (hs : a.eval s = v) (hown : Own w base v l)
    (ax : Option Addr) (m c : Nat) (l2 : List Nat) (hm : m = l2.length) (hx : a.eval x = .slice ax m c) (hsrc : Byt w ax l2) (hnil : ax = none → c = 0)
    (hb : l.length + l2.length ≤ 1000000) (hbase : base ≤ w.heap.size)
    (h : ∀ v' w', Own w' base v' (l ++ l2) → w.grownBy w' v.ownBlock → wpList Tryz.prog ops Q rest (a.put o.dst v') w') : wpList Tryz.prog ops Q (o :: rest) a w := by
  subst hm
  obtain ⟨i, hi, hz0, hz1, hz2⟩ := info_parts Tryz.info5
  cases ax with
  | none =>
    obtain rfl := hnil rfl
    have hl : l2 = [] := by
      rcases hsrc with h | ⟨_, _, h, _⟩
      · exact h
      · cases h
    subst hl
    refine wpList_append_own_none hgd s x 70 ho base 5 i 1 Tryz.underlying70 hi v _ _ hs hown hx (h v w ?_ (World.grownBy.refl _ _))
    simpa using hown
  | some ad =>
    refine wpList_append_own _ hgd s x 70 ho base 5 i (.int .u8 0) 1 1 Tryz.underlying70 hi hz0 hz1 hz2 rfl (by decide) v _ _ hs hown ad l2.length c (vals l2) hx (by simp [vals_length]) ?_ (vals_one l2) (by unfold maxLen; omega) (by omega) hbase ?_
    · intro j u hj
      have hjl : j < l2.length := by
        have := (List.getElem?_eq_some_iff.1 hj).1
        simpa [vals_length] using this
      rcases hsrc with rfl | ⟨b, off, he, hc⟩
      · simp at hjl
      · obtain rfl := Option.some.inj he
        rw [vals_get l2 j hjl] at hj
        rw [Addr.add_lit, hc j hjl]
        exact hj
    · intro v' w' h1 h2 _
      refine h v' w' ?_ h2
      unfold Own
      rw [List.length_append, show vals (l ++ l2) = vals l ++ vals l2 by simp [vals]]
      exact h1
theorem Own.form {w : World} {base : Nat} {v : Value} {l : List Nat} (h : Own w base v l) (hl : 0 < l.length) :
    ∃ g cap, v = .slice (some ⟨g, 0, none⟩) l.length cap ∧ base ≤ g ∧ g < w.heap.size ∧ l.length ≤ cap ∧ cap ≤ maxLen ∧ Cells w g 0 l := by
  have h' := h
  rcases h with ⟨_, ⟨rfl, h0⟩ | ⟨g, cap, cur, rfl, hg, hh, hle, hm, _⟩⟩
  · omega
  · refine ⟨g, cap, rfl, hg, (Array.getElem?_eq_some_iff.1 hh).1, hle, hm, fun i hi => ?_⟩
    rw [Nat.zero_add, World.ownsRow.cellAt h' i (by omega), vals_get l i hi]
theorem own_empty (w : World) (base : Nat) (hb : base ≤ w.heap.size) : Own (w.alloc (.cells #[] 5)) base (.slice (some ⟨w.heap.size, 0, none⟩) 0 0) [] :=
  World.ownsRow_lit w #[] 0 hb (by decide) rfl
theorem Cells.below {w w' : World} {b off : Nat} {l : List Nat} (h : Cells w b off l) (hb : Below w.heap.size w w') : Cells w' b off l :=
  fun i hi => (hb.cell (p := ⟨b, off + i, none⟩) (cell_lt (h i hi))).trans (h i hi)
theorem Cells.left {w : World} {b off : Nat} {l m : List Nat} (h : Cells w b off (l ++ m)) : Cells w b off l := fun i hi => by
  rw [h i (by simp; omega), List.getD_eq_getElem?_getD, List.getD_eq_getElem?_getD, List.getElem?_append_left hi]
theorem Byt.below {w w' : World} {a : Option Addr} {l : List Nat} (h : Byt w a l) (hb : Below w.heap.size w w') : Byt w' a l := by
  rcases h with h | ⟨b, off, rfl, hc⟩
  · exact .inl h
  · exact .inr ⟨b, off, rfl, hc.below hb⟩
theorem byt_lit (w : World) (l : List Nat) : Byt (w.alloc (.cells (vals l).toArray 5)) (some ⟨w.heap.size, 0, none⟩) l := by
  refine .inr ⟨_, _, rfl, fun i hi => ?_⟩
  rw [Nat.zero_add, World.cell?_alloc_new, List.getElem?_toArray, vals_get l i hi]
theorem Own.alloc {w : World} {base : Nat} {v : Value} {l : List Nat} (h : Own w base v l) (o : Obj) : Own (w.alloc o) base v l := World.ownsRow.alloc h o
/-- Behind an append onto what the call made nothing that was there has turned. -/
theorem below_app {B : Nat} {w0 w w' : World} {v : Value} {l : List Nat} (hb : Below B w0 w) (hB : B ≤ w.heap.size) (h : Own w B v l) (hg : w.grownBy w' v.ownBlock) : Below B w0 w' :=
  hb.grown hg hB fun k hk => (World.ownsRow.lt h k hk).1
end Go.Proofs.YtlefdnjokppibaaGreatDoor
namespace Go.Proofs.YtlefdnjokppibaaGreatDoor
open Go.RowKit Math
set_option maxHeartbeats 400000 in
theorem uv_any (v : Nat) (hv : v < 18446744073709551616) (w : World) :
    Calls Tryz.prog 57 #[.int .u64 v] w fun e w' => ∃ r, e = .returned r ∧ Own w' w.heap.size r (uv v) ∧ Below w.heap.size w w' := by
  have h10 := uv_ten v hv
  go_enter Tryz.func57, Tryz.ntmps57
  go_wp2
  go_loopw [0, 3] (fun x o wr => ∃ (u : Nat) (pre : List Nat), x = .int .u64 u ∧ u < 18446744073709551616 ∧ Hid (uv v = pre ++ uv u) ∧ Own wr w.heap.size o pre ∧ Below w.heap.size w wr) (fun x _ _ => (intOf x).toNat)
  case atStart => exact ⟨v, [], rfl, hv, rfl, World.ownsRow_nil _ _ _ _, Below.refl _ _⟩
  case round =>
    obtain ⟨u, pre, rfl, hu, HE, hown, hbel⟩ := hrel
    have hs := hbel.size
    have hlen : pre.length + 1 ≤ 10 := by
      have := congrArg List.length HE.out
      have h1 := uv_pos u
      simp at this; omega
    by_cases h127 : u < 128
    · have HF : Hid (uv v = pre ++ [u]) := by show _ = _; rw [HE.out, uv_lo u (by omega)]
      go_wp2_with (at_builtin; go_must (refine app_bytes rfl (.tmp 14) (.tmp 17) rfl w.heap.size _ pre rfl (hown.alloc _) _ _ _ [u] rfl rfl (byt_lit wr [u]) (by simp) (by simp; omega) (by simp; omega) ?_))
      intro v1 w1 o1 g1
      have b1 := below_app (hbel.alloc hs _) (by simp; omega) (hown.alloc _) g1
      clear g1 hown
      go_wp2
      go_ret
      exact ⟨v1, rfl, by rw [HF.out]; exact o1, b1⟩
    · obtain ⟨y, hy, HY⟩ : ∃ y : Nat, bits .or .u8 ((u : Int) % 256) 128 = (y : Int) ∧ Hid (y = u % 128 + 128) := ⟨_, or_u8 u, rfl⟩
      have HF : Hid (uv v = (pre ++ [y]) ++ uv (u / 128)) := by show _ = _; rw [HE.out, uv_hi u (by omega), HY.out, List.append_assoc]; rfl
      go_wp2_with (at_builtin; go_must (refine app_bytes rfl (.tmp 6) (.tmp 10) rfl w.heap.size _ pre rfl (hown.alloc _) _ _ _ [y] rfl rfl (byt_lit wr [y]) (by simp) (by simp; omega) (by simp; omega) ?_))
      intro v1 w1 o1 g1
      have b1 := below_app (hbel.alloc hs _) (by simp; omega) (hown.alloc _) g1
      clear g1 hown hy
      go_wp2
      go_roundw
      case rel => exact ⟨u / 128, pre ++ [y], by go_num, by omega, HF, o1, b1⟩
      case measure => simp [intOf]; omega
set_option maxRecDepth 8000 in
set_option maxHeartbeats 400000 in
theorem uvr_any (v : Nat) (hv : v < 18446744073709551616) (w : World) :
    Calls Tryz.prog 45 #[.int .u64 v] w fun e w' => ∃ r, e = .returned r ∧ Own w' w.heap.size r (uv v) ∧ Below w.heap.size w w' := by
  have h10 := uv_ten v hv
  go_enter Tryz.func45, Tryz.ntmps45
  go_wp2
  go_loopw [0, 3] (fun x o wr => ∃ (u : Nat) (pre : List Nat), x = .int .u64 u ∧ u < 18446744073709551616 ∧ Hid (uv v = pre ++ uv u) ∧ Own wr w.heap.size o pre ∧ Below w.heap.size w wr) (fun x _ _ => (intOf x).toNat)
  case atStart => exact ⟨v, [], rfl, hv, rfl, World.ownsRow_nil _ _ _ _, Below.refl _ _⟩
  case round =>
    obtain ⟨u, pre, rfl, hu, HE, hown, hbel⟩ := hrel
    have hs := hbel.size
    have hlen : pre.length + 1 ≤ 10 := by
      have := congrArg List.length HE.out
      have h1 := uv_pos u
      simp at this; omega
    by_cases h127 : u < 128
    · have HF : Hid (uv v = pre ++ [u]) := by show _ = _; rw [HE.out, uv_lo u (by omega)]
      go_wp2_with (at_builtin; go_must (refine app_bytes rfl (.tmp 15) (.tmp 18) rfl w.heap.size _ pre rfl (hown.alloc _) _ _ _ [u] rfl rfl (byt_lit wr [u]) (by simp) (by simp; omega) (by simp; omega) ?_))
      intro v1 w1 o1 g1
      have b1 := below_app (hbel.alloc hs _) (by simp; omega) (hown.alloc _) g1
      clear g1 hown
      go_wp2
      go_ret
      exact ⟨v1, rfl, by rw [HF.out]; exact o1, b1⟩
    · obtain ⟨t, ht, ht128, HT⟩ : ∃ t : Nat, bits .and .u64 (u : Int) 127 = (t : Int) ∧ t < 128 ∧ Hid (t = u % 128) := ⟨_, and_127 u hu, by omega, rfl⟩
      obtain ⟨y, hy, HY⟩ : ∃ y : Nat, bits .or .u8 (t : Int) 128 = (y : Int) ∧ Hid (y = u % 128 + 128) := ⟨_, or_t t ht128, by show _ = _; rw [HT.out]⟩
      have HF : Hid (uv v = (pre ++ [y]) ++ uv (u / 128)) := by show _ = _; rw [HE.out, uv_hi u (by omega), HY.out, List.append_assoc]; rfl
      go_wp2_with (at_builtin; go_must (refine app_bytes rfl (.tmp 6) (.tmp 11) rfl w.heap.size _ pre rfl (hown.alloc _) _ _ _ [y] rfl rfl (byt_lit wr [y]) (by simp) (by simp; omega) (by simp; omega) ?_))
      intro v1 w1 o1 g1
      have b1 := below_app (hbel.alloc hs _) (by simp; omega) (hown.alloc _) g1
      clear g1 hown hy
      go_wp2
      go_roundw
      case rel => exact ⟨u / 128, pre ++ [y], by go_num, by omega, HF, o1, b1⟩
      case measure => simp [intOf]; omega
end Go.Proofs.YtlefdnjokppibaaGreatDoor
namespace Go.Proofs.YtlefdnjokppibaaGreatDoor
open Go.RowKit
set_option linter.unusedVariables false
theorem ret_int {k : IntKind} {a b : Int} (h : a = b) : Ending.returned (.int k a) = .returned (.int k b) := by rw [h]
theorem own_no {h : Hd} {kl : Nat} (hf : formed h kl = false) : 3 = own h kl := by simp [own, hf]
theorem em_dec (l : List UInt8) : l.isEmpty = decide (l = []) := by cases l <;> simp
theorem size_nil {t : ByteArray} (h : t.toList = []) : t.size = 0 := by
  rw [ByteArray.toList_eq] at h
  have : t.data.toList.length = 0 := by rw [h]; rfl
  rw [Array.length_toList] at this
  exact this
theorem own_leaf {h : Hd} {kl : Nat} (hf : formed h kl = true) (hk : h.k ≠ 9) (ht : h.t.size ≤ 16384) (hkl : kl = 0) : 0 = own h kl := by
  subst hkl
  simp only [own, hf, if_true]
  rw [if_neg (by omega), if_neg (by simp [hk])]
theorem own_long {h : Hd} {kl : Nat} (hf : formed h kl = true) (ht : 16384 < h.t.size) : 5 = own h kl := by
  simp only [own, hf, if_true]
  rw [if_pos (by omega)]
set_option maxRecDepth 8000 in
set_option maxHeartbeats 4000000 in
theorem rcheck_1 (h : Hd) (na : Option Addr) (nc : Nat) (ka : Option Addr) (kl kc : Nat) (hk : h.k = 1) (hl : h.t.size ≤ 140737488355328) (d : Int) (hd : d ≤ 16) (w : World) :
    Calls Tryz.prog 102 #[.agg #[.int .i64 h.k, .int .i64 h.n, .int .i64 h.s, .string h.t, .slice na h.ns.length nc, .slice ka kl kc], .int .i64 d] w fun e w' => e = .returned (.int .i64 (own h kl)) ∧ Below w.heap.size w w' := by
  have HK : Hid (h.k = 1) := hk
  have HNo : Hid (formed h kl = false → 3 = own h kl) := own_no
  have HYes : Hid (formed h kl = true → kl = 0 → h.t.toList = [] → 0 = own h kl) := fun hf hl ht => own_leaf hf (by omega) (by have := size_nil ht; omega) hl
  have HLong : Hid (formed h kl = true → 16384 < h.t.size → 5 = own h kl) := own_long
  generalize own h kl = R at *
  go_enter Tryz.func102, Tryz.ntmps102
  go_wp2
  all_goals first
    | (go_ret; refine ⟨ret_int (HNo.out ?_), (Below.refl _ _).alloc (Nat.le_refl _) _⟩; clear HNo HYes HLong; simp only [formed, HK.out, only, em_dec]; generalize h.ns.length = nl at *; by_cases htl : h.t.toList = [] <;> simp_all <;> omega)
    | skip
  all_goals
    go_loopw [8] (fun i wr => i = .int .i64 0 ∧ wr.cell? ⟨w.heap.size, 5, none⟩ = some (.slice ka 0 kc) ∧ Hid (Below w.heap.size w wr)) (fun _ _ => 0)
    case atStart =>
      refine ⟨rfl, ?_, (Below.refl _ _).alloc (Nat.le_refl _) _⟩
      simp [World.cell?_alloc_new]
    case round =>
      obtain ⟨rfl, hc, HB⟩ := hrel
      go_wp2
      go_ret
      refine ⟨ret_int (HYes.out ?_ ?_ ?_), HB.out⟩
      · clear HNo HYes HLong
        simp only [formed, HK.out, only, em_dec]
        generalize h.ns.length = nl at *
        by_cases htl : h.t.toList = [] <;> simp_all <;> omega
      · omega
      · assumption
set_option maxRecDepth 8000 in
set_option maxHeartbeats 4000000 in
theorem rcheck_2 (h : Hd) (na : Option Addr) (nc : Nat) (ka : Option Addr) (kl kc : Nat) (hk : h.k = 2) (hl : h.t.size ≤ 140737488355328) (d : Int) (hd : d ≤ 16) (w : World) :
    Calls Tryz.prog 102 #[.agg #[.int .i64 h.k, .int .i64 h.n, .int .i64 h.s, .string h.t, .slice na h.ns.length nc, .slice ka kl kc], .int .i64 d] w fun e w' => e = .returned (.int .i64 (own h kl)) ∧ Below w.heap.size w w' := by
  have HK : Hid (h.k = 2) := hk
  have HNo : Hid (formed h kl = false → 3 = own h kl) := own_no
  have HYes : Hid (formed h kl = true → kl = 0 → h.t.toList = [] → 0 = own h kl) := fun hf hl ht => own_leaf hf (by omega) (by have := size_nil ht; omega) hl
  have HLong : Hid (formed h kl = true → 16384 < h.t.size → 5 = own h kl) := own_long
  generalize own h kl = R at *
  go_enter Tryz.func102, Tryz.ntmps102
  go_wp2
  all_goals first
    | (go_ret; refine ⟨ret_int (HNo.out ?_), (Below.refl _ _).alloc (Nat.le_refl _) _⟩; clear HNo HYes HLong; simp only [formed, HK.out, only, em_dec]; generalize h.ns.length = nl at *; by_cases htl : h.t.toList = [] <;> simp_all <;> omega)
    | skip
  all_goals
    go_loopw [8] (fun i wr => i = .int .i64 0 ∧ wr.cell? ⟨w.heap.size, 5, none⟩ = some (.slice ka 0 kc) ∧ Hid (Below w.heap.size w wr)) (fun _ _ => 0)
    case atStart =>
      refine ⟨rfl, ?_, (Below.refl _ _).alloc (Nat.le_refl _) _⟩
      simp [World.cell?_alloc_new]
    case round =>
      obtain ⟨rfl, hc, HB⟩ := hrel
      go_wp2
      go_ret
      refine ⟨ret_int (HYes.out ?_ ?_ ?_), HB.out⟩
      · clear HNo HYes HLong
        simp only [formed, HK.out, only, em_dec]
        generalize h.ns.length = nl at *
        by_cases htl : h.t.toList = [] <;> simp_all <;> omega
      · omega
      · assumption
set_option maxRecDepth 8000 in
set_option maxHeartbeats 4000000 in
theorem rcheck_3 (h : Hd) (na : Option Addr) (nc : Nat) (ka : Option Addr) (kl kc : Nat) (hk : h.k = 3) (hl : h.t.size ≤ 140737488355328) (d : Int) (hd : d ≤ 16) (w : World) :
    Calls Tryz.prog 102 #[.agg #[.int .i64 h.k, .int .i64 h.n, .int .i64 h.s, .string h.t, .slice na h.ns.length nc, .slice ka kl kc], .int .i64 d] w fun e w' => e = .returned (.int .i64 (own h kl)) ∧ Below w.heap.size w w' := by
  have HK : Hid (h.k = 3) := hk
  have HNo : Hid (formed h kl = false → 3 = own h kl) := own_no
  have HYes : Hid (formed h kl = true → kl = 0 → h.t.toList = [] → 0 = own h kl) := fun hf hl ht => own_leaf hf (by omega) (by have := size_nil ht; omega) hl
  have HLong : Hid (formed h kl = true → 16384 < h.t.size → 5 = own h kl) := own_long
  generalize own h kl = R at *
  go_enter Tryz.func102, Tryz.ntmps102
  go_wp2
  all_goals first
    | (go_ret; refine ⟨ret_int (HNo.out ?_), (Below.refl _ _).alloc (Nat.le_refl _) _⟩; clear HNo HYes HLong; simp only [formed, HK.out, only, em_dec]; generalize h.ns.length = nl at *; by_cases htl : h.t.toList = [] <;> simp_all <;> omega)
    | skip
  all_goals
    go_loopw [8] (fun i wr => i = .int .i64 0 ∧ wr.cell? ⟨w.heap.size, 5, none⟩ = some (.slice ka 0 kc) ∧ Hid (Below w.heap.size w wr)) (fun _ _ => 0)
    case atStart =>
      refine ⟨rfl, ?_, (Below.refl _ _).alloc (Nat.le_refl _) _⟩
      simp [World.cell?_alloc_new]
    case round =>
      obtain ⟨rfl, hc, HB⟩ := hrel
      go_wp2
      go_ret
      refine ⟨ret_int (HYes.out ?_ ?_ ?_), HB.out⟩
      · clear HNo HYes HLong
        simp only [formed, HK.out, only, em_dec]
        generalize h.ns.length = nl at *
        by_cases htl : h.t.toList = [] <;> simp_all <;> omega
      · omega
      · assumption
set_option maxRecDepth 8000 in
set_option maxHeartbeats 4000000 in
theorem rcheck_4 (h : Hd) (na : Option Addr) (nc : Nat) (ka : Option Addr) (kl kc : Nat) (hk : h.k = 4) (hl : h.t.size ≤ 140737488355328) (d : Int) (hd : d ≤ 16) (w : World) :
    Calls Tryz.prog 102 #[.agg #[.int .i64 h.k, .int .i64 h.n, .int .i64 h.s, .string h.t, .slice na h.ns.length nc, .slice ka kl kc], .int .i64 d] w fun e w' => e = .returned (.int .i64 (own h kl)) ∧ Below w.heap.size w w' := by
  have HK : Hid (h.k = 4) := hk
  have HNo : Hid (formed h kl = false → 3 = own h kl) := own_no
  have HYes : Hid (formed h kl = true → kl = 0 → h.t.toList = [] → 0 = own h kl) := fun hf hl ht => own_leaf hf (by omega) (by have := size_nil ht; omega) hl
  have HLong : Hid (formed h kl = true → 16384 < h.t.size → 5 = own h kl) := own_long
  generalize own h kl = R at *
  go_enter Tryz.func102, Tryz.ntmps102
  go_wp2
  all_goals first
    | (go_ret; refine ⟨ret_int (HNo.out ?_), (Below.refl _ _).alloc (Nat.le_refl _) _⟩; clear HNo HYes HLong; simp only [formed, HK.out, only, em_dec]; generalize h.ns.length = nl at *; by_cases htl : h.t.toList = [] <;> simp_all <;> omega)
    | skip
  all_goals
    go_loopw [8] (fun i wr => i = .int .i64 0 ∧ wr.cell? ⟨w.heap.size, 5, none⟩ = some (.slice ka 0 kc) ∧ Hid (Below w.heap.size w wr)) (fun _ _ => 0)
    case atStart =>
      refine ⟨rfl, ?_, (Below.refl _ _).alloc (Nat.le_refl _) _⟩
      simp [World.cell?_alloc_new]
    case round =>
      obtain ⟨rfl, hc, HB⟩ := hrel
      go_wp2
      go_ret
      refine ⟨ret_int (HYes.out ?_ ?_ ?_), HB.out⟩
      · clear HNo HYes HLong
        simp only [formed, HK.out, only, em_dec]
        generalize h.ns.length = nl at *
        by_cases htl : h.t.toList = [] <;> simp_all <;> omega
      · omega
      · assumption
set_option maxRecDepth 8000 in
set_option maxHeartbeats 4000000 in
theorem rcheck_5 (h : Hd) (na : Option Addr) (nc : Nat) (ka : Option Addr) (kl kc : Nat) (hk : h.k = 5) (hl : h.t.size ≤ 140737488355328) (d : Int) (hd : d ≤ 16) (w : World) :
    Calls Tryz.prog 102 #[.agg #[.int .i64 h.k, .int .i64 h.n, .int .i64 h.s, .string h.t, .slice na h.ns.length nc, .slice ka kl kc], .int .i64 d] w fun e w' => e = .returned (.int .i64 (own h kl)) ∧ Below w.heap.size w w' := by
  have HK : Hid (h.k = 5) := hk
  have HNo : Hid (formed h kl = false → 3 = own h kl) := own_no
  have HYes : Hid (formed h kl = true → kl = 0 → h.t.toList = [] → 0 = own h kl) := fun hf hl ht => own_leaf hf (by omega) (by have := size_nil ht; omega) hl
  have HLong : Hid (formed h kl = true → 16384 < h.t.size → 5 = own h kl) := own_long
  generalize own h kl = R at *
  go_enter Tryz.func102, Tryz.ntmps102
  go_wp2
  all_goals first
    | (go_ret; refine ⟨ret_int (HNo.out ?_), (Below.refl _ _).alloc (Nat.le_refl _) _⟩; clear HNo HYes HLong; simp only [formed, HK.out, only, em_dec]; generalize h.ns.length = nl at *; by_cases htl : h.t.toList = [] <;> simp_all <;> omega)
    | skip
  all_goals
    go_loopw [8] (fun i wr => i = .int .i64 0 ∧ wr.cell? ⟨w.heap.size, 5, none⟩ = some (.slice ka 0 kc) ∧ Hid (Below w.heap.size w wr)) (fun _ _ => 0)
    case atStart =>
      refine ⟨rfl, ?_, (Below.refl _ _).alloc (Nat.le_refl _) _⟩
      simp [World.cell?_alloc_new]
    case round =>
      obtain ⟨rfl, hc, HB⟩ := hrel
      go_wp2
      go_ret
      refine ⟨ret_int (HYes.out ?_ ?_ ?_), HB.out⟩
      · clear HNo HYes HLong
        simp only [formed, HK.out, only, em_dec]
        generalize h.ns.length = nl at *
        by_cases htl : h.t.toList = [] <;> simp_all <;> omega
      · omega
      · assumption
set_option maxRecDepth 8000 in
set_option maxHeartbeats 4000000 in
theorem rcheck_6 (h : Hd) (na : Option Addr) (nc : Nat) (ka : Option Addr) (kl kc : Nat) (hk : h.k = 6) (hl : h.t.size ≤ 140737488355328) (d : Int) (hd : d ≤ 16) (w : World) :
    Calls Tryz.prog 102 #[.agg #[.int .i64 h.k, .int .i64 h.n, .int .i64 h.s, .string h.t, .slice na h.ns.length nc, .slice ka kl kc], .int .i64 d] w fun e w' => e = .returned (.int .i64 (own h kl)) ∧ Below w.heap.size w w' := by
  have HK : Hid (h.k = 6) := hk
  have HNo : Hid (formed h kl = false → 3 = own h kl) := own_no
  have HYes : Hid (formed h kl = true → kl = 0 → h.t.size ≤ 16384 → 0 = own h kl) := fun hf hl ht => own_leaf hf (by omega) ht hl
  have HLong : Hid (formed h kl = true → 16384 < h.t.size → 5 = own h kl) := own_long
  generalize own h kl = R at *
  go_enter Tryz.func102, Tryz.ntmps102
  go_wp2
  all_goals first
    | (go_ret; refine ⟨ret_int (HNo.out ?_), (Below.refl _ _).alloc (Nat.le_refl _) _⟩; clear HNo HYes HLong; simp only [formed, HK.out, only, em_dec]; generalize h.ns.length = nl at *; by_cases htl : h.t.toList = [] <;> simp_all <;> omega)
    | (go_ret; refine ⟨ret_int (HLong.out ?_ (by omega)), (Below.refl _ _).alloc (Nat.le_refl _) _⟩; clear HNo HYes HLong; simp only [formed, HK.out, only, em_dec]; generalize h.ns.length = nl at *; by_cases htl : h.t.toList = [] <;> simp_all <;> omega)
    | skip
  all_goals
    go_loopw [8] (fun i wr => i = .int .i64 0 ∧ wr.cell? ⟨w.heap.size, 5, none⟩ = some (.slice ka 0 kc) ∧ Hid (Below w.heap.size w wr)) (fun _ _ => 0)
    case atStart =>
      refine ⟨rfl, ?_, (Below.refl _ _).alloc (Nat.le_refl _) _⟩
      simp [World.cell?_alloc_new]
    case round =>
      obtain ⟨rfl, hc, HB⟩ := hrel
      go_wp2
      go_ret
      refine ⟨ret_int (HYes.out ?_ ?_ ?_), HB.out⟩
      · clear HNo HYes HLong
        simp only [formed, HK.out, only, em_dec]
        generalize h.ns.length = nl at *
        by_cases htl : h.t.toList = [] <;> simp_all <;> omega
      · omega
      · omega
set_option maxRecDepth 8000 in
set_option maxHeartbeats 4000000 in
theorem rcheck_7 (h : Hd) (na : Option Addr) (nc : Nat) (ka : Option Addr) (kl kc : Nat) (hk : h.k = 7) (hl : h.t.size ≤ 140737488355328) (d : Int) (hd : d ≤ 16) (w : World) :
    Calls Tryz.prog 102 #[.agg #[.int .i64 h.k, .int .i64 h.n, .int .i64 h.s, .string h.t, .slice na h.ns.length nc, .slice ka kl kc], .int .i64 d] w fun e w' => e = .returned (.int .i64 (own h kl)) ∧ Below w.heap.size w w' := by
  have HK : Hid (h.k = 7) := hk
  have HNo : Hid (formed h kl = false → 3 = own h kl) := own_no
  have HYes : Hid (formed h kl = true → kl = 0 → h.t.size ≤ 16384 → 0 = own h kl) := fun hf hl ht => own_leaf hf (by omega) ht hl
  have HLong : Hid (formed h kl = true → 16384 < h.t.size → 5 = own h kl) := own_long
  generalize own h kl = R at *
  go_enter Tryz.func102, Tryz.ntmps102
  go_wp2
  all_goals first
    | (go_ret; refine ⟨ret_int (HNo.out ?_), (Below.refl _ _).alloc (Nat.le_refl _) _⟩; clear HNo HYes HLong; simp only [formed, HK.out, only, em_dec]; generalize h.ns.length = nl at *; by_cases htl : h.t.toList = [] <;> simp_all <;> omega)
    | (go_ret; refine ⟨ret_int (HLong.out ?_ (by omega)), (Below.refl _ _).alloc (Nat.le_refl _) _⟩; clear HNo HYes HLong; simp only [formed, HK.out, only, em_dec]; generalize h.ns.length = nl at *; by_cases htl : h.t.toList = [] <;> simp_all <;> omega)
    | skip
  all_goals
    go_loopw [8] (fun i wr => i = .int .i64 0 ∧ wr.cell? ⟨w.heap.size, 5, none⟩ = some (.slice ka 0 kc) ∧ Hid (Below w.heap.size w wr)) (fun _ _ => 0)
    case atStart =>
      refine ⟨rfl, ?_, (Below.refl _ _).alloc (Nat.le_refl _) _⟩
      simp [World.cell?_alloc_new]
    case round =>
      obtain ⟨rfl, hc, HB⟩ := hrel
      go_wp2
      go_ret
      refine ⟨ret_int (HYes.out ?_ ?_ ?_), HB.out⟩
      · clear HNo HYes HLong
        simp only [formed, HK.out, only, em_dec]
        generalize h.ns.length = nl at *
        by_cases htl : h.t.toList = [] <;> simp_all <;> omega
      · omega
      · omega
end Go.Proofs.YtlefdnjokppibaaGreatDoor
