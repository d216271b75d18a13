/-
   ·  ·  ·  · 
-/
import Derived.Test.YtobfdcdobhhagaaGreatDoorRows
import Derived.Test.YtobfdcdobhhagaaGreatDoorAG0x
import Derived.WalkKit
import Derived.WalkSpells
import Derived.StillTactics
import Derived.Laws.Pointers
import Derived.RowKit3
import Derived.Below
import Derived.Deep.QuietTactic
import Derived.BigQuiet
import Derived.WalkSmall
import Derived.Laws.AppendOwnNone
import Derived.OpenShut
import Derived.Test.YtobfdcdobhhagaaGreatDoorAG12x
import Derived.Test.YtobfdcdobhhagaaGreatDoorAG14x
import Derived.Maps.AppendAt
namespace Go.Proofs.YtobfdcdobhhagaaGreatDoor
open Go.RowKit Math
def Cells (w : World) (b off : Nat) (l : List Nat) : Prop := ∀ i, i < l.length -> w.cell? ⟨b, off + i, none⟩ = some (.int .u8 ((l.getD i 0 : Nat) : Int))
def Byt (w : World) (a : Option Addr) (l : List Nat) : Prop := l = [] ∨ ∃ b off, a = some ⟨b, off, none⟩ /\ Cells w b off l
end Go.Proofs.YtobfdcdobhhagaaGreatDoor
namespace Go.Proofs.YtobfdcdobhhagaaGreatDoor
open Go.RowKit Go.ChangeShapes Go.WideShapes Math
theorem Tryz.info5 : (Tryz.prog.info? 5).map (fun i => (i.zero, i.size, i.bytes)) = some (some (.int .u8 0), 1, 1) := by kernel_rfl
def vals (l : List Nat) : List Value := l.map fun n : Nat => Value.int .u8 (n : Int)
theorem vals_length (l : List Nat) : (vals l).length = l.length := by simp [vals]
theorem vals_get (l : List Nat) (i : Nat) (h : i < l.length) : (vals l)[i]? = some (.int .u8 ((l.getD i 0 : Nat) : Int)) := by
 simp [vals, List.getD_eq_getElem?_getD, List.getElem?_eq_getElem h]
theorem vals_one (l : List Nat) : ∀ u ∈ vals l, u.oneCell' = true := by
 intro u hu
 obtain ⟨_, _, rfl⟩ := List.mem_map.1 hu
 rfl
def Own (w : World) (base : Nat) (v : Value) (l : List Nat) : Prop := w.ownsRow base 5 1 v l.length (vals l)
theorem app_bytes {ops : Array Oper} {rest : List Oper} {o : Oper} {a : Act} {Q : Exit -> Act -> World -> Prop} {w : World} (hgd : o.guard = none) (s x : Operand)
 (ho : o.op = .call { callee := .builtin .append, args := #[s, x], argTypes := #[52, 52] })
 (base : Nat) (v : Value) (l : List Nat) (hs : a.eval s = v) (hown : Own w base v l)
 (ax : Option Addr) (m c : Nat) (l2 : List Nat) (hm : m = l2.length) (hx : a.eval x = .slice ax m c) (hsrc : Byt w ax l2) (hnil : ax = none -> c = 0)
 (hb : l.length + l2.length <= 1000000) (hbase : base <= w.heap.size)
 (h : ∀ v' w', Own w' base v' (l ++ l2) -> w.grownBy w' v.ownBlock -> wpList Tryz.prog ops Q rest (a.put o.dst v') w') : wpList Tryz.prog ops Q (o :: rest) a w := by
 subst hm
 obtain ⟨i, hi, hz0, hz1, hz2⟩ := info_parts Tryz.info5
 cases ax with
 | none =>
   obtain rfl := hnil rfl
   have hl : l2 = [] := by
    rcases hsrc with h | ⟨_, _, h, _⟩
    . exact h
    . cases h
   subst hl
   refine wpList_append_own_none hgd s x 52 ho base 5 i 1 Tryz.underlying52 hi v _ _ hs hown hx (h v w ?_ (World.grownBy.refl _ _))
   simpa using hown
 | some ad =>
   refine wpList_append_own _ hgd s x 52 ho base 5 i (.int .u8 0) 1 1 Tryz.underlying52 hi hz0 hz1 hz2 rfl (by decide) v _ _ hs hown ad l2.length c (vals l2) hx (by simp [vals_length]) ?_ (vals_one l2) (by unfold maxLen; omega) (by omega) hbase ?_
   . intro j u hj
     have hjl : j < l2.length := by
      have := (List.getElem?_eq_some_iff.1 hj).1
      simpa [vals_length] using this
     rcases hsrc with rfl | ⟨b, off, he, hc⟩
     . simp at hjl
     . obtain rfl := Option.some.inj he
       rw [vals_get l2 j hjl] at hj
       rw [Addr.add_lit, hc j hjl]
       exact hj
   . intro v' w' h1 h2 _
     refine h v' w' ?_ h2
     unfold Own
     rw [List.length_append, show vals (l ++ l2) = vals l ++ vals l2 by simp [vals]]
     exact h1
theorem byt_lit (w : World) (l : List Nat) : Byt (w.alloc (.cells (vals l).toArray 5)) (some ⟨w.heap.size, 0, none⟩) l := by
 refine .inr ⟨_, _, rfl, fun i hi => ?_⟩
 rw [Nat.zero_add, World.cell?_alloc_new, List.getElem?_toArray, vals_get l i hi]
theorem Own.alloc {w : World} {base : Nat} {v : Value} {l : List Nat} (h : Own w base v l) (o : Obj) : Own (w.alloc o) base v l := World.ownsRow.alloc h o
theorem below_app {B : Nat} {w0 w w' : World} {v : Value} {l : List Nat} (hb : Below B w0 w) (hB : B <= w.heap.size) (h : Own w B v l) (hg : w.grownBy w' v.ownBlock) : Below B w0 w' :=
 hb.grown hg hB fun k hk => (World.ownsRow.lt h k hk).1
end Go.Proofs.YtobfdcdobhhagaaGreatDoor
namespace Go.Proofs.YtobfdcdobhhagaaGreatDoor
set_option maxHeartbeats 400000
set_option maxRecDepth 8000
open Go.RowKit Math
theorem uv_any (v : Nat) (hv : v < 18446744073709551616) (w : World) :
 Calls Tryz.prog 135 #[.int .u64 v] w fun e w' => ∃ r, e = .returned r /\ Own w' w.heap.size r (uv v) /\ Below w.heap.size w w' := by
 have h10 := uv_ten v hv
 go_enter Tryz.func135, Tryz.ntmps135
 go_wp2
 go_loopw [0, 3] (fun x o wr => ∃ (u : Nat) (pre : List Nat), x = .int .u64 u /\ u < 18446744073709551616 /\ Hid (uv v = pre ++ uv u) /\ Own wr w.heap.size o pre /\ Below w.heap.size w wr) (fun x _ _ => (intOf x).toNat)
 case atStart => exact ⟨v, [], rfl, hv, rfl, World.ownsRow_nil _ _ _ _, Below.refl _ _⟩
 case round =>
  obtain ⟨u, pre, rfl, hu, HE, hown, hbel⟩ := hrel
  have hs := hbel.size
  have hlen : pre.length + 1 <= 10 := by
   have := congrArg List.length HE.out
   have h1 := uv_pos u
   simp at this; omega
  by_cases h127 : u < 128
  . have HF : Hid (uv v = pre ++ [u]) := by show _ = _; rw [HE.out, uv_lo u (by omega)]
    go_wp2_with (at_builtin; go_must (refine app_bytes rfl (.tmp 14) (.tmp 17) rfl w.heap.size _ pre rfl (hown.alloc _) _ _ _ [u] rfl rfl (byt_lit wr [u]) (by simp) (by simp; omega) (by simp; omega) ?_))
    intro v1 w1 o1 g1
    have b1 := below_app (hbel.alloc hs _) (by simp; omega) (hown.alloc _) g1
    clear g1 hown
    go_wp2
    go_ret
    exact ⟨v1, rfl, by rw [HF.out]; exact o1, b1⟩
  . obtain ⟨y, hy, HY⟩ : ∃ y : Nat, bits .or .u8 ((u : Int) % 256) 128 = (y : Int) /\ Hid (y = u % 128 + 128) := ⟨_, or_u8 u, rfl⟩
    have HF : Hid (uv v = (pre ++ [y]) ++ uv (u / 128)) := by show _ = _; rw [HE.out, uv_hi u (by omega), HY.out, List.append_assoc]; rfl
    go_wp2_with (at_builtin; go_must (refine app_bytes rfl (.tmp 6) (.tmp 10) rfl w.heap.size _ pre rfl (hown.alloc _) _ _ _ [y] rfl rfl (byt_lit wr [y]) (by simp) (by simp; omega) (by simp; omega) ?_))
    intro v1 w1 o1 g1
    have b1 := below_app (hbel.alloc hs _) (by simp; omega) (hown.alloc _) g1
    clear g1 hown hy
    go_wp2
    go_roundw
    case rel => exact ⟨u / 128, pre ++ [y], by go_num, by omega, HF, o1, b1⟩
    case measure => simp [intOf]; omega
theorem uvr_any (v : Nat) (hv : v < 18446744073709551616) (w : World) :
 Calls Tryz.prog 108 #[.int .u64 v] w fun e w' => ∃ r, e = .returned r /\ Own w' w.heap.size r (uv v) /\ Below w.heap.size w w' := by
 have h10 := uv_ten v hv
 go_enter Tryz.func108, Tryz.ntmps108
 go_wp2
 go_loopw [0, 3] (fun x o wr => ∃ (u : Nat) (pre : List Nat), x = .int .u64 u /\ u < 18446744073709551616 /\ Hid (uv v = pre ++ uv u) /\ Own wr w.heap.size o pre /\ Below w.heap.size w wr) (fun x _ _ => (intOf x).toNat)
 case atStart => exact ⟨v, [], rfl, hv, rfl, World.ownsRow_nil _ _ _ _, Below.refl _ _⟩
 case round =>
  obtain ⟨u, pre, rfl, hu, HE, hown, hbel⟩ := hrel
  have hs := hbel.size
  have hlen : pre.length + 1 <= 10 := by
   have := congrArg List.length HE.out
   have h1 := uv_pos u
   simp at this; omega
  by_cases h127 : u < 128
  . have HF : Hid (uv v = pre ++ [u]) := by show _ = _; rw [HE.out, uv_lo u (by omega)]
    go_wp2_with (at_builtin; go_must (refine app_bytes rfl (.tmp 15) (.tmp 18) rfl w.heap.size _ pre rfl (hown.alloc _) _ _ _ [u] rfl rfl (byt_lit wr [u]) (by simp) (by simp; omega) (by simp; omega) ?_))
    intro v1 w1 o1 g1
    have b1 := below_app (hbel.alloc hs _) (by simp; omega) (hown.alloc _) g1
    clear g1 hown
    go_wp2
    go_ret
    exact ⟨v1, rfl, by rw [HF.out]; exact o1, b1⟩
  . obtain ⟨t, ht, ht128, HT⟩ : ∃ t : Nat, bits .and .u64 (u : Int) 127 = (t : Int) /\ t < 128 /\ Hid (t = u % 128) := ⟨_, and_127 u hu, by omega, rfl⟩
    obtain ⟨y, hy, HY⟩ : ∃ y : Nat, bits .or .u8 (t : Int) 128 = (y : Int) /\ Hid (y = u % 128 + 128) := ⟨_, or_t t ht128, by show _ = _; rw [HT.out]⟩
    have HF : Hid (uv v = (pre ++ [y]) ++ uv (u / 128)) := by show _ = _; rw [HE.out, uv_hi u (by omega), HY.out, List.append_assoc]; rfl
    go_wp2_with (at_builtin; go_must (refine app_bytes rfl (.tmp 6) (.tmp 11) rfl w.heap.size _ pre rfl (hown.alloc _) _ _ _ [y] rfl rfl (byt_lit wr [y]) (by simp) (by simp; omega) (by simp; omega) ?_))
    intro v1 w1 o1 g1
    have b1 := below_app (hbel.alloc hs _) (by simp; omega) (hown.alloc _) g1
    clear g1 hown hy
    go_wp2
    go_roundw
    case rel => exact ⟨u / 128, pre ++ [y], by go_num, by omega, HF, o1, b1⟩
    case measure => simp [intOf]; omega
end Go.Proofs.YtobfdcdobhhagaaGreatDoor
namespace Go.Proofs.YtobfdcdobhhagaaGreatDoor
set_option maxHeartbeats 400000
open Go.RowKit Go.ChangeShapes Go.WideShapes Math
set_option linter.unusedVariables false
theorem zig_any (v : Int) (h1 : -9223372036854775808 <= v) (h2 : v <= 9223372036854775807) (w : World) :
 Calls Tryz.prog 134 #[.int .i64 v] w fun e w' => e = .returned (.int .u64 (zigS v)) /\ w' = w := by
 have hz := zig_bits v h1 h2
 go_enter Tryz.func134, Tryz.ntmps134
 go_wp2
 go_ret
 exact ⟨rfl, rfl⟩
theorem zigr_any (v : Int) (h1 : -9223372036854775808 <= v) (h2 : v <= 9223372036854775807) (w : World) :
 Calls Tryz.prog 109 #[.int .i64 v] w fun e w' => e = .returned (.int .u64 (zigS v)) /\ w' = w := by
 by_cases h : 0 <= v
 . have HZ : Hid (zigS v = 2 * v) := by show _ = _; unfold zigS; rw [if_pos h]
   go_enter Tryz.func109, Tryz.ntmps109
   go_wp2
   go_ret
   exact ⟨ret_int HZ.out.symm, rfl⟩
 . have HZ : Hid (zigS v = 2 * -(v + 1) + 1) := by show _ = _; unfold zigS; rw [if_neg h]
   go_enter Tryz.func109, Tryz.ntmps109
   go_wp2
   go_ret
   exact ⟨ret_int HZ.out.symm, rfl⟩
end Go.Proofs.YtobfdcdobhhagaaGreatDoor
namespace Go.Proofs.YtobfdcdobhhagaaGreatDoor
open Go.RowKit
set_option linter.unusedVariables false
theorem Tryz.info9 : (Tryz.prog.info? 9).map (fun i => (i.zero, i.size, i.bytes)) = some (some (.string ByteArray.empty), 1, 16) := by kernel_rfl
theorem Tryz.info25 : (Tryz.prog.info? 38).map (fun i => (i.zero, i.size, i.bytes)) = some (some (.agg #[.int .i64 0, .int .i64 0, .int .i64 0, .string ByteArray.empty, .slice none 0 0, .slice none 0 0]), 6, 88) := by kernel_rfl
theorem Blk.there {w : World} {b : Nat} {t : TypeId} {vs : List Value} (h : Blk w b t vs) (o n : Nat) (hn : o + n <= vs.length) : w.there b o n := fun j hj => by
 refine ⟨?_, h.frozen _⟩
 rw [h.cell, List.getElem?_eq_getElem (by omega)]; rfl
theorem Blk.below {w w' : World} {b B : Nat} {t : TypeId} {vs : List Value} (h : Blk w b t vs) (hg : Below B w w') (hb : b < B) : Blk w' b t vs := by
 unfold Blk; rw [hg.block b hb]; exact h
theorem grown_setCells (b : Nat) : ∀ (vs : List Value) (o : Nat) (w : World), w.grownBy (w.setCells b o vs) (some b)
 | [], _, w => World.grownBy.refl w _
 | v :: r, o, w => (grown_setCell w ⟨b, o, none⟩ v).trans (grown_setCells b r (o + 1) _)
theorem Blk.setCells {b : Nat} {t : TypeId} (q : List Value) : ∀ (m' m p : List Value) (w : World), m'.length = m.length -> Blk w b t (p ++ (m ++ q)) -> Blk (w.setCells b p.length m') b t (p ++ (m' ++ q))
 | [], [], p, w, _, h => h
 | v :: r, u :: m, p, w, hl, h => by
   have h1 := h.set p.length v
   have e : (p ++ (u :: m ++ q)).set p.length v = (p ++ [v]) ++ (m ++ q) := by
    rw [List.set_append_right _ _ (Nat.le_refl _), Nat.sub_self]; simp
   rw [e] at h1
   have h2 := Blk.setCells q r m (p ++ [v]) _ (by simpa using hl) h1
   rw [World.setCells]
   simpa using h2
section
variable {P : Program} {ops : Array Oper} {rest : List Oper} {o : Oper} {a : Act} {w : World} {Q : Exit -> Act -> World -> Prop}
theorem st_row (hg : o.guard = none) (ty : TypeId) (x y : Operand) (ho : o.op = .store ty x y) (b off : Nat) (t : TypeId) (p m q m' : List Value)
 (hx : a.eval x = .pointer (some ⟨b, off, none⟩)) (hy : a.eval y = .agg m'.toArray) (hp : p.length = off) (hb : Blk w b t (p ++ (m ++ q))) (hl : m'.length = m.length)
 (hi : (P.info? ty).map (·.size) = some m'.length) (h1 : ∀ v ∈ m', v.oneCell' = true)
 (h : ∀ w', Blk w' b t (p ++ (m' ++ q)) -> w.grownBy w' (some b) -> wpList P ops Q rest (a.put o.dst undef) w') : wpList P ops Q (o :: rest) a w := by
 subst hp
 refine wpList_store_mid hg ty x y ho b p.length m'.toArray hx hy (hb.there _ _ (by simp; omega)) (by simpa using hi) (all_oneCell_toArray h1) ?_
 exact h _ (by simpa using Blk.setCells q m' m p w hl hb) (by simpa using grown_setCells b m' p.length w)
theorem st_all (hg : o.guard = none) (ty : TypeId) (x y : Operand) (ho : o.op = .store ty x y) (b : Nat) (t : TypeId) (m m' : List Value)
 (hx : a.eval x = .pointer (some ⟨b, 0, none⟩)) (hy : a.eval y = .agg m'.toArray) (hb : Blk w b t m) (hl : m'.length = m.length)
 (hi : (P.info? ty).map (·.size) = some m'.length) (h1 : ∀ v ∈ m', v.oneCell' = true)
 (h : ∀ w', Blk w' b t m' -> w.grownBy w' (some b) -> wpList P ops Q rest (a.put o.dst undef) w') : wpList P ops Q (o :: rest) a w :=
 st_row hg ty x y ho b 0 t [] m [] m' hx hy rfl (by simpa using hb) hl hi h1 (fun w' h2 h3 => h w' (by simpa using h2) h3)
theorem st_one (hg : o.guard = none) (ty : TypeId) (x y : Operand) (ho : o.op = .store ty x y) (b i : Nat) (t : TypeId) (vs : List Value) (v : Value)
 (hx : a.eval x = .pointer (some ⟨b, i, none⟩)) (hy : a.eval y = v) (hv : v.cells = #[v]) (hv1 : v.oneCell' = true) (hi : i < vs.length) (hb : Blk w b t vs) (hs : (P.info? ty).map (·.size) = some 1)
 (h : ∀ w', Blk w' b t (vs.set i v) -> w.grownBy w' (some b) -> wpList P ops Q rest (a.put o.dst undef) w') : wpList P ops Q (o :: rest) a w := by
 have hst := run_storeCells_cells (P := P) b i [v] 0 w (fun j hj => by
  have : j = 0 := by simpa using hj
  subst this
  rw [Nat.add_zero, hb.cell, List.getElem?_eq_getElem hi]; rfl) (fun j hj => hb.frozen _) (by simp [hv1])
 refine wpList_plain hg fun K hK => ?_
 unfold Oper.wp execOp
 cases hq : P.info? ty with
 | none => simp [hq] at hs
 | some q1 =>
   have hq1 : q1.size = 1 := by simpa [hq] using hs
   simp only [Nat.add_zero] at hst
   have hsv : (storeVar ty ⟨b, i, none⟩ v).run P w = .ok () (w.setCells b i [v]) := by
    simp [storeVar, Go.sizeOf, typeInfo, hq, hv, hq1, hst]
   simp only [ho, hx, hy, Instr.storeAt, Instr.sureAddr, Sem.run_bind, Sem.run_pure, Result.andThen_ok, hsv]
   exact hK _ _ (h _ (hb.set i v) (grown_setCell w _ _))
end
def Fre (w : World) (b : Nat) : Prop := ∀ i, w.frozen? ⟨b, i, none⟩ = false
def NmL (w : World) (na : Option Addr) (ns : List ByteArray) (L : List Nat) : Prop :=
 (ns = [] /\ L = []) ∨ ∃ b o, na = some ⟨b, o, none⟩ /\ L = [b] /\ Fre w b /\ ∀ i x, ns[i]? = some x -> w.cell? ⟨b, o + i, none⟩ = some (.string x)
def Lay (w : World) : Fo -> List Value -> List Nat -> Prop
 | .nil, cs, L => cs = [] /\ L = []
 | .cons h k r, cs, L => ∃ na nc ka kc cs' Ln Lk L2, cs = six h na nc ka k.list.length kc ++ cs' /\ L = Ln ++ Lk ++ L2 /\ NmL w na h.ns Ln /\ Cap na h.ns.length nc /\ Cap ka k.list.length kc /\
    ((k = .nil /\ Lk = []) ∨ ∃ b o ks L', ka = some ⟨b, o, none⟩ /\ Lk = b :: L' /\ Fre w b /\ (∀ j u, ks[j]? = some u -> w.cell? ⟨b, o + j, none⟩ = some u) /\ Lay w k ks L') /\ Lay w r cs' L2
def VlL (w : World) (p : Vt) (na : Option Addr) (nc : Nat) (ka : Option Addr) (kc : Nat) (L : List Nat) : Prop :=
 ∃ Ln Lk, L = Ln ++ Lk /\ NmL w na p.1.ns Ln /\ Cap na p.1.ns.length nc /\ Cap ka p.2.list.length kc /\
   ((p.2 = .nil /\ Lk = []) ∨ ∃ b o ks L', ka = some ⟨b, o, none⟩ /\ Lk = b :: L' /\ Fre w b /\ (∀ j u, ks[j]? = some u -> w.cell? ⟨b, o + j, none⟩ = some u) /\ Lay w p.2 ks L')
theorem lay_cons {w : World} {q : Vt} {r : Fo} {cs : List Value} {L : List Nat} : Lay w (.cons q.1 q.2 r) cs L ↔ ∃ na nc ka kc cs' L1 L2, cs = six q.1 na nc ka q.2.list.length kc ++ cs' /\ L = L1 ++ L2 /\ VlL w q na nc ka kc L1 /\ Lay w r cs' L2 := by
 constructor
 . rintro ⟨na, nc, ka, kc, cs', Ln, Lk, L2, h1, h2, h3, h4, h5, h6, h7⟩
   exact ⟨na, nc, ka, kc, cs', Ln ++ Lk, L2, h1, h2, ⟨Ln, Lk, rfl, h3, h4, h5, h6⟩, h7⟩
 . rintro ⟨na, nc, ka, kc, cs', L1, L2, h1, h2, ⟨Ln, Lk, h0, h3, h4, h5, h6⟩, h7⟩
   exact ⟨na, nc, ka, kc, cs', Ln, Lk, L2, h1, by rw [h2, h0], h3, h4, h5, h6, h7⟩
theorem cell_keep {w w' : World} {b i : Nat} (h : w'.heap[b]? = w.heap[b]?) : w'.cell? ⟨b, i, none⟩ = w.cell? ⟨b, i, none⟩ := World.cell?_of_block h
theorem Fre.keep {w w' : World} {b : Nat} (h : Fre w b) (hk : w'.heap[b]? = w.heap[b]?) : Fre w' b := fun i => (World.frozen?_of_block (a := ⟨b, i, none⟩) hk).trans (h i)
theorem NmL.keep {w w' : World} {na : Option Addr} {ns : List ByteArray} {L : List Nat} (h : NmL w na ns L) (hk : ∀ x ∈ L, w'.heap[x]? = w.heap[x]?) : NmL w' na ns L := by
 rcases h with h | ⟨b, o, e, rfl, hf, hc⟩
 . exact .inl h
 . have hb := hk b (by simp)
   exact .inr ⟨b, o, e, rfl, hf.keep hb, fun i x hx => (cell_keep hb).trans (hc i x hx)⟩
theorem Lay.keep {w w' : World} (f : Fo) : ∀ {cs : List Value} {L : List Nat}, Lay w f cs L -> (∀ x ∈ L, w'.heap[x]? = w.heap[x]?) -> Lay w' f cs L := by
 induction f with
 | nil => intro cs L h _; exact h
 | cons h k r ihk ihr =>
   rintro cs L ⟨na, nc, ka, kc, cs', Ln, Lk, L2, h1, rfl, h3, h4, h5, h6, h7⟩ hk
   refine ⟨na, nc, ka, kc, cs', Ln, Lk, L2, h1, rfl, h3.keep (fun x hx => hk x (by simp [hx])), h4, h5, ?_, ihr h7 fun x hx => hk x (by simp [hx])⟩
   rcases h6 with h6 | ⟨b, o, ks, L', e, rfl, hf, hc, hl⟩
   . exact .inl h6
   . have hb := hk b (by simp)
     exact .inr ⟨b, o, ks, L', e, rfl, hf.keep hb, fun j u hj => (cell_keep hb).trans (hc j u hj), ihk hl fun x hx => hk x (by simp [hx])⟩
theorem VlL.keep {w w' : World} {p : Vt} {na ka : Option Addr} {nc kc : Nat} {L : List Nat} (h : VlL w p na nc ka kc L) (hk : ∀ x ∈ L, w'.heap[x]? = w.heap[x]?) : VlL w' p na nc ka kc L := by
 obtain ⟨Ln, Lk, rfl, h3, h4, h5, h6⟩ := h
 refine ⟨Ln, Lk, rfl, h3.keep fun x hx => hk x (by simp [hx]), h4, h5, ?_⟩
 rcases h6 with h6 | ⟨b, o, ks, L', e, rfl, hf, hc, hl⟩
 . exact .inl h6
 . have hb := hk b (by simp)
   exact .inr ⟨b, o, ks, L', e, rfl, hf.keep hb, fun j u hj => (cell_keep hb).trans (hc j u hj), Lay.keep _ hl fun x hx => hk x (by simp [hx])⟩
theorem NmL.nms {w : World} {na : Option Addr} {ns : List ByteArray} {L : List Nat} (h : NmL w na ns L) : Nms w na ns := by
 rcases h with h | ⟨b, o, e, _, _, hc⟩
 . exact .inl h.1
 . exact .inr ⟨b, o, e, hc⟩
theorem six_length (h : Hd) (na : Option Addr) (nc : Nat) (ka : Option Addr) (kl kc : Nat) : (six h na nc ka kl kc).length = 6 := rfl
theorem nd_six {w : World} {b o : Nat} {h : Hd} {na ka : Option Addr} {nc kl kc : Nat} (hc : ∀ j u, (six h na nc ka kl kc)[j]? = some u -> w.cell? ⟨b, o + j, none⟩ = some u) : Nd w b o h na nc ka kl kc :=
 ⟨hc 0 _ rfl, hc 1 _ rfl, hc 2 _ rfl, hc 3 _ rfl, hc 4 _ rfl, hc 5 _ rfl⟩
theorem Lay.at {w : World} (f : Fo) : ∀ {cs : List Value} {L : List Nat} {b o : Nat}, Lay w f cs L -> (∀ j u, cs[j]? = some u -> w.cell? ⟨b, o + j, none⟩ = some u) -> At w f b o := by
 induction f with
 | nil => intro _ _ _ _ _ _; trivial
 | cons h k r ihk ihr =>
   rintro cs L b o ⟨na, nc, ka, kc, cs', Ln, Lk, L2, rfl, rfl, h3, h4, h5, h6, h7⟩ hc
   refine ⟨⟨na, nc, ka, kc, nd_six fun j u hj => hc j u ?_, h3.nms, h4, ?_, h5⟩, ihr h7 fun j u hj => ?_⟩
   . rw [List.getElem?_append_left (List.getElem?_eq_some_iff.1 hj).1]; exact hj
   . rcases h6 with h6 | ⟨b', o', ks, L', e, rfl, hf, hc', hl⟩
     . exact .inl h6.1
     . exact .inr ⟨b', o', e, ihk hl hc'⟩
   . rw [Nat.add_assoc]
     refine hc (6 + j) u ?_
     rw [List.getElem?_append_right (by rw [six_length]; omega), six_length, Nat.add_sub_cancel_left]
     exact hj
theorem VlL.vl {w : World} {p : Vt} {na ka : Option Addr} {nc kc : Nat} {L : List Nat} (h : VlL w p na nc ka kc L) : Vl w p na nc ka kc := by
 obtain ⟨Ln, Lk, rfl, h3, h4, h5, h6⟩ := h
 refine ⟨h3.nms, h4, ?_, h5⟩
 rcases h6 with h6 | ⟨b, o, ks, L', e, rfl, hf, hc, hl⟩
 . exact .inl h6.1
 . exact .inr ⟨b, o, e, hl.at _ hc⟩
theorem six_one (h : Hd) (na : Option Addr) (nc : Nat) (ka : Option Addr) (kl kc : Nat) : ∀ u ∈ six h na nc ka kl kc, u.oneCell' = true := by
 intro u hu
 simp only [six, List.mem_cons, List.not_mem_nil, or_false] at hu
 rcases hu with rfl | rfl | rfl | rfl | rfl | rfl <;> rfl
theorem nml_of {w : World} {base : Nat} {v : Value} {ns : List ByteArray} (h : w.ownsRow base 9 1 v ns.length (ns.map Value.string)) : ∃ na nc L, v = .slice na ns.length nc /\ NmL w na ns L /\ Cap na ns.length nc /\ (∀ x ∈ L, v.ownBlock = some x) /\ L.Nodup := by
 have h' := h
 rcases h with ⟨h1, ⟨rfl, h0⟩ | ⟨g, cap, cur, rfl, hg, hh, hle, hm, h5, h6⟩⟩
 . have e : ns = [] := List.eq_nil_of_length_eq_zero h0
   subst e
   exact ⟨none, 0, [], rfl, .inl ⟨rfl, rfl⟩, ⟨by simp, fun _ => rfl, by omega⟩, by simp, List.nodup_nil⟩
 . refine ⟨_, cap, [g], rfl, .inr ⟨g, 0, rfl, rfl, fun i => frozen_of_row w g i cur 9 hh, fun i x hx => ?_⟩, ⟨hle, fun e => by simp at e, hm⟩, by simp [Value.ownBlock], by simp⟩
   have hlt := (List.getElem?_eq_some_iff.1 hx).1
   rw [Nat.zero_add, World.ownsRow.cellAt h' i (by omega), List.getElem?_map, hx]
   rfl
end Go.Proofs.YtobfdcdobhhagaaGreatDoor
