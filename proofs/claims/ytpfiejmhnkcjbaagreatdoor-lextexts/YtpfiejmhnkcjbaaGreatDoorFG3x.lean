/-
  The contract of value.checkAt and of value.Check. · The contract of the document's own check, whole; and of its Check. · The contract of the document's own Equal. · The law package's great and heavy. · Values that the call made: which blocks they take, and that no two of these are one. Operations on whole blocks.
-/
import Derived.Test.YtpfiejmhnkcjbaaGreatDoorFG2x
import Derived.Deep.MidRow
import Derived.Maps.AppendAt
import Derived.Laws.AppendOwnNone
namespace Go.Proofs.YtpfiejmhnkcjbaaGreatDoor
open Go.RowKit
set_option linter.unusedVariables false
set_option maxRecDepth 8000 in
set_option maxHeartbeats 4000000 in
theorem vcheck_step (p : Vt) (ih : RIh 159 p) (hwf : WfV p) (na : Option Addr) (nc : Nat) (ka : Option Addr) (kc : Nat) (d : Int) (hd0 : 0 ≤ d) (hd1 : d ≤ 17) (w : World) (hv : Vl w p na nc ka kc) :
    Calls Tryz.prog 159 #[.agg #[.int .i64 p.1.k, .int .i64 p.1.n, .int .i64 p.1.s, .string p.1.t, .slice na p.1.ns.length nc, .slice ka p.2.list.length kc], .int .i64 d] w fun e w' => e = .returned (.int .i64 (chkV p d)) ∧ Below w.heap.size w w' := by
  by_cases hd : d ≤ 16
  case neg =>
    go_enter Tryz.func159, Tryz.ntmps159
    go_wp2
    go_ret
    exact ⟨ret_int (by rw [chkV, if_pos (by omega)]), (Below.refl _ _).alloc (Nat.le_refl _) _⟩
  have HI : Hid (RIh 159 p) := ih
  have HW : Hid (WfV p) := hwf
  have hkl := hwf.2.1
  have htl := hwf.1.t1
  have b0 : Below w.heap.size w (w.alloc (.cells #[.int .i64 p.1.k, .int .i64 p.1.n, .int .i64 p.1.s, .string p.1.t, .slice na p.1.ns.length nc, .slice ka p.2.list.length kc] 41)) := (Below.refl _ _).alloc (Nat.le_refl _) _
  have HV : Hid (Vl (w.alloc (.cells #[.int .i64 p.1.k, .int .i64 p.1.n, .int .i64 p.1.s, .string p.1.t, .slice na p.1.ns.length nc, .slice ka p.2.list.length kc] 41)) p na nc ka kc) := hv.below b0
  have HB0 : Hid _ := b0
  have HF : Hid (∀ W, Calls Tryz.prog 173 #[.agg #[.int .i64 p.1.k, .int .i64 p.1.n, .int .i64 p.1.s, .string p.1.t, .slice na p.1.ns.length nc, .slice ka p.2.list.length kc]] W fun e w' => e = .returned (.bool (formed p.1 p.2.list.length)) ∧ Below W.heap.size W w') := fun W => formed_any p.1 na nc ka p.2.list.length kc W
  have HN : Hid (∀ W, Nms W na p.1.ns → Calls Tryz.prog 174 #[.agg #[.int .i64 p.1.k, .int .i64 p.1.n, .int .i64 p.1.s, .string p.1.t, .slice na p.1.ns.length nc, .slice ka p.2.list.length kc]] W fun e w' => e = .returned (.bool (named p.1.ns p.2.list.length)) ∧ Below W.heap.size W w') := fun W h => named_any p.1 na nc ka p.2.list.length kc W h hwf.1.c1 hwf.1.e1
  have HC : Hid (∀ W, Below (w.alloc (.cells #[.int .i64 p.1.k, .int .i64 p.1.n, .int .i64 p.1.s, .string p.1.t, .slice na p.1.ns.length nc, .slice ka p.2.list.length kc] 41)).heap.size (w.alloc (.cells #[.int .i64 p.1.k, .int .i64 p.1.n, .int .i64 p.1.s, .string p.1.t, .slice na p.1.ns.length nc, .slice ka p.2.list.length kc] 41)) W → Nd W w.heap.size 0 p.1 na nc ka p.2.list.length kc) := fun W hb =>
    ⟨box_get (six p.1 na nc ka p.2.list.length kc) 41 hb 0 _ rfl, box_get (six p.1 na nc ka p.2.list.length kc) 41 hb 1 _ rfl, box_get (six p.1 na nc ka p.2.list.length kc) 41 hb 2 _ rfl, box_get (six p.1 na nc ka p.2.list.length kc) 41 hb 3 _ rfl, box_get (six p.1 na nc ka p.2.list.length kc) 41 hb 4 _ rfl, box_get (six p.1 na nc ka p.2.list.length kc) 41 hb 5 _ rfl⟩
  clear hv ih hwf b0
  go_enter Tryz.func159, Tryz.ntmps159
  go_wp2_with fail
  generalize (w.alloc (.cells #[.int .i64 p.1.k, .int .i64 p.1.n, .int .i64 p.1.s, .string p.1.t, .slice na p.1.ns.length nc, .slice ka p.2.list.length kc] 41)) = w1 at *
  refine (HF.out w1).mono ?_
  rintro e w2 ⟨rfl, hb2⟩
  have HB2 : Hid (Below w1.heap.size w1 w2) := hb2
  obtain ⟨c0, c1, c2, c3, c4, c5⟩ := HC.out w2 hb2
  simp only [Nat.zero_add] at c1 c2 c3 c4 c5
  clear hb2 HF
  cases hf : formed p.1 p.2.list.length with
  | false =>
    go_wp2
    go_ret
    exact ⟨ret_int ((own_no hf).trans (chkV_own hd (by rw [← own_no hf]; decide))), HB0.out.trans (HB2.out.mono HB0.out.size)⟩
  | true =>
  by_cases hT : 16384 < p.1.t.size ∨ 200 < p.2.list.length
  · have hO : 5 = own p.1 p.2.list.length := by simp only [own, hf, if_true]; rw [if_pos hT]
    have HO : Hid (5 = chkV p d) := hO.trans (chkV_own hd (by rw [← hO]; decide))
    clear hO
    by_cases hT2 : 16384 < p.1.t.size
    · go_wp2
      go_ret
      exact ⟨ret_int HO.out, HB0.out.trans (HB2.out.mono HB0.out.size)⟩
    · have hT3 : 200 < p.2.list.length := by omega
      go_wp2
      go_ret
      exact ⟨ret_int HO.out, HB0.out.trans (HB2.out.mono HB0.out.size)⟩
  have hT2 : ¬ 16384 < p.1.t.size := by omega
  have hT3 : ¬ 200 < p.2.list.length := by omega
  by_cases hk9 : p.1.k = 9
  · have HK9 : Hid (p.1.k = 9) := hk9
    have hkb : (p.1.k == 9) = true := by simp [hk9]
    clear hk9
    go_wp2_with fail
    refine (HN.out w2 (HV.out.nms.below HB2.out)).mono ?_
    rintro e w3 ⟨rfl, hb3⟩
    have HB3 : Hid (Below w1.heap.size w1 w3) := HB2.out.trans (hb3.mono HB2.out.size)
    have d5 := (HC.out w3 HB3.out).c5
    simp only [Nat.zero_add] at d5
    clear hb3
    cases hnm : named p.1.ns p.2.list.length with
    | false =>
      have hO : 3 = own p.1 p.2.list.length := by
        simp only [own, hf, if_true]
        rw [if_neg hT, if_pos ⟨HK9.out, hnm⟩]
      have HO : Hid (3 = chkV p d) := hO.trans (chkV_own hd (by rw [← hO]; decide))
      clear hO HB2
      go_wp2
      go_ret
      exact ⟨ret_int HO.out, HB0.out.trans (HB3.out.mono HB0.out.size)⟩
    | true =>
      have HR : Hid (chkV p d = chk (p.2.drop 0) (d + 1)) := chkV_kids hd (by
        simp only [own, hf, if_true]
        rw [if_neg hT, if_neg (by simp [hnm])])
      have HB2 : Hid (Below w1.heap.size w1 w3) := HB3.out
      clear HB3
      go_wp2
      go_loopw [34] (fun i wr => ∃ k : Nat, k ≤ p.2.list.length ∧ i = .int .i64 (k : Int) ∧ Hid (Below w1.heap.size w1 wr) ∧ Hid (chkV p d = chk (p.2.drop k) (d + 1))) (fun i _ => p.2.list.length - (intOf i).toNat)
      case atStart => exact ⟨0, by omega, rfl, HB2.out, HR.out⟩
      case round =>
        obtain ⟨k, hk0, rfl, HB, HRk⟩ := hrel
        by_cases hlt : k < p.2.list.length
        case neg =>
          go_wp2
          go_ret
          exact ⟨ret_int (by rw [HRk.out, Fo.drop_end _ _ (by omega)]; rfl), HB0.out.trans (HB.out.mono HB0.out.size)⟩
        obtain ⟨q, b, o, na', nc', ka', kc', hq, rfl, hnd, hvl⟩ := HV.out.kid HB.out (k := k) hlt
        have HQ := HI.out q (wt_kid (List.mem_of_getElem? hq)) (HW.out.kid (List.mem_of_getElem? hq)) na' nc' ka' kc' (d + 1) (wr.alloc (.cells #[.int .i64 q.1.k, .int .i64 q.1.n, .int .i64 q.1.s, .string q.1.t, .slice na' q.1.ns.length nc', .slice ka' q.2.list.length kc'] 41)) (by omega) (by omega) (hvl.below ((Below.refl _ _).alloc (Nat.le_refl _) _))
        have HS : Hid (chkV p d = if chkV q (d + 1) ≠ 0 then chkV q (d + 1) else chk (p.2.drop (k + 1)) (d + 1)) := HRk.out.trans (chk_step hq)
        obtain ⟨d0, d1, d2, d3, d4, d5⟩ := hnd
        generalize chkV q (d + 1) = E at *
        clear hvl hq HRk
        go_wp2_with fail
        refine HQ.mono ?_
        rintro e w3 ⟨rfl, hb3⟩
        have HB3 : Hid (Below w1.heap.size w1 w3) := HB.out.trans ((box_below _ hb3).mono HB.out.size)
        clear HQ hb3
        by_cases hE : E = 0
        · subst hE
          go_wp2
          go_roundw
          case rel => exact ⟨k + 1, by omega, by go_num, HB3.out, show chkV p d = _ by simpa using HS.out⟩
          case measure => simp [intOf]; omega
        · go_wp2
          go_ret
          exact ⟨ret_int (by rw [HS.out, if_pos hE]), HB0.out.trans (HB3.out.mono HB0.out.size)⟩
  · have HR : Hid (chkV p d = chk (p.2.drop 0) (d + 1)) := chkV_kids hd (by
      simp only [own, hf, if_true]
      rw [if_neg hT, if_neg (by simp [hk9])])
    go_wp2
    go_loopw [34] (fun i wr => ∃ k : Nat, k ≤ p.2.list.length ∧ i = .int .i64 (k : Int) ∧ Hid (Below w1.heap.size w1 wr) ∧ Hid (chkV p d = chk (p.2.drop k) (d + 1))) (fun i _ => p.2.list.length - (intOf i).toNat)
    case atStart => exact ⟨0, by omega, rfl, HB2.out, HR.out⟩
    case round =>
      obtain ⟨k, hk0, rfl, HB, HRk⟩ := hrel
      by_cases hlt : k < p.2.list.length
      case neg =>
        go_wp2
        go_ret
        exact ⟨ret_int (by rw [HRk.out, Fo.drop_end _ _ (by omega)]; rfl), HB0.out.trans (HB.out.mono HB0.out.size)⟩
      obtain ⟨q, b, o, na', nc', ka', kc', hq, rfl, hnd, hvl⟩ := HV.out.kid HB.out (k := k) hlt
      have HQ := HI.out q (wt_kid (List.mem_of_getElem? hq)) (HW.out.kid (List.mem_of_getElem? hq)) na' nc' ka' kc' (d + 1) (wr.alloc (.cells #[.int .i64 q.1.k, .int .i64 q.1.n, .int .i64 q.1.s, .string q.1.t, .slice na' q.1.ns.length nc', .slice ka' q.2.list.length kc'] 41)) (by omega) (by omega) (hvl.below ((Below.refl _ _).alloc (Nat.le_refl _) _))
      have HS : Hid (chkV p d = if chkV q (d + 1) ≠ 0 then chkV q (d + 1) else chk (p.2.drop (k + 1)) (d + 1)) := HRk.out.trans (chk_step hq)
      obtain ⟨d0, d1, d2, d3, d4, d5⟩ := hnd
      generalize chkV q (d + 1) = E at *
      clear hvl hq HRk
      go_wp2_with fail
      refine HQ.mono ?_
      rintro e w3 ⟨rfl, hb3⟩
      have HB3 : Hid (Below w1.heap.size w1 w3) := HB.out.trans ((box_below _ hb3).mono HB.out.size)
      clear HQ hb3
      by_cases hE : E = 0
      · subst hE
        go_wp2
        go_roundw
        case rel => exact ⟨k + 1, by omega, by go_num, HB3.out, show chkV p d = _ by simpa using HS.out⟩
        case measure => simp [intOf]; omega
      · go_wp2
        go_ret
        exact ⟨ret_int (by rw [HS.out, if_pos hE]), HB0.out.trans (HB3.out.mono HB0.out.size)⟩
theorem vcheck_any : ∀ (n : Nat) (p : Vt), wt p ≤ n → WfV p → ∀ (na : Option Addr) (nc : Nat) (ka : Option Addr) (kc : Nat) (d : Int) (W : World), 0 ≤ d → d ≤ 17 → Vl W p na nc ka kc →
    Calls Tryz.prog 159 #[.agg #[.int .i64 p.1.k, .int .i64 p.1.n, .int .i64 p.1.s, .string p.1.t, .slice na p.1.ns.length nc, .slice ka p.2.list.length kc], .int .i64 d] W fun e w' => e = .returned (.int .i64 (chkV p d)) ∧ Below W.heap.size W w' := by
  intro n
  induction n with
  | zero => intro p hp; exfalso; unfold wt at hp; omega
  | succ n ih =>
    intro p hp hwf na nc ka kc d W hd0 hd1 hv
    exact vcheck_step p (fun q hq hwq na nc ka kc d W h1 h2 h3 => ih q (by omega) hwq na nc ka kc d W h1 h2 h3) hwf na nc ka kc d hd0 hd1 W hv
/-- What Check answers. -/
def CkC (F : Nat) : Prop := ∀ (p : Vt), WfV p → ∀ (na : Option Addr) (nc : Nat) (ka : Option Addr) (kc : Nat) (W : World), Vl W p na nc ka kc →
    Calls Tryz.prog F #[.agg #[.int .i64 p.1.k, .int .i64 p.1.n, .int .i64 p.1.s, .string p.1.t, .slice na p.1.ns.length nc, .slice ka p.2.list.length kc]] W fun e w' => e = .returned (.int .i64 (chkV p 1)) ∧ Below W.heap.size W w'
theorem vCheck_any : CkC 137 := by
  intro p hwf na nc ka kc W hv
  have HQ : Hid (∀ W', Vl W' p na nc ka kc → Calls Tryz.prog 159 #[.agg #[.int .i64 p.1.k, .int .i64 p.1.n, .int .i64 p.1.s, .string p.1.t, .slice na p.1.ns.length nc, .slice ka p.2.list.length kc], .int .i64 1] W' fun e w' => e = .returned (.int .i64 (chkV p 1)) ∧ Below W'.heap.size W' w') := fun W' h => vcheck_any _ p (Nat.le_refl _) hwf na nc ka kc 1 W' (by omega) (by omega) h
  generalize chkV p 1 = E at *
  have HV : Hid (Vl W p na nc ka kc) := hv
  clear hv
  go_enter Tryz.func137, Tryz.ntmps137
  go_wp2_with fail
  refine (HQ.out _ (HV.out.below ((Below.refl _ _).alloc (Nat.le_refl _) _))).mono ?_
  rintro e w2 ⟨rfl, hb2⟩
  have HB : Hid (Below W.heap.size W w2) := box_below _ hb2
  clear hb2 HQ
  go_wp2
  go_ret
  exact ⟨rfl, HB.out⟩
end Go.Proofs.YtpfiejmhnkcjbaaGreatDoor
namespace Go.Proofs.YtpfiejmhnkcjbaaGreatDoor
open Go.RowKit
set_option linter.unusedVariables false
end Go.Proofs.YtpfiejmhnkcjbaaGreatDoor
namespace Go.Proofs.YtpfiejmhnkcjbaaGreatDoor
open Go.RowKit
set_option linter.unusedVariables false
theorem bytes_eq {a b : ByteArray} (h : a.toList = b.toList) : a = b := by
  rw [ByteArray.toList_eq, ByteArray.toList_eq] at h
  cases a; cases b
  simp only [ByteArray.mk.injEq]
  exact Array.ext' h
end Go.Proofs.YtpfiejmhnkcjbaaGreatDoor
namespace Go.Proofs.YtpfiejmhnkcjbaaGreatDoor
open Go.RowKit
set_option linter.unusedVariables false
/-- A block of cells, whole. -/
def Blk (w : World) (b : Nat) (t : TypeId) (vs : List Value) : Prop := w.heap[b]? = some (.cells vs.toArray t (0, 0))
theorem Blk.lt {w : World} {b : Nat} {t : TypeId} {vs : List Value} (h : Blk w b t vs) : b < w.heap.size := (Array.getElem?_eq_some_iff.1 h).1
theorem Blk.cell {w : World} {b : Nat} {t : TypeId} {vs : List Value} (h : Blk w b t vs) (i : Nat) : w.cell? ⟨b, i, none⟩ = vs[i]? := by
  rw [cell_of_row w b i _ t (0, 0) h]; simp
theorem Blk.frozen {w : World} {b : Nat} {t : TypeId} {vs : List Value} (h : Blk w b t vs) (i : Nat) : w.frozen? ⟨b, i, none⟩ = false := frozen_of_row w b i _ t h
theorem Blk.kept {w w' : World} {b : Nat} {t : TypeId} {vs : List Value} {row : Option Nat} (h : Blk w b t vs) (hg : w.grownBy w' row) (hne : some b ≠ row) : Blk w' b t vs := by
  unfold Blk; rw [hg.block b h.lt hne]; exact h
theorem Blk.alloc {w : World} {b : Nat} {t : TypeId} {vs : List Value} (h : Blk w b t vs) (o : Obj) : Blk (w.alloc o) b t vs := h.kept (World.grownBy_alloc w o none) (by simp)
theorem blk_new (w : World) (t : TypeId) (vs : List Value) : Blk (w.alloc (.cells vs.toArray t)) w.heap.size t vs := heap_alloc_new w _
theorem grown_setCell (w : World) (a : Addr) (u : Value) : w.grownBy (w.setCell a u) (some a.block) :=
  ⟨rfl, rfl, rfl, by simp [World.setCell], fun k _ hk => Below.heap_setCell _ _ _ _ (fun e => hk (by rw [e]))⟩
theorem Blk.set {w : World} {b : Nat} {t : TypeId} {vs : List Value} (h : Blk w b t vs) (i : Nat) (v : Value) : Blk (w.setCell ⟨b, i, none⟩ v) b t (vs.set i v) := by
  have := heap_setCell_same w b i _ t v h
  unfold Blk; rw [this]; simp
/-- How much is looked at. -/
def wsH (h : Hd) : Nat := 1 + h.t.size / 20 + h.ns.length
def Fo.ws : Fo → Nat
  | .nil => 0
  | .cons h k r => wsH h + k.ws + r.ws
def ws (p : Vt) : Nat := wsH p.1 + p.2.ws
end Go.Proofs.YtpfiejmhnkcjbaaGreatDoor
namespace Go.Proofs.YtpfiejmhnkcjbaaGreatDoor
open Go.RowKit
set_option linter.unusedVariables false
theorem Tryz.info9 : (Tryz.prog.info? 9).map (fun i => (i.zero, i.size, i.bytes)) = some (some (.string ByteArray.empty), 1, 16) := by kernel_rfl
theorem Tryz.info25 : (Tryz.prog.info? 41).map (fun i => (i.zero, i.size, i.bytes)) = some (some (.agg #[.int .i64 0, .int .i64 0, .int .i64 0, .string ByteArray.empty, .slice none 0 0, .slice none 0 0]), 6, 88) := by kernel_rfl
/-! ### blocks -/
theorem Blk.there {w : World} {b : Nat} {t : TypeId} {vs : List Value} (h : Blk w b t vs) (o n : Nat) (hn : o + n ≤ vs.length) : w.there b o n := fun j hj => by
  refine ⟨?_, h.frozen _⟩
  rw [h.cell, List.getElem?_eq_getElem (by omega)]; rfl
theorem Blk.below {w w' : World} {b B : Nat} {t : TypeId} {vs : List Value} (h : Blk w b t vs) (hg : Below B w w') (hb : b < B) : Blk w' b t vs := by
  unfold Blk; rw [hg.block b hb]; exact h
theorem grown_setCells (b : Nat) : ∀ (vs : List Value) (o : Nat) (w : World), w.grownBy (w.setCells b o vs) (some b)
  | [], _, w => World.grownBy.refl w _
  | v :: r, o, w => (grown_setCell w ⟨b, o, none⟩ v).trans (grown_setCells b r (o + 1) _)
theorem Blk.setCells {b : Nat} {t : TypeId} (q : List Value) : ∀ (m' m p : List Value) (w : World), m'.length = m.length → Blk w b t (p ++ (m ++ q)) → Blk (w.setCells b p.length m') b t (p ++ (m' ++ q))
  | [], [], p, w, _, h => h
  | v :: r, u :: m, p, w, hl, h => by
    have h1 := h.set p.length v
    have e : (p ++ (u :: m ++ q)).set p.length v = (p ++ [v]) ++ (m ++ q) := by
      rw [List.set_append_right _ _ (Nat.le_refl _), Nat.sub_self]; simp
    rw [e] at h1
    have h2 := Blk.setCells q r m (p ++ [v]) _ (by simpa using hl) h1
    rw [World.setCells]
    simpa using h2
section
variable {P : Program} {ops : Array Oper} {rest : List Oper} {o : Oper} {a : Act} {w : World} {Q : Exit → Act → World → Prop}
theorem st_row (hg : o.guard = none) (ty : TypeId) (x y : Operand) (ho : o.op = .store ty x y) (b off : Nat) (t : TypeId) (p m q m' : List Value)
    (hx : a.eval x = .pointer (some ⟨b, off, none⟩)) (hy : a.eval y = .agg m'.toArray) (hp : p.length = off) (hb : Blk w b t (p ++ (m ++ q))) (hl : m'.length = m.length)
    (hi : (P.info? ty).map (·.size) = some m'.length) (h1 : ∀ v ∈ m', v.oneCell' = true)
    (h : ∀ w', Blk w' b t (p ++ (m' ++ q)) → w.grownBy w' (some b) → wpList P ops Q rest (a.put o.dst undef) w') : wpList P ops Q (o :: rest) a w := by
  subst hp
  refine wpList_store_mid hg ty x y ho b p.length m'.toArray hx hy (hb.there _ _ (by simp; omega)) (by simpa using hi) (all_oneCell_toArray h1) ?_
  exact h _ (by simpa using Blk.setCells q m' m p w hl hb) (by simpa using grown_setCells b m' p.length w)
theorem st_all (hg : o.guard = none) (ty : TypeId) (x y : Operand) (ho : o.op = .store ty x y) (b : Nat) (t : TypeId) (m m' : List Value)
    (hx : a.eval x = .pointer (some ⟨b, 0, none⟩)) (hy : a.eval y = .agg m'.toArray) (hb : Blk w b t m) (hl : m'.length = m.length)
    (hi : (P.info? ty).map (·.size) = some m'.length) (h1 : ∀ v ∈ m', v.oneCell' = true)
    (h : ∀ w', Blk w' b t m' → w.grownBy w' (some b) → wpList P ops Q rest (a.put o.dst undef) w') : wpList P ops Q (o :: rest) a w :=
  st_row hg ty x y ho b 0 t [] m [] m' hx hy rfl (by simpa using hb) hl hi h1 (fun w' h2 h3 => h w' (by simpa using h2) h3)
/-- One cell of a block is stored. -/
theorem st_one (hg : o.guard = none) (ty : TypeId) (x y : Operand) (ho : o.op = .store ty x y) (b i : Nat) (t : TypeId) (vs : List Value) (v : Value)
    (hx : a.eval x = .pointer (some ⟨b, i, none⟩)) (hy : a.eval y = v) (hv : v.cells = #[v]) (hv1 : v.oneCell' = true) (hi : i < vs.length) (hb : Blk w b t vs) (hs : (P.info? ty).map (·.size) = some 1)
    (h : ∀ w', Blk w' b t (vs.set i v) → w.grownBy w' (some b) → wpList P ops Q rest (a.put o.dst undef) w') : wpList P ops Q (o :: rest) a w := by
  have hst := run_storeCells_cells (P := P) b i [v] 0 w (fun j hj => by
      have : j = 0 := by simpa using hj
      subst this
      rw [Nat.add_zero, hb.cell, List.getElem?_eq_getElem hi]; rfl) (fun j hj => hb.frozen _) (by simp [hv1])
  refine wpList_plain hg fun K hK => ?_
  unfold Oper.wp execOp
  cases hq : P.info? ty with
  | none => simp [hq] at hs
  | some q1 =>
    have hq1 : q1.size = 1 := by simpa [hq] using hs
    simp only [Nat.add_zero] at hst
    have hsv : (storeVar ty ⟨b, i, none⟩ v).run P w = .ok () (w.setCells b i [v]) := by
      simp [storeVar, Go.sizeOf, typeInfo, hq, hv, hq1, hst]
    simp only [ho, hx, hy, Instr.storeAt, Instr.sureAddr, Sem.run_bind, Sem.run_pure, Result.andThen_ok, hsv]
    exact hK _ _ (h _ (hb.set i v) (grown_setCell w _ _))
end
/-! ### names and values that the call made -/
/-- A block may be written. -/
def Fre (w : World) (b : Nat) : Prop := ∀ i, w.frozen? ⟨b, i, none⟩ = false
def NmL (w : World) (na : Option Addr) (ns : List ByteArray) (L : List Nat) : Prop :=
  (ns = [] ∧ L = []) ∨ ∃ b o, na = some ⟨b, o, none⟩ ∧ L = [b] ∧ Fre w b ∧ ∀ i x, ns[i]? = some x → w.cell? ⟨b, o + i, none⟩ = some (.string x)
def Lay (w : World) : Fo → List Value → List Nat → Prop
  | .nil, cs, L => cs = [] ∧ L = []
  | .cons h k r, cs, L => ∃ na nc ka kc cs' Ln Lk L2, cs = six h na nc ka k.list.length kc ++ cs' ∧ L = Ln ++ Lk ++ L2 ∧ NmL w na h.ns Ln ∧ Cap na h.ns.length nc ∧ Cap ka k.list.length kc ∧
      ((k = .nil ∧ Lk = []) ∨ ∃ b o ks L', ka = some ⟨b, o, none⟩ ∧ Lk = b :: L' ∧ Fre w b ∧ (∀ j u, ks[j]? = some u → w.cell? ⟨b, o + j, none⟩ = some u) ∧ Lay w k ks L') ∧ Lay w r cs' L2
/-- A value that the call made, and its blocks. -/
def VlL (w : World) (p : Vt) (na : Option Addr) (nc : Nat) (ka : Option Addr) (kc : Nat) (L : List Nat) : Prop :=
  ∃ Ln Lk, L = Ln ++ Lk ∧ NmL w na p.1.ns Ln ∧ Cap na p.1.ns.length nc ∧ Cap ka p.2.list.length kc ∧
    ((p.2 = .nil ∧ Lk = []) ∨ ∃ b o ks L', ka = some ⟨b, o, none⟩ ∧ Lk = b :: L' ∧ Fre w b ∧ (∀ j u, ks[j]? = some u → w.cell? ⟨b, o + j, none⟩ = some u) ∧ Lay w p.2 ks L')
theorem lay_cons {w : World} {q : Vt} {r : Fo} {cs : List Value} {L : List Nat} : Lay w (.cons q.1 q.2 r) cs L ↔ ∃ na nc ka kc cs' L1 L2, cs = six q.1 na nc ka q.2.list.length kc ++ cs' ∧ L = L1 ++ L2 ∧ VlL w q na nc ka kc L1 ∧ Lay w r cs' L2 := by
  constructor
  · rintro ⟨na, nc, ka, kc, cs', Ln, Lk, L2, h1, h2, h3, h4, h5, h6, h7⟩
    exact ⟨na, nc, ka, kc, cs', Ln ++ Lk, L2, h1, h2, ⟨Ln, Lk, rfl, h3, h4, h5, h6⟩, h7⟩
  · rintro ⟨na, nc, ka, kc, cs', L1, L2, h1, h2, ⟨Ln, Lk, h0, h3, h4, h5, h6⟩, h7⟩
    exact ⟨na, nc, ka, kc, cs', Ln, Lk, L2, h1, by rw [h2, h0], h3, h4, h5, h6, h7⟩
theorem cell_keep {w w' : World} {b i : Nat} (h : w'.heap[b]? = w.heap[b]?) : w'.cell? ⟨b, i, none⟩ = w.cell? ⟨b, i, none⟩ := World.cell?_of_block h
theorem Fre.keep {w w' : World} {b : Nat} (h : Fre w b) (hk : w'.heap[b]? = w.heap[b]?) : Fre w' b := fun i => (World.frozen?_of_block (a := ⟨b, i, none⟩) hk).trans (h i)
theorem NmL.keep {w w' : World} {na : Option Addr} {ns : List ByteArray} {L : List Nat} (h : NmL w na ns L) (hk : ∀ x ∈ L, w'.heap[x]? = w.heap[x]?) : NmL w' na ns L := by
  rcases h with h | ⟨b, o, e, rfl, hf, hc⟩
  · exact .inl h
  · have hb := hk b (by simp)
    exact .inr ⟨b, o, e, rfl, hf.keep hb, fun i x hx => (cell_keep hb).trans (hc i x hx)⟩
theorem Lay.keep {w w' : World} (f : Fo) : ∀ {cs : List Value} {L : List Nat}, Lay w f cs L → (∀ x ∈ L, w'.heap[x]? = w.heap[x]?) → Lay w' f cs L := by
  induction f with
  | nil => intro cs L h _; exact h
  | cons h k r ihk ihr =>
    rintro cs L ⟨na, nc, ka, kc, cs', Ln, Lk, L2, h1, rfl, h3, h4, h5, h6, h7⟩ hk
    refine ⟨na, nc, ka, kc, cs', Ln, Lk, L2, h1, rfl, h3.keep (fun x hx => hk x (by simp [hx])), h4, h5, ?_, ihr h7 fun x hx => hk x (by simp [hx])⟩
    rcases h6 with h6 | ⟨b, o, ks, L', e, rfl, hf, hc, hl⟩
    · exact .inl h6
    · have hb := hk b (by simp)
      exact .inr ⟨b, o, ks, L', e, rfl, hf.keep hb, fun j u hj => (cell_keep hb).trans (hc j u hj), ihk hl fun x hx => hk x (by simp [hx])⟩
theorem VlL.keep {w w' : World} {p : Vt} {na ka : Option Addr} {nc kc : Nat} {L : List Nat} (h : VlL w p na nc ka kc L) (hk : ∀ x ∈ L, w'.heap[x]? = w.heap[x]?) : VlL w' p na nc ka kc L := by
  obtain ⟨Ln, Lk, rfl, h3, h4, h5, h6⟩ := h
  refine ⟨Ln, Lk, rfl, h3.keep fun x hx => hk x (by simp [hx]), h4, h5, ?_⟩
  rcases h6 with h6 | ⟨b, o, ks, L', e, rfl, hf, hc, hl⟩
  · exact .inl h6
  · have hb := hk b (by simp)
    exact .inr ⟨b, o, ks, L', e, rfl, hf.keep hb, fun j u hj => (cell_keep hb).trans (hc j u hj), Lay.keep _ hl fun x hx => hk x (by simp [hx])⟩
theorem NmL.nms {w : World} {na : Option Addr} {ns : List ByteArray} {L : List Nat} (h : NmL w na ns L) : Nms w na ns := by
  rcases h with h | ⟨b, o, e, _, _, hc⟩
  · exact .inl h.1
  · exact .inr ⟨b, o, e, hc⟩
theorem six_length (h : Hd) (na : Option Addr) (nc : Nat) (ka : Option Addr) (kl kc : Nat) : (six h na nc ka kl kc).length = 6 := rfl
theorem nd_six {w : World} {b o : Nat} {h : Hd} {na ka : Option Addr} {nc kl kc : Nat} (hc : ∀ j u, (six h na nc ka kl kc)[j]? = some u → w.cell? ⟨b, o + j, none⟩ = some u) : Nd w b o h na nc ka kl kc :=
  ⟨hc 0 _ rfl, hc 1 _ rfl, hc 2 _ rfl, hc 3 _ rfl, hc 4 _ rfl, hc 5 _ rfl⟩
theorem Lay.at {w : World} (f : Fo) : ∀ {cs : List Value} {L : List Nat} {b o : Nat}, Lay w f cs L → (∀ j u, cs[j]? = some u → w.cell? ⟨b, o + j, none⟩ = some u) → At w f b o := by
  induction f with
  | nil => intro _ _ _ _ _ _; trivial
  | cons h k r ihk ihr =>
    rintro cs L b o ⟨na, nc, ka, kc, cs', Ln, Lk, L2, rfl, rfl, h3, h4, h5, h6, h7⟩ hc
    refine ⟨⟨na, nc, ka, kc, nd_six fun j u hj => hc j u ?_, h3.nms, h4, ?_, h5⟩, ihr h7 fun j u hj => ?_⟩
    · rw [List.getElem?_append_left (List.getElem?_eq_some_iff.1 hj).1]; exact hj
    · rcases h6 with h6 | ⟨b', o', ks, L', e, rfl, hf, hc', hl⟩
      · exact .inl h6.1
      · exact .inr ⟨b', o', e, ihk hl hc'⟩
    · rw [Nat.add_assoc]
      refine hc (6 + j) u ?_
      rw [List.getElem?_append_right (by rw [six_length]; omega), six_length, Nat.add_sub_cancel_left]
      exact hj
theorem VlL.vl {w : World} {p : Vt} {na ka : Option Addr} {nc kc : Nat} {L : List Nat} (h : VlL w p na nc ka kc L) : Vl w p na nc ka kc := by
  obtain ⟨Ln, Lk, rfl, h3, h4, h5, h6⟩ := h
  refine ⟨h3.nms, h4, ?_, h5⟩
  rcases h6 with h6 | ⟨b, o, ks, L', e, rfl, hf, hc, hl⟩
  · exact .inl h6.1
  · exact .inr ⟨b, o, e, hl.at _ hc⟩
theorem six_one (h : Hd) (na : Option Addr) (nc : Nat) (ka : Option Addr) (kl kc : Nat) : ∀ u ∈ six h na nc ka kl kc, u.oneCell' = true := by
  intro u hu
  simp only [six, List.mem_cons, List.not_mem_nil, or_false] at hu
  rcases hu with rfl | rfl | rfl | rfl | rfl | rfl <;> rfl
/-! ### append -/
/-- A row of names that the call made. -/
theorem nml_of {w : World} {base : Nat} {v : Value} {ns : List ByteArray} (h : w.ownsRow base 9 1 v ns.length (ns.map Value.string)) : ∃ na nc L, v = .slice na ns.length nc ∧ NmL w na ns L ∧ Cap na ns.length nc ∧ (∀ x ∈ L, v.ownBlock = some x) ∧ L.Nodup := by
  have h' := h
  rcases h with ⟨h1, ⟨rfl, h0⟩ | ⟨g, cap, cur, rfl, hg, hh, hle, hm, h5, h6⟩⟩
  · have e : ns = [] := List.eq_nil_of_length_eq_zero h0
    subst e
    exact ⟨none, 0, [], rfl, .inl ⟨rfl, rfl⟩, ⟨by simp, fun _ => rfl, by omega⟩, by simp, List.nodup_nil⟩
  · refine ⟨_, cap, [g], rfl, .inr ⟨g, 0, rfl, rfl, fun i => frozen_of_row w g i cur 9 hh, fun i x hx => ?_⟩, ⟨hle, fun e => by simp at e, hm⟩, by simp [Value.ownBlock], by simp⟩
    have hlt := (List.getElem?_eq_some_iff.1 hx).1
    rw [Nat.zero_add, World.ownsRow.cellAt h' i (by omega), List.getElem?_map, hx]
    rfl
end Go.Proofs.YtpfiejmhnkcjbaaGreatDoor
