/-
  The law package's great and heavy.
-/
import Derived.Test.YtmbglggodifboabREql
namespace Go.Proofs.Ytmbglggodifboab
open Go.RowKit
set_option linter.unusedVariables false
/-- A block of cells, whole. -/
def Blk (w : World) (b : Nat) (t : TypeId) (vs : List Value) : Prop := w.heap[b]? = some (.cells vs.toArray t (0, 0))
theorem Blk.lt {w : World} {b : Nat} {t : TypeId} {vs : List Value} (h : Blk w b t vs) : b < w.heap.size := (Array.getElem?_eq_some_iff.1 h).1
theorem Blk.cell {w : World} {b : Nat} {t : TypeId} {vs : List Value} (h : Blk w b t vs) (i : Nat) : w.cell? ⟨b, i, none⟩ = vs[i]? := by
  rw [cell_of_row w b i _ t (0, 0) h]; simp
theorem Blk.frozen {w : World} {b : Nat} {t : TypeId} {vs : List Value} (h : Blk w b t vs) (i : Nat) : w.frozen? ⟨b, i, none⟩ = false := frozen_of_row w b i _ t h
theorem Blk.kept {w w' : World} {b : Nat} {t : TypeId} {vs : List Value} {row : Option Nat} (h : Blk w b t vs) (hg : w.grownBy w' row) (hne : some b ≠ row) : Blk w' b t vs := by
  unfold Blk; rw [hg.block b h.lt hne]; exact h
theorem Blk.alloc {w : World} {b : Nat} {t : TypeId} {vs : List Value} (h : Blk w b t vs) (o : Obj) : Blk (w.alloc o) b t vs := h.kept (World.grownBy_alloc w o none) (by simp)
theorem blk_new (w : World) (t : TypeId) (vs : List Value) : Blk (w.alloc (.cells vs.toArray t)) w.heap.size t vs := heap_alloc_new w _
theorem grown_setCell (w : World) (a : Addr) (u : Value) : w.grownBy (w.setCell a u) (some a.block) :=
  ⟨rfl, rfl, rfl, by simp [World.setCell], fun k _ hk => Below.heap_setCell _ _ _ _ (fun e => hk (by rw [e]))⟩
theorem Blk.set {w : World} {b : Nat} {t : TypeId} {vs : List Value} (h : Blk w b t vs) (i : Nat) (v : Value) : Blk (w.setCell ⟨b, i, none⟩ v) b t (vs.set i v) := by
  have := heap_setCell_same w b i _ t v h
  unfold Blk; rw [this]; simp
/-- How much is looked at. -/
def wsH (h : Hd) : Nat := 1 + h.t.size / 20 + h.ns.length
def Fo.ws : Fo → Nat
  | .nil => 0
  | .cons h k r => wsH h + k.ws + r.ws
def ws (p : Vt) : Nat := wsH p.1 + p.2.ws
theorem ws_step {f : Fo} {k : Nat} {q : Vt} (h : f.list[k]? = some q) : (f.drop k).ws = ws q + (f.drop (k + 1)).ws := by
  rw [Fo.drop_at f k q h]; rfl
theorem gt_cast (m : Nat) : Ending.returned (.bool (decide ((3000 : Int) < (m : Int)))) = .returned (.bool (decide (3000 < m))) := by
  have : ((3000 : Int) < (m : Int)) ↔ 3000 < m := by omega
  simp only [this]
theorem gt_yes (m : Nat) (h : 3000 < m) : Ending.returned (.bool true) = .returned (.bool (decide (3000 < m))) := by simp [h]
structure Gr (W W' : World) (g m m' s : Nat) : Prop where
  gr : W.grownBy W' (some g)
  blk : Blk W' g 3 [.int .i64 (m' : Int)]
  max : m' ≤ 1000000000000000
  ge : m' ≤ 3000 → m + s ≤ m'
def GIh (p : Vt) : Prop := ∀ q : Vt, wt q < wt p → WfV q → ∀ (na : Option Addr) (nc : Nat) (ka : Option Addr) (kc : Nat) (g m : Nat) (w0 W : World), Vl w0 q na nc ka kc → Below w0.heap.size w0 W → w0.heap.size ≤ g → Blk W g 3 [.int .i64 (m : Int)] → m ≤ 3000 →
  Calls Try.prog 11 #[.agg #[.int .i64 q.1.k, .int .i64 q.1.n, .int .i64 q.1.s, .string q.1.t, .slice na q.1.ns.length nc, .slice ka q.2.list.length kc], .pointer (some ⟨g, 0, none⟩)] W fun e W' => ∃ m', e = .returned (.bool (decide (3000 < m'))) ∧ Hid (Gr W W' g m m' (ws q))
set_option maxRecDepth 8000 in
set_option maxHeartbeats 4000000 in
theorem great_step (p : Vt) (ih : GIh p) (hwf : WfV p) (na : Option Addr) (nc : Nat) (ka : Option Addr) (kc : Nat) (g m : Nat) (w0 W : World) (hv : Vl w0 p na nc ka kc) (hb : Below w0.heap.size w0 W) (hg : w0.heap.size ≤ g) (hm : Blk W g 3 [.int .i64 (m : Int)]) (hm2 : m ≤ 3000) :
    Calls Try.prog 11 #[.agg #[.int .i64 p.1.k, .int .i64 p.1.n, .int .i64 p.1.s, .string p.1.t, .slice na p.1.ns.length nc, .slice ka p.2.list.length kc], .pointer (some ⟨g, 0, none⟩)] W fun e W' => ∃ m', e = .returned (.bool (decide (3000 < m'))) ∧ Hid (Gr W W' g m m' (ws p)) := by
  have hkl := hwf.2.1
  have htl := hwf.1.t1
  have hnl := hwf.1.c1
  obtain ⟨W1, HW1⟩ : ∃ W1, Hid (W.alloc (.cells #[.int .i64 p.1.k, .int .i64 p.1.n, .int .i64 p.1.s, .string p.1.t, .slice na p.1.ns.length nc, .slice ka p.2.list.length kc] 41) = W1) := ⟨_, rfl⟩
  have bx : Blk W1 W.heap.size 41 (six p.1 na nc ka p.2.list.length kc) := by rw [← HW1.out]; exact blk_new W 41 _
  have bm : Blk W1 g 3 [.int .i64 (m : Int)] := by rw [← HW1.out]; exact hm.alloc _
  have g1 : W.grownBy W1 none := by rw [← HW1.out]; exact World.grownBy_alloc W _ none
  have hne : g ≠ W.heap.size := Nat.ne_of_lt hm.lt
  have c0 : W1.cell? ⟨g, 0, none⟩ = some (.int .i64 (m : Int)) := bm.cell 0
  have c3 : W1.cell? ⟨W.heap.size, 3, none⟩ = some (.string p.1.t) := bx.cell 3
  have c4 : W1.cell? ⟨W.heap.size, 4, none⟩ = some (.slice na p.1.ns.length nc) := bx.cell 4
  have fr : W1.frozen? ⟨g, 0, none⟩ = false := bm.frozen 0
  have HS : Hid (ws p = wsH p.1 + p.2.ws) := rfl
  have HSh : Hid (wsH p.1 = 1 + p.1.t.size / 20 + p.1.ns.length) := rfl
  have HI : Hid (GIh p) := ih
  have HW : Hid (WfV p) := hwf
  have HV : Hid (Vl w0 p na nc ka kc) := hv
  have HB : Hid (Below w0.heap.size w0 W) := hb
  have HBx : Hid (Blk W1 W.heap.size 41 (six p.1 na nc ka p.2.list.length kc)) := bx
  have HBm : Hid (Blk W1 g 3 [.int .i64 (m : Int)]) := bm
  have HG1 : Hid (W.grownBy W1 none) := g1
  generalize ws p = WS at *
  clear ih hwf hv hb bx bm g1 hm
  go_enter Try.func11, Try.ntmps11
  go_wp2
  generalize hWW : World.alloc W _ = W2
  obtain rfl : W1 = W2 := by rw [← hWW, ← HW1.out]
  clear hWW HW1
  obtain ⟨m1, HM1⟩ : ∃ m1 : Nat, Hid (m1 = m + 1 + p.1.t.size / 20 + p.1.ns.length) := ⟨_, rfl⟩
  have hm1 : m1 ≤ 1000000000000000 := by rw [HM1.out]; omega
  have HX : Hid ((m : Int) + 1 + (p.1.t.size : Int) / 20 + (p.1.ns.length : Int) = (m1 : Int)) := by
    show _ = _
    rw [HM1.out]
    omega
  go_region
  all_goals go_wp2
  rw [HX.out]
  obtain ⟨W2, HW2⟩ : ∃ W2, Hid ((W1.setCell ⟨g, 0, none⟩ (.int .i64 (m1 : Int))).drew = W2) := ⟨_, rfl⟩
  rw [HW2.out]
  have HG2 : Hid (W1.grownBy W2 (some g)) := by
    rw [← HW2.out]
    have h := grown_setCell W1 ⟨g, 0, none⟩ (.int .i64 (m1 : Int))
    exact ⟨h.os, h.tape, h.output, h.size, h.block⟩
  have HB2 : Hid (Blk W2 g 3 [.int .i64 (m1 : Int)]) := by
    rw [← HW2.out]
    exact HBm.out.set 0 (.int .i64 (m1 : Int))
  have HX2 : Hid (Blk W2 W.heap.size 41 (six p.1 na nc ka p.2.list.length kc)) := HBx.out.kept HG2.out (fun e => hne (Option.some.inj e).symm)
  have HBw : Hid (Below w0.heap.size w0 W2) := (HB.out.grown HG1.out HB.out.size (fun k e => by cases e)).grown HG2.out (Nat.le_trans HB.out.size HG1.out.size) (fun k e => by cases e; exact hg)
  have HGW : Hid (W.grownBy W2 (some g)) := by
    have h1 := HG1.out
    have h2 := HG2.out
    exact ⟨h2.os.trans h1.os, h2.tape.trans h1.tape, h2.output.trans h1.output, Nat.le_trans h1.size h2.size, fun k hk hne => (h2.block k (Nat.lt_of_lt_of_le hk h1.size) hne).trans (h1.block k hk (by simp))⟩
  clear HW2 HX c0 c3 c4 fr HBx HBm HG1 HG2
  go_loopw [5] (fun i wr => ∃ k m' : Nat, k ≤ p.2.list.length ∧ i = .int .i64 (k : Int) ∧ m' ≤ 1000000000000000 ∧ Hid (Blk wr g 3 [.int .i64 (m' : Int)]) ∧ Hid (W2.grownBy wr (some g)) ∧ Hid (m' ≤ 3000 → m1 + p.2.ws ≤ m' + (p.2.drop k).ws)) (fun i _ => p.2.list.length - (intOf i).toNat)
  case atStart => exact ⟨0, m1, by omega, rfl, hm1, HB2.out, World.grownBy.refl _ _, fun _ => by simp [Fo.drop]⟩
  case round =>
    obtain ⟨k, m', hk0, rfl, hmm, HBk, HGk, HMk⟩ := hrel
    have cg : wr.cell? ⟨g, 0, none⟩ = some (.int .i64 (m' : Int)) := HBk.out.cell 0
    have HXk : Hid (Blk wr W.heap.size 41 (six p.1 na nc ka p.2.list.length kc)) := HX2.out.kept HGk.out (fun e => hne (Option.some.inj e).symm)
    have c5 : wr.cell? ⟨W.heap.size, 5, none⟩ = some (.slice ka p.2.list.length kc) := HXk.out.cell 5
    have HGr : Hid (W.grownBy wr (some g)) := by
      have h1 := HGW.out
      have h2 := HGk.out
      exact ⟨h2.os.trans h1.os, h2.tape.trans h1.tape, h2.output.trans h1.output, Nat.le_trans h1.size h2.size, fun k hk hne => (h2.block k (Nat.lt_of_lt_of_le hk h1.size) hne).trans (h1.block k hk hne)⟩
    by_cases hlt : k < p.2.list.length ∧ m' ≤ 3000
    case neg =>
      have hfin : m' ≤ 3000 → m + WS ≤ m' := fun h => by
        have h1 := HMk.out h
        rw [Fo.drop_end _ _ (by omega)] at h1
        have h2 := HS.out
        have h3 := HSh.out
        have h4 := HM1.out
        simp only [Fo.ws] at h1
        omega
      have HF : Hid (m' ≤ 3000 → m + WS ≤ m') := hfin
      clear hfin HMk
      by_cases h1 : k < p.2.list.length
      · have h2 : ¬ m' ≤ 3000 := fun e => hlt ⟨h1, e⟩
        have h3 : decide ((m' : Int) ≤ 3000) = false := by simp; omega
        go_wp2
        go_ret
        exact ⟨m', by first | exact gt_cast m' | rfl | exact gt_yes m' (by omega), ⟨HGr.out, HBk.out, hmm, HF.out⟩⟩
      · go_wp2
        go_ret
        exact ⟨m', by first | exact gt_cast m' | rfl | exact gt_yes m' (by omega), ⟨HGr.out, HBk.out, hmm, HF.out⟩⟩
    obtain ⟨hlt, hle⟩ := hlt
    have h3 : decide ((m' : Int) ≤ 3000) = true := by simp; omega
    have HBr : Hid (Below w0.heap.size w0 wr) := HBw.out.grown HGk.out HBw.out.size (fun k e => by cases e; exact hg)
    obtain ⟨q, b, o, na', nc', ka', kc', hq, rfl, hnd, hvl⟩ := HV.out.kid (Below.refl _ _) (k := k) hlt
    have HQ := HI.out q (wt_kid (List.mem_of_getElem? hq)) (HW.out.kid (List.mem_of_getElem? hq)) na' nc' ka' kc' g m' w0 wr hvl HBr.out hg HBk.out hle
    obtain ⟨d0, d1, d2, d3, d4, d5⟩ := hnd.below HBr.out
    have HWq : Hid ((p.2.drop k).ws = ws q + (p.2.drop (k + 1)).ws) := ws_step hq
    generalize ws q = WQ at *
    clear hnd hvl hq
    go_wp2_with fail
    refine HQ.mono ?_
    rintro e w3 ⟨m3, rfl, h3r⟩
    clear HQ
    go_wp2
    go_roundw
    case rel =>
      have h1 := HGk.out
      have h2 := h3r.out.gr
      refine ⟨k + 1, m3, by omega, by go_num, h3r.out.max, h3r.out.blk, ⟨h2.os.trans h1.os, h2.tape.trans h1.tape, h2.output.trans h1.output, Nat.le_trans h1.size h2.size, fun k hk hne => (h2.block k (Nat.lt_of_lt_of_le hk h1.size) hne).trans (h1.block k hk hne)⟩, fun h => ?_⟩
      have h5 := h3r.out.ge h
      have h6 := HMk.out hle
      have h7 := HWq.out
      omega
    case measure => simp [intOf]; omega
theorem great_any : ∀ (N : Nat) (q : Vt), wt q ≤ N → WfV q → ∀ (na : Option Addr) (nc : Nat) (ka : Option Addr) (kc : Nat) (g m : Nat) (w0 W : World), Vl w0 q na nc ka kc → Below w0.heap.size w0 W → w0.heap.size ≤ g → Blk W g 3 [.int .i64 (m : Int)] → m ≤ 3000 →
    Calls Try.prog 11 #[.agg #[.int .i64 q.1.k, .int .i64 q.1.n, .int .i64 q.1.s, .string q.1.t, .slice na q.1.ns.length nc, .slice ka q.2.list.length kc], .pointer (some ⟨g, 0, none⟩)] W fun e W' => ∃ m', e = .returned (.bool (decide (3000 < m'))) ∧ Hid (Gr W W' g m m' (ws q)) := by
  intro N
  induction N with
  | zero => intro p hp; exfalso; unfold wt at hp; omega
  | succ N ih =>
    intro p hp hwf na nc ka kc g m w0 W hv hb hg hm hm2
    exact great_step p (fun q hq hwq na nc ka kc g m w0 W h1 h2 h3 h4 h5 => ih q (by omega) hwq na nc ka kc g m w0 W h1 h2 h3 h4 h5) hwf na nc ka kc g m w0 W hv hb hg hm hm2
end Go.Proofs.Ytmbglggodifboab
