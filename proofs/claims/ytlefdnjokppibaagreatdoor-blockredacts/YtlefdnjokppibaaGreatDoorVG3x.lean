/-
  The law package's great and heavy. · Values that the call made: which blocks they take, and that no two of these are one. Operations on whole blocks.
-/
import Derived.Test.YtlefdnjokppibaaGreatDoorVG2x
import Derived.Maps.AppendAt
import Derived.Laws.AppendOwnNone
namespace Go.Proofs.YtlefdnjokppibaaGreatDoor
open Go.RowKit
set_option linter.unusedVariables false
/-- A block of cells, whole. -/
def Blk (w : World) (b : Nat) (t : TypeId) (vs : List Value) : Prop := w.heap[b]? = some (.cells vs.toArray t (0, 0))
theorem Blk.lt {w : World} {b : Nat} {t : TypeId} {vs : List Value} (h : Blk w b t vs) : b < w.heap.size := (Array.getElem?_eq_some_iff.1 h).1
theorem Blk.cell {w : World} {b : Nat} {t : TypeId} {vs : List Value} (h : Blk w b t vs) (i : Nat) : w.cell? ⟨b, i, none⟩ = vs[i]? := by
  rw [cell_of_row w b i _ t (0, 0) h]; simp
theorem Blk.frozen {w : World} {b : Nat} {t : TypeId} {vs : List Value} (h : Blk w b t vs) (i : Nat) : w.frozen? ⟨b, i, none⟩ = false := frozen_of_row w b i _ t h
theorem Blk.kept {w w' : World} {b : Nat} {t : TypeId} {vs : List Value} {row : Option Nat} (h : Blk w b t vs) (hg : w.grownBy w' row) (hne : some b ≠ row) : Blk w' b t vs := by
  unfold Blk; rw [hg.block b h.lt hne]; exact h
theorem Blk.alloc {w : World} {b : Nat} {t : TypeId} {vs : List Value} (h : Blk w b t vs) (o : Obj) : Blk (w.alloc o) b t vs := h.kept (World.grownBy_alloc w o none) (by simp)
theorem blk_new (w : World) (t : TypeId) (vs : List Value) : Blk (w.alloc (.cells vs.toArray t)) w.heap.size t vs := heap_alloc_new w _
theorem grown_setCell (w : World) (a : Addr) (u : Value) : w.grownBy (w.setCell a u) (some a.block) :=
  ⟨rfl, rfl, rfl, by simp [World.setCell], fun k _ hk => Below.heap_setCell _ _ _ _ (fun e => hk (by rw [e]))⟩
theorem Blk.set {w : World} {b : Nat} {t : TypeId} {vs : List Value} (h : Blk w b t vs) (i : Nat) (v : Value) : Blk (w.setCell ⟨b, i, none⟩ v) b t (vs.set i v) := by
  have := heap_setCell_same w b i _ t v h
  unfold Blk; rw [this]; simp
/-- How much is looked at. -/
def wsH (h : Hd) : Nat := 1 + h.t.size / 20 + h.ns.length
def Fo.ws : Fo → Nat
  | .nil => 0
  | .cons h k r => wsH h + k.ws + r.ws
def ws (p : Vt) : Nat := wsH p.1 + p.2.ws
theorem ws_step {f : Fo} {k : Nat} {q : Vt} (h : f.list[k]? = some q) : (f.drop k).ws = ws q + (f.drop (k + 1)).ws := by
  rw [Fo.drop_at f k q h]; rfl
theorem gt_cast (m : Nat) : Ending.returned (.bool (decide ((3000 : Int) < (m : Int)))) = .returned (.bool (decide (3000 < m))) := by
  have : ((3000 : Int) < (m : Int)) ↔ 3000 < m := by omega
  simp only [this]
structure Gr (W W' : World) (g m m' s : Nat) : Prop where
  gr : W.grownBy W' (some g)
  blk : Blk W' g 3 [.int .i64 (m' : Int)]
  max : m' ≤ 1000000000000000
  ge : m' ≤ 3000 → m + s ≤ m'
def GIh (p : Vt) : Prop := ∀ q : Vt, wt q < wt p → WfV q → ∀ (na : Option Addr) (nc : Nat) (ka : Option Addr) (kc : Nat) (g m : Nat) (w0 W : World), Vl w0 q na nc ka kc → Below w0.heap.size w0 W → w0.heap.size ≤ g → Blk W g 3 [.int .i64 (m : Int)] → m ≤ 3000 →
  Calls Tryz.prog 26 #[.agg #[.int .i64 q.1.k, .int .i64 q.1.n, .int .i64 q.1.s, .string q.1.t, .slice na q.1.ns.length nc, .slice ka q.2.list.length kc], .pointer (some ⟨g, 0, none⟩)] W fun e W' => ∃ m', e = .returned (.bool (decide (3000 < m'))) ∧ Hid (Gr W W' g m m' (ws q))
set_option maxRecDepth 8000 in
set_option maxHeartbeats 4000000 in
theorem great_step (p : Vt) (ih : GIh p) (hwf : WfV p) (na : Option Addr) (nc : Nat) (ka : Option Addr) (kc : Nat) (g m : Nat) (w0 W : World) (hv : Vl w0 p na nc ka kc) (hb : Below w0.heap.size w0 W) (hg : w0.heap.size ≤ g) (hm : Blk W g 3 [.int .i64 (m : Int)]) (hm2 : m ≤ 3000) :
    Calls Tryz.prog 26 #[.agg #[.int .i64 p.1.k, .int .i64 p.1.n, .int .i64 p.1.s, .string p.1.t, .slice na p.1.ns.length nc, .slice ka p.2.list.length kc], .pointer (some ⟨g, 0, none⟩)] W fun e W' => ∃ m', e = .returned (.bool (decide (3000 < m'))) ∧ Hid (Gr W W' g m m' (ws p)) := by
  have hkl := hwf.2.1
  have htl := hwf.1.t1
  have hnl := hwf.1.c1
  obtain ⟨W1, HW1⟩ : ∃ W1, Hid (W.alloc (.cells #[.int .i64 p.1.k, .int .i64 p.1.n, .int .i64 p.1.s, .string p.1.t, .slice na p.1.ns.length nc, .slice ka p.2.list.length kc] 41) = W1) := ⟨_, rfl⟩
  have bx : Blk W1 W.heap.size 41 (six p.1 na nc ka p.2.list.length kc) := by rw [← HW1.out]; exact blk_new W 41 _
  have bm : Blk W1 g 3 [.int .i64 (m : Int)] := by rw [← HW1.out]; exact hm.alloc _
  have g1 : W.grownBy W1 none := by rw [← HW1.out]; exact World.grownBy_alloc W _ none
  have hne : g ≠ W.heap.size := Nat.ne_of_lt hm.lt
  have c0 : W1.cell? ⟨g, 0, none⟩ = some (.int .i64 (m : Int)) := bm.cell 0
  have c3 : W1.cell? ⟨W.heap.size, 3, none⟩ = some (.string p.1.t) := bx.cell 3
  have c4 : W1.cell? ⟨W.heap.size, 4, none⟩ = some (.slice na p.1.ns.length nc) := bx.cell 4
  have fr : W1.frozen? ⟨g, 0, none⟩ = false := bm.frozen 0
  have HS : Hid (ws p = wsH p.1 + p.2.ws) := rfl
  have HSh : Hid (wsH p.1 = 1 + p.1.t.size / 20 + p.1.ns.length) := rfl
  have HI : Hid (GIh p) := ih
  have HW : Hid (WfV p) := hwf
  have HV : Hid (Vl w0 p na nc ka kc) := hv
  have HB : Hid (Below w0.heap.size w0 W) := hb
  have HBx : Hid (Blk W1 W.heap.size 41 (six p.1 na nc ka p.2.list.length kc)) := bx
  have HBm : Hid (Blk W1 g 3 [.int .i64 (m : Int)]) := bm
  have HG1 : Hid (W.grownBy W1 none) := g1
  generalize ws p = WS at *
  clear ih hwf hv hb bx bm g1 hm
  go_enter Tryz.func26, Tryz.ntmps26
  go_wp2
  generalize hWW : World.alloc W _ = W2
  obtain rfl : W1 = W2 := by rw [← hWW, ← HW1.out]
  clear hWW HW1
  obtain ⟨m1, HM1⟩ : ∃ m1 : Nat, Hid (m1 = m + 1 + p.1.t.size / 20 + p.1.ns.length) := ⟨_, rfl⟩
  have hm1 : m1 ≤ 1000000000000000 := by rw [HM1.out]; omega
  have HX : Hid ((m : Int) + 1 + (p.1.t.size : Int) / 20 + (p.1.ns.length : Int) = (m1 : Int)) := by
    show _ = _
    rw [HM1.out]
    omega
  go_region
  all_goals go_wp2
  rw [HX.out]
  obtain ⟨W2, HW2⟩ : ∃ W2, Hid ((W1.setCell ⟨g, 0, none⟩ (.int .i64 (m1 : Int))).drew = W2) := ⟨_, rfl⟩
  rw [HW2.out]
  have HG2 : Hid (W1.grownBy W2 (some g)) := by
    rw [← HW2.out]
    have h := grown_setCell W1 ⟨g, 0, none⟩ (.int .i64 (m1 : Int))
    exact ⟨h.os, h.tape, h.output, h.size, h.block⟩
  have HB2 : Hid (Blk W2 g 3 [.int .i64 (m1 : Int)]) := by
    rw [← HW2.out]
    exact HBm.out.set 0 (.int .i64 (m1 : Int))
  have HX2 : Hid (Blk W2 W.heap.size 41 (six p.1 na nc ka p.2.list.length kc)) := HBx.out.kept HG2.out (fun e => hne (Option.some.inj e).symm)
  have HBw : Hid (Below w0.heap.size w0 W2) := (HB.out.grown HG1.out HB.out.size (fun k e => by cases e)).grown HG2.out (Nat.le_trans HB.out.size HG1.out.size) (fun k e => by cases e; exact hg)
  have HGW : Hid (W.grownBy W2 (some g)) := by
    have h1 := HG1.out
    have h2 := HG2.out
    exact ⟨h2.os.trans h1.os, h2.tape.trans h1.tape, h2.output.trans h1.output, Nat.le_trans h1.size h2.size, fun k hk hne => (h2.block k (Nat.lt_of_lt_of_le hk h1.size) hne).trans (h1.block k hk (by simp))⟩
  clear HW2 HX c0 c3 c4 fr HBx HBm HG1 HG2
  go_loopw [5] (fun i wr => ∃ k m' : Nat, k ≤ p.2.list.length ∧ i = .int .i64 (k : Int) ∧ m' ≤ 1000000000000000 ∧ Hid (Blk wr g 3 [.int .i64 (m' : Int)]) ∧ Hid (W2.grownBy wr (some g)) ∧ Hid (m' ≤ 3000 → m1 + p.2.ws ≤ m' + (p.2.drop k).ws)) (fun i _ => p.2.list.length - (intOf i).toNat)
  case atStart => exact ⟨0, m1, by omega, rfl, hm1, HB2.out, World.grownBy.refl _ _, fun _ => by simp [Fo.drop]⟩
  case round =>
    obtain ⟨k, m', hk0, rfl, hmm, HBk, HGk, HMk⟩ := hrel
    have cg : wr.cell? ⟨g, 0, none⟩ = some (.int .i64 (m' : Int)) := HBk.out.cell 0
    have HXk : Hid (Blk wr W.heap.size 41 (six p.1 na nc ka p.2.list.length kc)) := HX2.out.kept HGk.out (fun e => hne (Option.some.inj e).symm)
    have c5 : wr.cell? ⟨W.heap.size, 5, none⟩ = some (.slice ka p.2.list.length kc) := HXk.out.cell 5
    have HGr : Hid (W.grownBy wr (some g)) := by
      have h1 := HGW.out
      have h2 := HGk.out
      exact ⟨h2.os.trans h1.os, h2.tape.trans h1.tape, h2.output.trans h1.output, Nat.le_trans h1.size h2.size, fun k hk hne => (h2.block k (Nat.lt_of_lt_of_le hk h1.size) hne).trans (h1.block k hk hne)⟩
    by_cases hlt : k < p.2.list.length ∧ m' ≤ 3000
    case neg =>
      have hfin : m' ≤ 3000 → m + WS ≤ m' := fun h => by
        have h1 := HMk.out h
        rw [Fo.drop_end _ _ (by omega)] at h1
        have h2 := HS.out
        have h3 := HSh.out
        have h4 := HM1.out
        simp only [Fo.ws] at h1
        omega
      have HF : Hid (m' ≤ 3000 → m + WS ≤ m') := hfin
      clear hfin HMk
      by_cases h1 : k < p.2.list.length
      · have h2 : ¬ m' ≤ 3000 := fun e => hlt ⟨h1, e⟩
        have h3 : decide ((m' : Int) ≤ 3000) = false := by simp; omega
        go_wp2
        go_ret
        exact ⟨m', by first | exact gt_cast m' | rfl | exact gt_yes m' (by omega), ⟨HGr.out, HBk.out, hmm, HF.out⟩⟩
      · go_wp2
        go_ret
        exact ⟨m', by first | exact gt_cast m' | rfl | exact gt_yes m' (by omega), ⟨HGr.out, HBk.out, hmm, HF.out⟩⟩
    obtain ⟨hlt, hle⟩ := hlt
    have h3 : decide ((m' : Int) ≤ 3000) = true := by simp; omega
    have HBr : Hid (Below w0.heap.size w0 wr) := HBw.out.grown HGk.out HBw.out.size (fun k e => by cases e; exact hg)
    obtain ⟨q, b, o, na', nc', ka', kc', hq, rfl, hnd, hvl⟩ := HV.out.kid (Below.refl _ _) (k := k) hlt
    have HQ := HI.out q (wt_kid (List.mem_of_getElem? hq)) (HW.out.kid (List.mem_of_getElem? hq)) na' nc' ka' kc' g m' w0 wr hvl HBr.out hg HBk.out hle
    obtain ⟨d0, d1, d2, d3, d4, d5⟩ := hnd.below HBr.out
    have HWq : Hid ((p.2.drop k).ws = ws q + (p.2.drop (k + 1)).ws) := ws_step hq
    generalize ws q = WQ at *
    clear hnd hvl hq
    go_wp2_with fail
    refine HQ.mono ?_
    rintro e w3 ⟨m3, rfl, h3r⟩
    clear HQ
    go_wp2
    go_roundw
    case rel =>
      have h1 := HGk.out
      have h2 := h3r.out.gr
      refine ⟨k + 1, m3, by omega, by go_num, h3r.out.max, h3r.out.blk, ⟨h2.os.trans h1.os, h2.tape.trans h1.tape, h2.output.trans h1.output, Nat.le_trans h1.size h2.size, fun k hk hne => (h2.block k (Nat.lt_of_lt_of_le hk h1.size) hne).trans (h1.block k hk hne)⟩, fun h => ?_⟩
      have h5 := h3r.out.ge h
      have h6 := HMk.out hle
      have h7 := HWq.out
      omega
    case measure => simp [intOf]; omega
theorem great_any : ∀ (N : Nat) (q : Vt), wt q ≤ N → WfV q → ∀ (na : Option Addr) (nc : Nat) (ka : Option Addr) (kc : Nat) (g m : Nat) (w0 W : World), Vl w0 q na nc ka kc → Below w0.heap.size w0 W → w0.heap.size ≤ g → Blk W g 3 [.int .i64 (m : Int)] → m ≤ 3000 →
    Calls Tryz.prog 26 #[.agg #[.int .i64 q.1.k, .int .i64 q.1.n, .int .i64 q.1.s, .string q.1.t, .slice na q.1.ns.length nc, .slice ka q.2.list.length kc], .pointer (some ⟨g, 0, none⟩)] W fun e W' => ∃ m', e = .returned (.bool (decide (3000 < m'))) ∧ Hid (Gr W W' g m m' (ws q)) := by
  intro N
  induction N with
  | zero => intro p hp; exfalso; unfold wt at hp; omega
  | succ N ih =>
    intro p hp hwf na nc ka kc g m w0 W hv hb hg hm hm2
    exact great_step p (fun q hq hwq na nc ka kc g m w0 W h1 h2 h3 h4 h5 => ih q (by omega) hwq na nc ka kc g m w0 W h1 h2 h3 h4 h5) hwf na nc ka kc g m w0 W hv hb hg hm hm2
end Go.Proofs.YtlefdnjokppibaaGreatDoor
namespace Go.Proofs.YtlefdnjokppibaaGreatDoor
open Go.RowKit
set_option linter.unusedVariables false
theorem Tryz.info9 : (Tryz.prog.info? 9).map (fun i => (i.zero, i.size, i.bytes)) = some (some (.string ByteArray.empty), 1, 16) := by kernel_rfl
theorem Tryz.info25 : (Tryz.prog.info? 41).map (fun i => (i.zero, i.size, i.bytes)) = some (some (.agg #[.int .i64 0, .int .i64 0, .int .i64 0, .string ByteArray.empty, .slice none 0 0, .slice none 0 0]), 6, 88) := by kernel_rfl
/-! ### blocks -/
theorem Blk.there {w : World} {b : Nat} {t : TypeId} {vs : List Value} (h : Blk w b t vs) (o n : Nat) (hn : o + n ≤ vs.length) : w.there b o n := fun j hj => by
  refine ⟨?_, h.frozen _⟩
  rw [h.cell, List.getElem?_eq_getElem (by omega)]; rfl
theorem Blk.below {w w' : World} {b B : Nat} {t : TypeId} {vs : List Value} (h : Blk w b t vs) (hg : Below B w w') (hb : b < B) : Blk w' b t vs := by
  unfold Blk; rw [hg.block b hb]; exact h
theorem grown_setCells (b : Nat) : ∀ (vs : List Value) (o : Nat) (w : World), w.grownBy (w.setCells b o vs) (some b)
  | [], _, w => World.grownBy.refl w _
  | v :: r, o, w => (grown_setCell w ⟨b, o, none⟩ v).trans (grown_setCells b r (o + 1) _)
theorem Blk.setCells {b : Nat} {t : TypeId} (q : List Value) : ∀ (m' m p : List Value) (w : World), m'.length = m.length → Blk w b t (p ++ (m ++ q)) → Blk (w.setCells b p.length m') b t (p ++ (m' ++ q))
  | [], [], p, w, _, h => h
  | v :: r, u :: m, p, w, hl, h => by
    have h1 := h.set p.length v
    have e : (p ++ (u :: m ++ q)).set p.length v = (p ++ [v]) ++ (m ++ q) := by
      rw [List.set_append_right _ _ (Nat.le_refl _), Nat.sub_self]; simp
    rw [e] at h1
    have h2 := Blk.setCells q r m (p ++ [v]) _ (by simpa using hl) h1
    rw [World.setCells]
    simpa using h2
section
variable {P : Program} {ops : Array Oper} {rest : List Oper} {o : Oper} {a : Act} {w : World} {Q : Exit → Act → World → Prop}
theorem st_row (hg : o.guard = none) (ty : TypeId) (x y : Operand) (ho : o.op = .store ty x y) (b off : Nat) (t : TypeId) (p m q m' : List Value)
    (hx : a.eval x = .pointer (some ⟨b, off, none⟩)) (hy : a.eval y = .agg m'.toArray) (hp : p.length = off) (hb : Blk w b t (p ++ (m ++ q))) (hl : m'.length = m.length)
    (hi : (P.info? ty).map (·.size) = some m'.length) (h1 : ∀ v ∈ m', v.oneCell' = true)
    (h : ∀ w', Blk w' b t (p ++ (m' ++ q)) → w.grownBy w' (some b) → wpList P ops Q rest (a.put o.dst undef) w') : wpList P ops Q (o :: rest) a w := by
  subst hp
  refine wpList_store_mid hg ty x y ho b p.length m'.toArray hx hy (hb.there _ _ (by simp; omega)) (by simpa using hi) (all_oneCell_toArray h1) ?_
  exact h _ (by simpa using Blk.setCells q m' m p w hl hb) (by simpa using grown_setCells b m' p.length w)
theorem st_all (hg : o.guard = none) (ty : TypeId) (x y : Operand) (ho : o.op = .store ty x y) (b : Nat) (t : TypeId) (m m' : List Value)
    (hx : a.eval x = .pointer (some ⟨b, 0, none⟩)) (hy : a.eval y = .agg m'.toArray) (hb : Blk w b t m) (hl : m'.length = m.length)
    (hi : (P.info? ty).map (·.size) = some m'.length) (h1 : ∀ v ∈ m', v.oneCell' = true)
    (h : ∀ w', Blk w' b t m' → w.grownBy w' (some b) → wpList P ops Q rest (a.put o.dst undef) w') : wpList P ops Q (o :: rest) a w :=
  st_row hg ty x y ho b 0 t [] m [] m' hx hy rfl (by simpa using hb) hl hi h1 (fun w' h2 h3 => h w' (by simpa using h2) h3)
/-- One cell of a block is stored. -/
theorem st_one (hg : o.guard = none) (ty : TypeId) (x y : Operand) (ho : o.op = .store ty x y) (b i : Nat) (t : TypeId) (vs : List Value) (v : Value)
    (hx : a.eval x = .pointer (some ⟨b, i, none⟩)) (hy : a.eval y = v) (hv : v.cells = #[v]) (hv1 : v.oneCell' = true) (hi : i < vs.length) (hb : Blk w b t vs) (hs : (P.info? ty).map (·.size) = some 1)
    (h : ∀ w', Blk w' b t (vs.set i v) → w.grownBy w' (some b) → wpList P ops Q rest (a.put o.dst undef) w') : wpList P ops Q (o :: rest) a w := by
  have hst := run_storeCells_cells (P := P) b i [v] 0 w (fun j hj => by
      have : j = 0 := by simpa using hj
      subst this
      rw [Nat.add_zero, hb.cell, List.getElem?_eq_getElem hi]; rfl) (fun j hj => hb.frozen _) (by simp [hv1])
  refine wpList_plain hg fun K hK => ?_
  unfold Oper.wp execOp
  cases hq : P.info? ty with
  | none => simp [hq] at hs
  | some q1 =>
    have hq1 : q1.size = 1 := by simpa [hq] using hs
    simp only [Nat.add_zero] at hst
    have hsv : (storeVar ty ⟨b, i, none⟩ v).run P w = .ok () (w.setCells b i [v]) := by
      simp [storeVar, Go.sizeOf, typeInfo, hq, hv, hq1, hst]
    simp only [ho, hx, hy, Instr.storeAt, Instr.sureAddr, Sem.run_bind, Sem.run_pure, Result.andThen_ok, hsv]
    exact hK _ _ (h _ (hb.set i v) (grown_setCell w _ _))
end
/-! ### names and values that the call made -/
/-- A block may be written. -/
def Fre (w : World) (b : Nat) : Prop := ∀ i, w.frozen? ⟨b, i, none⟩ = false
def NmL (w : World) (na : Option Addr) (ns : List ByteArray) (L : List Nat) : Prop :=
  (ns = [] ∧ L = []) ∨ ∃ b o, na = some ⟨b, o, none⟩ ∧ L = [b] ∧ Fre w b ∧ ∀ i x, ns[i]? = some x → w.cell? ⟨b, o + i, none⟩ = some (.string x)
def Lay (w : World) : Fo → List Value → List Nat → Prop
  | .nil, cs, L => cs = [] ∧ L = []
  | .cons h k r, cs, L => ∃ na nc ka kc cs' Ln Lk L2, cs = six h na nc ka k.list.length kc ++ cs' ∧ L = Ln ++ Lk ++ L2 ∧ NmL w na h.ns Ln ∧ Cap na h.ns.length nc ∧ Cap ka k.list.length kc ∧
      ((k = .nil ∧ Lk = []) ∨ ∃ b o ks L', ka = some ⟨b, o, none⟩ ∧ Lk = b :: L' ∧ Fre w b ∧ (∀ j u, ks[j]? = some u → w.cell? ⟨b, o + j, none⟩ = some u) ∧ Lay w k ks L') ∧ Lay w r cs' L2
/-- A value that the call made, and its blocks. -/
def VlL (w : World) (p : Vt) (na : Option Addr) (nc : Nat) (ka : Option Addr) (kc : Nat) (L : List Nat) : Prop :=
  ∃ Ln Lk, L = Ln ++ Lk ∧ NmL w na p.1.ns Ln ∧ Cap na p.1.ns.length nc ∧ Cap ka p.2.list.length kc ∧
    ((p.2 = .nil ∧ Lk = []) ∨ ∃ b o ks L', ka = some ⟨b, o, none⟩ ∧ Lk = b :: L' ∧ Fre w b ∧ (∀ j u, ks[j]? = some u → w.cell? ⟨b, o + j, none⟩ = some u) ∧ Lay w p.2 ks L')
theorem lay_cons {w : World} {q : Vt} {r : Fo} {cs : List Value} {L : List Nat} : Lay w (.cons q.1 q.2 r) cs L ↔ ∃ na nc ka kc cs' L1 L2, cs = six q.1 na nc ka q.2.list.length kc ++ cs' ∧ L = L1 ++ L2 ∧ VlL w q na nc ka kc L1 ∧ Lay w r cs' L2 := by
  constructor
  · rintro ⟨na, nc, ka, kc, cs', Ln, Lk, L2, h1, h2, h3, h4, h5, h6, h7⟩
    exact ⟨na, nc, ka, kc, cs', Ln ++ Lk, L2, h1, h2, ⟨Ln, Lk, rfl, h3, h4, h5, h6⟩, h7⟩
  · rintro ⟨na, nc, ka, kc, cs', L1, L2, h1, h2, ⟨Ln, Lk, h0, h3, h4, h5, h6⟩, h7⟩
    exact ⟨na, nc, ka, kc, cs', Ln, Lk, L2, h1, by rw [h2, h0], h3, h4, h5, h6, h7⟩
theorem cell_keep {w w' : World} {b i : Nat} (h : w'.heap[b]? = w.heap[b]?) : w'.cell? ⟨b, i, none⟩ = w.cell? ⟨b, i, none⟩ := World.cell?_of_block h
theorem Fre.keep {w w' : World} {b : Nat} (h : Fre w b) (hk : w'.heap[b]? = w.heap[b]?) : Fre w' b := fun i => (World.frozen?_of_block (a := ⟨b, i, none⟩) hk).trans (h i)
theorem NmL.keep {w w' : World} {na : Option Addr} {ns : List ByteArray} {L : List Nat} (h : NmL w na ns L) (hk : ∀ x ∈ L, w'.heap[x]? = w.heap[x]?) : NmL w' na ns L := by
  rcases h with h | ⟨b, o, e, rfl, hf, hc⟩
  · exact .inl h
  · have hb := hk b (by simp)
    exact .inr ⟨b, o, e, rfl, hf.keep hb, fun i x hx => (cell_keep hb).trans (hc i x hx)⟩
theorem Lay.keep {w w' : World} (f : Fo) : ∀ {cs : List Value} {L : List Nat}, Lay w f cs L → (∀ x ∈ L, w'.heap[x]? = w.heap[x]?) → Lay w' f cs L := by
  induction f with
  | nil => intro cs L h _; exact h
  | cons h k r ihk ihr =>
    rintro cs L ⟨na, nc, ka, kc, cs', Ln, Lk, L2, h1, rfl, h3, h4, h5, h6, h7⟩ hk
    refine ⟨na, nc, ka, kc, cs', Ln, Lk, L2, h1, rfl, h3.keep (fun x hx => hk x (by simp [hx])), h4, h5, ?_, ihr h7 fun x hx => hk x (by simp [hx])⟩
    rcases h6 with h6 | ⟨b, o, ks, L', e, rfl, hf, hc, hl⟩
    · exact .inl h6
    · have hb := hk b (by simp)
      exact .inr ⟨b, o, ks, L', e, rfl, hf.keep hb, fun j u hj => (cell_keep hb).trans (hc j u hj), ihk hl fun x hx => hk x (by simp [hx])⟩
theorem VlL.keep {w w' : World} {p : Vt} {na ka : Option Addr} {nc kc : Nat} {L : List Nat} (h : VlL w p na nc ka kc L) (hk : ∀ x ∈ L, w'.heap[x]? = w.heap[x]?) : VlL w' p na nc ka kc L := by
  obtain ⟨Ln, Lk, rfl, h3, h4, h5, h6⟩ := h
  refine ⟨Ln, Lk, rfl, h3.keep fun x hx => hk x (by simp [hx]), h4, h5, ?_⟩
  rcases h6 with h6 | ⟨b, o, ks, L', e, rfl, hf, hc, hl⟩
  · exact .inl h6
  · have hb := hk b (by simp)
    exact .inr ⟨b, o, ks, L', e, rfl, hf.keep hb, fun j u hj => (cell_keep hb).trans (hc j u hj), Lay.keep _ hl fun x hx => hk x (by simp [hx])⟩
theorem NmL.nms {w : World} {na : Option Addr} {ns : List ByteArray} {L : List Nat} (h : NmL w na ns L) : Nms w na ns := by
  rcases h with h | ⟨b, o, e, _, _, hc⟩
  · exact .inl h.1
  · exact .inr ⟨b, o, e, hc⟩
theorem six_length (h : Hd) (na : Option Addr) (nc : Nat) (ka : Option Addr) (kl kc : Nat) : (six h na nc ka kl kc).length = 6 := rfl
theorem nd_six {w : World} {b o : Nat} {h : Hd} {na ka : Option Addr} {nc kl kc : Nat} (hc : ∀ j u, (six h na nc ka kl kc)[j]? = some u → w.cell? ⟨b, o + j, none⟩ = some u) : Nd w b o h na nc ka kl kc :=
  ⟨hc 0 _ rfl, hc 1 _ rfl, hc 2 _ rfl, hc 3 _ rfl, hc 4 _ rfl, hc 5 _ rfl⟩
theorem Lay.at {w : World} (f : Fo) : ∀ {cs : List Value} {L : List Nat} {b o : Nat}, Lay w f cs L → (∀ j u, cs[j]? = some u → w.cell? ⟨b, o + j, none⟩ = some u) → At w f b o := by
  induction f with
  | nil => intro _ _ _ _ _ _; trivial
  | cons h k r ihk ihr =>
    rintro cs L b o ⟨na, nc, ka, kc, cs', Ln, Lk, L2, rfl, rfl, h3, h4, h5, h6, h7⟩ hc
    refine ⟨⟨na, nc, ka, kc, nd_six fun j u hj => hc j u ?_, h3.nms, h4, ?_, h5⟩, ihr h7 fun j u hj => ?_⟩
    · rw [List.getElem?_append_left (List.getElem?_eq_some_iff.1 hj).1]; exact hj
    · rcases h6 with h6 | ⟨b', o', ks, L', e, rfl, hf, hc', hl⟩
      · exact .inl h6.1
      · exact .inr ⟨b', o', e, ihk hl hc'⟩
    · rw [Nat.add_assoc]
      refine hc (6 + j) u ?_
      rw [List.getElem?_append_right (by rw [six_length]; omega), six_length, Nat.add_sub_cancel_left]
      exact hj
theorem VlL.vl {w : World} {p : Vt} {na ka : Option Addr} {nc kc : Nat} {L : List Nat} (h : VlL w p na nc ka kc L) : Vl w p na nc ka kc := by
  obtain ⟨Ln, Lk, rfl, h3, h4, h5, h6⟩ := h
  refine ⟨h3.nms, h4, ?_, h5⟩
  rcases h6 with h6 | ⟨b, o, ks, L', e, rfl, hf, hc, hl⟩
  · exact .inl h6.1
  · exact .inr ⟨b, o, e, hl.at _ hc⟩
theorem Lay.len {w : World} (f : Fo) : ∀ {cs : List Value} {L : List Nat}, Lay w f cs L → cs.length = f.list.length * 6 := by
  induction f with
  | nil => rintro cs L ⟨rfl, _⟩; rfl
  | cons h k r ihk ihr =>
    rintro cs L ⟨na, nc, ka, kc, cs', Ln, Lk, L2, rfl, rfl, h3, h4, h5, h6, h7⟩
    rw [List.length_append, ihr h7, six_length]
    simp only [Fo.list, List.length_cons]
    omega
theorem six_one (h : Hd) (na : Option Addr) (nc : Nat) (ka : Option Addr) (kl kc : Nat) : ∀ u ∈ six h na nc ka kl kc, u.oneCell' = true := by
  intro u hu
  simp only [six, List.mem_cons, List.not_mem_nil, or_false] at hu
  rcases hu with rfl | rfl | rfl | rfl | rfl | rfl <;> rfl
def Fo.take : Nat → Fo → Fo
  | 0, _ => .nil
  | _ + 1, .nil => .nil
  | n + 1, .cons h k r => .cons h k (Fo.take n r)
theorem Fo.take_all : ∀ (f : Fo) (n : Nat), f.list.length ≤ n → f.take n = f
  | .nil, 0, _ => rfl
  | .nil, _ + 1, _ => rfl
  | .cons h k r, 0, hl => by simp [Fo.list] at hl
  | .cons h k r, n + 1, hl => by
    simp only [Fo.list, List.length_cons] at hl
    simp only [Fo.take]
    rw [Fo.take_all r n (by omega)]
theorem Lay.snoc {w : World} {q : Vt} {na : Option Addr} {nc : Nat} {ka : Option Addr} {kc : Nat} {Lq : List Nat} (hq : VlL w q na nc ka kc Lq) : ∀ (f : Fo) (k : Nat) {cs : List Value} {L : List Nat}, f.list[k]? = some q → Lay w (f.take k) cs L → Lay w (f.take (k + 1)) (cs ++ six q.1 na nc ka q.2.list.length kc) (L ++ Lq)
  | .nil, k, _, _, hk, _ => by simp [Fo.list] at hk
  | .cons h kk r, 0, cs, L, hk, hl => by
    simp only [Fo.list, List.getElem?_cons_zero, Option.some.injEq] at hk
    subst hk
    obtain ⟨rfl, rfl⟩ := hl
    exact (lay_cons (q := (h, kk))).2 ⟨na, nc, ka, kc, [], Lq, [], by simp, by simp, hq, ⟨rfl, rfl⟩⟩
  | .cons h kk r, k + 1, cs, L, hk, hl => by
    simp only [Fo.list, List.getElem?_cons_succ] at hk
    obtain ⟨na1, nc1, ka1, kc1, cs', L1, L2, rfl, rfl, hv, h7⟩ := (lay_cons (q := (h, kk))).1 hl
    exact (lay_cons (q := (h, kk))).2 ⟨na1, nc1, ka1, kc1, _, L1, _, by rw [List.append_assoc], by rw [List.append_assoc], hv, Lay.snoc hq r k hk h7⟩
/-! ### append -/
theorem app_names {ops : Array Oper} {rest : List Oper} {o : Oper} {a : Act} {Q : Exit → Act → World → Prop} {w : World} (hgd : o.guard = none) (s x : Operand)
    (ho : o.op = .call { callee := .builtin .append, args := #[s, x], argTypes := #[38, 38] })
    (base : Nat) (v : Value) (n : Nat) (xs : List Value) (hs : a.eval s = v) (hown : w.ownsRow base 9 1 v n xs) (ax : Option Addr) (c : Nat) (ns : List ByteArray) (hx : a.eval x = .slice ax ns.length c) (hsrc : Nms w ax ns) (hnil : ax = none → c = 0)
    (hb : n + ns.length ≤ 100000) (hbase : base ≤ w.heap.size)
    (h : ∀ v' w', w'.ownsRow base 9 1 v' (n + ns.length) (xs ++ ns.map Value.string) → w.grownBy w' v.ownBlock → (v'.ownBlock = v.ownBlock ∨ v'.ownBlock = some w.heap.size) → wpList Tryz.prog ops Q rest (a.put o.dst v') w') : wpList Tryz.prog ops Q (o :: rest) a w := by
  refine wpList_plain hgd fun K hK => ?_
  obtain ⟨i, hi, hz0, hz1, hz2⟩ := info_parts Tryz.info9
  cases ax with
  | none =>
    obtain rfl := hnil rfl
    have hl : ns = [] := by
      rcases hsrc with h | ⟨_, _, h, _⟩
      · exact h
      · cases h
    subst hl
    have hr := run_append_owned_none (P := Tryz.prog) (w := w) base 38 o.type 9 i 1 Tryz.underlying38 hi v _ _ hown
    unfold Oper.wp execOp
    simp only [ho, resolve, invoke, builtin, Sem.run_bind, Sem.run_pure, Result.andThen_ok, List.map_toArray, List.map_cons, List.map_nil, hs, hx, List.length_nil, hr]
    exact hK _ _ (h v w (by simpa using hown) (World.grownBy.refl _ _) (.inl rfl))
  | some ad =>
    obtain ⟨v', w', r1, r2, r3, _, r5⟩ := run_append_own_at (P := Tryz.prog) w base 38 o.type 9 i _ 1 16 Tryz.underlying38 hi hz0 hz1 hz2 rfl (by decide) v _ _ hown ad ns.length c (ns.map Value.string) (by simp) (by
      intro j u hj
      rcases hsrc with rfl | ⟨b, off, he, hc⟩
      · simp at hj
      · obtain rfl := Option.some.inj he
        rw [Addr.add_lit]
        rw [List.getElem?_map] at hj
        cases hn : ns[j]? with
        | none => rw [hn] at hj; cases hj
        | some y => rw [hn] at hj; cases hj; exact hc j y hn) (by
      intro u hu
      obtain ⟨y, _, rfl⟩ := List.mem_map.1 hu
      rfl) (by unfold maxLen; omega) (by omega) hbase
    unfold Oper.wp execOp
    simp only [ho, resolve, invoke, builtin, Sem.run_bind, Sem.run_pure, Result.andThen_ok, List.map_toArray, List.map_cons, List.map_nil, hs, hx, r1]
    exact hK _ _ (h v' w' r2 r3 r5)
theorem app_kids {ops : Array Oper} {rest : List Oper} {o : Oper} {a : Act} {Q : Exit → Act → World → Prop} {w : World} (hgd : o.guard = none) (s x : Operand)
    (ho : o.op = .call { callee := .builtin .append, args := #[s, x], argTypes := #[39, 39] })
    (base : Nat) (v : Value) (n : Nat) (xs : List Value) (hs : a.eval s = v) (hown : w.ownsRow base 41 6 v n xs) (b : Nat) (m c : Nat) (news : List Value) (hx : a.eval x = .slice (some ⟨b, 0, none⟩) m c) (hl : news.length = m * 6) (hc : ∀ j u, news[j]? = some u → w.cell? ⟨b, j, none⟩ = some u) (h1 : ∀ u ∈ news, u.oneCell' = true)
    (hb : n + m ≤ 100000) (hbase : base ≤ w.heap.size)
    (h : ∀ v' w', w'.ownsRow base 41 6 v' (n + m) (xs ++ news) → w.grownBy w' v.ownBlock → (v'.ownBlock = v.ownBlock ∨ v'.ownBlock = some w.heap.size) → wpList Tryz.prog ops Q rest (a.put o.dst v') w') : wpList Tryz.prog ops Q (o :: rest) a w := by
  obtain ⟨i, hi, hz0, hz1, hz2⟩ := info_parts Tryz.info25
  refine wpList_append_own_at _ hgd s x 39 ho base 41 i _ 6 88 Tryz.underlying39 hi hz0 hz1 hz2 rfl (by decide) v _ _ hs hown ⟨b, 0, none⟩ m c news hx hl (fun j u hj => by rw [Addr.add_lit, Nat.zero_add]; exact hc j u hj) h1 (by unfold maxLen; omega) (by omega) hbase ?_
  intro v' w' h1 h2 _ h4
  exact h v' w' h1 h2 h4
/-- A row of names that the call made. -/
theorem nml_of {w : World} {base : Nat} {v : Value} {ns : List ByteArray} (h : w.ownsRow base 9 1 v ns.length (ns.map Value.string)) : ∃ na nc L, v = .slice na ns.length nc ∧ NmL w na ns L ∧ Cap na ns.length nc ∧ (∀ x ∈ L, v.ownBlock = some x) ∧ L.Nodup := by
  have h' := h
  rcases h with ⟨h1, ⟨rfl, h0⟩ | ⟨g, cap, cur, rfl, hg, hh, hle, hm, h5, h6⟩⟩
  · have e : ns = [] := List.eq_nil_of_length_eq_zero h0
    subst e
    exact ⟨none, 0, [], rfl, .inl ⟨rfl, rfl⟩, ⟨by simp, fun _ => rfl, by omega⟩, by simp, List.nodup_nil⟩
  · refine ⟨_, cap, [g], rfl, .inr ⟨g, 0, rfl, rfl, fun i => frozen_of_row w g i cur 9 hh, fun i x hx => ?_⟩, ⟨hle, fun e => by simp at e, hm⟩, by simp [Value.ownBlock], by simp⟩
    have hlt := (List.getElem?_eq_some_iff.1 hx).1
    rw [Nat.zero_add, World.ownsRow.cellAt h' i (by omega), List.getElem?_map, hx]
    rfl
end Go.Proofs.YtlefdnjokppibaaGreatDoor
