/-
  Chapter 13: blocks of cells, and operations on them as laws that leave the world under a name.
-/
import Derived.Test.YteokjfpppmnebaaRows
import Derived.WalkKit
import Derived.WalkSpells
import Derived.StillTactics
import Derived.Laws.Pointers
import Derived.RowKit3
import Derived.Below
import Derived.Deep.MidRow
import Derived.Maps.Range
import Derived.Maps.AppendAt
import Derived.Laws.CopyOwn
import Derived.Laws.AppendOwnNone
import Derived.Laws.MakeOwn
import Derived.Test.YteokjfpppmnebaaOrz
namespace Go.Proofs.Yteokjfpppmnebaa
open Go.RowKit
set_option linter.unusedVariables false
set_option linter.unusedSimpArgs false
theorem cell_lt {w : World} {b o : Nat} {v : Value} (h : w.cell? ⟨b, o, none⟩ = some v) : b < w.heap.size := by
  apply Nat.lt_of_not_le; intro hle
  have : w.heap[b]? = none := Array.getElem?_eq_none hle
  simp [World.cell?, this] at h
theorem ret_int {k : IntKind} {a b : Int} (h : a = b) : Ending.returned (.int k a) = .returned (.int k b) := by rw [h]

/-- A block of cells, whole. -/
def Blk (w : World) (b : Nat) (t : TypeId) (vs : List Value) : Prop := w.heap[b]? = some (.cells vs.toArray t (0, 0))
theorem Blk.lt {w : World} {b : Nat} {t : TypeId} {vs : List Value} (h : Blk w b t vs) : b < w.heap.size := (Array.getElem?_eq_some_iff.1 h).1
theorem Blk.cell {w : World} {b : Nat} {t : TypeId} {vs : List Value} (h : Blk w b t vs) (i : Nat) : w.cell? ⟨b, i, none⟩ = vs[i]? := by
  rw [cell_of_row w b i _ t (0, 0) h]; simp
theorem Blk.frozen {w : World} {b : Nat} {t : TypeId} {vs : List Value} (h : Blk w b t vs) (i : Nat) : w.frozen? ⟨b, i, none⟩ = false := frozen_of_row w b i _ t h
theorem Blk.range {w : World} {b : Nat} {t : TypeId} {p m q : List Value} (h : Blk w b t (p ++ (m ++ q))) : w.rangeAt b p.length m := fun j v hj => by
  have hl : j < m.length := (List.getElem?_eq_some_iff.1 hj).1
  rw [h.cell, List.getElem?_append_right (by omega), Nat.add_sub_cancel_left, List.getElem?_append_left hl, hj]
theorem Blk.all {w : World} {b : Nat} {t : TypeId} {m : List Value} (h : Blk w b t m) : w.rangeAt b 0 m := fun j v hj => by
  rw [h.cell, Nat.zero_add, hj]
theorem Blk.there {w : World} {b : Nat} {t : TypeId} {vs : List Value} (h : Blk w b t vs) (o n : Nat) (hn : o + n ≤ vs.length) : w.there b o n := fun j hj => by
  refine ⟨?_, h.frozen _⟩
  rw [h.cell, List.getElem?_eq_getElem (by omega)]; rfl
theorem Blk.kept {w w' : World} {b : Nat} {t : TypeId} {vs : List Value} {row : Option Nat} (h : Blk w b t vs) (hg : w.grownBy w' row) (hne : some b ≠ row) : Blk w' b t vs := by
  unfold Blk; rw [hg.block b h.lt hne]; exact h
theorem Blk.below {w w' : World} {b B : Nat} {t : TypeId} {vs : List Value} (h : Blk w b t vs) (hg : Below B w w') (hb : b < B) : Blk w' b t vs := by
  unfold Blk; rw [hg.block b hb]; exact h
theorem Blk.drewN {w : World} {b : Nat} {t : TypeId} {vs : List Value} (h : Blk w b t vs) (q : Nat) : Blk (w.drewN q) b t vs := by
  unfold Blk at *; simpa [World.drewN] using h
theorem Blk.alloc {w : World} {b : Nat} {t : TypeId} {vs : List Value} (h : Blk w b t vs) (o : Obj) : Blk (w.alloc o) b t vs := h.kept (World.grownBy_alloc w o none) (by simp)
theorem blk_new (w : World) (t : TypeId) (vs : List Value) : Blk (w.alloc (.cells vs.toArray t)) w.heap.size t vs := heap_alloc_new w _
theorem grown_setCell (w : World) (a : Addr) (u : Value) : w.grownBy (w.setCell a u) (some a.block) :=
  ⟨rfl, rfl, rfl, by simp [World.setCell], fun k _ hk => Below.heap_setCell _ _ _ _ (fun e => hk (by rw [e]))⟩
theorem Blk.set {w : World} {b : Nat} {t : TypeId} {vs : List Value} (h : Blk w b t vs) (i : Nat) (v : Value) : Blk (w.setCell ⟨b, i, none⟩ v) b t (vs.set i v) := by
  have := heap_setCell_same w b i _ t v h
  unfold Blk; rw [this]; simp
theorem Blk.setOther {w : World} {b : Nat} {t : TypeId} {vs : List Value} (h : Blk w b t vs) {a : Addr} (ha : a.block ≠ b) (u : Value) : Blk (w.setCell a u) b t vs :=
  h.kept (grown_setCell w a u) (fun e => ha (Option.some.inj e).symm)
theorem grown_setCells (b : Nat) : ∀ (vs : List Value) (o : Nat) (w : World), w.grownBy (w.setCells b o vs) (some b)
  | [], _, w => World.grownBy.refl w _
  | v :: r, o, w => (grown_setCell w ⟨b, o, none⟩ v).trans (grown_setCells b r (o + 1) _)
theorem Blk.setCells {b : Nat} {t : TypeId} (q : List Value) : ∀ (m' m p : List Value) (w : World), m'.length = m.length → Blk w b t (p ++ (m ++ q)) → Blk (w.setCells b p.length m') b t (p ++ (m' ++ q))
  | [], [], p, w, _, h => h
  | v :: r, u :: m, p, w, hl, h => by
    have h1 := h.set p.length v
    have e : (p ++ (u :: m ++ q)).set p.length v = (p ++ [v]) ++ (m ++ q) := by
      rw [List.set_append_right _ _ (Nat.le_refl _), Nat.sub_self]; simp
    rw [e] at h1
    have h2 := Blk.setCells q r m (p ++ [v]) _ (by simpa using hl) h1
    rw [World.setCells]
    simpa using h2

/-! ### the operations -/
variable {P : Program} {ops : Array Oper} {rest : List Oper} {o : Oper} {a : Act} {w : World} {Q : Exit → Act → World → Prop}
/-- A new variable of an array's type. -/
theorem al_zero (hg : o.guard = none) (t : TypeId) (ho : o.op = .alloc t) (cs : List Value) (hz : (P.info? t).map (fun i => i.zero.map (·.cells)) = some (some cs.toArray))
    (h : ∀ g w', w.heap.size ≤ g → Blk w' g t cs → w.grownBy w' none → wpList P ops Q rest (a.put o.dst (.pointer (some ⟨g, 0, none⟩))) w') : wpList P ops Q (o :: rest) a w := by
  refine wpList_plain hg fun K hK => ?_
  unfold Oper.wp execOp
  cases hi : P.info? t with
  | none => simp [hi] at hz
  | some i =>
    cases hq : i.zero with
    | none => simp [hi, hq] at hz
    | some z =>
      have hc : z.cells = cs.toArray := by simpa [hi, hq] using hz
      have hzv : (zeroValue t).run P w = .ok z w := by simp [zeroValue, typeInfo, hi, hq]
      simp only [ho, Sem.run_bind, Instr.alloc, hzv, newVar, newRow, run_newObj_alloc, Sem.run_pure, Result.andThen_ok, hc]
      exact hK _ _ (h _ _ (Nat.le_refl _) (blk_new w t cs) (World.grownBy_alloc w _ none))
/-- A parameter gets a place of its own. -/
theorem al_box (hg : o.guard = none) (t : TypeId) (x : Operand) (ho : o.op = .box t x) (cs : List Value) (hx : a.eval x = .agg cs.toArray)
    (h : ∀ g w', w.heap.size ≤ g → Blk w' g t cs → w.grownBy w' none → wpList P ops Q rest (a.put o.dst (.pointer (some ⟨g, 0, none⟩))) w') : wpList P ops Q (o :: rest) a w := by
  refine wpList_plain hg fun K hK => ?_
  unfold Oper.wp execOp
  simp only [ho, hx, Value.cells, Sem.run_bind, Instr.box, newVar, newRow, run_newObj_alloc, Sem.run_pure, Result.andThen_ok]
  exact hK _ _ (h _ _ (Nat.le_refl _) (blk_new w t cs) (World.grownBy_alloc w _ none))
/-- A whole array is stored. -/
theorem st_row (hg : o.guard = none) (ty : TypeId) (x y : Operand) (ho : o.op = .store ty x y) (b off : Nat) (t : TypeId) (p m q m' : List Value)
    (hx : a.eval x = .pointer (some ⟨b, off, none⟩)) (hy : a.eval y = .agg m'.toArray) (hp : p.length = off) (hb : Blk w b t (p ++ (m ++ q))) (hl : m'.length = m.length)
    (hi : (P.info? ty).map (·.size) = some m'.length) (h1 : ∀ v ∈ m', v.oneCell' = true)
    (h : ∀ w', Blk w' b t (p ++ (m' ++ q)) → w.grownBy w' (some b) → wpList P ops Q rest (a.put o.dst undef) w') : wpList P ops Q (o :: rest) a w := by
  subst hp
  refine wpList_store_mid hg ty x y ho b p.length m'.toArray hx hy (hb.there _ _ (by simp; omega)) (by simpa using hi) (all_oneCell_toArray h1) ?_
  exact h _ (by simpa using Blk.setCells q m' m p w hl hb) (by simpa using grown_setCells b m' p.length w)
theorem st_all (hg : o.guard = none) (ty : TypeId) (x y : Operand) (ho : o.op = .store ty x y) (b : Nat) (t : TypeId) (m m' : List Value)
    (hx : a.eval x = .pointer (some ⟨b, 0, none⟩)) (hy : a.eval y = .agg m'.toArray) (hb : Blk w b t m) (hl : m'.length = m.length)
    (hi : (P.info? ty).map (·.size) = some m'.length) (h1 : ∀ v ∈ m', v.oneCell' = true)
    (h : ∀ w', Blk w' b t m' → w.grownBy w' (some b) → wpList P ops Q rest (a.put o.dst undef) w') : wpList P ops Q (o :: rest) a w :=
  st_row hg ty x y ho b 0 t [] m [] m' hx hy rfl (by simpa using hb) hl hi h1 (fun w' h2 h3 => h w' (by simpa using h2) h3)
theorem ld_all (hg : o.guard = none) (ty : TypeId) (x : Operand) (ho : o.op = .load ty x) (b : Nat) (t : TypeId) (m : List Value) (n : Nat) (e : TypeId)
    (hx : a.eval x = .pointer (some ⟨b, 0, none⟩)) (hb : Blk w b t m) (hu : P.underlying ty = some (.array n e)) (hi : (P.info? ty).map (·.size) = some m.length)
    (h : wpList P ops Q rest (a.put o.dst (.agg m.toArray)) w) : wpList P ops Q (o :: rest) a w :=
  wpList_load_mid hg ty x ho b 0 hx m _ hb.all hu rfl hi h
/-- A result that is an array, out of its cell. -/
theorem res_row {fn : Func} {p : Tmp} {ty : TypeId} (h : fn.results = #[.cell p ty]) (tmps : Array Value) (g : Nat) (t : TypeId) (cs : List Value) (d : TypeDesc)
    (hp : tmps.getD p undef = .pointer (some ⟨g, 0, none⟩)) (hg : Blk w g t cs) (hu : P.underlying ty = some d) (hd : d.isRow = true) (hi : (P.info? ty).map (·.size) = some cs.length) :
    (results fn tmps).run P w = .ok (.agg cs.toArray) w :=
  results_cell_row h tmps w g t cs.toArray (0, 0) d hp hg hu (by cases d <;> simp_all [TypeDesc.isRow]) (by simpa using hi)
theorem blk_setRow {g : Nat} {t : TypeId} {vs vs' : List Value} (h : Blk w g t vs) : Blk (w.setRow g vs'.toArray) g t vs' := setRow_heap w g _ _ t _ h
theorem grown_setRow (w : World) (g : Nat) (cs : Array Value) : w.grownBy (w.setRow g cs) (some g) :=
  ⟨rfl, rfl, rfl, by simp, fun k _ hk => setRow_other w g k cs (fun e => hk (by rw [e]))⟩
variable {K : Act → World → Prop}
theorem run_copyW (w : World) (dT sT ty elem : TypeId) (b o dLen dCap : Nat) (a : Addr) (sLen sCap size n : Nat) (cs : List Value)
    (hu : P.underlying dT = some (.slice elem)) (hs : (P.info? elem).map (·.size) = some size) (hn : n = Nat.min sLen dLen) (hl : cs.length = n * size)
    (hsrc : ∀ j v, cs[j]? = some v → w.cell? (a.add j) = some v) (hc : ∀ j, j < cs.length → (w.cell? ⟨b, o + j, none⟩).isSome = true) (hf : ∀ j, j < cs.length → w.frozen? ⟨b, o + j, none⟩ = false) (h1 : ∀ v ∈ cs, v.oneCell' = true) :
    (Builtin.copy_ #[dT, sT] ty #[.slice (some ⟨b, o, none⟩) dLen dCap, .slice (some a) sLen sCap]).run P w = .ok (goInt n) (w.setCells b o cs) := by
  have hst := run_storeCells_cells (P := P) b o cs 0 w (by simpa using hc) (by simpa using hf) h1
  have hfc := run_firstCells_some (P := P) w size n a sLen sCap cs hl hsrc
  cases hq : P.info? elem with
  | none => simp [hq] at hs
  | some i =>
    have hi : i.size = size := by simpa [hq] using hs
    simp [Builtin.copy_, run_underlying hu, Builtin.lenOf, sizeOf, typeInfo, hq, hi, ← hn, hfc, hst]
theorem wp_cp (d s : Operand) (t : TypeId) (ho : o.op = .call { callee := .builtin .copy, args := #[d, s], argTypes := #[t, t] }) (elem size : Nat) (hu : P.underlying t = some (.slice elem)) (hs : (P.info? elem).map (·.size) = some size)
    (b off dLen dCap : Nat) (hd : a.eval d = .slice (some ⟨b, off, none⟩) dLen dCap) (b2 off2 sLen sCap : Nat) (hsl : a.eval s = .slice (some ⟨b2, off2, none⟩) sLen sCap) (n : Nat) (hn : n = Nat.min sLen dLen) (cs p m q : List Value) (tb : TypeId)
    (hp : p.length = off) (hb : Blk w b tb (p ++ (m ++ q))) (hml : cs.length = m.length) (hcs : cs.length = n * size) (hsrc : ∀ j v, cs[j]? = some v → w.cell? ⟨b2, off2 + j, none⟩ = some v) (h1 : ∀ v ∈ cs, v.oneCell' = true)
    (h : ∀ w', Blk w' b tb (p ++ (cs ++ q)) → w.grownBy w' (some b) → K (a.put o.dst (goInt n)) w') : Oper.wp P o a w K Q := by
  subst hp
  have hr := run_copyW (P := P) w t t o.type elem b p.length dLen dCap ⟨b2, off2, none⟩ sLen sCap size n cs hu hs hn hcs (fun j v hj => by rw [Addr.add_lit]; exact hsrc j v hj)
    (fun j hj => by rw [hb.cell, List.getElem?_eq_getElem (by simp; omega)]; rfl) (fun j hj => hb.frozen _) h1
  unfold Oper.wp execOp
  simp only [ho, resolve, invoke, builtin, Sem.run_bind, Sem.run_pure, Result.andThen_ok, List.map_toArray, List.map_cons, List.map_nil, hd, hsl, hr]
  exact h _ (Blk.setCells q cs m p w hml hb) (grown_setCells b cs p.length w)
theorem cp_row (hg : o.guard = none) (d s : Operand) (t : TypeId) (ho : o.op = .call { callee := .builtin .copy, args := #[d, s], argTypes := #[t, t] }) (elem size : Nat) (hu : P.underlying t = some (.slice elem)) (hs : (P.info? elem).map (·.size) = some size)
    (b off dLen dCap : Nat) (hd : a.eval d = .slice (some ⟨b, off, none⟩) dLen dCap) (b2 off2 sLen sCap : Nat) (hsl : a.eval s = .slice (some ⟨b2, off2, none⟩) sLen sCap) (n : Nat) (hn : n = Nat.min sLen dLen) (cs p m q : List Value) (tb : TypeId)
    (hp : p.length = off) (hb : Blk w b tb (p ++ (m ++ q))) (hml : cs.length = m.length) (hcs : cs.length = n * size) (hsrc : ∀ j v, cs[j]? = some v → w.cell? ⟨b2, off2 + j, none⟩ = some v) (h1 : ∀ v ∈ cs, v.oneCell' = true)
    (h : ∀ w', Blk w' b tb (p ++ (cs ++ q)) → w.grownBy w' (some b) → wpList P ops Q rest (a.put o.dst (goInt n)) w') : wpList P ops Q (o :: rest) a w :=
  wpList_plain hg fun K hK => wp_cp d s t ho elem size hu hs b off dLen dCap hd b2 off2 sLen sCap hsl n hn cs p m q tb hp hb hml hcs hsrc h1 fun w' h2 h3 => hK _ _ (h w' h2 h3)
theorem st_one (hg : o.guard = none) (ty : TypeId) (x y : Operand) (ho : o.op = .store ty x y) (b i : Nat) (t : TypeId) (vs : List Value) (v : Value)
    (hx : a.eval x = .pointer (some ⟨b, i, none⟩)) (hy : a.eval y = v) (hv : v.cells = #[v]) (hv1 : v.oneCell' = true) (hi : i < vs.length) (hb : Blk w b t vs) (hs : (P.info? ty).map (·.size) = some 1)
    (h : ∀ w', Blk w' b t (vs.set i v) → w.grownBy w' (some b) → wpList P ops Q rest (a.put o.dst undef) w') : wpList P ops Q (o :: rest) a w := by
  have hst := run_storeCells_cells (P := P) b i [v] 0 w (fun j hj => by
      have : j = 0 := by simpa using hj
      subst this
      rw [Nat.add_zero, hb.cell, List.getElem?_eq_getElem hi]; rfl) (fun j hj => hb.frozen _) (by simp [hv1])
  refine wpList_plain hg fun K hK => ?_
  unfold Oper.wp execOp
  cases hq : P.info? ty with
  | none => simp [hq] at hs
  | some q1 =>
    have hq1 : q1.size = 1 := by simpa [hq] using hs
    simp only [Nat.add_zero] at hst
    have hsv : (storeVar ty ⟨b, i, none⟩ v).run P w = .ok () (w.setCells b i [v]) := by
      simp [storeVar, Go.sizeOf, typeInfo, hq, hv, hq1, hst]
    simp only [ho, hx, hy, Instr.storeAt, Instr.sureAddr, Sem.run_bind, Sem.run_pure, Result.andThen_ok, hsv]
    exact hK _ _ (h _ (hb.set i v) (grown_setCell w _ _))
theorem oper_calls (k : Nat) (xs : Array Operand) (ts : Array TypeId) (hop : o.op = Op.call { callee := Callee.value (Operand.func k), args := xs, argTypes := ts }) (args : Array Value) (hargs : xs.map a.eval = args)
    (hent : ∀ (args : Array Value) (w : World), (callFunc k args).run Try.prog w = .ok (.enter k args) w) (R : Value → World → Prop)
    (hc : Calls Try.prog k args w fun e w' => ∃ v, e = .returned v ∧ R v w') (hK : ∀ v w', R v w' → K (a.put o.dst v) w') : Oper.wp Try.prog o a w K Q := by
  unfold Oper.wp
  have : (execOp a.eval o).run Try.prog w = .ok (.enter k args) w := by
    simp [execOp, hop, resolve, invoke, Act.eval, hargs, hent, Deferred.ofValue]
  rw [this, Oper.upon_enter]
  refine hc.mono ?_
  rintro e w' ⟨v, rfl, hr⟩
  exact hK v w' hr
theorem oper_row (ty : TypeId) (x y : Operand) (ho : o.op = .store ty x y) (b off : Nat) (t : TypeId) (p m q m' : List Value)
    (hx : a.eval x = .pointer (some ⟨b, off, none⟩)) (hy : a.eval y = .agg m'.toArray) (hp : p.length = off) (hb : Blk w b t (p ++ (m ++ q))) (hl : m'.length = m.length)
    (hi : (Try.prog.info? ty).map (·.size) = some m'.length) (h1 : ∀ v ∈ m', v.oneCell' = true)
    (h : ∀ w', Blk w' b t (p ++ (m' ++ q)) → w.grownBy w' (some b) → K (a.put o.dst undef) w') : Oper.wp Try.prog o a w K Q := by
  subst hp
  refine wp_store_mid ty x y ho b p.length m'.toArray hx hy (hb.there _ _ (by simp; omega)) (by simpa using hi) (all_oneCell_toArray h1) ?_
  exact h _ (by simpa using Blk.setCells q m' m p w hl hb) (by simpa using grown_setCells b m' p.length w)
theorem oper_all (ty : TypeId) (x y : Operand) (ho : o.op = .store ty x y) (b : Nat) (t : TypeId) (m m' : List Value)
    (hx : a.eval x = .pointer (some ⟨b, 0, none⟩)) (hy : a.eval y = .agg m'.toArray) (hb : Blk w b t m) (hl : m'.length = m.length)
    (hi : (Try.prog.info? ty).map (·.size) = some m'.length) (h1 : ∀ v ∈ m', v.oneCell' = true)
    (h : ∀ w', Blk w' b t m' → w.grownBy w' (some b) → K (a.put o.dst undef) w') : Oper.wp Try.prog o a w K Q :=
  oper_row ty x y ho b 0 t [] m [] m' hx hy rfl (by simpa using hb) hl hi h1 (by simpa using h)
/-! loads of one cell, in a class of worlds -/
theorem q_load {C : World → Prop} {K : Act → Prop} (ty : TypeId) (x : Operand) (ho : o.op = .load ty x) (b k : Nat) (hx : a.eval x = .pointer (some ⟨b, k, none⟩)) (cs : List Value) (d : TypeDesc) (hS : ∀ w, C w → w.rangeAt b k cs)
    (hu : Try.prog.underlying ty = some d) (hd : d.isRow = true) (hi : (Try.prog.info? ty).map (·.size) = some cs.length) (hk : K (a.put o.dst (.agg cs.toArray))) : o.quiet Try.prog a C K :=
  ⟨_, fun w hw => by
    unfold Oper.quietAt execOp
    simp only [ho, hx, Instr.loadAt, Instr.sureAddr, Sem.run_bind, Sem.run_pure, Result.andThen_ok, run_loadVar_mid w b k ty cs d (hS w hw) hu hd hi]
    exact ⟨rfl, rfl⟩, hk⟩
theorem enters {P : Program} {f : FuncId} {fn : Func} {c : Code} (hf : P.funcs[f]? = some fn) (hname : (fn.name == "runtime.NumGoroutine") = false) (hb : fn.body = some c) : ∀ (args : Array Value) (w : World), (callFunc f args).run P w = .ok (.enter f args) w := by
  intro args w
  have h1 : fn.name ≠ "runtime.NumGoroutine" := by simpa using hname
  simp [callFunc, hf, h1, hb]
/-! ### digests are held against each other -/
#print axioms q_load
end Go.Proofs.Yteokjfpppmnebaa
