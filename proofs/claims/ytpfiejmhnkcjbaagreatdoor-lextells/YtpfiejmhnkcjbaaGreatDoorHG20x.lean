/-
   · 
-/
import Derived.Test.YtpfiejmhnkcjbaaGreatDoorHG0x
import Derived.Test.YtpfiejmhnkcjbaaGreatDoorHG6x
import Derived.Deep.MidRow
import Derived.Maps.AppendAt
namespace Go.Proofs.YtpfiejmhnkcjbaaGreatDoor.D6
open Go.RowKit
set_option linter.unusedVariables false
def Blk (w : World) (b : Nat) (t : TypeId) (vs : List Value) : Prop := w.heap[b]? = some (.cells vs.toArray t (0, 0))
theorem Blk.lt {w : World} {b : Nat} {t : TypeId} {vs : List Value} (h : Blk w b t vs) : b < w.heap.size := (Array.getElem?_eq_some_iff.1 h).1
theorem Blk.cell {w : World} {b : Nat} {t : TypeId} {vs : List Value} (h : Blk w b t vs) (i : Nat) : w.cell? ⟨b, i, none⟩ = vs[i]? := by
 rw [cell_of_row w b i _ t (0, 0) h]; simp
theorem Blk.frozen {w : World} {b : Nat} {t : TypeId} {vs : List Value} (h : Blk w b t vs) (i : Nat) : w.frozen? ⟨b, i, none⟩ = false := frozen_of_row w b i _ t h
theorem Blk.all {w : World} {b : Nat} {t : TypeId} {m : List Value} (h : Blk w b t m) : w.rangeAt b 0 m := fun j v hj => by
 rw [h.cell, Nat.zero_add, hj]
theorem Blk.there {w : World} {b : Nat} {t : TypeId} {vs : List Value} (h : Blk w b t vs) (o n : Nat) (hn : o + n <= vs.length) : w.there b o n := fun j hj => by
 refine ⟨?_, h.frozen _⟩
 rw [h.cell, List.getElem?_eq_getElem (by omega)]; rfl
theorem Blk.kept {w w' : World} {b : Nat} {t : TypeId} {vs : List Value} {row : Option Nat} (h : Blk w b t vs) (hg : w.grownBy w' row) (hne : some b ≠ row) : Blk w' b t vs := by
 unfold Blk; rw [hg.block b h.lt hne]; exact h
theorem Blk.below {w w' : World} {b B : Nat} {t : TypeId} {vs : List Value} (h : Blk w b t vs) (hg : Below B w w') (hb : b < B) : Blk w' b t vs := by
 unfold Blk; rw [hg.block b hb]; exact h
theorem Blk.alloc {w : World} {b : Nat} {t : TypeId} {vs : List Value} (h : Blk w b t vs) (o : Obj) : Blk (w.alloc o) b t vs := h.kept (World.grownBy_alloc w o none) (by simp)
theorem blk_new (w : World) (t : TypeId) (vs : List Value) : Blk (w.alloc (.cells vs.toArray t)) w.heap.size t vs := heap_alloc_new w _
theorem grown_setCell (w : World) (a : Addr) (u : Value) : w.grownBy (w.setCell a u) (some a.block) :=
 ⟨rfl, rfl, rfl, by simp [World.setCell], fun k _ hk => Below.heap_setCell _ _ _ _ (fun e => hk (by rw [e]))⟩
theorem Blk.set {w : World} {b : Nat} {t : TypeId} {vs : List Value} (h : Blk w b t vs) (i : Nat) (v : Value) : Blk (w.setCell ⟨b, i, none⟩ v) b t (vs.set i v) := by
 have := heap_setCell_same w b i _ t v h
 unfold Blk; rw [this]; simp
theorem grown_setCells (b : Nat) : ∀ (vs : List Value) (o : Nat) (w : World), w.grownBy (w.setCells b o vs) (some b)
 | [], _, w => World.grownBy.refl w _
 | v :: r, o, w => (grown_setCell w ⟨b, o, none⟩ v).trans (grown_setCells b r (o + 1) _)
theorem Blk.setCells {b : Nat} {t : TypeId} (q : List Value) : ∀ (m' m p : List Value) (w : World), m'.length = m.length -> Blk w b t (p ++ (m ++ q)) -> Blk (w.setCells b p.length m') b t (p ++ (m' ++ q))
 | [], [], p, w, _, h => h
 | v :: r, u :: m, p, w, hl, h => by
   have h1 := h.set p.length v
   have e : (p ++ (u :: m ++ q)).set p.length v = (p ++ [v]) ++ (m ++ q) := by
    rw [List.set_append_right _ _ (Nat.le_refl _), Nat.sub_self]; simp
   rw [e] at h1
   have h2 := Blk.setCells q r m (p ++ [v]) _ (by simpa using hl) h1
   rw [World.setCells]
   simpa using h2
section
variable {P : Program} {ops : Array Oper} {rest : List Oper} {o : Oper} {a : Act} {w : World} {Q : Exit -> Act -> World -> Prop}
theorem al_zero (hg : o.guard = none) (t : TypeId) (ho : o.op = .alloc t) (cs : List Value) (hz : (P.info? t).map (fun i => i.zero.map (·.cells)) = some (some cs.toArray))
 (h : ∀ g w', w.heap.size <= g -> Blk w' g t cs -> w.grownBy w' none -> wpList P ops Q rest (a.put o.dst (.pointer (some ⟨g, 0, none⟩))) w') : wpList P ops Q (o :: rest) a w := by
 refine wpList_plain hg fun K hK => ?_
 unfold Oper.wp execOp
 cases hi : P.info? t with
 | none => simp [hi] at hz
 | some i =>
   cases hq : i.zero with
   | none => simp [hi, hq] at hz
   | some z =>
     have hc : z.cells = cs.toArray := by simpa [hi, hq] using hz
     have hzv : (zeroValue t).run P w = .ok z w := by simp [zeroValue, typeInfo, hi, hq]
     simp only [ho, Sem.run_bind, Instr.alloc, hzv, newVar, newRow, run_newObj_alloc, Sem.run_pure, Result.andThen_ok, hc]
     exact hK _ _ (h _ _ (Nat.le_refl _) (blk_new w t cs) (World.grownBy_alloc w _ none))
theorem st_row (hg : o.guard = none) (ty : TypeId) (x y : Operand) (ho : o.op = .store ty x y) (b off : Nat) (t : TypeId) (p m q m' : List Value)
 (hx : a.eval x = .pointer (some ⟨b, off, none⟩)) (hy : a.eval y = .agg m'.toArray) (hp : p.length = off) (hb : Blk w b t (p ++ (m ++ q))) (hl : m'.length = m.length)
 (hi : (P.info? ty).map (·.size) = some m'.length) (h1 : ∀ v ∈ m', v.oneCell' = true)
 (h : ∀ w', Blk w' b t (p ++ (m' ++ q)) -> w.grownBy w' (some b) -> wpList P ops Q rest (a.put o.dst undef) w') : wpList P ops Q (o :: rest) a w := by
 subst hp
 refine wpList_store_mid hg ty x y ho b p.length m'.toArray hx hy (hb.there _ _ (by simp; omega)) (by simpa using hi) (all_oneCell_toArray h1) ?_
 exact h _ (by simpa using Blk.setCells q m' m p w hl hb) (by simpa using grown_setCells b m' p.length w)
theorem st_all (hg : o.guard = none) (ty : TypeId) (x y : Operand) (ho : o.op = .store ty x y) (b : Nat) (t : TypeId) (m m' : List Value)
 (hx : a.eval x = .pointer (some ⟨b, 0, none⟩)) (hy : a.eval y = .agg m'.toArray) (hb : Blk w b t m) (hl : m'.length = m.length)
 (hi : (P.info? ty).map (·.size) = some m'.length) (h1 : ∀ v ∈ m', v.oneCell' = true)
 (h : ∀ w', Blk w' b t m' -> w.grownBy w' (some b) -> wpList P ops Q rest (a.put o.dst undef) w') : wpList P ops Q (o :: rest) a w :=
 st_row hg ty x y ho b 0 t [] m [] m' hx hy rfl (by simpa using hb) hl hi h1 (fun w' h2 h3 => h w' (by simpa using h2) h3)
theorem ld_all (hg : o.guard = none) (ty : TypeId) (x : Operand) (ho : o.op = .load ty x) (b : Nat) (t : TypeId) (m : List Value) (d : TypeDesc)
 (hx : a.eval x = .pointer (some ⟨b, 0, none⟩)) (hb : Blk w b t m) (hu : P.underlying ty = some d) (hd : d.isRow = true) (hi : (P.info? ty).map (·.size) = some m.length)
 (h : wpList P ops Q rest (a.put o.dst (.agg m.toArray)) w) : wpList P ops Q (o :: rest) a w :=
 wpList_load_mid hg ty x ho b 0 hx m _ hb.all hu hd hi h
theorem res_row {fn : Func} {p : Tmp} {ty : TypeId} (h : fn.results = #[.cell p ty]) (tmps : Array Value) (g : Nat) (t : TypeId) (cs : List Value) (d : TypeDesc)
 (hp : tmps.getD p undef = .pointer (some ⟨g, 0, none⟩)) (hg : Blk w g t cs) (hu : P.underlying ty = some d) (hd : d.isRow = true) (hi : (P.info? ty).map (·.size) = some cs.length) :
 (results fn tmps).run P w = .ok (.agg cs.toArray) w :=
 results_cell_row h tmps w g t cs.toArray (0, 0) d hp hg hu (by cases d <;> simp_all [TypeDesc.isRow]) (by simpa using hi)
theorem res_two {fn : Func} {p q : Tmp} {ty : TypeId} (h : fn.results = #[.cell p ty, .tmp q]) (tmps : Array Value) (g : Nat) (t : TypeId) (cs : List Value) (d : TypeDesc)
 (hp : tmps.getD p undef = .pointer (some ⟨g, 0, none⟩)) (hg : Blk w g t cs) (hu : P.underlying ty = some d) (hd : d.isRow = true) (hi : (P.info? ty).map (·.size) = some cs.length) :
 (results fn tmps).run P w = .ok (.tuple #[.agg cs.toArray, tmps.getD q undef]) w := by
 have hp' : tmps[p]?.getD undef = .pointer (some ⟨g, 0, none⟩) := by simpa using hp
 simp [results, h, hp', asAddr, run_loadVar_row w g t ty cs.toArray (0, 0) d hg hu (by cases d <;> simp_all [TypeDesc.isRow]) (by simpa using hi)]
end
theorem oper_row {P : Program} {o : Oper} {a : Act} {w : World} {K : Act -> World -> Prop} {Q : Exit -> Act -> World -> Prop} (ty : TypeId) (x y : Operand) (ho : o.op = .store ty x y) (b off : Nat) (t : TypeId) (p m q m' : List Value)
 (hx : a.eval x = .pointer (some ⟨b, off, none⟩)) (hy : a.eval y = .agg m'.toArray) (hp : p.length = off) (hb : Blk w b t (p ++ (m ++ q))) (hl : m'.length = m.length)
 (hi : (P.info? ty).map (·.size) = some m'.length) (h1 : ∀ v ∈ m', v.oneCell' = true)
 (h : ∀ w', Blk w' b t (p ++ (m' ++ q)) -> w.grownBy w' (some b) -> K (a.put o.dst undef) w') : Oper.wp P o a w K Q := by
 subst hp
 refine wp_store_mid ty x y ho b p.length m'.toArray hx hy (hb.there _ _ (by simp; omega)) (by simpa using hi) (all_oneCell_toArray h1) ?_
 exact h _ (by simpa using Blk.setCells q m' m p w hl hb) (by simpa using grown_setCells b m' p.length w)
theorem q_load {P : Program} {C : World -> Prop} {a : Act} {o : Oper} {K : Act -> Prop} (ty : TypeId) (x : Operand) (ho : o.op = .load ty x) (b k : Nat) (hx : a.eval x = .pointer (some ⟨b, k, none⟩)) (cs : List Value) (d : TypeDesc) (hS : ∀ w, C w -> w.rangeAt b k cs)
 (hu : P.underlying ty = some d) (hd : d.isRow = true) (hi : (P.info? ty).map (·.size) = some cs.length) (hk : K (a.put o.dst (.agg cs.toArray))) : o.quiet P a C K :=
 ⟨_, fun w hw => by
   unfold Oper.quietAt execOp
   simp only [ho, hx, Instr.loadAt, Instr.sureAddr, Sem.run_bind, Sem.run_pure, Result.andThen_ok, run_loadVar_mid w b k ty cs d (hS w hw) hu hd hi]
   exact ⟨rfl, rfl⟩, hk⟩
end Go.Proofs.YtpfiejmhnkcjbaaGreatDoor.D6
namespace Go.Proofs.YtpfiejmhnkcjbaaGreatDoor.D6
open Go Go.RowKit
def Grow (w w' : World) : Prop := Below w.heap.size w w'
theorem Grow.refl (w : World) : Grow w w := Below.refl _ _
theorem Grow.trans {a b c : World} (h : Grow a b) (k : Grow b c) : Grow a c := Below.trans h (Below.mono k h.size)
theorem Grow.drew {w w' : World} (h : Grow w w') : Grow w { w' with drawn := w'.drawn + 1 } := Below.drew h
theorem Grow.alloc {w w' : World} (h : Grow w w') (o : Obj) : Grow w (w'.alloc o) := Below.alloc h h.size o
theorem Blk.grow {w w' : World} {b : Nat} {t : TypeId} {vs : List Value} (h : Blk w b t vs) (g : Grow w w') : Blk w' b t vs := h.below g h.lt
structure Chg (b : Nat) (w w' : World) : Prop where
 os : w'.os = w.os
 tape : w'.tape = w.tape
 output : w'.output = w.output
 size : w.heap.size <= w'.heap.size
 block : ∀ k, k < w.heap.size -> k ≠ b -> w'.heap[k]? = w.heap[k]?
theorem Chg.of {b : Nat} {w w1 w2 : World} (g : Grow w w1) (h : w1.grownBy w2 (some b)) : Chg b w w2 :=
 ⟨h.os.trans g.os, h.tape.trans g.tape, h.output.trans g.output, Nat.le_trans g.size h.size, fun k hk hb => (h.block k (Nat.lt_of_lt_of_le hk g.size) (by intro e; injection e with e; exact hb e)).trans (g.block k hk)⟩
theorem Blk.chg {w w' : World} {b c : Nat} {t : TypeId} {vs : List Value} (h : Blk w c t vs) (g : Chg b w w') (hne : c ≠ b) : Blk w' c t vs := by
 unfold Blk; rw [g.block c h.lt hne]; exact h
theorem Chg.below {b B : Nat} {w0 w w' : World} (h : Below B w0 w) (g : Chg b w w') (hB : B <= w.heap.size) (hb : B <= b) : Below B w0 w' :=
 h.trans ⟨g.os, g.tape, g.output, g.size, fun k hk => g.block k (by omega) (by omega)⟩
theorem enters {P : Program} {f : FuncId} {fn : Func} {c : Code} (hf : P.funcs[f]? = some fn) (hname : (fn.name == "runtime.NumGoroutine") = false) (hb : fn.body = some c) : ∀ (args : Array Value) (w : World), (callFunc f args).run P w = .ok (.enter f args) w := by
 intro args w
 have h1 : fn.name ≠ "runtime.NumGoroutine" := by simpa using hname
 simp [callFunc, hf, h1, hb]
section
variable {P : Program} {ops : Array Oper} {C : World -> Prop} {Z : List Nat} {Q : Exit -> Act -> World -> Prop}
def anyR (P : Program) (ops : Array Oper) (Z : List Nat) (Q : Exit -> Act -> World -> Prop) : Nat -> Array Bool -> Act -> World -> Prop
 | 0, listed, a, w => ∀ w', Grow w w' -> Region.ready .any ops listed = [] /\ Q .normal a w'
 | n + 1, listed, a, w => ∀ w', Grow w w' -> (Region.ready .any ops listed = [] -> Q .normal a w') /\
     ∀ i ∈ Region.ready .any ops listed, wpOp P ops Q i (fun a' w'' => (i ∈ Z ∨ Grow w' w'') /\ anyR P ops Z Q n (listed.setIfInBounds i true) a' w'') a w'
theorem anyR_any : ∀ (n : Nat) (listed : Array Bool) (a : Act) (w : World), anyR P ops Z (Whole Q) n listed a w -> wpAny P .any ops Q n listed a w
 | 0, _, _, w, h => ⟨(h w (Grow.refl w)).1, (h w (Grow.refl w)).2.2⟩
 | n + 1, _, _, w, h => ⟨fun h0 => ((h w (Grow.refl w)).1 h0).2, fun i hi => wpOp_mono (fun a' w' h' => anyR_any n _ a' w' h'.2) (whole_op ((h w (Grow.refl w)).2 i hi))⟩
theorem anyR_grow {n : Nat} {listed : Array Bool} {a : Act} {w w' : World} (h : anyR P ops Z Q n listed a w) (g : Grow w w') : anyR P ops Z Q n listed a w' := by
 cases n with
 | zero => exact fun w'' g' => h w'' (g.trans g')
 | succ n => exact fun w'' g' => h w'' (g.trans g')
def Pur (P : Program) (ops : Array Oper) (C : World -> Prop) (o : Oper) (v : Value) (a : Act) : Prop :=
 (Region.wanted o (yielded ops a.tmps) = true /\ ∀ w, C w -> Oper.quietUpon P (fun w'' => Grow w w'') w v ((execOp a.eval o).run P w)) ∨ (Region.wanted o (yielded ops a.tmps) = false /\ v = undef)
theorem Pur.op {i : Nat} {o : Oper} {v : Value} {a : Act} {w : World} (hi : ops[i]? = some o) (hy : Pur P ops C o v a) (hC : C w) {K : Act -> World -> Prop} (h : ∀ w', Grow w w' -> K (a.put o.dst v) w') : wpOp P ops Q i K a w := by
 unfold wpOp
 simp only [hi]
 rcases hy with ⟨hw, hv⟩ | ⟨hw, rfl⟩
 . rw [if_pos hw]
   left
   have h3 := hv w hC
   unfold Oper.wp
   generalize (execOp a.eval o).run P w = r at *
   cases r with
   | ok n w' =>
     cases n <;> simp only [Oper.quietUpon] at h3 <;> simp only [Oper.upon]
     case value u =>
      obtain ⟨rfl, rfl⟩ := h3
      exact h _ (Grow.refl _)
     case skip =>
      obtain ⟨rfl, rfl⟩ := h3
      exact h _ (Grow.refl _)
     case enter f args =>
      obtain ⟨rfl, hc⟩ := h3
      exact hc.mono fun e w'' ⟨he, hw''⟩ => by subst he; exact h _ hw''
   | halt x w' => simp only [Oper.quietUpon] at h3
 . rw [if_neg (by rw [hw]; exact Bool.false_ne_true)]
   exact h _ (Grow.refl _)
theorem Pur.same {o : Oper} {v : Value} {a a' : Act} (hy : Pur P ops C o v a) (he : execOp a'.eval o = execOp a.eval o) (hw : Region.wanted o (yielded ops a'.tmps) = Region.wanted o (yielded ops a.tmps)) : Pur P ops C o v a' := by
 unfold Pur at *
 rw [he, hw]
 exact hy
theorem Pur.behind {oi oj : Oper} {v : Value} {a a' : Act} (hs : ∀ cs b, oi.op ≠ .select cs b) (hap : oi.apart ops oj = true) (hy : Pur P ops C oi v a) (hb : Behind a oj a') : Pur P ops C oi v a' := by
 obtain ⟨_, _, h3⟩ := Oper.apart_spec hap
 obtain ⟨u, rfl | ⟨d, rfl⟩⟩ := hb
 . exact hy.same (execOp_put oi hs a oj.dst u h3) (wanted_put oi a oj.dst u h3)
 . have hy' : Pur P ops C oi v { a with defers := d :: a.defers } := hy.same rfl rfl
   exact hy'.same (execOp_put oi hs _ oj.dst u h3) (wanted_put oi _ oj.dst u h3)
theorem put_firstR {j : Nat} {oi oj : Oper} {v : Value} (hj : ops[j]? = some oj) (hap : oi.apart ops oj = true) (hsi : ∀ cs b, oi.op ≠ .select cs b) (hsj : ∀ cs b, oj.op ≠ .select cs b)
 (hQ : ∀ c (a : Act) (d : Option Tmp) v w, Q (.panic c) (a.put d v) w -> Q (.panic c) a w) {K : Act -> World -> Prop} {a : Act} {w : World} (hy : Pur P ops C oi v a) (h : wpOp P ops Q j K (a.put oi.dst v) w) :
 wpOp P ops Q j (fun a' w' => Pur P ops C oi v a' /\ K (a'.put oi.dst v) w') a w := by
 have h1 := wpOp_put (oi := { oi with op := .move (.const v), guard := none }) (v := v) hj (stand_apart v hap) (fun _ _ e => by cases e) hsj (fun _ _ _ h => hQ _ _ _ _ _ h) (a := a) (.inl ⟨rfl, fun _ => rfl⟩) h
 exact wpOp_mono (fun a' w' h' => ⟨hy.behind hsi hap h'.1, h'.2.2⟩) (op_behind hj h1)
def Closed (ops : Array Oper) (listed : Array Bool) : Prop := ∀ k ok, ops[k]? = some ok -> listed.getD k true = true -> ∀ e ∈ ok.after, Region.binds .any e = true -> listed.getD e.on true = true
def closedB (ops : Array Oper) (listed : Array Bool) : Bool := (List.range ops.size).all fun k => match ops[k]? with
 | some ok => !listed.getD k true || ok.after.all (fun e => !Region.binds .any e || listed.getD e.on true)
 | none => true
theorem closedB_spec {listed : Array Bool} (h : closedB ops listed = true) : Closed ops listed := by
 intro k ok hk hl e he hb
 simp only [closedB, List.all_eq_true] at h
 have hlt : k < ops.size := (Array.getElem?_eq_some_iff.1 hk).1
 have h1 := h k (List.mem_range.2 hlt)
 simp only [hk, hl, Bool.not_true, Bool.false_or, Array.all_eq_true'] at h1
 have h2 := h1 e he
 simpa [hb] using h2
def depOn (ops : Array Oper) : Nat -> Nat -> Nat -> Bool
 | 0, _, _ => false
 | n + 1, z, i => match ops[z]? with
   | some oz => oz.after.any (fun e => Region.binds .any e && (e.on == i || depOn ops n e.on i))
   | none => false
theorem dep_listed {listed : Array Bool} (hc : Closed ops listed) (i : Nat) : ∀ (n z : Nat) (oz : Oper), ops[z]? = some oz -> (∀ e ∈ oz.after, Region.binds .any e = true -> listed.getD e.on true = true) -> depOn ops n z i = true -> listed.getD i true = true
 | 0, _, _, _, _, h => by cases h
 | n + 1, z, oz, hz, ha, h => by
   simp only [depOn, hz, Array.any_eq_true', Bool.and_eq_true, Bool.or_eq_true, beq_iff_eq] at h
   obtain ⟨e, he, hb, h | h⟩ := h
   . rw [<- h]; exact ha e he hb
   . cases hk : ops[e.on]? with
     | none =>
       cases n with
       | zero => cases h
       | succ n => simp [depOn, hk] at h
     | some ok => exact dep_listed hc i n e.on ok hk (hc e.on ok hk (ha e he hb)) h
theorem closed_set {listed : Array Bool} (hc : Closed ops listed) {j : Nat} (hj : j ∈ Region.ready .any ops listed) : Closed ops (listed.setIfInBounds j true) := by
 obtain ⟨hun, oj, hoj, hall⟩ := mem_ready.1 hj
 have up : ∀ k, listed.getD k true = true -> (listed.setIfInBounds j true).getD k true = true := fun k hk => by
  by_cases e : j = k
  . subst e
    rw [hk] at hun
    cases hun
  . rw [getD_set_ne true e]; exact hk
 intro k ok hk hl e he hb
 by_cases ejk : j = k
 . subst ejk
   rw [hoj] at hk
   obtain rfl := Option.some.inj hk
   have := hall e he hb
   by_cases e2 : j = e.on
   . rw [<- e2, Array.getD_eq_getD_getElem?]
     rw [Array.getD_eq_getD_getElem?] at hun
     cases hg : listed[j]? with
     | none => rw [hg] at hun; cases hun
     | some b =>
       have hlt := (Array.getElem?_eq_some_iff.1 hg).1
       simp [hlt]
   . rw [getD_set_ne true e2]
     rw [Array.getD_eq_getD_getElem?] at this ⊢
     cases hg : listed[e.on]? with
     | none => rfl
     | some b => rw [hg] at this; simpa using this
 . rw [getD_set_ne true ejk] at hl
   exact up _ (hc k ok hk hl e he hb)
theorem anyR_first {i : Nat} {oi : Oper} {v : Value} (hi : ops[i]? = some oi) (hz : ∀ z ∈ Z, depOn ops ops.size z i = true) (hsel : Region.noSelect ops = true) (hQ : ∀ c (a : Act) (d : Option Tmp) v w, Q (.panic c) (a.put d v) w -> Q (.panic c) a w) (hG : ∀ w w', C w -> Grow w w' -> C w') :
 ∀ (n : Nat) (listed : Array Bool) (a : Act) (w : World), Closed ops listed -> C w ->
   (∀ j oj, ops[j]? = some oj -> j ≠ i -> listed.getD j true = false -> (∀ e ∈ oj.after, Region.binds .any e = true -> e.on ≠ i) -> oi.apart ops oj = true) ->
   i ∈ Region.ready .any ops listed -> Pur P ops C oi v a -> anyR P ops Z Q n (listed.setIfInBounds i true) (a.put oi.dst v) w -> anyR P ops Z Q (n + 1) listed a w := by
 intro n
 induction n with
 | zero =>
   intro listed a w hcl hC _ hr hy H w' hw'
   refine ⟨fun h => absurd hr (by rw [h]; exact List.not_mem_nil), fun j hj => ?_⟩
   by_cases e : j = i
   . subst e
     exact hy.op hi (hG _ _ hC hw') fun w'' hg => ⟨.inr hg, anyR_grow H (hw'.trans hg)⟩
   . have := ready_mono hj e
     rw [(H w' hw').1] at this
     exact absurd this List.not_mem_nil
 | succ n ih =>
   intro listed a w hcl hC hfree hr hy H w' hw'
   refine ⟨fun h => absurd hr (by rw [h]; exact List.not_mem_nil), fun j hj => ?_⟩
   by_cases e : j = i
   . subst e
     exact hy.op hi (hG _ _ hC hw') fun w'' hg => ⟨.inr hg, anyR_grow H (hw'.trans hg)⟩
   . obtain ⟨hun, oj, hoj, hall⟩ := mem_ready.1 hj
     have hi0 := (mem_ready.1 hr).1
     have hnot : ∀ e ∈ oj.after, Region.binds .any e = true -> e.on ≠ i := fun ed he hb heq => by
      have h1 := hall ed he hb
      rw [heq, Array.getD_eq_getD_getElem?] at h1
      rw [Array.getD_eq_getD_getElem?] at hi0
      cases hg : listed[i]? with
      | none => rw [hg] at hi0; cases hi0
      | some b => rw [hg] at h1 hi0; simp at h1 hi0; rw [h1] at hi0; cases hi0
     have hjz : j ∉ Z := by
      intro hz'
      have h1 := dep_listed hcl i ops.size j oj hoj (fun e he hb => by
       have h3 := hall e he hb
       rw [Array.getD_eq_getD_getElem?] at h3 ⊢
       cases hg : listed[e.on]? with
       | none => rfl
       | some b => rw [hg] at h3; simpa using h3) (hz j hz')
      rw [h1] at hi0
      cases hi0
     have h2 := put_firstR hoj (hfree j oj hoj e hun hnot) (fun cs b => Region.noSelect_spec hsel i oi cs b hi) (fun cs b => Region.noSelect_spec hsel j oj cs b hoj) hQ hy ((H w' hw').2 j (ready_mono hj e))
     refine wpOp_mono (fun a' w'' h3 => ⟨.inr (h3.2.1.resolve_left hjz), ih (listed.setIfInBounds j true) a' w'' (closed_set hcl hj) (hG _ _ hC (hw'.trans (h3.2.1.resolve_left hjz))) (fun k ok hk hki hku hno => hfree k ok hk hki ?_ hno) (ready_mono hr (Ne.symm e)) h3.1 ?_⟩) h2
     . by_cases hjk : j = k
       . rw [<- hjk]; exact hun
       . rw [getD_set_ne true hjk] at hku; exact hku
     . rw [Array.setIfInBounds_comm _ _ e]
       exact h3.2.2
def segBR (ops : Array Oper) (Z : List Nat) : Array Bool -> List Nat -> Bool
 | _, [] => true
 | listed, i :: r => (Z.all (fun z => depOn ops ops.size z i) && closedB ops listed) && ((Region.ready .any ops listed).contains i && (Region.free .any ops listed i && ((match ops[i]? with | some o => atOnce o.op | none => false) && segBR ops Z (listed.setIfInBounds i true) r)))
theorem calm_segR (hsel : Region.noSelect ops = true) (hQ : ∀ c (a : Act) (d : Option Tmp) v w, Q (.panic c) (a.put d v) w -> Q (.panic c) a w) (hG : ∀ w w', C w -> Grow w w' -> C w') {w : World} (hC : C w) (n : Nat) : ∀ (l : List Nat) (L : List Oper) (listed : Array Bool) (a : Act), segBR ops Z listed l = true -> l.map (fun i => ops[i]?) = L.map some ->
 wpQuiet P ops C (fun a' => anyR P ops Z Q n (marks listed l) a' w) L a -> anyR P ops Z Q (n + l.length) listed a w
 | [], [], _, _, _, _, h => h
 | [], _ :: _, _, _, _, e, _ => by cases e
 | _ :: _, [], _, _, _, e, _ => by cases e
 | i :: l, o :: L, listed, a, hB, e, h => by
   simp only [List.map_cons, List.cons.injEq] at e
   obtain ⟨e0, e1⟩ := e
   simp only [segBR, e0, Bool.and_eq_true, List.all_eq_true] at hB
   obtain ⟨⟨hz, hcl⟩, hr, hf, ho, hB'⟩ := hB
   have go : ∀ v, Calm P ops C o v a -> wpQuiet P ops C (fun a' => anyR P ops Z Q n (marks (listed.setIfInBounds i true) l) a' w) L (a.put o.dst v) -> anyR P ops Z Q (n + (i :: l).length) listed a w := fun v hy h' => by
    have hp : Pur P ops C o v a := by
     rcases hy with ⟨h1, h2⟩ | h2
     . exact .inl ⟨h1, fun w hw => by rw [h2 w hw]; exact ⟨rfl, rfl⟩⟩
     . exact .inr h2
    exact anyR_first e0 hz hsel hQ hG (n + l.length) listed a w (closedB_spec hcl) hC (Region.free_spec e0 hf) (by simpa using hr) hp (calm_segR hsel hQ hG hC n l L _ _ hB' e1 h')
   by_cases hw : Region.wanted o (yielded ops a.tmps) = true
   . have h' : o.quiet P a C (wpQuiet P ops C (fun a' => anyR P ops Z Q n (marks (listed.setIfInBounds i true) l) a' w) L) := by
      have := h
      unfold wpQuiet at this
      rw [if_pos hw] at this
      exact this
     obtain ⟨v, hy, hk⟩ := Calm.of_quiet ho hw h'
     exact go v hy hk
   . have h' : wpQuiet P ops C (fun a' => anyR P ops Z Q n (marks (listed.setIfInBounds i true) l) a' w) L (a.put o.dst undef) := by
      have := h
      unfold wpQuiet at this
      rw [if_neg hw] at this
      exact this
     exact go undef (.inr ⟨by simpa using hw, rfl⟩) h'
theorem segR {L : List Oper} {n : Nat} {listed : Array Bool} {a : Act} {w : World} (N : Nat) (l : List Nat) (hn : n = N + l.length) (hsel : Region.noSelect L.toArray = true) (hQ : ∀ c (a : Act) (d : Option Tmp) v w, Q (.panic c) (a.put d v) w -> Q (.panic c) a w) (hG : ∀ w w', C w -> Grow w w' -> C w') (hC : C w)
 (hB : segBR L.toArray Z listed l = true) (h : wpQuiet P L.toArray C (fun a' => anyR P L.toArray Z Q N (marks listed l) a' w) (picks L l) a) : anyR P L.toArray Z Q n listed a w := by
 subst hn
 refine calm_segR hsel hQ hG hC N l (picks L l) listed a hB ?_ h
 clear h
 induction l generalizing listed with
 | nil => rfl
 | cons i r ih =>
   simp only [segBR, Bool.and_eq_true] at hB
   have h1 := ih hB.2.2.2.2
   have h2 := hB.2.2.2.1
   rw [List.getElem?_toArray, <- nth_eq] at h2
   unfold picks
   cases hg : nth L i with
   | none => rw [hg] at h2; cases h2
   | some o =>
     simp only [List.map_cons]
     rw [h1, List.getElem?_toArray, <- nth_eq, hg]
def firstB (ops : Array Oper) (Z : List Nat) (listed : Array Bool) (i : Nat) : Bool := (Z.all (fun z => depOn ops ops.size z i) && closedB ops listed) && ((Region.ready .any ops listed).contains i && Region.free .any ops listed i)
theorem callR {L : List Oper} {i : Nat} {o : Oper} {n : Nat} {listed : Array Bool} {a : Act} {w : World} (N : Nat) (hn : n = N + 1) (hsel : Region.noSelect L.toArray = true) (hQ : ∀ c (a : Act) (d : Option Tmp) v w, Q (.panic c) (a.put d v) w -> Q (.panic c) a w) (hG : ∀ w w', C w -> Grow w w' -> C w') (hC : C w)
 (hi : nth L i = some o) (hB : firstB L.toArray Z listed i = true) (hw : Region.wanted o (yielded L.toArray a.tmps) = true) (k : Nat) (x : Operand) (xs : Array Operand) (ts : Array TypeId)
 (hop : o.op = Op.call { callee := Callee.value x, args := xs, argTypes := ts }) (hx : a.eval x = .func (.func k) #[] #[]) (args : Array Value) (hargs : xs.map a.eval = args)
 (hent : ∀ (args : Array Value) (w : World), (callFunc k args).run P w = .ok (.enter k args) w) (v : Value)
 (hc : ∀ w, C w -> Calls P k args w fun e w' => e = .returned v /\ Grow w w')
 (h : anyR P L.toArray Z Q N (listed.setIfInBounds i true) (a.put o.dst v) w) : anyR P L.toArray Z Q n listed a w := by
 subst hn
 simp only [firstB, Bool.and_eq_true, List.all_eq_true] at hB
 obtain ⟨⟨hz, hcl⟩, hr, hf⟩ := hB
 have hi' : L.toArray[i]? = some o := by rw [List.getElem?_toArray, <- nth_eq, hi]
 refine anyR_first hi' hz hsel hQ hG N listed a w (closedB_spec hcl) hC (Region.free_spec hi' hf) (by simpa using hr) (.inl ⟨hw, fun w hw => ?_⟩) h
 have : (execOp a.eval o).run P w = .ok (.enter k args) w := by
  simp [execOp, hop, resolve, invoke, hx, hargs, hent, Deferred.ofValue]
 rw [this]
 exact ⟨rfl, hc w hw⟩
theorem one_ofR {L : List Oper} {n : Nat} {listed : Array Bool} {a : Act} {w : World} (N : Nat) (hn : n = N + 1) (is : List Nat) (hr : Region.ready .any L.toArray listed = is) (hne : is ≠ [])
 (h : ∀ i ∈ is, ∃ o, nth L i = some o /\ Region.wanted o (yielded L.toArray a.tmps) = true /\ ∀ w', Grow w w' -> ∀ K : Act -> World -> Prop, (∀ a' w'', (i ∈ Z ∨ Grow w' w'') -> anyR P L.toArray Z Q N (listed.setIfInBounds i true) a' w'' -> K a' w'') -> o.wp P a w' K Q) : anyR P L.toArray Z Q n listed a w := by
 subst hn
 intro w' hw'
 refine ⟨fun h0 => absurd (hr.symm.trans h0) hne, fun j hj => ?_⟩
 rw [hr] at hj
 obtain ⟨o, h1, h2, h3⟩ := h j hj
 unfold wpOp
 simp only [show L.toArray[j]? = some o by rw [List.getElem?_toArray, <- nth_eq, h1]]
 rw [if_pos h2]
 exact .inl (h3 w' hw' _ fun a' w' hC h' => ⟨hC, h'⟩)
theorem oper_newR {o : Oper} {K : Act -> World -> Prop} {a : Act} {w : World} (t : TypeId) (ho : o.op = .alloc t) (cs : List Value) (hz : (P.info? t).map (fun i => i.zero.map (·.cells)) = some (some cs.toArray))
 (hK : K (a.put o.dst (.pointer (some ⟨w.heap.size, 0, none⟩))) (w.alloc (.cells cs.toArray t))) : Oper.wp P o a w K Q := by
 unfold Oper.wp execOp
 cases hi : P.info? t with
 | none => simp [hi] at hz
 | some i =>
   cases hq : i.zero with
   | none => simp [hi, hq] at hz
   | some z =>
     have hc : z.cells = cs.toArray := by simpa [hi, hq] using hz
     have hzv : (zeroValue t).run P w = .ok z w := by simp [zeroValue, typeInfo, hi, hq]
     simp only [ho, Sem.run_bind, Instr.alloc, hzv, newVar, newRow, run_newObj_alloc, Sem.run_pure, Result.andThen_ok, hc]
     exact hK
theorem newR {L : List Oper} {i : Nat} {o : Oper} {n : Nat} {listed : Array Bool} {a : Act} {w : World} (N : Nat) (hn : n = N + 1) (hr : Region.ready .any L.toArray listed = [i]) (hi : nth L i = some o) (hw : Region.wanted o (yielded L.toArray a.tmps) = true) (t : TypeId) (ho : o.op = .alloc t) (cs : List Value) (hz : (P.info? t).map (fun i => i.zero.map (·.cells)) = some (some cs.toArray))
 (h : ∀ b w', Grow w w' -> w.heap.size <= b -> Blk w' b t cs -> anyR P L.toArray Z Q N (listed.setIfInBounds i true) (a.put o.dst (.pointer (some ⟨b, 0, none⟩))) w') : anyR P L.toArray Z Q n listed a w := by
 refine one_ofR N hn [i] hr (by simp) fun j hj => ?_
 obtain rfl := List.mem_singleton.1 hj
 refine ⟨o, hi, hw, fun w' hg K hK => oper_newR t ho cs hz (hK _ _ (.inr ((Grow.refl w').alloc _)) (h _ _ (hg.alloc _) hg.size (blk_new w' t cs)))⟩
theorem storeR {L : List Oper} {i : Nat} {o : Oper} {n : Nat} {listed : Array Bool} {a : Act} {w : World} (N : Nat) (hn : n = N + 1) (hr : Region.ready .any L.toArray listed = [i]) (hZ : i ∈ Z) (hi : nth L i = some o) (hw : Region.wanted o (yielded L.toArray a.tmps) = true) (ty : TypeId) (x y : Operand) (ho : o.op = .store ty x y)
 (b : Nat) (t : TypeId) (m m' : List Value) (hx : a.eval x = .pointer (some ⟨b, 0, none⟩)) (hy : a.eval y = .agg m'.toArray) (hb : Blk w b t m) (hl : m'.length = m.length) (hs : (P.info? ty).map (·.size) = some m'.length) (h1 : ∀ v ∈ m', v.oneCell' = true)
 (h : ∀ w', Blk w' b t m' -> Chg b w w' -> anyR P L.toArray Z Q N (listed.setIfInBounds i true) (a.put o.dst undef) w') : anyR P L.toArray Z Q n listed a w := by
 refine one_ofR N hn [i] hr (by simp) fun j hj => ?_
 obtain rfl := List.mem_singleton.1 hj
 refine ⟨o, hi, hw, fun w' hg K hK => ?_⟩
 refine oper_row ty x y ho b 0 t [] m [] m' hx hy rfl (by simpa using hb.grow hg) hl hs h1 fun w2 b2 g2 => hK _ _ (.inl hZ) (h w2 (by simpa using b2) (Chg.of hg g2))
theorem loneR {L : List Oper} {i : Nat} {o : Oper} {n : Nat} {listed : Array Bool} {a : Act} {w : World} (N : Nat) (hn : n = N + 1) (hr : Region.ready .any L.toArray listed = [i]) (hi : nth L i = some o) (ho : atOnce o.op = true) (hG : ∀ w w', C w -> Grow w w' -> C w') (hC : C w)
 (h : wpQuiet P L.toArray C (fun a' => anyR P L.toArray Z Q N (listed.setIfInBounds i true) a' w) [o] a) : anyR P L.toArray Z Q n listed a w := by
 subst hn
 have hi' : L.toArray[i]? = some o := by rw [List.getElem?_toArray, <- nth_eq, hi]
 intro w' hw'
 refine ⟨fun h0 => (by rw [hr] at h0; cases h0), fun j hj => ?_⟩
 rw [hr] at hj
 obtain rfl := List.mem_singleton.1 hj
 by_cases hw : Region.wanted o (yielded L.toArray a.tmps) = true
 . have h' : o.quiet P a C (wpQuiet P L.toArray C (fun a' => anyR P L.toArray Z Q N (listed.setIfInBounds j true) a' w) []) := by
    have := h
    unfold wpQuiet at this
    rw [if_pos hw] at this
    exact this
   obtain ⟨v, hy, hk⟩ := Calm.of_quiet ho hw h'
   exact hy.op hi' (hG _ _ hC hw') ⟨.inr (Grow.refl _), anyR_grow hk hw'⟩
 . have h' : wpQuiet P L.toArray C (fun a' => anyR P L.toArray Z Q N (listed.setIfInBounds j true) a' w) [] (a.put o.dst undef) := by
    have := h
    unfold wpQuiet at this
    rw [if_neg hw] at this
    exact this
   exact Calm.op (v := undef) hi' (.inr ⟨by simpa using hw, rfl⟩) (hG _ _ hC hw') ⟨.inr (Grow.refl _), anyR_grow h' hw'⟩
theorem doneR {n : Nat} {listed : Array Bool} {a : Act} {w : World} (hr : Region.ready .any ops listed = []) (h : ∀ w', Grow w w' -> Q .normal a w') : anyR P ops Z (Whole Q) n listed a w := by
 cases n with
 | zero => exact fun w' g => ⟨hr, rfl, h w' g⟩
 | succ n => exact fun w' g => ⟨fun _ => ⟨rfl, h w' g⟩, by rw [hr]; simp⟩
theorem region_grow {id : Nat} {a : Act} {w : World} (Z : List Nat) (hm : P.follows .mixedOrders = true) (h : anyR P ops Z (Whole Q) ops.size (Array.replicate ops.size false) a { w with drawn := w.drawn + 1 }) : (Code.region id ops true).wp P Q a w :=
 wp_region_any hm (anyR_any _ _ _ _ h)
end
end Go.Proofs.YtpfiejmhnkcjbaaGreatDoor.D6
