/-
  Rows of digests and of halves in memory, and the operations on them. · How many bits a number has (mathematics), and how many of its last ones are nought: math/bits.TrailingZeros. · math/bits.Len64 of the library, laid at this program's numbers. · How many bits a number has: math/bits.Len. · The contracts of digest.Node and digest.Chain. · Halves: where one begins and ends, on which side it stands; the last whole one; the node of two roots; the document's own half. · merkle.half.join: the node of a half's root and that of what stands beside it; others: the halves beside a way. · merkle.half.others: the halves that stand beside a way. · merkle.Verify: whether hashes prove a leaf. · Regions that draw their order and make variables.
-/
import Derived.Test.YtlefdnjokppibaaGreatDoorVG42x
import Derived.Test.YtlefdnjokppibaaGreatDoorVG14x
import Derived.Test.YtlefdnjokppibaaGreatDoorVG17x
import Derived.Test.YtlefdnjokppibaaGreatDoorVG5x
import Derived.Laws.AppendOwnNone
import Derived.Laws.MakeOwn
import Derived.Test.YtlefdnjokppibaaGreatDoorVG13x
import Derived.Lib.ItoaNum
import Derived.Shelf.Spec.TrailingZeros
import Derived.Shelf.Strconv.Itoa0
import Derived.Test.YtlefdnjokppibaaGreatDoorProg
import Derived.Test.YtlefdnjokppibaaGreatDoorVG20x
import Derived.BigQuiet
import Derived.WalkSmall
namespace Go.Proofs.YtlefdnjokppibaaGreatDoor.Mer
open Go.RowKit Sh
/-- a digest. -/
def Hh (h : List Nat) : Prop := h.length = 32 ∧ Oct h
def Hl (L : List (List Nat)) : Prop := ∀ h ∈ L, Hh h
def encV (x : Nat × Nat) : List Value := [.int .i64 (x.1 : Int), .int .i64 (x.2 : Int)]
theorem Hl.take {L : List (List Nat)} (h : Hl L) (k : Nat) : Hl (L.take k) := fun x hx => h x (List.mem_of_mem_take hx)
theorem Hl.drop {L : List (List Nat)} (h : Hl L) (k : Nat) : Hl (L.drop k) := fun x hx => h x (List.mem_of_mem_drop hx)
theorem Hl.app {L M : List (List Nat)} (h : Hl L) (g : Hl M) : Hl (L ++ M) := fun x hx => (List.mem_append.1 hx).elim (h x) (g x)
theorem Hl.at {L : List (List Nat)} (h : Hl L) {i : Nat} {x : List Nat} (e : L[i]? = some x) : Hh x := h x (List.mem_of_getElem? e)
section
variable {α : Type} {enc : α → List Value} {n : Nat} {w w' : World} {a : Option Addr} {L : List α}
/-- a slice's elements, each of n cells. -/
def ES (enc : α → List Value) (n : Nat) (w : World) (a : Option Addr) (L : List α) : Prop := L = [] ∨ ∃ b off, a = some ⟨b, off, none⟩ ∧ ∀ i x, L[i]? = some x → w.rangeAt b (off + i * n) (enc x)
theorem range_below {b o : Nat} {cs : List Value} (h : w.rangeAt b o cs) (g : Below w.heap.size w w') : w'.rangeAt b o cs := fun j v hj =>
  (g.cell (p := ⟨b, o + j, none⟩) (World.block_lt_of_cell? w _ (h j v hj))).trans (h j v hj)
theorem ES.at (h : ES enc n w a L) {i : Nat} {x : α} (hx : L[i]? = some x) : ∃ b off, a = some ⟨b, off, none⟩ ∧ w.rangeAt b (off + i * n) (enc x) := by
  rcases h with h | ⟨b, off, e, h⟩
  · rw [h] at hx; cases hx
  · exact ⟨b, off, e, h i x hx⟩
theorem flat_at (hn : ∀ x ∈ L, (enc x).length = n) : ∀ (i : Nat) (x : α), L[i]? = some x → ∀ j v, (enc x)[j]? = some v → (L.flatMap enc)[i * n + j]? = some v := by
  induction L with
  | nil => intro i x h; cases h
  | cons y r ih =>
    intro i x h j v hv
    have hy := hn y (by simp)
    rw [List.flatMap_cons]
    cases i with
    | zero =>
      simp at h
      subst h
      rw [Nat.zero_mul, Nat.zero_add, List.getElem?_append_left (List.getElem?_eq_some_iff.1 hv).1]
      exact hv
    | succ i =>
      simp at h
      rw [List.getElem?_append_right (by rw [hy, Nat.succ_mul]; omega), hy, show (i + 1) * n + j - n = i * n + j by rw [Nat.succ_mul]; omega]
      exact ih (fun z hz => hn z (by simp [hz])) i x h j v hv
theorem flat_len (hn : ∀ x ∈ L, (enc x).length = n) : (L.flatMap enc).length = L.length * n := by
  induction L with
  | nil => simp
  | cons y r ih => rw [List.flatMap_cons, List.length_append, hn y (by simp), ih (fun z hz => hn z (by simp [hz])), List.length_cons, Nat.succ_mul]; omega
/-- a row of the call's own. -/
def OwE (enc : α → List Value) (t : TypeId) (n : Nat) (w : World) (base : Nat) (v : Value) (L : List α) : Prop := w.ownsRow base t n v L.length (L.flatMap enc) ∧ ∀ x ∈ L, (enc x).length = n
theorem OwE.es {t : TypeId} {base : Nat} {v : Value} (h : OwE enc t n w base v L) : ∃ a cap, v = .slice a L.length cap ∧ L.length ≤ cap ∧ (a = none → cap = 0 ∧ L = []) ∧ ES enc n w a L ∧ ∀ ad, a = some ad → base ≤ ad.block ∧ ad.block < w.heap.size := by
  obtain ⟨h, hn⟩ := h
  have hc := @World.ownsRow.cells w base t n v L.length (L.flatMap enc) h
  have hlt := h.lt
  rcases h.2 with ⟨rfl, h0⟩ | ⟨g, cap, cur, rfl, hb, hg, hle, hm, hs, ht⟩
  · have : L = [] := List.eq_nil_of_length_eq_zero h0
    subst this
    exact ⟨none, 0, rfl, Nat.le_refl _, fun _ => ⟨rfl, rfl⟩, .inl rfl, fun _ e => by cases e⟩
  · refine ⟨_, cap, rfl, hle, (fun e => by cases e), .inr ⟨g, 0, rfl, fun i x hx j v hv => ?_⟩, (fun ad e => by cases e; exact hlt g rfl)⟩
    have := hc rfl (i * n + j) v (flat_at hn i x hx j v hv)
    rw [Addr.add_lit] at this
    simpa using this
theorem OwE.kept {t : TypeId} {base : Nat} {v : Value} {row : Option Nat} (h : OwE enc t n w base v L) (g : w.grownBy w' row) (hne : ∀ k, v.ownBlock = some k → row ≠ some k) : OwE enc t n w' base v L :=
  ⟨h.1.kept g (by
    cases e : v.ownBlock with
    | none => exact .inl rfl
    | some k => exact .inr fun h => hne k e h.symm), h.2⟩
end
/-! ### operations -/
theorem fold_set : ∀ (cs : List Value) (k : Nat) (Z : List Value), k + cs.length ≤ Z.length → (cs.zipIdx k).foldl (fun (c : Array Value) (p : Value × Nat) => c.setIfInBounds (0 + p.2) p.1) Z.toArray = (Z.take k ++ (cs ++ Z.drop (k + cs.length))).toArray
  | [], k, Z, h => by simp
  | x :: r, k, Z, h => by
    simp only [List.length_cons] at h
    rw [List.zipIdx_cons, List.foldl_cons]
    simp only [Nat.zero_add, List.setIfInBounds_toArray]
    have := fold_set r (k + 1) (Z.set k x) (by rw [List.length_set]; omega)
    simp only [Nat.zero_add] at this
    rw [this]
    congr 1
    have e1 : (Z.set k x).take (k + 1) = Z.take k ++ [x] := by
      rw [List.take_succ_eq_append_getElem (by rw [List.length_set]; omega), List.take_set, List.getElem_set_self]
      rw [List.set_eq_of_length_le (by rw [List.length_take]; omega)]
    have e2 : (Z.set k x).drop (k + 1 + r.length) = Z.drop (k + (r.length + 1)) := by
      rw [List.drop_set_of_lt (by omega)]; congr 1; omega
    rw [e1, e2, List.length_cons]
    simp
theorem fill_one (cs Z : List Value) (n : Nat) (h1 : cs.length = n) (h2 : Z.length = n) : Instr.fill (fun i => some (i * n, n)) Z.toArray [(0, .agg cs.toArray)] = some cs.toArray := by
  have := fold_set cs 0 Z (by omega)
  unfold Instr.fill
  simp only [Value.cells, List.size_toArray, h1, h2, Nat.zero_mul, Nat.zero_add, ne_eq, not_true_eq_false, decide_false, Bool.false_or, gt_iff_lt, Nat.lt_irrefl, Bool.false_eq_true, if_false]
  rw [Instr.fill]
  rw [h1, List.drop_of_length_le (by omega)] at this
  simp only [Nat.zero_add, List.take_zero, List.nil_append, List.append_nil] at this
  congr 1
  simpa using this
section
variable {ops : Array Oper} {rest : List Oper} {o : Oper} {a : Act} {w : World} {K : Act → World → Prop} {Q : Exit → Act → World → Prop}
/-- a slice of one element of several cells. -/
theorem bs_one (t e : TypeId) (x : Operand) (ho : o.op = .buildSlice t 1 #[(0, x)]) (ht : Tryz.prog.underlying t = some (.slice e)) (n : Nat) (hn : 0 < n) (hn2 : n ≤ 1000) (z : List Value) (hs : ∀ w, (Go.sizeOf e).run Tryz.prog w = .ok n w) (hz : ∀ w, (zeroValue e).run Tryz.prog w = .ok (.agg z.toArray) w) (cs : List Value) (hc : cs.length = n)
    (hx : a.eval x = .agg cs.toArray) (h : K (a.put o.dst (.slice (some ⟨w.heap.size, 0, none⟩) 1 1)) (w.alloc (.cells cs.toArray e))) : Oper.wp Tryz.prog o a w K Q := by
  unfold Oper.wp execOp
  have hf := fill_one cs ((Array.range (1 * n)).map (fun i => (z.toArray[i % z.toArray.size]!))).toList n hc (by simp)
  simp only [Array.toArray_toList] at hf
  have h0 : ¬ (1 * n = 0) := by omega
  have h1 : ¬ (1 * n > 2 ^ 24) := by omega
  simp only [ho, Instr.buildSlice, Sem.run_bind, run_underlying ht, Result.andThen_ok, hs, hz, h0, h1, if_false, Sem.run_pure, List.map_toArray, List.map_cons, List.map_nil, hx, Value.cells]
  erw [hf]
  simp only [newRow, Sem.run_bind, Sem.run_pure]
  exact h
/-- a load of several cells, in a straight walk. -/
theorem ld_mid (hg : o.guard = none) (ty : TypeId) (x : Operand) (ho : o.op = .load ty x) (b k : Nat) (hx : a.eval x = .pointer (some ⟨b, k, none⟩)) (cs : List Value) (d : TypeDesc) (hS : w.rangeAt b k cs) (hu : Tryz.prog.underlying ty = some d) (hd : d.isRow = true) (hi : (Tryz.prog.info? ty).map (·.size) = some cs.length)
    (h : wpList Tryz.prog ops Q rest (a.put o.dst (.agg cs.toArray)) w) : wpList Tryz.prog ops Q (o :: rest) a w :=
  wpList_plain hg fun _ hK => wp_load_mid ty x ho b k hx cs d hS hu hd hi (hK _ _ h)
/-- append of elements onto a row of the call's own. -/
theorem app_wp {α : Type} {enc : α → List Value} {n : Nat} (s x : Operand) (t e : TypeId) (ho : o.op = .call { callee := .builtin .append, args := #[s, x], argTypes := #[t, t] }) (ht : Tryz.prog.underlying t = some (.slice e)) (z : List Value) (bytes : Nat)
    (hi : (Tryz.prog.info? e).map (fun i => (i.zero, i.size, i.bytes)) = some (some (.agg z.toArray), n, bytes)) (hz : z.length = n) (hn : 0 < n) (hb : bytes ≤ 1000) (base : Nat) (v : Value) (L M : List α) (hs : a.eval s = v) (hown : OwE enc e n w base v L) (ad : Option Addr) (cap : Nat) (hx : a.eval x = .slice ad M.length cap)
    (hM : ES enc n w ad M) (hnil : ad = none → cap = 0) (hMn : ∀ y ∈ M, (enc y).length = n ∧ ∀ u ∈ enc y, u.oneCell' = true) (hlen : L.length + M.length ≤ 100000000) (hbase : base ≤ w.heap.size)
    (h : ∀ v' w', OwE enc e n w' base v' (L ++ M) → w.grownBy w' v.ownBlock → K (a.put o.dst v') w') : Oper.wp Tryz.prog o a w K Q := by
  obtain ⟨i, hi1, hz0, hz1, hz2⟩ : ∃ i, Tryz.prog.info? e = some i ∧ i.zero = some (.agg z.toArray) ∧ i.size = n ∧ i.bytes = bytes := by
    cases hq : Tryz.prog.info? e with
    | none => rw [hq] at hi; cases hi
    | some i =>
      rw [hq] at hi
      simp only [Option.map_some, Option.some.injEq, Prod.mk.injEq] at hi
      exact ⟨i, rfl, hi⟩
  have go : ∀ b off, ad = some ⟨b, off, none⟩ → (∀ i x, M[i]? = some x → w.rangeAt b (off + i * n) (enc x)) → Oper.wp Tryz.prog o a w K Q := fun b off had hr => by
    subst had
    refine wp_append_own w s x t ho base e i (.agg z.toArray) n bytes ht hi1 hz0 hz1 hz2 (by simp [Value.cells, hz]) hn v L.length (L.flatMap enc) hs hown.1 ⟨b, off, none⟩ M.length cap (M.flatMap enc) hx (flat_len fun y hy => (hMn y hy).1) (fun j u hj => ?_) (fun u hu => ?_) (by unfold maxLen; omega) ?_ hbase ?_
    · have hjl := (List.getElem?_eq_some_iff.1 hj).1
      rw [flat_len fun y hy => (hMn y hy).1] at hjl
      have hq : j / n < M.length := (Nat.div_lt_iff_lt_mul hn).2 hjl
      have hy := (hMn _ (List.getElem_mem hq)).1
      have hv : (enc M[j / n])[j % n]? = some u := by
        have hlt : j % n < (enc M[j / n]).length := by rw [hy]; exact Nat.mod_lt _ hn
        have e1 := flat_at (enc := enc) (n := n) (fun y hy => (hMn y hy).1) (j / n) M[j / n] (List.getElem?_eq_getElem hq) (j % n) _ (List.getElem?_eq_getElem hlt)
        rw [Nat.mul_comm, Nat.div_add_mod, hj] at e1
        rw [List.getElem?_eq_getElem hlt, ← e1]
      have := hr (j / n) _ (List.getElem?_eq_getElem hq) (j % n) u hv
      rw [Nat.add_assoc, Nat.mul_comm, Nat.div_add_mod] at this
      rw [Addr.add_mid]
      exact this
    · obtain ⟨y, hy, hu⟩ := List.mem_flatMap.1 hu
      exact (hMn y hy).2 u hu
    · have := Nat.mul_le_mul hlen hb
      omega
    · intro v' w' h1 h2 _
      refine h v' w' ⟨?_, ?_⟩ h2
      · rw [List.length_append, List.flatMap_append]; exact h1
      · intro y hy
        rcases List.mem_append.1 hy with hy | hy
        · exact hown.2 y hy
        · exact (hMn y hy).1
  rcases hM with rfl | ⟨b, off, had, hr⟩
  · cases hc : ad with
    | none =>
      have hcap := hnil hc
      subst hc hcap
      have hrun := run_append_owned_none (P := Tryz.prog) (w := w) base t o.type e i n ht hi1 v L.length (L.flatMap enc) hown.1
      unfold Oper.wp
      simp only [execOp, ho, resolve, invoke, builtin, Sem.run_bind, Sem.run_pure, Result.andThen_ok, List.map_toArray, List.map_cons, List.map_nil, hs, hx, List.length_nil, hrun]
      exact h v w (by rw [List.append_nil]; exact hown) ⟨rfl, rfl, rfl, Nat.le_refl _, fun _ _ _ => rfl⟩
    | some q =>
      obtain ⟨b, off, f⟩ := q
      subst hc
      refine wp_append_own w s x t ho base e i (.agg z.toArray) n bytes ht hi1 hz0 hz1 hz2 (by simp [Value.cells, hz]) hn v L.length (L.flatMap enc) hs hown.1 ⟨b, off, f⟩ 0 cap [] hx (by simp) (fun j u hj => by cases hj) (fun u hu => by cases hu) (by unfold maxLen; omega) (by have := Nat.mul_le_mul hlen hb; simp only [List.length_nil] at this; omega) hbase ?_
      intro v' w' h1 h2 _
      exact h v' w' ⟨by simpa using h1, by simpa using hown.2⟩ h2
  · exact go b off had hr
theorem oper_calls (k : Nat) (xs : Array Operand) (ts : Array TypeId) (hop : o.op = Op.call { callee := Callee.value (Operand.func k), args := xs, argTypes := ts }) (args : Array Value) (hargs : xs.map a.eval = args)
    (hent : ∀ (args : Array Value) (w : World), (callFunc k args).run Tryz.prog w = .ok (.enter k args) w) (R : Value → World → Prop)
    (hc : Calls Tryz.prog k args w fun e w' => ∃ v, e = .returned v ∧ R v w') (hK : ∀ v w', R v w' → K (a.put o.dst v) w') : Oper.wp Tryz.prog o a w K Q := by
  unfold Oper.wp
  have : (execOp a.eval o).run Tryz.prog w = .ok (.enter k args) w := by
    simp [execOp, hop, resolve, invoke, Act.eval, hargs, hent, Deferred.ofValue]
  rw [this, Oper.upon_enter]
  refine hc.mono ?_
  rintro e w' ⟨v, rfl, hr⟩
  exact hK v w' hr
theorem oper_row (ty : TypeId) (x y : Operand) (ho : o.op = .store ty x y) (b off : Nat) (t : TypeId) (p m q m' : List Value)
    (hx : a.eval x = .pointer (some ⟨b, off, none⟩)) (hy : a.eval y = .agg m'.toArray) (hp : p.length = off) (hb : Sh.Blk w b t (p ++ (m ++ q))) (hl : m'.length = m.length)
    (hi : (Tryz.prog.info? ty).map (·.size) = some m'.length) (h1 : ∀ v ∈ m', v.oneCell' = true)
    (h : ∀ w', Sh.Blk w' b t (p ++ (m' ++ q)) → w.grownBy w' (some b) → K (a.put o.dst undef) w') : Oper.wp Tryz.prog o a w K Q := by
  subst hp
  refine wp_store_mid ty x y ho b p.length m'.toArray hx hy (hb.there _ _ (by simp; omega)) (by simpa using hi) (all_oneCell_toArray h1) ?_
  exact h _ (by simpa using Sh.Blk.setCells q m' m p w hl hb) (by simpa using Sh.grown_setCells b m' p.length w)
theorem oper_all (ty : TypeId) (x y : Operand) (ho : o.op = .store ty x y) (b : Nat) (t : TypeId) (m m' : List Value)
    (hx : a.eval x = .pointer (some ⟨b, 0, none⟩)) (hy : a.eval y = .agg m'.toArray) (hb : Sh.Blk w b t m) (hl : m'.length = m.length)
    (hi : (Tryz.prog.info? ty).map (·.size) = some m'.length) (h1 : ∀ v ∈ m', v.oneCell' = true)
    (h : ∀ w', Sh.Blk w' b t m' → w.grownBy w' (some b) → K (a.put o.dst undef) w') : Oper.wp Tryz.prog o a w K Q :=
  oper_row ty x y ho b 0 t [] m [] m' hx hy rfl (by simpa using hb) hl hi h1 (by simpa using h)
/-! loads of one cell, in a class of worlds -/
theorem q_slc {C : World → Prop} {K : Act → Prop} (x : Operand) (ho : o.op = .load 51 x) (b k : Nat) (hx : a.eval x = .pointer (some ⟨b, k, none⟩)) (y : Option Addr) (n c : Nat) (hS : ∀ w, C w → w.cell? ⟨b, k, none⟩ = some (.slice y n c)) (hk : K (a.put o.dst (.slice y n c))) : o.quiet Tryz.prog a C K :=
  ⟨_, fun w hw => by
    have h := hS w hw
    unfold Oper.quietAt execOp
    simp only [ho, hx]
    go_simp, hk⟩
theorem q_map {C : World → Prop} {K : Act → Prop} (x : Operand) (ho : o.op = .load 123 x) (b k : Nat) (hx : a.eval x = .pointer (some ⟨b, k, none⟩)) (m : Option Nat) (hS : ∀ w, C w → w.cell? ⟨b, k, none⟩ = some (.map m)) (hk : K (a.put o.dst (.map m))) : o.quiet Tryz.prog a C K :=
  ⟨_, fun w hw => by
    have h := hS w hw
    unfold Oper.quietAt execOp
    simp only [ho, hx]
    go_simp, hk⟩
theorem q_int {C : World → Prop} {K : Act → Prop} (x : Operand) (ho : o.op = .load 3 x) (b k : Nat) (hx : a.eval x = .pointer (some ⟨b, k, none⟩)) (z : Int) (hS : ∀ w, C w → w.cell? ⟨b, k, none⟩ = some (.int .i64 z)) (hk : K (a.put o.dst (.int .i64 z))) : o.quiet Tryz.prog a C K :=
  ⟨_, fun w hw => by
    have h := hS w hw
    unfold Oper.quietAt execOp
    simp only [ho, hx]
    go_simp, hk⟩
theorem q_load {C : World → Prop} {K : Act → Prop} (ty : TypeId) (x : Operand) (ho : o.op = .load ty x) (b k : Nat) (hx : a.eval x = .pointer (some ⟨b, k, none⟩)) (cs : List Value) (d : TypeDesc) (hS : ∀ w, C w → w.rangeAt b k cs)
    (hu : Tryz.prog.underlying ty = some d) (hd : d.isRow = true) (hi : (Tryz.prog.info? ty).map (·.size) = some cs.length) (hk : K (a.put o.dst (.agg cs.toArray))) : o.quiet Tryz.prog a C K :=
  ⟨_, fun w hw => by
    unfold Oper.quietAt execOp
    simp only [ho, hx, Instr.loadAt, Instr.sureAddr, Sem.run_bind, Sem.run_pure, Result.andThen_ok, run_loadVar_mid w b k ty cs d (hS w hw) hu hd hi]
    exact ⟨rfl, rfl⟩, hk⟩
end
theorem enters {P : Program} {f : FuncId} {fn : Func} {c : Code} (hf : P.funcs[f]? = some fn) (hname : (fn.name == "runtime.NumGoroutine") = false) (hb : fn.body = some c) : ∀ (args : Array Value) (w : World), (callFunc f args).run P w = .ok (.enter f args) w := by
  intro args w
  have h1 : fn.name ≠ "runtime.NumGoroutine" := by simpa using hname
  simp [callFunc, hf, h1, hb]
/-! ### digests are held against each other -/
end Go.Proofs.YtlefdnjokppibaaGreatDoor.Mer
namespace Go.Proofs.YtlefdnjokppibaaGreatDoor.Mer
open Go.RowKit Sh
theorem bitLen_pow {x : Nat} (h0 : 0 < x) (h : x < 18446744073709551616) : ∃ k, Lib.bitLen x = k + 1 ∧ 2 ^ k ≤ x ∧ x < 2 ^ (k + 1) := by
  obtain ⟨a, b, c⟩ := Lib.bitLenAux_bounds 64 x h (by omega)
  exact ⟨Lib.bitLenAux 64 x - 1, by show Lib.bitLenAux 64 x = _; omega, b, by rw [show Lib.bitLenAux 64 x - 1 + 1 = Lib.bitLenAux 64 x by omega]; exact c⟩
theorem bitLen_of {x k : Nat} (h1 : 2 ^ k ≤ x) (h2 : x < 2 ^ (k + 1)) (h : x < 18446744073709551616) : Lib.bitLen x = k + 1 := by
  have := Mk.pow_pos2 k
  obtain ⟨j, e, a, b⟩ := bitLen_pow (x := x) (by omega) h
  rw [e]
  rcases Nat.lt_trichotomy j k with c | c | c
  · have := Nat.pow_le_pow_right (n := 2) (by decide) (show j + 1 ≤ k by omega); omega
  · rw [c]
  · have := Nat.pow_le_pow_right (n := 2) (by decide) (show k + 1 ≤ j by omega); omega
/-- the table of the last noughts, in its variable. -/
def Tb (w : World) : Prop := TabAt 1 Lib.deBruijn64tab w
theorem tb_lt {w : World} (h : Tb w) : 1 < w.heap.size := World.block_lt_of_cell? w _ (h 0 (by decide))
theorem Tb.grow {w w' : World} (h : Tb w) (g : Below w.heap.size w w') : Tb w' := fun j hj => (g.cell (p := ⟨1, j, none⟩) (tb_lt h)).trans (h j hj)
set_option maxHeartbeats 1000000 in
theorem tz64_any (x k idx : Nat) (w : World) (hx0 : ((x : Int) == 0) = false)
    (key : IntKind.u64.wrap (bits BinOp.and IntKind.u64 (x : Int) (IntKind.u64.wrap (-(x : Int))) * 285870213051353865) / 288230376151711744 = (idx : Int))
    (hi : idx < 64) (hk : k < 64) (hcell : w.cell? ⟨1, idx, none⟩ = some (.int .u8 k)) :
    Calls Tryz.prog 118 #[.int .u64 (x : Int)] w fun e w' => e = .returned (.int .i64 (k : Int)) ∧ w' = w := by
  go_enter Tryz.func118, Tryz.ntmps118
  go_wp2_with (simp only [key])
  go_ret
  exact ⟨rfl, rfl⟩
theorem odd_of (x : Nat) (h0 : 0 < x) (h : x < 18446744073709551616) : ∃ c u, x = (2 * u + 1) * 2 ^ c ∧ Lib.ctz 64 x = c ∧ c < 64 := by
  obtain ⟨m, a, b⟩ := Lib.ctzFrom_spec 64 x h0 h
  refine ⟨_, m, ?_, by unfold Lib.ctz; rw [if_neg (by omega)], b⟩
  rw [Nat.mul_comm]; exact a
theorem tz_any (x : Nat) (h0 : 0 < x) (hx : x < 18446744073709551616) (w : World) (hT : Tb w) :
    Calls Tryz.prog 98 #[.int .u64 (x : Int)] w fun e w' => e = .returned (.int .i64 (Lib.ctz 64 x : Int)) ∧ w' = w := by
  obtain ⟨hlow, hk⟩ := Lib.lowest_bit 64 x (by omega) hx
  obtain ⟨hi, htab⟩ := Lib.deBruijn64_at _ hk
  have hcell := hT _ hi
  rw [htab] at hcell
  have K := tz64_any x _ _ w (by simp; omega) (tz64_key x _ hx (by omega) hlow) hi hk hcell
  clear hlow hk hi htab hcell
  go_enter Tryz.func98, Tryz.ntmps98
  go_wp2_with fail
  refine K.mono ?_
  rintro e w' ⟨rfl, rfl⟩
  go_wp2
  go_ret
  exact ⟨rfl, rfl⟩
end Go.Proofs.YtlefdnjokppibaaGreatDoor.Mer
namespace Go.Proofs
open Go.Shelf
def Tryz.lays129_ren : Go.Shelf.Ren := ⟨fun | 129 => 120 | n => n, fun | 53 => 86 | 3 => 3 | 4 => 4 | 46 => 106 | 5 => 5 | 9 => 9 | n => n, fun | n => n⟩
theorem Tryz.lays129 : Go.Proofs.Lays.n129 Tryz.prog Tryz.lays129_ren := {
  mixed := by kernel_rfl
  f129 := Tryz.func120.trans (congrArg some (by kernel_rfl))
  t3 := Tryz.underlying3
  a3 := Tryz.isAgg3
  z3 := Tryz.sizeOf3
  v3 := Tryz.zeroValue3
  t4 := Tryz.underlying4
  a4 := Tryz.isAgg4
  z4 := Tryz.sizeOf4
  v4 := Tryz.zeroValue4
  t5 := Tryz.underlying5
  a5 := Tryz.isAgg5
  z5 := Tryz.sizeOf5
  v5 := Tryz.zeroValue5
  t9 := Tryz.underlying9
  a9 := Tryz.isAgg9
  z9 := Tryz.sizeOf9
  v9 := Tryz.zeroValue9
  t46 := Tryz.underlying106
  a46 := Tryz.isAgg106
  z46 := Tryz.sizeOf106
  v46 := Tryz.zeroValue106
  t53 := Tryz.underlying86
  a53 := Tryz.isAgg86
  z53 := Tryz.sizeOf86
  v53 := Tryz.zeroValue86 }
end Go.Proofs
namespace Go.Proofs.YtlefdnjokppibaaGreatDoor.Mer
open Go.RowKit Sh
theorem len64_any (x : Nat) (hx : x < 18446744073709551616) (w : World) :
    Calls Tryz.prog 120 #[.int .u64 (x : Int)] w fun e w' => e = .returned (.int .i64 (Lib.bitLen x : Int)) ∧ w' = w := by
  have := Any.bits_Len64 Tryz.lays129 (x : Int) w (by omega) (by omega)
  rw [Int.toNat_natCast] at this
  exact this
theorem len_any (x : Nat) (hx : x < 18446744073709551616) (w : World) :
    Calls Tryz.prog 100 #[.int .u64 (x : Int)] w fun e w' => e = .returned (.int .i64 (Lib.bitLen x : Int)) ∧ w' = w := by
  go_enter Tryz.func100, Tryz.ntmps100
  go_wp2_with fail
  refine (len64_any x hx w).mono ?_
  rintro e w' ⟨rfl, rfl⟩
  go_wp2
  go_ret
  exact ⟨rfl, rfl⟩
end Go.Proofs.YtlefdnjokppibaaGreatDoor.Mer
namespace Go.Proofs.YtlefdnjokppibaaGreatDoor.Sh
open Go.RowKit Mt
theorem blk_cells {w : World} {g : Nat} {t : TypeId} {l : List Nat} (h : Blk w g t (nums .u8 l)) : Cells w g 0 l := fun i hi => by rw [Nat.zero_add]; exact h.num i hi
set_option maxHeartbeats 1000000 in
set_option maxRecDepth 8000 in
theorem node_any (lh rh : List Nat) (hl : lh.length = 32) (hr : rh.length = 32) (hol : Hid (Oct lh)) (hor : Hid (Oct rh)) (w : World) :
    Calls Tryz.prog 47 #[.agg (nums .u8 lh).toArray, .agg (nums .u8 rh).toArray] w fun e w' => e = .returned (.agg (nums .u8 (D (1 :: (lh ++ rh)))).toArray) ∧ Below w.heap.size w w' := by
  go_enter Tryz.func47, Tryz.ntmps47
  go_wp2_with (refine al_box rfl 23 (.tmp 0) rfl (nums .u8 lh) rfl ?_)
  intro ga wa la BA GA
  have Z := (Below.refl w.heap.size w).grown GA (Nat.le_refl _) (by simp)
  clear GA
  go_wp2_with (refine al_box rfl 23 (.tmp 1) rfl (nums .u8 rh) rfl ?_)
  intro gb wb lb BB GB
  have BA := BA.kept GB (by simp)
  have Z := Z.grown GB Z.size (by simp)
  clear GB
  go_wp2_with (refine al_zero rfl 23 rfl _ z25 ?_)
  intro g1 w1 l1 B1 G1
  have BA := BA.kept G1 (by simp)
  have BB := BB.kept G1 (by simp)
  have hg1 : w.heap.size ≤ g1 := Nat.le_trans Z.size l1
  have Z := Z.grown G1 Z.size (by simp)
  clear G1
  go_wp2_with fail
  refine (begin_c [1] (some ⟨w1.heap.size, 0, none⟩) 1 (w1.alloc (.cells #[.int .u8 1] 5)) (byt_lit w1 [1]) (Nat.le_refl _) (fun x hx => by obtain rfl := List.mem_singleton.1 hx; decide) (by simp)).mono ?_; rintro e w2 ⟨c, HK, rfl, Z2⟩
  have BA := (BA.alloc _).below Z2 (BA.alloc _).lt
  have BB := (BB.alloc _).below Z2 (BB.alloc _).lt
  have B1 := (B1.alloc _).below Z2 (B1.alloc _).lt
  have Z := Z.alloc Z.size (.cells #[.int .u8 1] 5)
  have Z := Z.trans (Z2.mono Z.size)
  clear Z2
  go_wp2_with (refine al_zero rfl 102 rfl _ z45' ?_)
  intro g2 w3 l2 B2 G2
  have n12 : g1 ≠ g2 := by have := B1.lt; omega
  have na2 : ga ≠ g2 := by have := BA.lt; omega
  have nb2 : gb ≠ g2 := by have := BB.lt; omega
  have hg2 : w.heap.size ≤ g2 := Nat.le_trans Z.size l2
  have BA := BA.kept G2 (by simp)
  have BB := BB.kept G2 (by simp)
  have B1 := B1.kept G2 (by simp)
  have Z := Z.grown G2 Z.size (by simp)
  have I1 : Hid ((Tryz.prog.info? 102).map (·.size) = some c.length) := by show _ = _; rw [HK.out.2.1]; exact s45
  have N1 : Hid (c.length = (smc ⟨0, 0, 0, 0, 0, 0, 0, 0⟩ (List.replicate 64 0) 0).length) := by show _ = _; rw [HK.out.2.1, smc_len _ _ _ (by simp)]
  clear G2
  go_wp2_with (refine st_all rfl 102 (.tmp 5) (.tmp 7) rfl g2 102 _ c rfl rfl B2 N1.out I1.out HK.out.2.2 ?_)
  intro w4 B2 G3
  have BA := BA.kept G3 (fun e => na2 (Option.some.inj e))
  have BB := BB.kept G3 (fun e => nb2 (Option.some.inj e))
  have B1 := B1.kept G3 (fun e => n12 (Option.some.inj e))
  have Z := grown_below Z G3 Z.size hg2
  have HS : Hid (Sm w4 g2 [1]) := HK.out.1 _ _ B2
  have HA : Hid (Calls Tryz.prog 62 #[.pointer (some ⟨g2, 0, none⟩), .slice (some ⟨ga, 0, none⟩) 32 32] w4 fun e w' => e = .returned (.tuple #[]) ∧ Sm w' g2 (1 :: lh) ∧ w4.grownBy w' (some g2)) := by
    have := add_any g2 [1] lh (some ⟨ga, 0, none⟩) 32 w4 HS.out (.inr ⟨ga, 0, na2, rfl, blk_cells BA⟩) (by omega) hol.out (by simp; omega)
    rw [hl] at this; exact this
  clear B2 G3 I1 N1 HS HK
  go_wp2_with fail
  refine HA.out.mono ?_; rintro e w5 ⟨rfl, hs, G5⟩
  have HS : Hid (Sm w5 g2 (1 :: lh)) := hs
  have BB := BB.kept G5 (fun e => nb2 (Option.some.inj e))
  have B1 := B1.kept G5 (fun e => n12 (Option.some.inj e))
  have Z := grown_below Z G5 Z.size hg2
  have HA : Hid (Calls Tryz.prog 62 #[.pointer (some ⟨g2, 0, none⟩), .slice (some ⟨gb, 0, none⟩) 32 32] w5 fun e w' => e = .returned (.tuple #[]) ∧ Sm w' g2 (1 :: (lh ++ rh)) ∧ w5.grownBy w' (some g2)) := by
    have := add_any g2 (1 :: lh) rh (some ⟨gb, 0, none⟩) 32 w5 HS.out (.inr ⟨gb, 0, nb2, rfl, blk_cells BB⟩) (by omega) hor.out (by simp; omega)
    rw [hr] at this; exact this
  clear hs G5 HS
  go_wp2_with fail
  refine HA.out.mono ?_; rintro e w6 ⟨rfl, hs, G6⟩
  have HS : Hid (Sm w6 g2 (1 :: (lh ++ rh))) := hs
  have B1 := B1.kept G6 (fun e => n12 (Option.some.inj e))
  have Z := grown_below Z G6 Z.size hg2
  clear hs G6 HA
  go_wp2_with fail
  refine (end_any g2 (1 :: (lh ++ rh)) _ HS.out (by simp; omega)).mono ?_; rintro e w7 ⟨rfl, G7⟩
  have B1 := B1.kept G7 (fun e => n12 (Option.some.inj e))
  have Z := grown_below Z G7 Z.size hg2
  have ID : Hid ((Tryz.prog.info? 23).map (·.size) = some (nums .u8 (D (1 :: (lh ++ rh)))).length) := by show _ = _; rw [nums_length, D_len]; exact s25
  have ND : Hid ((nums .u8 (D (1 :: (lh ++ rh)))).length = (nums .u8 (List.replicate 32 0)).length) := by show _ = _; rw [nums_length, nums_length, D_len, List.length_replicate]
  clear G7 HS
  go_wp2_with (refine st_all rfl 23 (.tmp 4) (.tmp 12) rfl g1 23 (nums .u8 (List.replicate 32 0)) (nums .u8 (D (1 :: (lh ++ rh)))) rfl rfl B1 ND.out ID.out (nums_one _ _) ?_)
  intro we BE GE
  go_wp2
  (try simp only [Exit.inBlock, Exit.then])
  refine bodyPost_ret (res_row rfl _ g1 23 _ _ rfl BE Tryz.underlying23 rfl ID.out) rfl ⟨rfl, grown_below Z GE Z.size hg1⟩
end Go.Proofs.YtlefdnjokppibaaGreatDoor.Sh
namespace Go.Proofs.YtlefdnjokppibaaGreatDoor.Mer
open Go.RowKit Sh
theorem wrap_small {n : Nat} {x : Int} (e : x = (n : Int)) (h : n < 9223372036854775808) : wrap64 x = (n : Int) := by rw [e]; simp only [wrap64]; omega
theorem cast_shl (o l : Nat) : (o : Int) * 2 ^ l = ((o * 2 ^ l : Nat) : Int) := by rw [Int.natCast_mul, Int.natCast_pow]; rfl
theorem end_any' (l o : Nat) (hl : l ≤ 60) (h0 : o ≤ 1000000000000000) (ho : (o + 1) * 2 ^ l ≤ 1000000000000000) (w : World) :
    Calls Tryz.prog 101 #[.agg #[.int .i64 (l : Int), .int .i64 (o : Int)]] w fun e w' => e = .returned (.int .i64 (((o + 1) * 2 ^ l : Nat) : Int)) ∧ Below w.heap.size w w' := by
  have e : wrap64 (((o : Int) + 1) * 2 ^ l) = (((o + 1) * 2 ^ l : Nat) : Int) := wrap_small (cast_shl (o + 1) l) (by omega)
  go_enter Tryz.func101, Tryz.ntmps101
  go_wp2
  go_ret
  exact ⟨by rw [e]; rfl, (Below.refl _ _).alloc (Nat.le_refl _) _⟩
end Go.Proofs.YtlefdnjokppibaaGreatDoor.Mer
namespace Go.Proofs.YtlefdnjokppibaaGreatDoor.Mer
open Go.RowKit Sh
def nd (a b : List Nat) : List Nat := Mt.D (1 :: (a ++ b))
def em : List Nat := Mt.D []
theorem D_hh (l : List Nat) : Hh (Mt.D l) := ⟨Mt.D_len l, by first | exact Mt.D_oct l | exact fun x hx => Mt.D_lt l x hx⟩
theorem nd_hh (a b : List Nat) : Hh (nd a b) := D_hh _
theorem em_hh : Hh em := D_hh _
theorem sH {h : List Nat} (hh : Hh h) : (Tryz.prog.info? 23).map (·.size) = some (nums .u8 h).length := by rw [nums_length, hh.1]; exact Sh.s25
end Go.Proofs.YtlefdnjokppibaaGreatDoor.Mer
namespace Go.Proofs.YtlefdnjokppibaaGreatDoor.Mer
open Go.RowKit Sh
section
variable {α : Type} {enc : α → List Value} {n : Nat} {w w' : World} {L : List α} {t : TypeId} {base : Nat} {v : Value}
theorem below_grown (g : Below w.heap.size w w') : w.grownBy w' none := ⟨g.os, g.tape, g.output, g.size, fun k hk _ => g.block k hk⟩
theorem OwE.grow (h : OwE enc t n w base v L) (g : Below w.heap.size w w') : OwE enc t n w' base v L := h.kept (below_grown g) (by intro k _; simp)
theorem OwE.alloc (h : OwE enc t n w base v L) (o : Obj) : OwE enc t n (w.alloc o) base v L := h.grow ((Below.refl _ _).alloc (Nat.le_refl _) o)
theorem owe_nil (enc : α → List Value) (t : TypeId) (n : Nat) (w : World) (base : Nat) : OwE enc t n w base (.slice none 0 0) [] := ⟨World.ownsRow_nil w base t n, by simp⟩
theorem es_lit (w : World) (t : TypeId) (x : α) : ES enc n (w.alloc (.cells (enc x).toArray t)) (some ⟨w.heap.size, 0, none⟩) [x] := by
  refine .inr ⟨_, _, rfl, fun i y hy => ?_⟩
  cases i with
  | succ i => simp at hy
  | zero =>
    simp at hy
    subst hy
    rw [Nat.zero_mul, Nat.zero_add]
    exact (Sh.blk_new w t (enc x)).all
theorem below_own {B : Nat} {w0 : World} (hb : Below B w0 w) (hB : B ≤ w.heap.size) (h : OwE enc t n w B v L) (hg : w.grownBy w' v.ownBlock) : Below B w0 w' :=
  Below.grown hb hg hB fun k hk => (h.1.lt k hk).1
end
section
variable {ops : Array Oper} {rest : List Oper} {o : Oper} {a : Act} {w : World} {Q : Exit → Act → World → Prop}
end
end Go.Proofs.YtlefdnjokppibaaGreatDoor.Mer
namespace Go.Proofs.YtlefdnjokppibaaGreatDoor.Mer
open Go.RowKit Sh
end Go.Proofs.YtlefdnjokppibaaGreatDoor.Mer
namespace Go.Proofs.YtlefdnjokppibaaGreatDoor.Mer
open Go Go.RowKit Sh
section
variable {P : Program} {C : World → Prop} {z : Nat} {Q : Exit → Act → World → Prop}
theorem put_comm {a : Act} {i j : Tmp} (hij : i ≠ j) (u v : Value) : (a.put (some i) u).put (some j) v = (a.put (some j) v).put (some i) u := by
  simp only [Act.put]
  rw [Array.setIfInBounds_comm _ _ hij]
end
end Go.Proofs.YtlefdnjokppibaaGreatDoor.Mer
