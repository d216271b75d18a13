/-
  Rows of digests and of halves in memory, and the operations on them.
-/
import Derived.Test.YtlefdnjokppibaaGreatDoorUG31x
import Derived.Test.YtlefdnjokppibaaGreatDoorUG13x
import Derived.Test.YtlefdnjokppibaaGreatDoorUG16x
import Derived.Test.YtlefdnjokppibaaGreatDoorUOrz
import Derived.Laws.AppendOwnNone
import Derived.Laws.MakeOwn
namespace Go.Proofs.YtlefdnjokppibaaGreatDoor.Mer
open Go.RowKit Sh
/-- a digest. -/
def Hh (h : List Nat) : Prop := h.length = 32 ∧ Oct h
def Hl (L : List (List Nat)) : Prop := ∀ h ∈ L, Hh h
def encV (x : Nat × Nat) : List Value := [.int .i64 (x.1 : Int), .int .i64 (x.2 : Int)]
theorem Hl.take {L : List (List Nat)} (h : Hl L) (k : Nat) : Hl (L.take k) := fun x hx => h x (List.mem_of_mem_take hx)
theorem Hl.drop {L : List (List Nat)} (h : Hl L) (k : Nat) : Hl (L.drop k) := fun x hx => h x (List.mem_of_mem_drop hx)
theorem Hl.app {L M : List (List Nat)} (h : Hl L) (g : Hl M) : Hl (L ++ M) := fun x hx => (List.mem_append.1 hx).elim (h x) (g x)
theorem Hl.at {L : List (List Nat)} (h : Hl L) {i : Nat} {x : List Nat} (e : L[i]? = some x) : Hh x := h x (List.mem_of_getElem? e)
section
variable {α : Type} {enc : α → List Value} {n : Nat} {w w' : World} {a : Option Addr} {L : List α}
/-- a slice's elements, each of n cells. -/
def ES (enc : α → List Value) (n : Nat) (w : World) (a : Option Addr) (L : List α) : Prop := L = [] ∨ ∃ b off, a = some ⟨b, off, none⟩ ∧ ∀ i x, L[i]? = some x → w.rangeAt b (off + i * n) (enc x)
theorem range_below {b o : Nat} {cs : List Value} (h : w.rangeAt b o cs) (g : Below w.heap.size w w') : w'.rangeAt b o cs := fun j v hj =>
  (g.cell (p := ⟨b, o + j, none⟩) (World.block_lt_of_cell? w _ (h j v hj))).trans (h j v hj)
theorem ES.below (h : ES enc n w a L) (g : Below w.heap.size w w') : ES enc n w' a L := by
  rcases h with h | ⟨b, off, e, h⟩
  · exact .inl h
  · exact .inr ⟨b, off, e, fun i x hx => range_below (h i x hx) g⟩
theorem ES.take (h : ES enc n w a L) (k : Nat) : ES enc n w a (L.take k) := by
  rcases h with h | ⟨b, off, e, h⟩
  · exact .inl (by rw [h, List.take_nil])
  · refine .inr ⟨b, off, e, fun i x hx => h i x ?_⟩
    rw [List.getElem?_take] at hx
    split at hx
    · exact hx
    · cases hx
theorem ES.drop {b off : Nat} (h : ES enc n w (some ⟨b, off, none⟩) L) (k : Nat) : ES enc n w (some ⟨b, off + k * n, none⟩) (L.drop k) := by
  rcases h with h | ⟨b', off', e, h⟩
  · exact .inl (by rw [h, List.drop_nil])
  · injection e with e; injection e with e1 e2 e3
    subst e1 e2
    refine .inr ⟨_, _, rfl, fun i x hx => ?_⟩
    rw [List.getElem?_drop] at hx
    rw [Nat.add_assoc, ← Nat.add_mul]
    exact h _ x hx
theorem ES.at (h : ES enc n w a L) {i : Nat} {x : α} (hx : L[i]? = some x) : ∃ b off, a = some ⟨b, off, none⟩ ∧ w.rangeAt b (off + i * n) (enc x) := by
  rcases h with h | ⟨b, off, e, h⟩
  · rw [h] at hx; cases hx
  · exact ⟨b, off, e, h i x hx⟩
theorem flat_at (hn : ∀ x ∈ L, (enc x).length = n) : ∀ (i : Nat) (x : α), L[i]? = some x → ∀ j v, (enc x)[j]? = some v → (L.flatMap enc)[i * n + j]? = some v := by
  induction L with
  | nil => intro i x h; cases h
  | cons y r ih =>
    intro i x h j v hv
    have hy := hn y (by simp)
    rw [List.flatMap_cons]
    cases i with
    | zero =>
      simp at h
      subst h
      rw [Nat.zero_mul, Nat.zero_add, List.getElem?_append_left (List.getElem?_eq_some_iff.1 hv).1]
      exact hv
    | succ i =>
      simp at h
      rw [List.getElem?_append_right (by rw [hy, Nat.succ_mul]; omega), hy, show (i + 1) * n + j - n = i * n + j by rw [Nat.succ_mul]; omega]
      exact ih (fun z hz => hn z (by simp [hz])) i x h j v hv
theorem flat_len (hn : ∀ x ∈ L, (enc x).length = n) : (L.flatMap enc).length = L.length * n := by
  induction L with
  | nil => simp
  | cons y r ih => rw [List.flatMap_cons, List.length_append, hn y (by simp), ih (fun z hz => hn z (by simp [hz])), List.length_cons, Nat.succ_mul]; omega
/-- a row of the call's own. -/
def OwE (enc : α → List Value) (t : TypeId) (n : Nat) (w : World) (base : Nat) (v : Value) (L : List α) : Prop := w.ownsRow base t n v L.length (L.flatMap enc) ∧ ∀ x ∈ L, (enc x).length = n
theorem OwE.es {t : TypeId} {base : Nat} {v : Value} (h : OwE enc t n w base v L) : ∃ a cap, v = .slice a L.length cap ∧ L.length ≤ cap ∧ (a = none → cap = 0 ∧ L = []) ∧ ES enc n w a L ∧ ∀ ad, a = some ad → base ≤ ad.block ∧ ad.block < w.heap.size := by
  obtain ⟨h, hn⟩ := h
  have hc := @World.ownsRow.cells w base t n v L.length (L.flatMap enc) h
  have hlt := h.lt
  rcases h.2 with ⟨rfl, h0⟩ | ⟨g, cap, cur, rfl, hb, hg, hle, hm, hs, ht⟩
  · have : L = [] := List.eq_nil_of_length_eq_zero h0
    subst this
    exact ⟨none, 0, rfl, Nat.le_refl _, fun _ => ⟨rfl, rfl⟩, .inl rfl, fun _ e => by cases e⟩
  · refine ⟨_, cap, rfl, hle, (fun e => by cases e), .inr ⟨g, 0, rfl, fun i x hx j v hv => ?_⟩, (fun ad e => by cases e; exact hlt g rfl)⟩
    have := hc rfl (i * n + j) v (flat_at hn i x hx j v hv)
    rw [Addr.add_lit] at this
    simpa using this
theorem OwE.kept {t : TypeId} {base : Nat} {v : Value} {row : Option Nat} (h : OwE enc t n w base v L) (g : w.grownBy w' row) (hne : ∀ k, v.ownBlock = some k → row ≠ some k) : OwE enc t n w' base v L :=
  ⟨h.1.kept g (by
    cases e : v.ownBlock with
    | none => exact .inl rfl
    | some k => exact .inr fun h => hne k e h.symm), h.2⟩
end
/-! ### operations -/
theorem fold_set : ∀ (cs : List Value) (k : Nat) (Z : List Value), k + cs.length ≤ Z.length → (cs.zipIdx k).foldl (fun (c : Array Value) (p : Value × Nat) => c.setIfInBounds (0 + p.2) p.1) Z.toArray = (Z.take k ++ (cs ++ Z.drop (k + cs.length))).toArray
  | [], k, Z, h => by simp
  | x :: r, k, Z, h => by
    simp only [List.length_cons] at h
    rw [List.zipIdx_cons, List.foldl_cons]
    simp only [Nat.zero_add, List.setIfInBounds_toArray]
    have := fold_set r (k + 1) (Z.set k x) (by rw [List.length_set]; omega)
    simp only [Nat.zero_add] at this
    rw [this]
    congr 1
    have e1 : (Z.set k x).take (k + 1) = Z.take k ++ [x] := by
      rw [List.take_succ_eq_append_getElem (by rw [List.length_set]; omega), List.take_set, List.getElem_set_self]
      rw [List.set_eq_of_length_le (by rw [List.length_take]; omega)]
    have e2 : (Z.set k x).drop (k + 1 + r.length) = Z.drop (k + (r.length + 1)) := by
      rw [List.drop_set_of_lt (by omega)]; congr 1; omega
    rw [e1, e2, List.length_cons]
    simp
theorem fill_one (cs Z : List Value) (n : Nat) (h1 : cs.length = n) (h2 : Z.length = n) : Instr.fill (fun i => some (i * n, n)) Z.toArray [(0, .agg cs.toArray)] = some cs.toArray := by
  have := fold_set cs 0 Z (by omega)
  unfold Instr.fill
  simp only [Value.cells, List.size_toArray, h1, h2, Nat.zero_mul, Nat.zero_add, ne_eq, not_true_eq_false, decide_false, Bool.false_or, gt_iff_lt, Nat.lt_irrefl, Bool.false_eq_true, if_false]
  rw [Instr.fill]
  rw [h1, List.drop_of_length_le (by omega)] at this
  simp only [Nat.zero_add, List.take_zero, List.nil_append, List.append_nil] at this
  congr 1
  simpa using this
section
variable {ops : Array Oper} {rest : List Oper} {o : Oper} {a : Act} {w : World} {K : Act → World → Prop} {Q : Exit → Act → World → Prop}
/-- a slice of one element of several cells. -/
theorem bs_one (t e : TypeId) (x : Operand) (ho : o.op = .buildSlice t 1 #[(0, x)]) (ht : Tryz.prog.underlying t = some (.slice e)) (n : Nat) (hn : 0 < n) (hn2 : n ≤ 1000) (z : List Value) (hs : ∀ w, (Go.sizeOf e).run Tryz.prog w = .ok n w) (hz : ∀ w, (zeroValue e).run Tryz.prog w = .ok (.agg z.toArray) w) (cs : List Value) (hc : cs.length = n)
    (hx : a.eval x = .agg cs.toArray) (h : K (a.put o.dst (.slice (some ⟨w.heap.size, 0, none⟩) 1 1)) (w.alloc (.cells cs.toArray e))) : Oper.wp Tryz.prog o a w K Q := by
  unfold Oper.wp execOp
  have hf := fill_one cs ((Array.range (1 * n)).map (fun i => (z.toArray[i % z.toArray.size]!))).toList n hc (by simp)
  simp only [Array.toArray_toList] at hf
  have h0 : ¬ (1 * n = 0) := by omega
  have h1 : ¬ (1 * n > 2 ^ 24) := by omega
  simp only [ho, Instr.buildSlice, Sem.run_bind, run_underlying ht, Result.andThen_ok, hs, hz, h0, h1, if_false, Sem.run_pure, List.map_toArray, List.map_cons, List.map_nil, hx, Value.cells]
  erw [hf]
  simp only [newRow, Sem.run_bind, Sem.run_pure]
  exact h
/-- a load of several cells, in a straight walk. -/
theorem ld_mid (hg : o.guard = none) (ty : TypeId) (x : Operand) (ho : o.op = .load ty x) (b k : Nat) (hx : a.eval x = .pointer (some ⟨b, k, none⟩)) (cs : List Value) (d : TypeDesc) (hS : w.rangeAt b k cs) (hu : Tryz.prog.underlying ty = some d) (hd : d.isRow = true) (hi : (Tryz.prog.info? ty).map (·.size) = some cs.length)
    (h : wpList Tryz.prog ops Q rest (a.put o.dst (.agg cs.toArray)) w) : wpList Tryz.prog ops Q (o :: rest) a w :=
  wpList_plain hg fun _ hK => wp_load_mid ty x ho b k hx cs d hS hu hd hi (hK _ _ h)
/-- append of elements onto a row of the call's own. -/
theorem app_wp {α : Type} {enc : α → List Value} {n : Nat} (s x : Operand) (t e : TypeId) (ho : o.op = .call { callee := .builtin .append, args := #[s, x], argTypes := #[t, t] }) (ht : Tryz.prog.underlying t = some (.slice e)) (z : List Value) (bytes : Nat)
    (hi : (Tryz.prog.info? e).map (fun i => (i.zero, i.size, i.bytes)) = some (some (.agg z.toArray), n, bytes)) (hz : z.length = n) (hn : 0 < n) (hb : bytes ≤ 1000) (base : Nat) (v : Value) (L M : List α) (hs : a.eval s = v) (hown : OwE enc e n w base v L) (ad : Option Addr) (cap : Nat) (hx : a.eval x = .slice ad M.length cap)
    (hM : ES enc n w ad M) (hnil : ad = none → cap = 0) (hMn : ∀ y ∈ M, (enc y).length = n ∧ ∀ u ∈ enc y, u.oneCell' = true) (hlen : L.length + M.length ≤ 100000000) (hbase : base ≤ w.heap.size)
    (h : ∀ v' w', OwE enc e n w' base v' (L ++ M) → w.grownBy w' v.ownBlock → K (a.put o.dst v') w') : Oper.wp Tryz.prog o a w K Q := by
  obtain ⟨i, hi1, hz0, hz1, hz2⟩ : ∃ i, Tryz.prog.info? e = some i ∧ i.zero = some (.agg z.toArray) ∧ i.size = n ∧ i.bytes = bytes := by
    cases hq : Tryz.prog.info? e with
    | none => rw [hq] at hi; cases hi
    | some i =>
      rw [hq] at hi
      simp only [Option.map_some, Option.some.injEq, Prod.mk.injEq] at hi
      exact ⟨i, rfl, hi⟩
  have go : ∀ b off, ad = some ⟨b, off, none⟩ → (∀ i x, M[i]? = some x → w.rangeAt b (off + i * n) (enc x)) → Oper.wp Tryz.prog o a w K Q := fun b off had hr => by
    subst had
    refine wp_append_own w s x t ho base e i (.agg z.toArray) n bytes ht hi1 hz0 hz1 hz2 (by simp [Value.cells, hz]) hn v L.length (L.flatMap enc) hs hown.1 ⟨b, off, none⟩ M.length cap (M.flatMap enc) hx (flat_len fun y hy => (hMn y hy).1) (fun j u hj => ?_) (fun u hu => ?_) (by unfold maxLen; omega) ?_ hbase ?_
    · have hjl := (List.getElem?_eq_some_iff.1 hj).1
      rw [flat_len fun y hy => (hMn y hy).1] at hjl
      have hq : j / n < M.length := (Nat.div_lt_iff_lt_mul hn).2 hjl
      have hy := (hMn _ (List.getElem_mem hq)).1
      have hv : (enc M[j / n])[j % n]? = some u := by
        have hlt : j % n < (enc M[j / n]).length := by rw [hy]; exact Nat.mod_lt _ hn
        have e1 := flat_at (enc := enc) (n := n) (fun y hy => (hMn y hy).1) (j / n) M[j / n] (List.getElem?_eq_getElem hq) (j % n) _ (List.getElem?_eq_getElem hlt)
        rw [Nat.mul_comm, Nat.div_add_mod, hj] at e1
        rw [List.getElem?_eq_getElem hlt, ← e1]
      have := hr (j / n) _ (List.getElem?_eq_getElem hq) (j % n) u hv
      rw [Nat.add_assoc, Nat.mul_comm, Nat.div_add_mod] at this
      rw [Addr.add_mid]
      exact this
    · obtain ⟨y, hy, hu⟩ := List.mem_flatMap.1 hu
      exact (hMn y hy).2 u hu
    · have := Nat.mul_le_mul hlen hb
      omega
    · intro v' w' h1 h2 _
      refine h v' w' ⟨?_, ?_⟩ h2
      · rw [List.length_append, List.flatMap_append]; exact h1
      · intro y hy
        rcases List.mem_append.1 hy with hy | hy
        · exact hown.2 y hy
        · exact (hMn y hy).1
  rcases hM with rfl | ⟨b, off, had, hr⟩
  · cases hc : ad with
    | none =>
      have hcap := hnil hc
      subst hc hcap
      have hrun := run_append_owned_none (P := Tryz.prog) (w := w) base t o.type e i n ht hi1 v L.length (L.flatMap enc) hown.1
      unfold Oper.wp
      simp only [execOp, ho, resolve, invoke, builtin, Sem.run_bind, Sem.run_pure, Result.andThen_ok, List.map_toArray, List.map_cons, List.map_nil, hs, hx, List.length_nil, hrun]
      exact h v w (by rw [List.append_nil]; exact hown) ⟨rfl, rfl, rfl, Nat.le_refl _, fun _ _ _ => rfl⟩
    | some q =>
      obtain ⟨b, off, f⟩ := q
      subst hc
      refine wp_append_own w s x t ho base e i (.agg z.toArray) n bytes ht hi1 hz0 hz1 hz2 (by simp [Value.cells, hz]) hn v L.length (L.flatMap enc) hs hown.1 ⟨b, off, f⟩ 0 cap [] hx (by simp) (fun j u hj => by cases hj) (fun u hu => by cases hu) (by unfold maxLen; omega) (by have := Nat.mul_le_mul hlen hb; simp only [List.length_nil] at this; omega) hbase ?_
      intro v' w' h1 h2 _
      exact h v' w' ⟨by simpa using h1, by simpa using hown.2⟩ h2
  · exact go b off had hr
theorem oper_calls (k : Nat) (xs : Array Operand) (ts : Array TypeId) (hop : o.op = Op.call { callee := Callee.value (Operand.func k), args := xs, argTypes := ts }) (args : Array Value) (hargs : xs.map a.eval = args)
    (hent : ∀ (args : Array Value) (w : World), (callFunc k args).run Tryz.prog w = .ok (.enter k args) w) (R : Value → World → Prop)
    (hc : Calls Tryz.prog k args w fun e w' => ∃ v, e = .returned v ∧ R v w') (hK : ∀ v w', R v w' → K (a.put o.dst v) w') : Oper.wp Tryz.prog o a w K Q := by
  unfold Oper.wp
  have : (execOp a.eval o).run Tryz.prog w = .ok (.enter k args) w := by
    simp [execOp, hop, resolve, invoke, Act.eval, hargs, hent, Deferred.ofValue]
  rw [this, Oper.upon_enter]
  refine hc.mono ?_
  rintro e w' ⟨v, rfl, hr⟩
  exact hK v w' hr
theorem oper_row (ty : TypeId) (x y : Operand) (ho : o.op = .store ty x y) (b off : Nat) (t : TypeId) (p m q m' : List Value)
    (hx : a.eval x = .pointer (some ⟨b, off, none⟩)) (hy : a.eval y = .agg m'.toArray) (hp : p.length = off) (hb : Sh.Blk w b t (p ++ (m ++ q))) (hl : m'.length = m.length)
    (hi : (Tryz.prog.info? ty).map (·.size) = some m'.length) (h1 : ∀ v ∈ m', v.oneCell' = true)
    (h : ∀ w', Sh.Blk w' b t (p ++ (m' ++ q)) → w.grownBy w' (some b) → K (a.put o.dst undef) w') : Oper.wp Tryz.prog o a w K Q := by
  subst hp
  refine wp_store_mid ty x y ho b p.length m'.toArray hx hy (hb.there _ _ (by simp; omega)) (by simpa using hi) (all_oneCell_toArray h1) ?_
  exact h _ (by simpa using Sh.Blk.setCells q m' m p w hl hb) (by simpa using Sh.grown_setCells b m' p.length w)
theorem oper_all (ty : TypeId) (x y : Operand) (ho : o.op = .store ty x y) (b : Nat) (t : TypeId) (m m' : List Value)
    (hx : a.eval x = .pointer (some ⟨b, 0, none⟩)) (hy : a.eval y = .agg m'.toArray) (hb : Sh.Blk w b t m) (hl : m'.length = m.length)
    (hi : (Tryz.prog.info? ty).map (·.size) = some m'.length) (h1 : ∀ v ∈ m', v.oneCell' = true)
    (h : ∀ w', Sh.Blk w' b t m' → w.grownBy w' (some b) → K (a.put o.dst undef) w') : Oper.wp Tryz.prog o a w K Q :=
  oper_row ty x y ho b 0 t [] m [] m' hx hy rfl (by simpa using hb) hl hi h1 (by simpa using h)
/-! loads of one cell, in a class of worlds -/
theorem q_slc {C : World → Prop} {K : Act → Prop} (x : Operand) (ho : o.op = .load 51 x) (b k : Nat) (hx : a.eval x = .pointer (some ⟨b, k, none⟩)) (y : Option Addr) (n c : Nat) (hS : ∀ w, C w → w.cell? ⟨b, k, none⟩ = some (.slice y n c)) (hk : K (a.put o.dst (.slice y n c))) : o.quiet Tryz.prog a C K :=
  ⟨_, fun w hw => by
    have h := hS w hw
    unfold Oper.quietAt execOp
    simp only [ho, hx]
    go_simp, hk⟩
theorem q_map {C : World → Prop} {K : Act → Prop} (x : Operand) (ho : o.op = .load 123 x) (b k : Nat) (hx : a.eval x = .pointer (some ⟨b, k, none⟩)) (m : Option Nat) (hS : ∀ w, C w → w.cell? ⟨b, k, none⟩ = some (.map m)) (hk : K (a.put o.dst (.map m))) : o.quiet Tryz.prog a C K :=
  ⟨_, fun w hw => by
    have h := hS w hw
    unfold Oper.quietAt execOp
    simp only [ho, hx]
    go_simp, hk⟩
theorem q_int {C : World → Prop} {K : Act → Prop} (x : Operand) (ho : o.op = .load 3 x) (b k : Nat) (hx : a.eval x = .pointer (some ⟨b, k, none⟩)) (z : Int) (hS : ∀ w, C w → w.cell? ⟨b, k, none⟩ = some (.int .i64 z)) (hk : K (a.put o.dst (.int .i64 z))) : o.quiet Tryz.prog a C K :=
  ⟨_, fun w hw => by
    have h := hS w hw
    unfold Oper.quietAt execOp
    simp only [ho, hx]
    go_simp, hk⟩
theorem q_load {C : World → Prop} {K : Act → Prop} (ty : TypeId) (x : Operand) (ho : o.op = .load ty x) (b k : Nat) (hx : a.eval x = .pointer (some ⟨b, k, none⟩)) (cs : List Value) (d : TypeDesc) (hS : ∀ w, C w → w.rangeAt b k cs)
    (hu : Tryz.prog.underlying ty = some d) (hd : d.isRow = true) (hi : (Tryz.prog.info? ty).map (·.size) = some cs.length) (hk : K (a.put o.dst (.agg cs.toArray))) : o.quiet Tryz.prog a C K :=
  ⟨_, fun w hw => by
    unfold Oper.quietAt execOp
    simp only [ho, hx, Instr.loadAt, Instr.sureAddr, Sem.run_bind, Sem.run_pure, Result.andThen_ok, run_loadVar_mid w b k ty cs d (hS w hw) hu hd hi]
    exact ⟨rfl, rfl⟩, hk⟩
end
theorem enters {P : Program} {f : FuncId} {fn : Func} {c : Code} (hf : P.funcs[f]? = some fn) (hname : (fn.name == "runtime.NumGoroutine") = false) (hb : fn.body = some c) : ∀ (args : Array Value) (w : World), (callFunc f args).run P w = .ok (.enter f args) w := by
  intro args w
  have h1 : fn.name ≠ "runtime.NumGoroutine" := by simpa using hname
  simp [callFunc, hf, h1, hb]
/-! ### digests are held against each other -/
end Go.Proofs.YtlefdnjokppibaaGreatDoor.Mer
