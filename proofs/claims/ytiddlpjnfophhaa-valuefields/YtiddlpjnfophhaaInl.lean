/-
  Laws for slices.Insert: parts of a slice, copies within and between blocks, an append of noughts.
-/
import Derived.Test.YtiddlpjnfophhaaSpt
import Derived.Test.YtiddlpjnfophhaaOrf
import Derived.Lib.AppendZerosOnto
import Derived.Lib.Overlaps
import Derived.Laws.IdiomCopy
import Derived.Laws.Externs
namespace Go.Proofs.Ytiddlpjnfophhaa
open Go.RowKit
set_option linter.unusedVariables false
section
variable {P : Program} {ops : Array Oper} {rest : List Oper} {o : Oper} {a : Act} {w : World} {Q : Exit → Act → World → Prop} {K : Act → World → Prop} {C : World → Prop}
theorem run_fromW (T elem : TypeId) (hu : P.underlying T = some (.slice elem)) (sz : Nat) (hsz : ∀ w, (Go.sizeOf elem).run P w = .ok sz w) (A : Option Addr) (len cap n : Nat) (hn : n ≤ len) (w : World) :
    (Instr.sliceAt T (.slice A len cap) (some (.int .i64 (n : Int))) none none).run P w = .ok (.slice (if cap = n then A else A.map fun p => p.add (n * sz)) (len - n) (cap - n)) w := by
  have h0 : (0 : Int) ≤ (n : Int) ∧ (n : Int) ≤ (len : Int) := ⟨by omega, by omega⟩
  simp [Instr.sliceAt, Instr.slice, Instr.sliceBounds, Instr.sliceBound, asIntOf, run_underlying hu, h0, hsz]
  intro h
  omega
theorem run_toW (T elem : TypeId) (hu : P.underlying T = some (.slice elem)) (sz : Nat) (hsz : ∀ w, (Go.sizeOf elem).run P w = .ok sz w) (A : Option Addr) (len cap n : Nat) (hn : n ≤ cap) (w : World) :
    (Instr.sliceAt T (.slice A len cap) none (some (.int .i64 (n : Int))) none).run P w = .ok (.slice A n cap) w := by
  have h0 : (0 : Int) ≤ (n : Int) ∧ (n : Int) ≤ (cap : Int) := ⟨by omega, by omega⟩
  have e : (A.map fun p => p.add 0) = A := by cases A <;> simp [Addr.add]
  simp [Instr.sliceAt, Instr.slice, Instr.sliceBounds, Instr.sliceBound, asIntOf, run_underlying hu, h0, hsz]
  rw [if_pos hn, e]
  simp
theorem sl_any (hg : o.guard = none) (T : TypeId) (x y : Operand) (ho : o.op = .slice T x (some y) none none) (elem : TypeId) (hu : P.underlying T = some (.slice elem)) (sz : Nat) (hsz : ∀ w, (Go.sizeOf elem).run P w = .ok sz w)
    (A : Option Addr) (len cap n : Nat) (hx : a.eval x = .slice A len cap) (hy : a.eval y = .int .i64 (n : Int)) (hn : n ≤ len)
    (h : ∀ A', wpList P ops Q rest (a.put o.dst (.slice A' (len - n) (cap - n))) w) : wpList P ops Q (o :: rest) a w := by
  refine wpList_plain hg fun K hK => ?_
  unfold Oper.wp execOp
  simp only [ho, hx, hy, Option.map_some, Option.map_none, run_fromW T elem hu sz hsz A len cap n hn w, Sem.run_bind, Result.andThen_ok, Sem.run_pure]
  exact hK _ _ (h _)
theorem sl_from (hg : o.guard = none) (T : TypeId) (x y : Operand) (ho : o.op = .slice T x (some y) none none) (elem : TypeId) (hu : P.underlying T = some (.slice elem)) (sz : Nat) (hsz : ∀ w, (Go.sizeOf elem).run P w = .ok sz w)
    (b off len cap n : Nat) (z : Int) (hz : z = (n : Int)) (hx : a.eval x = .slice (some ⟨b, off, none⟩) len cap) (hy : a.eval y = .int .i64 z) (hn : n ≤ len) (hc : n < cap)
    (h : wpList P ops Q rest (a.put o.dst (.slice (some ⟨b, off + n * sz, none⟩) (len - n) (cap - n))) w) : wpList P ops Q (o :: rest) a w := by
  subst hz
  refine wpList_plain hg fun K hK => ?_
  unfold Oper.wp execOp
  have e : (if cap = n then some (⟨b, off, none⟩ : Addr) else (some (⟨b, off, none⟩ : Addr)).map fun p => p.add (n * sz)) = some ⟨b, off + n * sz, none⟩ := by rw [if_neg (by omega)]; simp [Addr.add_lit]
  simp only [ho, hx, hy, Option.map_some, Option.map_none, run_fromW T elem hu sz hsz _ len cap n hn w, Sem.run_bind, Result.andThen_ok, Sem.run_pure]
  simp only [Option.map_some] at e
  rw [e]
  exact hK _ _ h
theorem sl_to (hg : o.guard = none) (T : TypeId) (x y : Operand) (ho : o.op = .slice T x none (some y) none) (elem : TypeId) (hu : P.underlying T = some (.slice elem)) (sz : Nat) (hsz : ∀ w, (Go.sizeOf elem).run P w = .ok sz w)
    (A : Option Addr) (len cap n : Nat) (z : Int) (hz : z = (n : Int)) (hx : a.eval x = .slice A len cap) (hy : a.eval y = .int .i64 z) (hn : n ≤ cap)
    (h : wpList P ops Q rest (a.put o.dst (.slice A n cap)) w) : wpList P ops Q (o :: rest) a w := by
  subst hz
  refine wpList_plain hg fun K hK => ?_
  unfold Oper.wp execOp
  simp only [ho, hx, hy, Option.map_some, Option.map_none, run_toW T elem hu sz hsz A len cap n hn w, Sem.run_bind, Result.andThen_ok, Sem.run_pure]
  exact hK _ _ h
theorem q_from {K : Act → Prop} (T : TypeId) (x y : Operand) (ho : o.op = .slice T x (some y) none none) (elem : TypeId) (hu : P.underlying T = some (.slice elem)) (sz : Nat) (hsz : ∀ w, (Go.sizeOf elem).run P w = .ok sz w)
    (b off len cap n : Nat) (z : Int) (hz : z = (n : Int)) (hx : a.eval x = .slice (some ⟨b, off, none⟩) len cap) (hy : a.eval y = .int .i64 z) (hn : n ≤ len) (hc : n < cap)
    (hk : K (a.put o.dst (.slice (some ⟨b, off + n * sz, none⟩) (len - n) (cap - n)))) : o.quiet P a C K :=
  ⟨_, fun w hw => by
    subst hz
    have e : (if cap = n then some (⟨b, off, none⟩ : Addr) else (some (⟨b, off, none⟩ : Addr)).map fun p => p.add (n * sz)) = some ⟨b, off + n * sz, none⟩ := by rw [if_neg (by omega)]; simp [Addr.add_lit]
    unfold Oper.quietAt execOp
    simp only [ho, hx, hy, Option.map_some, Option.map_none, run_fromW T elem hu sz hsz _ len cap n hn w, Sem.run_bind, Result.andThen_ok, Sem.run_pure]
    simp only [Option.map_some] at e
    rw [e]
    exact ⟨rfl, rfl⟩, hk⟩
theorem run_copyW (w : World) (dT sT ty elem : TypeId) (b o dLen dCap : Nat) (a : Addr) (sLen sCap size n : Nat) (cs : List Value)
    (hu : P.underlying dT = some (.slice elem)) (hs : (P.info? elem).map (·.size) = some size) (hn : n = Nat.min sLen dLen) (hl : cs.length = n * size)
    (hsrc : ∀ j v, cs[j]? = some v → w.cell? (a.add j) = some v) (hc : ∀ j, j < cs.length → (w.cell? ⟨b, o + j, none⟩).isSome = true) (hf : ∀ j, j < cs.length → w.frozen? ⟨b, o + j, none⟩ = false) (h1 : ∀ v ∈ cs, v.oneCell' = true) :
    (Builtin.copy_ #[dT, sT] ty #[.slice (some ⟨b, o, none⟩) dLen dCap, .slice (some a) sLen sCap]).run P w = .ok (goInt n) (w.setCells b o cs) := by
  have hst := run_storeCells_cells (P := P) b o cs 0 w (by simpa using hc) (by simpa using hf) h1
  have hfc := run_firstCells_some (P := P) w size n a sLen sCap cs hl hsrc
  cases hq : P.info? elem with
  | none => simp [hq] at hs
  | some i =>
    have hi : i.size = size := by simpa [hq] using hs
    simp [Builtin.copy_, run_underlying hu, Builtin.lenOf, sizeOf, typeInfo, hq, hi, ← hn, hfc, hst]
theorem wp_cp (d s : Operand) (t : TypeId) (ho : o.op = .call { callee := .builtin .copy, args := #[d, s], argTypes := #[t, t] }) (elem size : Nat) (hu : P.underlying t = some (.slice elem)) (hs : (P.info? elem).map (·.size) = some size)
    (b off dLen dCap : Nat) (hd : a.eval d = .slice (some ⟨b, off, none⟩) dLen dCap) (b2 off2 sLen sCap : Nat) (hsl : a.eval s = .slice (some ⟨b2, off2, none⟩) sLen sCap) (n : Nat) (hn : n = Nat.min sLen dLen) (cs p m q : List Value) (tb : TypeId)
    (hp : p.length = off) (hb : Blk w b tb (p ++ (m ++ q))) (hml : cs.length = m.length) (hcs : cs.length = n * size) (hsrc : ∀ j v, cs[j]? = some v → w.cell? ⟨b2, off2 + j, none⟩ = some v) (h1 : ∀ v ∈ cs, v.oneCell' = true)
    (h : ∀ w', Blk w' b tb (p ++ (cs ++ q)) → w.grownBy w' (some b) → K (a.put o.dst (goInt n)) w') : Oper.wp P o a w K Q := by
  subst hp
  have hr := run_copyW (P := P) w t t o.type elem b p.length dLen dCap ⟨b2, off2, none⟩ sLen sCap size n cs hu hs hn hcs (fun j v hj => by rw [Addr.add_lit]; exact hsrc j v hj)
    (fun j hj => by rw [hb.cell, List.getElem?_eq_getElem (by simp; omega)]; rfl) (fun j hj => hb.frozen _) h1
  unfold Oper.wp execOp
  simp only [ho, resolve, invoke, builtin, Sem.run_bind, Sem.run_pure, Result.andThen_ok, List.map_toArray, List.map_cons, List.map_nil, hd, hsl, hr]
  exact h _ (Blk.setCells q cs m p w hml hb) (grown_setCells b cs p.length w)
theorem cp_row (hg : o.guard = none) (d s : Operand) (t : TypeId) (ho : o.op = .call { callee := .builtin .copy, args := #[d, s], argTypes := #[t, t] }) (elem size : Nat) (hu : P.underlying t = some (.slice elem)) (hs : (P.info? elem).map (·.size) = some size)
    (b off dLen dCap : Nat) (hd : a.eval d = .slice (some ⟨b, off, none⟩) dLen dCap) (b2 off2 sLen sCap : Nat) (hsl : a.eval s = .slice (some ⟨b2, off2, none⟩) sLen sCap) (n : Nat) (hn : n = Nat.min sLen dLen) (cs p m q : List Value) (tb : TypeId)
    (hp : p.length = off) (hb : Blk w b tb (p ++ (m ++ q))) (hml : cs.length = m.length) (hcs : cs.length = n * size) (hsrc : ∀ j v, cs[j]? = some v → w.cell? ⟨b2, off2 + j, none⟩ = some v) (h1 : ∀ v ∈ cs, v.oneCell' = true)
    (h : ∀ w', Blk w' b tb (p ++ (cs ++ q)) → w.grownBy w' (some b) → wpList P ops Q rest (a.put o.dst (goInt n)) w') : wpList P ops Q (o :: rest) a w :=
  wpList_plain hg fun K hK => wp_cp d s t ho elem size hu hs b off dLen dCap hd b2 off2 sLen sCap hsl n hn cs p m q tb hp hb hml hcs hsrc h1 fun w' h2 h3 => hK _ _ (h w' h2 h3)
theorem zeros_length (z : Array Value) (k : Nat) : (Builtin.zeroCells z k).toList.length = k * z.size := by
  simp [Builtin.zeroCells]
theorem app_noughts (hg : o.guard = none) (s x : Operand) (t tn : TypeId) (ho : o.op = .call { callee := .builtin .append, args := #[s, x], argTypes := #[t, tn] }) (e : TypeId) (i0 : TypeInfo) (z : Value) (size bytes : Nat)
    (ht : P.underlying t = some (.slice e)) (htn : P.underlying tn = some (.int .i64)) (hi : P.info? e = some i0) (hz : i0.zero = some z) (hsize : i0.size = size) (hby : i0.bytes = bytes) (hzs : z.cells.size = size) (hsz : 0 < size)
    (g i cap k : Nat) (zk : Int) (hzk : zk = (k : Int)) (hs : a.eval s = .slice (some ⟨g, 0, none⟩) i cap) (hx : a.eval x = .int .i64 zk) (A : List Value) (hA : A.length = i * size) (hc : ∀ j u, A[j]? = some u → w.cell? ⟨g, j, none⟩ = some u) (hk : 0 < k) (hno : cap < i + k) (hb : i + k ≤ 1000000) (hbb : bytes ≤ 1000)
    (h : ∀ w' G Zs, Blk w' w.heap.size e (A ++ Zs) → w.grownBy w' none → w.heap.size < w'.heap.size → i + k ≤ G → G ≤ maxLen → (A ++ Zs).length = G * size → wpList P ops Q rest (a.put o.dst (.slice (some ⟨w.heap.size, 0, none⟩) (i + k) G)) w') : wpList P ops Q (o :: rest) a w := by
  subst hzk
  refine wpList_plain hg fun K hK => ?_
  have hbig : (i + k) * bytes ≤ 140737488355328 := by
    have : (i + k) * bytes ≤ 1000000 * 1000 := Nat.mul_le_mul hb hbb
    omega
  have hbig2 : k * bytes ≤ 281474976710656 := by
    have : k * bytes ≤ (i + k) * bytes := Nat.mul_le_mul_right _ (by omega)
    omega
  have hold : (Builtin.firstCells i0.size i (.slice (some ⟨g, 0, none⟩) i cap)).run P w.drew = .ok A.toArray w.drew := by
    rw [hsize]
    exact run_firstCells_some w.drew size i ⟨g, 0, none⟩ i cap A hA (fun j v hj => by rw [Addr.add_lit, Nat.zero_add]; exact hc j v hj)
  have hr := Lib.run_append_grow_zeros w t tn o.type e i0 z .i64 .i64 ht htn hi hz (some ⟨g, 0, none⟩) i cap A hold k hk (by omega) hno (by omega) (by rw [hby]; exact hbig2) (by rw [hby]; exact growslice_fits hno hbig)
  unfold Oper.wp execOp
  simp only [ho, resolve, invoke, builtin, Sem.run_bind, Sem.run_pure, Result.andThen_ok, List.map_toArray, List.map_cons, List.map_nil, hs, hx, hr]
  have hG := grownCap_ge w (i + k) cap e
  have hM := grownCap_le_maxLen w (i + k) cap e (by unfold maxLen; omega)
  generalize grownCap w (i + k) cap e = G at *
  refine hK _ _ (h _ G ((Builtin.zeroCells z.cells k).toList ++ (Builtin.zeroCells z.cells (G - (i + k))).toList) ?_ ?_ (by simp) hG hM ?_)
  · have := heap_alloc_new w.drew (.cells (A.toArray ++ Builtin.zeroCells z.cells k ++ Builtin.zeroCells z.cells (G - (i + k))) e)
    unfold Blk
    rw [show w.drew.heap.size = w.heap.size from rfl] at this
    rw [this]
    simp
  · have := World.grownBy_alloc w.drew (.cells (A.toArray ++ Builtin.zeroCells z.cells k ++ Builtin.zeroCells z.cells (G - (i + k))) e) none
    exact ⟨this.os, this.tape, this.output, this.size, this.block⟩
  · rw [List.length_append, List.length_append, zeros_length, zeros_length, hA, hzs, ← Nat.add_mul, ← Nat.add_mul]
    congr 1
    omega
end
theorem sz9 : ∀ w, (Go.sizeOf 9).run Try.prog w = .ok 1 w := fun w => by
  obtain ⟨i, hi, _, hz1, _⟩ := info_parts Try.info9
  simp [Go.sizeOf, typeInfo, hi, hz1]
theorem sz25 : ∀ w, (Go.sizeOf 25).run Try.prog w = .ok 6 w := fun w => by
  obtain ⟨i, hi, _, hz1, _⟩ := info_parts Try.info25
  simp [Go.sizeOf, typeInfo, hi, hz1]
theorem overlaps52 (w : World) (b2 la ca g off lb cb : Nat) (hne : b2 ≠ g) (vs us : List Value) (h2 : Blk w b2 9 vs) (hg : Blk w g 9 us) (hus : us.length ≠ 0) :
    (callFunc 52 #[.slice (some ⟨b2, 0, none⟩) la ca, .slice (some ⟨g, off, none⟩) lb cb]).run Try.prog w = .ok (.value (.bool false)) w := by
  rw [run_callFunc_extern Try.func52 (by kernel_rfl) (by kernel_rfl) (by kernel_rfl) (e := Extern.SlicesOverlaps.overlaps #[22, 22] #[4]) (by kernel_rfl),
    Lib.run_overlaps_apart w 22 4 9 Try.underlying22 1 sz9 ⟨b2, 0, none⟩ ⟨g, off, none⟩ la ca lb cb hne 9 9 vs.length us.length (by simp [World.shape?, show w.heap[b2]? = _ from h2]) (by simp [World.shape?, show w.heap[g]? = _ from hg]) hus (h2.frozen _) (h2.frozen _)]
  rfl
theorem overlaps54 (w : World) (b2 la ca g off lb cb : Nat) (hne : b2 ≠ g) (vs us : List Value) (h2 : Blk w b2 25 vs) (hg : Blk w g 25 us) (hus : us.length ≠ 0) :
    (callFunc 54 #[.slice (some ⟨b2, 0, none⟩) la ca, .slice (some ⟨g, off, none⟩) lb cb]).run Try.prog w = .ok (.value (.bool false)) w := by
  rw [run_callFunc_extern Try.func54 (by kernel_rfl) (by kernel_rfl) (by kernel_rfl) (e := Extern.SlicesOverlaps.overlaps #[23, 23] #[4]) (by kernel_rfl),
    Lib.run_overlaps_apart w 23 4 25 Try.underlying23 6 sz25 ⟨b2, 0, none⟩ ⟨g, off, none⟩ la ca lb cb hne 25 25 vs.length us.length (by simp [World.shape?, show w.heap[b2]? = _ from h2]) (by simp [World.shape?, show w.heap[g]? = _ from hg]) hus (h2.frozen _) (h2.frozen _)]
  rfl
end Go.Proofs.Ytiddlpjnfophhaa
