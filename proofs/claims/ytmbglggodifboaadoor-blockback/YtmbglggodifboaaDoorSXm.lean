/-
  slices.Repeat of one value; codec's checkShell.
-/
import Derived.Test.YtmbglggodifboaaDoorSXj
import Derived.Lib.Mul64
import Derived.Laws.Bits64b
import Derived.Laws.IdiomCopy
import Derived.Laws.MakeOwn
namespace Go.Proofs.YtmbglggodifboaaDoor
open Go.RowKit Math
set_option linter.unusedVariables false
set_option linter.unusedSimpArgs false
section
variable {P : Program} {ops : Array Oper} {rest : List Oper} {o : Oper} {a : Act} {w : World} {Q : Exit → Act → World → Prop} {K : Act → World → Prop} {C : World → Prop}
theorem run_fromW (T elem : TypeId) (hu : P.underlying T = some (.slice elem)) (sz : Nat) (hsz : ∀ w, (Go.sizeOf elem).run P w = .ok sz w) (A : Option Addr) (len cap n : Nat) (hn : n ≤ len) (w : World) :
    (Instr.sliceAt T (.slice A len cap) (some (.int .i64 (n : Int))) none none).run P w = .ok (.slice (if cap = n then A else A.map fun p => p.add (n * sz)) (len - n) (cap - n)) w := by
  have h0 : (0 : Int) ≤ (n : Int) ∧ (n : Int) ≤ (len : Int) := ⟨by omega, by omega⟩
  simp [Instr.sliceAt, Instr.slice, Instr.sliceBounds, Instr.sliceBound, asIntOf, run_underlying hu, h0, hsz]
  intro h
  omega
theorem run_toW (T elem : TypeId) (hu : P.underlying T = some (.slice elem)) (sz : Nat) (hsz : ∀ w, (Go.sizeOf elem).run P w = .ok sz w) (A : Option Addr) (len cap n : Nat) (hn : n ≤ cap) (w : World) :
    (Instr.sliceAt T (.slice A len cap) none (some (.int .i64 (n : Int))) none).run P w = .ok (.slice A n cap) w := by
  have h0 : (0 : Int) ≤ (n : Int) ∧ (n : Int) ≤ (cap : Int) := ⟨by omega, by omega⟩
  have e : (A.map fun p => p.add 0) = A := by cases A <;> simp [Addr.add]
  simp [Instr.sliceAt, Instr.slice, Instr.sliceBounds, Instr.sliceBound, asIntOf, run_underlying hu, h0, hsz]
  rw [if_pos hn, e]
  simp
theorem sl_from (hg : o.guard = none) (T : TypeId) (x y : Operand) (ho : o.op = .slice T x (some y) none none) (elem : TypeId) (hu : P.underlying T = some (.slice elem)) (sz : Nat) (hsz : ∀ w, (Go.sizeOf elem).run P w = .ok sz w)
    (b off len cap n : Nat) (z : Int) (hz : z = (n : Int)) (hx : a.eval x = .slice (some ⟨b, off, none⟩) len cap) (hy : a.eval y = .int .i64 z) (hn : n ≤ len) (hc : n < cap)
    (h : wpList P ops Q rest (a.put o.dst (.slice (some ⟨b, off + n * sz, none⟩) (len - n) (cap - n))) w) : wpList P ops Q (o :: rest) a w := by
  subst hz
  refine wpList_plain hg fun K hK => ?_
  unfold Oper.wp execOp
  have e : (if cap = n then some (⟨b, off, none⟩ : Addr) else (some (⟨b, off, none⟩ : Addr)).map fun p => p.add (n * sz)) = some ⟨b, off + n * sz, none⟩ := by rw [if_neg (by omega)]; simp [Addr.add_lit]
  simp only [ho, hx, hy, Option.map_some, Option.map_none, run_fromW T elem hu sz hsz _ len cap n hn w, Sem.run_bind, Result.andThen_ok, Sem.run_pure]
  simp only [Option.map_some] at e
  rw [e]
  exact hK _ _ h
theorem q_from {K : Act → Prop} (T : TypeId) (x y : Operand) (ho : o.op = .slice T x (some y) none none) (elem : TypeId) (hu : P.underlying T = some (.slice elem)) (sz : Nat) (hsz : ∀ w, (Go.sizeOf elem).run P w = .ok sz w)
    (b off len cap n : Nat) (z : Int) (hz : z = (n : Int)) (hx : a.eval x = .slice (some ⟨b, off, none⟩) len cap) (hy : a.eval y = .int .i64 z) (hn : n ≤ len) (hc : n < cap)
    (hk : K (a.put o.dst (.slice (some ⟨b, off + n * sz, none⟩) (len - n) (cap - n)))) : o.quiet P a C K :=
  ⟨_, fun w hw => by
    subst hz
    have e : (if cap = n then some (⟨b, off, none⟩ : Addr) else (some (⟨b, off, none⟩ : Addr)).map fun p => p.add (n * sz)) = some ⟨b, off + n * sz, none⟩ := by rw [if_neg (by omega)]; simp [Addr.add_lit]
    unfold Oper.quietAt execOp
    simp only [ho, hx, hy, Option.map_some, Option.map_none, run_fromW T elem hu sz hsz _ len cap n hn w, Sem.run_bind, Result.andThen_ok, Sem.run_pure]
    simp only [Option.map_some] at e
    rw [e]
    exact ⟨rfl, rfl⟩, hk⟩
theorem run_copyW (w : World) (dT sT ty elem : TypeId) (b o dLen dCap : Nat) (a : Addr) (sLen sCap size n : Nat) (cs : List Value)
    (hu : P.underlying dT = some (.slice elem)) (hs : (P.info? elem).map (·.size) = some size) (hn : n = Nat.min sLen dLen) (hl : cs.length = n * size)
    (hsrc : ∀ j v, cs[j]? = some v → w.cell? (a.add j) = some v) (hc : ∀ j, j < cs.length → (w.cell? ⟨b, o + j, none⟩).isSome = true) (hf : ∀ j, j < cs.length → w.frozen? ⟨b, o + j, none⟩ = false) (h1 : ∀ v ∈ cs, v.oneCell' = true) :
    (Builtin.copy_ #[dT, sT] ty #[.slice (some ⟨b, o, none⟩) dLen dCap, .slice (some a) sLen sCap]).run P w = .ok (goInt n) (w.setCells b o cs) := by
  have hst := run_storeCells_cells (P := P) b o cs 0 w (by simpa using hc) (by simpa using hf) h1
  have hfc := run_firstCells_some (P := P) w size n a sLen sCap cs hl hsrc
  cases hq : P.info? elem with
  | none => simp [hq] at hs
  | some i =>
    have hi : i.size = size := by simpa [hq] using hs
    simp [Builtin.copy_, run_underlying hu, Builtin.lenOf, sizeOf, typeInfo, hq, hi, ← hn, hfc, hst]
theorem wp_cp (d s : Operand) (t : TypeId) (ho : o.op = .call { callee := .builtin .copy, args := #[d, s], argTypes := #[t, t] }) (elem size : Nat) (hu : P.underlying t = some (.slice elem)) (hs : (P.info? elem).map (·.size) = some size)
    (b off dLen dCap : Nat) (hd : a.eval d = .slice (some ⟨b, off, none⟩) dLen dCap) (b2 off2 sLen sCap : Nat) (hsl : a.eval s = .slice (some ⟨b2, off2, none⟩) sLen sCap) (n : Nat) (hn : n = Nat.min sLen dLen) (cs p m q : List Value) (tb : TypeId)
    (hp : p.length = off) (hb : Blk w b tb (p ++ (m ++ q))) (hml : cs.length = m.length) (hcs : cs.length = n * size) (hsrc : ∀ j v, cs[j]? = some v → w.cell? ⟨b2, off2 + j, none⟩ = some v) (h1 : ∀ v ∈ cs, v.oneCell' = true)
    (h : ∀ w', Blk w' b tb (p ++ (cs ++ q)) → w.grownBy w' (some b) → K (a.put o.dst (goInt n)) w') : Oper.wp P o a w K Q := by
  subst hp
  have hr := run_copyW (P := P) w t t o.type elem b p.length dLen dCap ⟨b2, off2, none⟩ sLen sCap size n cs hu hs hn hcs (fun j v hj => by rw [Addr.add_lit]; exact hsrc j v hj)
    (fun j hj => by rw [hb.cell, List.getElem?_eq_getElem (by simp; omega)]; rfl) (fun j hj => hb.frozen _) h1
  unfold Oper.wp execOp
  simp only [ho, resolve, invoke, builtin, Sem.run_bind, Sem.run_pure, Result.andThen_ok, List.map_toArray, List.map_cons, List.map_nil, hd, hsl, hr]
  exact h _ (Blk.setCells q cs m p w hml hb) (grown_setCells b cs p.length w)
theorem cp_row (hg : o.guard = none) (d s : Operand) (t : TypeId) (ho : o.op = .call { callee := .builtin .copy, args := #[d, s], argTypes := #[t, t] }) (elem size : Nat) (hu : P.underlying t = some (.slice elem)) (hs : (P.info? elem).map (·.size) = some size)
    (b off dLen dCap : Nat) (hd : a.eval d = .slice (some ⟨b, off, none⟩) dLen dCap) (b2 off2 sLen sCap : Nat) (hsl : a.eval s = .slice (some ⟨b2, off2, none⟩) sLen sCap) (n : Nat) (hn : n = Nat.min sLen dLen) (cs p m q : List Value) (tb : TypeId)
    (hp : p.length = off) (hb : Blk w b tb (p ++ (m ++ q))) (hml : cs.length = m.length) (hcs : cs.length = n * size) (hsrc : ∀ j v, cs[j]? = some v → w.cell? ⟨b2, off2 + j, none⟩ = some v) (h1 : ∀ v ∈ cs, v.oneCell' = true)
    (h : ∀ w', Blk w' b tb (p ++ (cs ++ q)) → w.grownBy w' (some b) → wpList P ops Q rest (a.put o.dst (goInt n)) w') : wpList P ops Q (o :: rest) a w :=
  wpList_plain hg fun K hK => wp_cp d s t ho elem size hu hs b off dLen dCap hd b2 off2 sLen sCap hsl n hn cs p m q tb hp hb hml hcs hsrc h1 fun w' h2 h3 => hK _ _ (h w' h2 h3)
theorem q_to {K : Act → Prop} (T : TypeId) (x y : Operand) (ho : o.op = .slice T x none (some y) none) (elem : TypeId) (hu : P.underlying T = some (.slice elem)) (sz : Nat) (hsz : ∀ w, (Go.sizeOf elem).run P w = .ok sz w)
    (A : Option Addr) (len cap n : Nat) (z : Int) (hz : z = (n : Int)) (hx : a.eval x = .slice A len cap) (hy : a.eval y = .int .i64 z) (hn : n ≤ cap)
    (hk : K (a.put o.dst (.slice A n cap))) : o.quiet P a C K :=
  ⟨_, fun w hw => by
    subst hz
    unfold Oper.quietAt execOp
    simp only [ho, hx, hy, Option.map_some, Option.map_none, run_toW T elem hu sz hsz A len cap n hn w, Sem.run_bind, Result.andThen_ok, Sem.run_pure]
    exact ⟨rfl, rfl⟩, hk⟩
theorem mk_row (hg : o.guard = none) (T elem : TypeId) (x : Operand) (ho : o.op = .makeSlice T x x) (hu : P.underlying T = some (.slice elem)) (size bytes : Nat) (z : Value) (hi : (P.info? elem).map (fun i => (i.zero, i.size, i.bytes)) = some (some z, size, bytes))
    (n : Nat) (zn : Int) (hzn : zn = (n : Int)) (hx : a.eval x = .int .i64 zn) (hb : bytes * n ≤ 281474976710656) (hn : n ≤ 1000000)
    (h : ∀ w' cs, cs.length = n * size → Blk w' w.heap.size elem cs → w.grownBy w' none → wpList P ops Q rest (a.put o.dst (.slice (some ⟨w.heap.size, 0, none⟩) n n)) w') : wpList P ops Q (o :: rest) a w := by
  subst hzn
  refine wpList_plain hg fun K hK => ?_
  cases hq : P.info? elem with
  | none => simp [hq] at hi
  | some i =>
    simp only [hq, Option.map_some, Option.some.injEq, Prod.mk.injEq] at hi
    obtain ⟨h1, h2, h3⟩ := hi
    have hb' : (i.bytes : Int) * (n : Int) ≤ 281474976710656 := by
      rw [h3]
      have h : ((bytes * n : Nat) : Int) ≤ 281474976710656 := by omega
      rwa [Int.natCast_mul] at h
    have hr := run_make (P := P) w T elem i z hu hq h1 .i64 .i64 n n (by omega) (Int.le_refl _) hb' (by omega)
    simp only [Int.toNat_natCast] at hr
    unfold Oper.wp execOp
    simp only [ho, hx, hr, Sem.run_bind, Result.andThen_ok, Sem.run_pure]
    refine hK _ _ (h _ (madeCells z.cells (n * i.size)).toList (by simp [size_madeCells, h2]) ?_ (World.grownBy_alloc w _ none))
    have := heap_alloc_new w (.cells (madeCells z.cells (n * i.size)) elem)
    unfold Blk
    rw [this]
end
namespace Mul
theorem maskN (a : Nat) (ha : a < 18446744073709551616) : bits .and .u64 (a : Int) 4294967295 = ((a % 4294967296 : Nat) : Int) := by
  have h := bits_and_u64_nat a 4294967295 ha (by omega)
  have e : a &&& 4294967295 = a % 4294967296 := Nat.and_two_pow_sub_one_eq_mod a 32
  rw [e] at h
  exact h
theorem divN (a : Nat) : (a : Int) / 4294967296 = ((a / 4294967296 : Nat) : Int) := by omega
theorem mulN (a b : Nat) : (a : Int) * (b : Int) = ((a * b : Nat) : Int) := (Int.natCast_mul a b).symm
theorem addN (a b : Nat) : (a : Int) + (b : Int) = ((a + b : Nat) : Int) := (Int.natCast_add a b).symm
theorem wrapN (a : Nat) (ha : a < 18446744073709551616) : IntKind.u64.wrap (a : Int) = (a : Int) := by rw [IntKind.wrap_u64]; omega
theorem wrapM (a : Nat) : IntKind.u64.wrap (a : Int) = ((a % 18446744073709551616 : Nat) : Int) := by rw [IntKind.wrap_u64]; omega
end Mul
set_option maxHeartbeats 1000000 in
theorem mul60 (x y : Nat) (hx : x < 18446744073709551616) (hy : y < 18446744073709551616) (w : World) :
    Calls Tryd.prog 99 #[.int .u64 x, .int .u64 y] w fun e w' => e = .returned (.tuple #[.int .u64 ((x * y / 18446744073709551616 : Nat) : Int), .int .u64 ((x * y % 18446744073709551616 : Nat) : Int)]) ∧ w' = w := by
  obtain ⟨bd, bt, bw, hhi⟩ := Lib.mul64_hi x y hx hy
  have ba := Lib.half_mul_le (a := x / 4294967296) (b := y / 4294967296) (by omega) (by omega)
  have bb := Lib.half_mul_le (a := x / 4294967296) (b := y % 4294967296) (by omega) (by omega)
  have bc := Lib.half_mul_le (a := x % 4294967296) (b := y / 4294967296) (by omega) (by omega)
  have ba' : x / 4294967296 * (y / 4294967296) < 18446744073709551616 := by omega
  have bb' : x / 4294967296 * (y % 4294967296) < 18446744073709551616 := by omega
  have bc' : x % 4294967296 * (y / 4294967296) < 18446744073709551616 := by omega
  have hlt : x * y / 18446744073709551616 < 18446744073709551616 := by
    apply Nat.div_lt_of_lt_mul
    exact Nat.mul_lt_mul'' hx hy
  have bh : x / 4294967296 * (y / 4294967296) + (x / 4294967296 * (y % 4294967296) + x % 4294967296 * (y % 4294967296) / 4294967296) / 4294967296 + ((x / 4294967296 * (y % 4294967296) + x % 4294967296 * (y % 4294967296) / 4294967296) % 4294967296 + x % 4294967296 * (y / 4294967296)) / 4294967296 < 18446744073709551616 := by rw [hhi]; exact hlt
  have bh1 : x / 4294967296 * (y / 4294967296) + (x / 4294967296 * (y % 4294967296) + x % 4294967296 * (y % 4294967296) / 4294967296) / 4294967296 < 18446744073709551616 := by omega
  go_enter Tryd.func99, Tryd.ntmps99
  go_wp2
  simp only [Mul.maskN x hx, Mul.maskN y hy, Mul.divN, Mul.mulN, Mul.addN, Mul.wrapN _ bd, Mul.wrapN _ bb', Mul.wrapN _ bt, Mul.maskN _ bt, Mul.wrapN _ bc', Mul.wrapN _ bw, Mul.wrapN _ ba', Mul.wrapN _ bh1, Mul.wrapN _ bh, Mul.wrapM (x * y)]
  rw [hhi]
  go_ret2
  exact ⟨rfl, rfl⟩
theorem mulB (n : Nat) (hn : n ≤ 65536) (w : World) : Calls Tryd.prog 97 #[.int .u64 1, .int .u64 (n : Int)] w fun e w' => e = .returned (.tuple #[.int .u64 0, .int .u64 (n : Int)]) ∧ w' = w := by
  have K := mul60 1 n (by omega) (by omega) w
  rw [show 1 * n / 18446744073709551616 = 0 by omega, show 1 * n % 18446744073709551616 = n by omega] at K
  go_enter Tryd.func97, Tryd.ntmps97
  go_wp2_with fail
  refine K.mono ?_
  rintro e w' ⟨rfl, rfl⟩
  go_wp2
  go_ret2
  exact ⟨rfl, rfl⟩
/-- A value that is Null. -/
def nul6 : List Value := [.int .i64 1, .int .i64 0, .int .i64 0, .string ⟨#[]⟩, .slice none 0 0, .slice none 0 0]
def reps : Nat → List Value
  | 0 => []
  | n + 1 => nul6 ++ reps n
theorem reps_len (n : Nat) : (reps n).length = n * 6 := by
  induction n with
  | zero => rfl
  | succ n ih => simp [reps, nul6, ih]; omega
theorem reps_add (m n : Nat) : reps (m + n) = reps m ++ reps n := by
  induction m with
  | zero => simp [reps]
  | succ m ih => rw [show m + 1 + n = (m + n) + 1 by omega]; simp [reps, ih]
theorem reps_one : ∀ (n : Nat), ∀ v ∈ reps n, v.oneCell' = true
  | 0, v, hv => by simp [reps] at hv
  | n + 1, v, hv => by
    simp only [reps, List.mem_append] at hv
    rcases hv with hv | hv
    · simp only [nul6, List.mem_cons, List.not_mem_nil, or_false] at hv
      rcases hv with rfl | rfl | rfl | rfl | rfl | rfl <;> rfl
    · exact reps_one n v hv
theorem i25 : ∃ z b, (Tryd.prog.info? 39).map (fun i => (i.zero, i.size, i.bytes)) = some (some z, 6, b) ∧ b ≤ 1000 := ⟨.agg #[.int .i64 0, .int .i64 0, .int .i64 0, .string ⟨#[]⟩, .slice none 0 0, .slice none 0 0], 88, by kernel_rfl, by omega⟩
theorem sz25 (w : World) : (Go.sizeOf 39).run Tryd.prog w = .ok 6 w := by
  have := s25
  cases hq : Tryd.prog.info? 39 with
  | none => simp [hq] at this
  | some i => simp [hq] at this; simp [Go.sizeOf, typeInfo, hq, this]
set_option maxRecDepth 8000 in
set_option maxHeartbeats 1000000 in
theorem repeat_any (n : Nat) (hn : n ≤ 65536) (b0 : Nat) (W : World) (hb : Blk W b0 39 nul6) :
    Calls Tryd.prog 96 #[.slice (some ⟨b0, 0, none⟩) 1 1, .int .i64 (n : Int)] W fun e w' => ∃ g, e = .returned (.slice (some ⟨g, 0, none⟩) n n) ∧ Hid (Blk w' g 39 (reps n) ∧ W.heap.size ≤ g ∧ Below W.heap.size W w') := by
  have HB0 : Hid (Blk W b0 39 nul6) := hb
  have KM := mulB n hn W
  obtain ⟨z, bs, hz, hbs⟩ := i25
  have HZ : Hid ((Tryd.prog.info? 39).map (fun i => (i.zero, i.size, i.bytes)) = some (some z, 6, bs)) := hz
  have HBS : Hid (bs * n ≤ 281474976710656) := by
    have : bs * n ≤ 1000 * 65536 := Nat.mul_le_mul hbs hn
    show _ ≤ _
    omega
  clear hz hbs hb
  go_enter Tryd.func96, Tryd.ntmps96
  go_wp2_with fail
  refine KM.mono ?_
  clear KM
  rintro e w' ⟨rfl, rfl⟩
  go_wp2_with (refine mk_row rfl 37 39 (.tmp 29) rfl Tryd.underlying37 6 bs z HZ.out n _ rfl rfl HBS.out (by omega) ?_)
  intro w1 cs hcs B1 gr1
  have HC : Hid (cs.length = n * 6) := hcs
  have HB1 : Hid (Blk w1 w'.heap.size 39 cs) := B1
  have G1 : Hid (Below w'.heap.size w' w1) := (Below.refl _ _).grown gr1 (Nat.le_refl _) (fun k e => by cases e)
  have HBx : Hid (Blk w1 b0 39 nul6) := HB0.out.below G1.out HB0.out.lt
  clear B1 gr1 hcs HZ HBS
  have HM : ∃ m, Hid (m = Nat.min 1 n) := ⟨_, rfl⟩
  obtain ⟨m, HM⟩ := HM
  have hmn : m ≤ n ∧ m ≤ 1 ∧ (0 < n → m = 1) := by
    have := HM.out
    simp only [Nat.min_def] at this
    split at this <;> omega
  have HBs : Hid (Blk w1 w'.heap.size 39 ([] ++ (cs.take (m * 6) ++ cs.drop (m * 6)))) := by
    rw [List.take_append_drop]
    exact HB1.out
  have HSrc : Hid (∀ j v, (reps m)[j]? = some v → w1.cell? ⟨b0, 0 + j, none⟩ = some v) := fun j v hj => by
    rw [Nat.zero_add]
    rw [HBx.out.cell]
    rcases Nat.lt_or_ge 0 n with h | h
    · rw [hmn.2.2 h] at hj
      simpa [reps] using hj
    · have : m = 0 := by omega
      rw [this] at hj
      simp [reps] at hj
  have HL1 : Hid ((reps m).length = (cs.take (m * 6)).length) := by
    show _ = _
    rw [reps_len, List.length_take, HC.out]
    have := Nat.mul_le_mul_right 6 hmn.1
    omega
  go_wp2_with (refine cp_row rfl (.tmp 31) (.tmp 32) 37 rfl 39 6 Tryd.underlying37 s25 w'.heap.size 0 n n rfl b0 0 1 1 rfl m HM.out (reps m) [] (cs.take (m * 6)) (cs.drop (m * 6)) 39 rfl HBs.out HL1.out (reps_len m) HSrc.out (reps_one m) ?_)
  intro w2 B2 gr2
  have HI0 : Hid (∃ q, Blk w2 w'.heap.size 39 (reps m ++ q) ∧ q.length = (n - m) * 6) := ⟨cs.drop (m * 6), B2, by rw [List.length_drop, HC.out, Nat.sub_mul]⟩
  have G2 : Hid (Below w'.heap.size w' w2) := G1.out.grown gr2 G1.out.size (fun x e => by injection e with e; omega)
  clear B2 gr2 HBs HSrc HL1 HB1 HBx G1 HC HB0
  go_wp2
  go_loopw [8] (fun i wr => ∃ k : Nat, k ≤ n ∧ (0 < n → 0 < k) ∧ i = .int .i64 (k : Int) ∧ Hid (∃ q, Blk wr w'.heap.size 39 (reps k ++ q) ∧ q.length = (n - k) * 6) ∧ Hid (Below w'.heap.size w' wr)) (fun i _ => n - (intOf i).toNat)
  case atStart => exact ⟨m, by omega, by omega, rfl, HI0.out, G2.out⟩
  case round =>
    clear HI0 G2
    obtain ⟨k, hk, hk0, rfl, HI, GI⟩ := hrel
    by_cases hlt : k < n
    case neg =>
      have HF : Hid (Blk wr w'.heap.size 39 (reps n)) := by
        obtain ⟨q, h1, h2⟩ := HI.out
        have : k = n := by omega
        subst this
        rw [Nat.sub_self, Nat.zero_mul] at h2
        rw [List.eq_nil_of_length_eq_zero h2, List.append_nil] at h1
        exact h1
      go_wp2
      go_ret
      exact ⟨_, rfl, HF.out, Nat.le_refl _, GI.out⟩
    have h0k := hk0 (by omega)
    obtain ⟨q, hq1, hq2⟩ := HI.out
    have HB : Hid (Blk wr w'.heap.size 39 (reps k ++ q)) := hq1
    have HQ : Hid (q.length = (n - k) * 6) := hq2
    clear hq1 hq2 HI
    obtain ⟨n1, HN1⟩ : ∃ n1, Hid (n1 = Nat.min k (n - k)) := ⟨_, rfl⟩
    have hn1 : n1 ≤ k ∧ n1 ≤ n - k ∧ 0 < n1 := by
      have := HN1.out
      simp only [Nat.min_def] at this
      split at this <;> omega
    go_wp2
    refine region_calm (fun _ => True) 9 (by kernel_rfl) ?_
    have D0 : Hid (Below wr.heap.size wr { wr with drawn := wr.drawn + 1 }) := Below.drew (Below.refl _ _)
    have HBv : Hid (Blk { wr with drawn := wr.drawn + 1 } w'.heap.size 39 (reps k ++ q)) := HB.out.below D0.out HB.out.lt
    have GV : Hid (Below w'.heap.size w' { wr with drawn := wr.drawn + 1 }) := GI.out.trans (D0.out.mono GI.out.size)
    clear D0 HB GI
    generalize ({ wr with drawn := wr.drawn + 1 } : World) = v0 at *
    refine seg 3 [0, 1, 2, 3, 4, 5, 6] rfl (by kernel_rfl) whole_blind trivial (by kernel_rfl) ?_
    change wpQuiet _ _ _ _ (_ :: _ :: _ :: _ :: _ :: _ :: _ :: []) _
    repeat (first
      | go_big_quiet_skip
      | (go_big_quiet_want
         first
         | (refine q_from 37 (.tmp 39) (.tmp 40) rfl 39 Tryd.underlying37 6 sz25 w'.heap.size 0 n n k _ rfl rfl rfl hk hlt ?_
            simp only [Act.put, List.setIfInBounds_toArray, List.set_cons_zero, List.set_cons_succ]
            go_big_quiet_on)
         | (refine q_to 37 (.tmp 42) (.tmp 43) rfl 39 Tryd.underlying37 6 sz25 (some ⟨w'.heap.size, 0, none⟩) n n k _ rfl rfl rfl hk ?_
            simp only [Act.put, List.setIfInBounds_toArray, List.set_cons_zero, List.set_cons_succ]
            go_big_quiet_on)
         | (go_big_quiet_op
            go_big_quiet_on)))
    refine wpQuiet_nil ?_
    have HBs : Hid (Blk v0 w'.heap.size 39 (reps k ++ (q.take (n1 * 6) ++ q.drop (n1 * 6)))) := by
      rw [List.take_append_drop]
      exact HBv.out
    have HSrc : Hid (∀ j v, (reps n1)[j]? = some v → v0.cell? ⟨w'.heap.size, 0 + j, none⟩ = some v) := fun j v hj => by
      rw [Nat.zero_add, HBv.out.cell]
      have e : reps k = reps n1 ++ reps (k - n1) := by rw [← reps_add]; congr 1; omega
      have hjl : j < (reps n1).length := (List.getElem?_eq_some_iff.1 hj).1
      rw [e, List.append_assoc, List.getElem?_append_left hjl]
      exact hj
    have HL1 : Hid ((reps n1).length = (q.take (n1 * 6)).length) := by
      show _ = _
      rw [reps_len, List.length_take, HQ.out]
      have := Nat.mul_le_mul_right 6 hn1.2.1
      omega
    have HLk : Hid ((reps k).length = 0 + k * 6) := by show _ = _; rw [reps_len]; omega
    refine lone_do (i := 7) 2 rfl (by kernel_rfl) rfl (by rfl) ?_
    intro K hK
    refine wp_cp (.tmp 41) (.tmp 44) 37 rfl 39 6 Tryd.underlying37 s25 w'.heap.size (0 + k * 6) (n - k) (n - k) rfl w'.heap.size 0 k n rfl n1 HN1.out (reps n1) (reps k) (q.take (n1 * 6)) (q.drop (n1 * 6)) 39 HLk.out HBs.out HL1.out (reps_len n1) HSrc.out (reps_one n1) ?_
    intro w5 B5 gr5
    have HI5 : Hid (∃ q, Blk w5 w'.heap.size 39 (reps (k + n1) ++ q) ∧ q.length = (n - (k + n1)) * 6) := by
      refine ⟨q.drop (n1 * 6), ?_, ?_⟩
      · rw [reps_add, List.append_assoc]
        exact B5
      · rw [List.length_drop, HQ.out, ← Nat.sub_mul]
        congr 1
        omega
    have GI5 : Hid (Below w'.heap.size w' w5) := GV.out.grown gr5 GV.out.size (fun x e => by injection e with e; omega)
    clear B5 gr5 HBs HSrc HL1 HLk HBv GV HQ
    refine hK _ _ trivial ?_
    simp only [Act.put, List.setIfInBounds_toArray, List.set_cons_zero, List.set_cons_succ]
    refine lone_calm (i := 8) 1 rfl (by kernel_rfl) rfl rfl trivial ?_
    go_big_quiet_want
    go_big_quiet_op
    go_big_quiet_on
    refine wpQuiet_nil ?_
    refine lone_calm (i := 9) 0 rfl (by kernel_rfl) rfl rfl trivial ?_
    go_big_quiet_want
    go_big_quiet_op
    go_big_quiet_on
    refine wpQuiet_nil ?_
    refine anyC_done (by kernel_rfl) ⟨rfl, ?_⟩
    go_wp2
    go_roundw
    case rel => exact ⟨k + n1, by omega, by omega, by go_num, HI5.out, GI5.out⟩
    case measure => simp [intOf]; omega
end Go.Proofs.YtmbglggodifboaaDoor
