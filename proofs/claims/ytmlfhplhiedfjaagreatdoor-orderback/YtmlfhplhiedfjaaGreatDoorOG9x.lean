/-
  Regions that draw: one of several operations comes up; what each kind of operation does. · Appending, as an operation of a region. · order's texts: written, appendText; bytes.TrimRight of one byte; turnRound. · order's numbers: bytes.TrimRight of one byte; turnRound; appendAbove; appendNumber.
-/
import Derived.Test.YtmlfhplhiedfjaaGreatDoorOG7x
import Derived.Test.YtmlfhplhiedfjaaGreatDoorOOrz
import Derived.Test.YtmlfhplhiedfjaaGreatDoorOG0x
namespace Go.Proofs.YtmlfhplhiedfjaaGreatDoor
open Go Go.RowKit
set_option linter.unusedVariables false
section
variable {P : Program} {C : World → Prop} {z : Nat} {Q : Exit → Act → World → Prop}
end
theorem enters {P : Program} {f : FuncId} {fn : Func} {c : Code} (hf : P.funcs[f]? = some fn) (hname : (fn.name == "runtime.NumGoroutine") = false) (hb : fn.body = some c) : ∀ (args : Array Value) (w : World), (callFunc f args).run P w = .ok (.enter f args) w := by
  intro args w
  have h1 : fn.name ≠ "runtime.NumGoroutine" := by simpa using hname
  simp [callFunc, hf, h1, hb]
section
variable {o : Oper} {a : Act} {w : World} {K : Act → World → Prop} {Q : Exit → Act → World → Prop}
theorem oper_call (k : Nat) (xs : Array Operand) (ts : Array TypeId)
    (hop : o.op = Op.call { callee := Callee.value (Operand.func k), args := xs, argTypes := ts }) (args : Array Value) (hargs : xs.map a.eval = args)
    (hent : ∀ (args : Array Value) (w : World), (callFunc k args).run Tryz.prog w = .ok (.enter k args) w) (R : Value → World → Prop)
    (hc : Calls Tryz.prog k args w fun e w' => ∃ v, e = .returned v ∧ R v w') (hK : ∀ v w', R v w' → K (a.put o.dst v) w') : Oper.wp Tryz.prog o a w K Q := by
  unfold Oper.wp
  have : (execOp a.eval o).run Tryz.prog w = .ok (.enter k args) w := by
    simp [execOp, hop, resolve, invoke, Act.eval, hargs, hent, Deferred.ofValue]
  rw [this, Oper.upon_enter]
  refine hc.mono ?_
  rintro e w' ⟨v, rfl, hr⟩
  exact hK v w' hr
theorem oper_name (t : Nat) (ho : o.op = .buildSlice 36 1 #[(0, .tmp t)]) (s : ByteArray) (hx : a.tmps.getD t undef = .string s) (hK : K (a.put o.dst (.slice (some ⟨w.heap.size, 0, none⟩) 1 1)) (w.alloc (.cells #[.string s] 9))) : Oper.wp Tryz.prog o a w K Q := by
  have hx' : a.tmps[t]?.getD undef = .string s := by simpa using hx
  unfold Oper.wp execOp
  simp only [ho]
  go_simp
  exact hK
theorem oper_kid (t : Nat) (ho : o.op = .buildSlice 22 1 #[(0, .tmp t)]) (v0 v1 v2 v3 v4 v5 : Value) (hx : a.tmps.getD t undef = .agg #[v0, v1, v2, v3, v4, v5]) (hK : K (a.put o.dst (.slice (some ⟨w.heap.size, 0, none⟩) 1 1)) (w.alloc (.cells #[v0, v1, v2, v3, v4, v5] 38))) : Oper.wp Tryz.prog o a w K Q := by
  have hx' : a.tmps[t]?.getD undef = .agg #[v0, v1, v2, v3, v4, v5] := by simpa using hx
  unfold Oper.wp execOp
  simp only [ho]
  go_simp
  exact hK
end
end Go.Proofs.YtmlfhplhiedfjaaGreatDoor
namespace Go.Proofs.YtmlfhplhiedfjaaGreatDoor
open Go.RowKit Math
set_option linter.unusedVariables false
theorem oper_apb {o : Oper} {a : Act} {K : Act → World → Prop} {Q : Exit → Act → World → Prop} {w : World} (s x : Operand)
    (ho : o.op = .call { callee := .builtin .append, args := #[s, x], argTypes := #[52, 52] })
    (base : Nat) (v : Value) (l : List Nat) (hs : a.eval s = v) (hown : Own w base v l)
    (ax : Option Addr) (m c : Nat) (l2 : List Nat) (hm : m = l2.length) (hx : a.eval x = .slice ax m c) (hsrc : Byt w ax l2) (hnil : ax = none → c = 0)
    (hb : l.length + l2.length ≤ 1000000000) (hbase : base ≤ w.heap.size)
    (h : ∀ v' w', Ap base w w' v v' (l ++ l2) → K (a.put o.dst v') w') : Oper.wp Tryz.prog o a w K Q := by
  subst hm
  obtain ⟨i, hi, hz0, hz1, hz2⟩ := info_parts Tryz.info5
  cases ax with
  | none =>
    obtain rfl := hnil rfl
    have hl : l2 = [] := by
      rcases hsrc with h | ⟨_, _, h, _⟩
      · exact h
      · cases h
    subst hl
    have hr := run_append_owned_none (P := Tryz.prog) (w := w) base 52 o.type 5 i 1 Tryz.underlying52 hi v _ _ hown
    unfold Oper.wp execOp
    simp only [ho, resolve, invoke, builtin, Sem.run_bind, Sem.run_pure, Result.andThen_ok, List.map_toArray, List.map_cons, List.map_nil, hs, hx, List.length_nil, hr]
    exact (h v w (by rw [List.append_nil]; exact Ap.refl hown))
  | some ad =>
    obtain ⟨v', w', r1, r2, r3, _, r5⟩ := run_append_own_at (P := Tryz.prog) w base 52 o.type 5 i _ 1 1 Tryz.underlying52 hi hz0 hz1 hz2 rfl (by decide) v _ _ hown ad l2.length c (vals l2) (by simp [vals_length]) (by
      intro j u hj
      have hjl : j < l2.length := by
        have := (List.getElem?_eq_some_iff.1 hj).1
        simpa [vals_length] using this
      rcases hsrc with rfl | ⟨b, off, he, hc⟩
      · simp at hjl
      · obtain rfl := Option.some.inj he
        rw [vals_get l2 j hjl] at hj
        rw [Addr.add_lit, hc j hjl]
        exact hj) (vals_one l2) (by unfold maxLen; omega) (by omega) hbase
    unfold Oper.wp execOp
    simp only [ho, resolve, invoke, builtin, Sem.run_bind, Sem.run_pure, Result.andThen_ok, List.map_toArray, List.map_cons, List.map_nil, hs, hx, r1]
    refine (h v' w' ⟨?_, r3, fun b hb => ?_⟩)
    · unfold Own
      rw [List.length_append, vals_app]
      exact r2
    · rcases r5 with e | e
      · exact .inl (e.symm.trans hb)
      · rw [e] at hb
        exact .inr (by injection hb with hb; omega)
theorem oper_apn {o : Oper} {a : Act} {K : Act → World → Prop} {Q : Exit → Act → World → Prop} {w : World} (s x : Operand)
    (ho : o.op = .call { callee := .builtin .append, args := #[s, x], argTypes := #[36, 36] })
    (base : Nat) (v : Value) (n : Nat) (xs : List Value) (hs : a.eval s = v) (hown : w.ownsRow base 9 1 v n xs) (ax : Option Addr) (c : Nat) (ns : List ByteArray) (hx : a.eval x = .slice ax ns.length c) (hsrc : Nms w ax ns) (hnil : ax = none → c = 0)
    (hb : n + ns.length ≤ 100000) (hbase : base ≤ w.heap.size)
    (h : ∀ v' w', w'.ownsRow base 9 1 v' (n + ns.length) (xs ++ ns.map Value.string) → w.grownBy w' v.ownBlock → (v'.ownBlock = v.ownBlock ∨ v'.ownBlock = some w.heap.size) → K (a.put o.dst v') w') : Oper.wp Tryz.prog o a w K Q := by
  obtain ⟨i, hi, hz0, hz1, hz2⟩ := info_parts Tryz.info9
  cases ax with
  | none =>
    obtain rfl := hnil rfl
    have hl : ns = [] := by
      rcases hsrc with h | ⟨_, _, h, _⟩
      · exact h
      · cases h
    subst hl
    have hr := run_append_owned_none (P := Tryz.prog) (w := w) base 36 o.type 9 i 1 Tryz.underlying36 hi v _ _ hown
    unfold Oper.wp execOp
    simp only [ho, resolve, invoke, builtin, Sem.run_bind, Sem.run_pure, Result.andThen_ok, List.map_toArray, List.map_cons, List.map_nil, hs, hx, List.length_nil, hr]
    exact (h v w (by simpa using hown) (World.grownBy.refl _ _) (.inl rfl))
  | some ad =>
    obtain ⟨v', w', r1, r2, r3, _, r5⟩ := run_append_own_at (P := Tryz.prog) w base 36 o.type 9 i _ 1 16 Tryz.underlying36 hi hz0 hz1 hz2 rfl (by decide) v _ _ hown ad ns.length c (ns.map Value.string) (by simp) (by
      intro j u hj
      rcases hsrc with rfl | ⟨b, off, he, hc⟩
      · simp at hj
      · obtain rfl := Option.some.inj he
        rw [Addr.add_lit]
        rw [List.getElem?_map] at hj
        cases hn : ns[j]? with
        | none => rw [hn] at hj; cases hj
        | some y => rw [hn] at hj; cases hj; exact hc j y hn) (by
      intro u hu
      obtain ⟨y, _, rfl⟩ := List.mem_map.1 hu
      rfl) (by unfold maxLen; omega) (by omega) hbase
    unfold Oper.wp execOp
    simp only [ho, resolve, invoke, builtin, Sem.run_bind, Sem.run_pure, Result.andThen_ok, List.map_toArray, List.map_cons, List.map_nil, hs, hx, r1]
    exact (h v' w' r2 r3 r5)
theorem oper_apk {o : Oper} {a : Act} {K : Act → World → Prop} {Q : Exit → Act → World → Prop} {w : World} (s x : Operand)
    (ho : o.op = .call { callee := .builtin .append, args := #[s, x], argTypes := #[22, 22] })
    (base : Nat) (v : Value) (n : Nat) (xs : List Value) (hs : a.eval s = v) (hown : w.ownsRow base 38 6 v n xs) (b : Nat) (m c : Nat) (news : List Value) (hx : a.eval x = .slice (some ⟨b, 0, none⟩) m c) (hl : news.length = m * 6) (hc : ∀ j u, news[j]? = some u → w.cell? ⟨b, j, none⟩ = some u) (h1 : ∀ u ∈ news, u.oneCell' = true)
    (hb : n + m ≤ 100000) (hbase : base ≤ w.heap.size)
    (h : ∀ v' w', w'.ownsRow base 38 6 v' (n + m) (xs ++ news) → w.grownBy w' v.ownBlock → (v'.ownBlock = v.ownBlock ∨ v'.ownBlock = some w.heap.size) → K (a.put o.dst v') w') : Oper.wp Tryz.prog o a w K Q := by
  obtain ⟨i, hi, hz0, hz1, hz2⟩ := info_parts Tryz.info25
  obtain ⟨v', w', r1, r2, r3, _, r5⟩ := run_append_own_at (P := Tryz.prog) w base 22 o.type 38 i _ 6 88 Tryz.underlying22 hi hz0 hz1 hz2 rfl (by decide) v _ _ hown ⟨b, 0, none⟩ m c news hl (fun j u hj => by rw [Addr.add_lit, Nat.zero_add]; exact hc j u hj) h1 (by unfold maxLen; omega) (by omega) hbase
  unfold Oper.wp execOp
  simp only [ho, resolve, invoke, builtin, Sem.run_bind, Sem.run_pure, Result.andThen_ok, List.map_toArray, List.map_cons, List.map_nil, hs, hx, r1]
  exact (h v' w' r2 r3 r5)
theorem oper_st1 {o : Oper} {a : Act} {K : Act → World → Prop} {Q : Exit → Act → World → Prop} {w : World} {P : Program} (ty : TypeId) (x y : Operand) (ho : o.op = .store ty x y) (b i : Nat) (t : TypeId) (vs : List Value) (v : Value)
    (hx : a.eval x = .pointer (some ⟨b, i, none⟩)) (hy : a.eval y = v) (hv : v.cells = #[v]) (hv1 : v.oneCell' = true) (hi : i < vs.length) (hb : Blk w b t vs) (hs : (P.info? ty).map (·.size) = some 1)
    (h : ∀ w', Blk w' b t (vs.set i v) → w.grownBy w' (some b) → K (a.put o.dst undef) w') : Oper.wp P o a w K Q := by
  have hst := run_storeCells_cells (P := P) b i [v] 0 w (fun j hj => by
      have : j = 0 := by simpa using hj
      subst this
      rw [Nat.add_zero, hb.cell, List.getElem?_eq_getElem hi]; rfl) (fun j hj => hb.frozen _) (by simp [hv1])
  unfold Oper.wp execOp
  cases hq : P.info? ty with
  | none => simp [hq] at hs
  | some q1 =>
    have hq1 : q1.size = 1 := by simpa [hq] using hs
    simp only [Nat.add_zero] at hst
    have hsv : (storeVar ty ⟨b, i, none⟩ v).run P w = .ok () (w.setCells b i [v]) := by
      simp [storeVar, Go.sizeOf, typeInfo, hq, hv, hq1, hst]
    simp only [ho, hx, hy, Instr.storeAt, Instr.sureAddr, Sem.run_bind, Sem.run_pure, Result.andThen_ok, hsv]
    exact h _ (hb.set i v) (grown_setCell w _ _)
/-- A load of one cell. -/
theorem q_one {C : World → Prop} {a : Act} {o : Oper} {K : Act → Prop} (T : TypeId) (hT : T = 3 ∨ T = 9 ∨ T = 36 ∨ T = 22 ∨ T = 52 ∨ T = 24) (x : Operand) (ho : o.op = .load T x) (b k : Nat) (hx : a.eval x = .pointer (some ⟨b, k, none⟩)) (v : Value) (hS : ∀ w, C w → w.cell? ⟨b, k, none⟩ = some v)
    (hk : K (a.put o.dst v)) : o.quiet Tryz.prog a C K :=
  ⟨_, fun w hw => by
    have h := hS w hw
    unfold Oper.quietAt execOp
    rcases hT with rfl | rfl | rfl | rfl | rfl | rfl <;> simp only [ho, hx] <;> go_simp, hk⟩
end Go.Proofs.YtmlfhplhiedfjaaGreatDoor
namespace Go.Proofs.YtmlfhplhiedfjaaGreatDoor
open Go.RowKit Math
set_option linter.unusedVariables false
set_option linter.unusedSimpArgs false
/-- What the library's contract asks of its own variable. -/
def Mx (w : World) : Prop := ∃ m, w.cell? ⟨0, 0, none⟩ = some (.int .i64 m)
theorem Mx.below {w w' : World} {B : Nat} (h : Mx w) (hb : Below B w w') (h0 : 0 < B) : Mx w' := by
  obtain ⟨m, hm⟩ := h
  refine ⟨m, ?_⟩
  rw [← hm]
  unfold World.cell?
  rw [hb.block 0 h0]
theorem Mx.pos {w : World} (h : Mx w) : 0 < w.heap.size := by
  obtain ⟨m, hm⟩ := h
  exact cell_lt hm
theorem Mx.kept {w w' : World} {r : Option Nat} (h : Mx w) (g : w.grownBy w' r) (hr : r ≠ some 0) : Mx w' := by
  have h0 := h.pos
  obtain ⟨m, hm⟩ := h
  refine ⟨m, ?_⟩
  rw [← hm]
  unfold World.cell?
  rw [g.block 0 h0 (fun e => hr e.symm)]
/-! ### texts -/
def escU : List UInt8 → List UInt8
  | [] => []
  | x :: l => if x = 0 then 0 :: 255 :: escU l else x :: escU l
theorem escU_map (l : List UInt8) : (escU l).map UInt8.toNat = esc (l.map UInt8.toNat) := by
  induction l with
  | nil => rfl
  | cons x l ih =>
    rw [escU, List.map_cons, esc]
    by_cases h : x = 0
    · subst h
      simp [ih]
    · have : x.toNat ≠ 0 := fun e => h (UInt8.toNat_inj.1 (by simpa using e))
      rw [if_neg h, if_neg this, List.map_cons, ih]
theorem idx_hit (l : List UInt8) : Lib.index (0 :: l) [0] = ((0 : Nat) : Int) := by
  simp [Lib.index, List.isPrefixOf]
theorem idx_skip (b : UInt8) (l : List UInt8) (h : b ≠ 0) : Lib.index (b :: l) [0] = if Lib.index l [0] == -1 then -1 else Lib.index l [0] + 1 := by
  have : (List.isPrefixOf [0] (b :: l)) = false := by
    simp only [List.isPrefixOf, Bool.and_true, beq_eq_false_iff_ne]
    exact fun e => h e.symm
  rw [Lib.index, this]
  rfl
theorem rep_skip (b : UInt8) (h : b ≠ 0) (new : List UInt8) : ∀ (k : Nat) (l : List UInt8), Lib.replaceK [0] new k (b :: l) = b :: Lib.replaceK [0] new k l
  | 0, l => rfl
  | k + 1, l => by
    by_cases hm : Lib.index l [0] = -1
    · have h1 : Lib.index (b :: l) [0] = -1 := by rw [idx_skip b l h, hm]; rfl
      rw [Lib.replaceK, Lib.replaceK, if_pos (by rw [h1]; rfl), if_pos (by rw [hm]; rfl)]
    · obtain ⟨i, hi⟩ : ∃ i : Nat, Lib.index l [0] = i := ⟨(Lib.index l [0]).toNat, by have := Lib.index_ge l [0]; omega⟩
      have h1 : Lib.index (b :: l) [0] = ((i + 1 : Nat) : Int) := by
        rw [idx_skip b l h, if_neg (by simpa using hm), hi]
        rfl
      rw [Lib.replaceK_hit _ _ _ _ _ h1, Lib.replaceK_hit _ _ _ _ _ hi]
      simp
theorem cnt_skip (b : UInt8) (h : b ≠ 0) (l : List UInt8) : Lib.count (b :: l) [0] = Lib.count l [0] := by
  by_cases hm : Lib.index l [0] = -1
  · have h1 : Lib.index (b :: l) [0] = -1 := by rw [idx_skip b l h, hm]; rfl
    rw [Lib.count_miss h1, Lib.count_miss hm]
  · obtain ⟨i, hi⟩ : ∃ i : Nat, Lib.index l [0] = i := ⟨(Lib.index l [0]).toNat, by have := Lib.index_ge l [0]; omega⟩
    have h1 : Lib.index (b :: l) [0] = ((i + 1 : Nat) : Int) := by
      rw [idx_skip b l h, if_neg (by simpa using hm), hi]
      rfl
    rw [Lib.count_hit (by simp) h1, Lib.count_hit (by simp) hi]
    simp
theorem rep_all : ∀ l : List UInt8, Lib.replaceK [0] [0, 255] (Lib.count l [0]) l = escU l
  | [] => by
    have : Lib.count [] [0] = 0 := Lib.count_miss (by decide)
    rw [this]; rfl
  | b :: l => by
    by_cases h : b = 0
    · subst h
      rw [Lib.count_hit (by simp) (idx_hit l), Nat.add_comm, Lib.replaceK_hit _ _ _ _ _ (idx_hit l)]
      have := rep_all l
      simp only [List.take_zero, List.nil_append, List.length_singleton, Nat.zero_add, List.drop_succ_cons, List.drop_zero, this]
      rw [escU, if_pos rfl]
      rfl
    · rw [cnt_skip b h, rep_skip b h, rep_all l, escU, if_neg h]
theorem replaceAll_esc (s : ByteArray) : (⟨(Lib.replaceAll s.data.toList [0] [0, 255]).toArray⟩ : ByteArray) = ofB (esc (bts s)) := by
  have h1 : Lib.replaceAll s.data.toList [0] [0, 255] = escU s.data.toList := by
    unfold Lib.replaceAll Lib.replace
    rw [if_neg (by decide)]
    unfold Lib.replaceNum
    rw [if_pos (.inl (by decide)), rep_all]
  rw [h1]
  have h2 : (ofB ((escU s.data.toList).map UInt8.toNat)) = ⟨(escU s.data.toList).toArray⟩ := by
    unfold ofB
    rw [List.map_map, show (UInt8.ofNat ∘ UInt8.toNat) = id from funext fun x => by simp, List.map_id]
  rw [← h2, escU_map]
  rfl
theorem wr_any (s : ByteArray) (hs : s.size ≤ 100000) (W : World) (hm : Mx W) :
    Calls Tryz.prog 84 #[.string s] W fun e w' => e = .returned (.string (ofB (esc (bts s)))) ∧ Below W.heap.size W w' := by
  obtain ⟨m, hm⟩ := hm
  have hc : Lib.countB s ⟨#[0]⟩ ≤ s.size := by
    have := Lib.countB_mul_le ⟨#[0]⟩ (by decide) s.size s (Nat.le_refl _)
    have e : (⟨#[0]⟩ : ByteArray).size = 1 := rfl
    rw [e] at this
    omega
  have K : Calls Tryz.prog 90 #[.string s, .string ⟨#[0]⟩, .string ⟨#[0, 255]⟩] W fun e w' => e = .returned (.string ⟨(Lib.replaceAll s.data.toList [0] [0, 255]).toArray⟩) ∧ Below W.heap.size W w' :=
    Any.strings_ReplaceAll { Tryz.laysM155 with } Tryz.Builder_Extra_M155 s ⟨#[0]⟩ ⟨#[0, 255]⟩ m W (by omega) hm (by decide) (by
      have e : (⟨#[0, 255]⟩ : ByteArray).size = 2 := rfl
      rw [e]
      omega)
  rw [replaceAll_esc] at K
  generalize ofB (esc (bts s)) = R at *
  clear hc hm
  go_enter Tryz.func84, Tryz.ntmps84
  go_wp2_with fail
  refine K.mono ?_
  rintro e w1 ⟨rfl, b1⟩
  go_wp2
  go_ret
  exact ⟨rfl, b1⟩
set_option maxRecDepth 8000 in
theorem kTx (v : Value) (l : List Nat) (s : ByteArray) (B : Nat) (W : World) (ho : Own W B v l) (hB : B ≤ W.heap.size) (hm : Mx W) (hs : s.size ≤ 100000) (hl : l.length ≤ 800000000) :
    Calls Tryz.prog 40 #[v, .string s] W fun e w' => ∃ v', e = .returned v' ∧ Ap B W w' v v' (l ++ txK s) := by
  have K := wr_any s hs W hm
  have HE : Hid (bts (ofB (esc (bts s))) = esc (bts s)) := bts_ofB _ (esc_oct (bts_oct s))
  have hsz : (ofB (esc (bts s))).size ≤ 200000 := by rw [ofB_size]; have := (esc_len (bts s)).2; rw [bts_len] at this; omega
  have HO : Hid (Own W B v l) := ho
  have HT : Hid (txK s = esc (bts s) ++ [0, 0]) := rfl
  generalize ofB (esc (bts s)) = R at *
  clear ho
  go_enter Tryz.func40, Tryz.ntmps40
  go_wp2_with fail
  refine K.mono ?_
  rintro e w1 ⟨rfl, b1⟩
  have HO1 : Hid (Own w1 B v l) := HO.out.below b1
  have HG1 : Hid (Below W.heap.size W w1) := b1
  have hs1 := b1.size
  clear b1 K HO
  go_wp2_with (at_builtin; go_must (refine ap_str rfl (.tmp 5) (.tmp 7) rfl B v l rfl HO1.out R rfl (by omega) (by omega) ?_))
  intro v2 w2 A2
  have HA2 : Hid (Ap B W w2 v v2 (l ++ bts R)) := Ap.after HG1.out A2
  have hs2 := A2.gr.size
  have hbl : (bts R).length ≤ 200000 := by rw [bts_len]; exact hsz
  clear A2
  go_wp2_with (at_builtin; go_must (refine ap_str rfl (.tmp 8) (.const (.string ⟨#[0, 0]⟩)) rfl B v2 (l ++ bts R) rfl HA2.out.own ⟨#[0, 0]⟩ rfl (by rw [List.length_append]; simp [ByteArray.size]; omega) (by omega) ?_))
  intro v3 w3 A3
  have HA3 : Hid (Ap B W w3 v v3 (l ++ txK s)) := by
    have := HA2.out.trans A3
    have e0 : bts ⟨#[0, 0]⟩ = [0, 0] := by decide
    simp only [HE.out, e0, List.append_assoc] at this
    show Ap _ _ _ _ _ _
    rw [HT.out]
    exact this
  clear A3 HA2
  go_wp2
  go_ret
  exact ⟨v3, rfl, HA3.out⟩
end Go.Proofs.YtmlfhplhiedfjaaGreatDoor
namespace Go.Proofs.YtmlfhplhiedfjaaGreatDoor
open Go.RowKit Math
set_option linter.unusedVariables false
set_option linter.unusedSimpArgs false
set_option maxRecDepth 8000 in
set_option maxHeartbeats 1000000 in
theorem trimB_any {W : World} (b off cap c : Nat) (l : List Nat) (hc : Cells W b off l) (hl : l.length ≤ cap) (hcap : cap ≤ 1000000) (ho : Oct l) (hcc : c < 256) (h0 : 0 < l.length) (h00 : l.getD 0 0 ≠ c) :
    Calls Tryz.prog 156 #[.slice (some ⟨b, off, none⟩) l.length cap, .int .u8 (c : Int)] W fun e w' => ∃ k, e = .returned (.slice (some ⟨b, off, none⟩) k cap) ∧ w' = W ∧ Hid (k ≤ l.length ∧ 0 < k ∧ (∀ j, k ≤ j → j < l.length → l.getD j 0 = c) ∧ l.getD (k - 1) 0 ≠ c) := by
  have HC : Hid (Cells W b off l) := hc
  have HO : Hid (Oct l) := ho
  clear hc ho
  go_enter Tryz.func156, Tryz.ntmps156
  go_wp2
  go_loop [0] (fun s => ∃ k : Nat, s = .slice (some ⟨b, off, none⟩) k cap ∧ k ≤ l.length ∧ 0 < k ∧ Hid (∀ j, k ≤ j → j < l.length → l.getD j 0 = c)) (fun s => match s with | .slice _ k _ => k | _ => 0)
  case atStart => exact ⟨l.length, rfl, Nat.le_refl _, h0, fun j h1 h2 => absurd h2 (by omega)⟩
  case round =>
    obtain ⟨k, rfl, hk, hk0, HK⟩ := hrel
    obtain ⟨k, rfl⟩ : ∃ j, k = j + 1 := ⟨k - 1, by omega⟩
    have hcell : W.cell? ⟨b, off + k, none⟩ = some (.int .u8 ((l.getD k 0 : Nat) : Int)) := HC.out k (by omega)
    have hx := oct_get HO.out k
    by_cases he : l.getD k 0 = c
    · have hk1 : 0 < k := by
        rcases Nat.eq_zero_or_pos k with rfl | h
        · exact absurd he h00
        · exact h
      rw [he] at hcell
      go_wp2
      go_round
      case rel =>
        refine ⟨k, by simp, by omega, hk1, fun j h1 h2 => ?_⟩
        rcases Nat.lt_or_ge j (k + 1) with h | h
        · rw [show j = k by omega]; exact he
        · exact HK.out j h h2
      case measure => simp
    · have hne : (((l.getD k 0 : Nat) : Int) == (c : Int)) = false := beq_eq_false_iff_ne.2 (by omega)
      have HN : Hid (l.getD k 0 ≠ c) := he
      generalize hg : l.getD k 0 = x at hcell hx hne
      go_wp2
      go_ret
      exact ⟨k + 1, rfl, rfl, by omega, by omega, HK.out, by simpa using HN.out⟩
set_option maxRecDepth 8000 in
theorem trim_any {W : World} (b off cap : Nat) (l : List Nat) (hc : Cells W b off l) (hl : l.length ≤ cap) (hcap : cap ≤ 1000000) (ho : Oct l) (h0 : 0 < l.length) (h00 : l.getD 0 0 ≠ 1) :
    Calls Tryz.prog 124 #[.slice (some ⟨b, off, none⟩) l.length cap, .string ⟨#[1]⟩] W fun e w' => ∃ k, e = .returned (.slice (some ⟨b, off, none⟩) k cap) ∧ w' = W ∧ Hid (k ≤ l.length ∧ 0 < k ∧ (∀ j, k ≤ j → j < l.length → l.getD j 0 = 1) ∧ l.getD (k - 1) 0 ≠ 1) := by
  have K := trimB_any (W := W) b off cap 1 l hc hl hcap ho (by omega) h0 h00
  have hne : ((l.length : Int) == 0) = false := beq_eq_false_iff_ne.2 (by omega)
  clear hc ho h00
  go_enter Tryz.func124, Tryz.ntmps124
  go_wp2_with fail
  refine K.mono ?_
  rintro e w1 ⟨k, rfl, hw, hk⟩
  have hw' := hw.symm
  subst hw'
  clear K hw
  have HK : Hid _ := hk
  clear hk
  go_wp2
  go_ret
  exact ⟨k, rfl, rfl, HK.out⟩
/-! ### turned round -/
def trn (l : List Nat) (fr k : Nat) : List Nat := (List.range l.length).map fun i => if fr ≤ i ∧ i < fr + k then 255 - l.getD i 0 else l.getD i 0
theorem trn_len (l : List Nat) (fr k : Nat) : (trn l fr k).length = l.length := by simp [trn]
theorem trn_get (l : List Nat) (fr k i : Nat) (h : i < l.length) : (trn l fr k)[i]? = some (if fr ≤ i ∧ i < fr + k then 255 - l.getD i 0 else l.getD i 0) := by simp [trn, h]
theorem trn_zero (l : List Nat) (fr : Nat) : trn l fr 0 = l := by
  apply List.ext_getElem?
  intro i
  by_cases h : i < l.length
  · rw [trn_get l fr 0 i h, if_neg (by omega), List.getD_eq_getElem?_getD, List.getElem?_eq_getElem h]; rfl
  · rw [List.getElem?_eq_none (by rw [trn_len]; omega), List.getElem?_eq_none (by omega)]
theorem trn_set (l : List Nat) (fr k : Nat) : (trn l fr k).set (fr + k) (255 - l.getD (fr + k) 0) = trn l fr (k + 1) := by
  apply List.ext_getElem?
  intro i
  by_cases h : i < l.length
  · rw [trn_get l fr (k + 1) i h, List.getElem?_set, trn_len]
    by_cases e : fr + k = i
    · subst e
      rw [if_pos rfl, if_pos h, if_pos (by omega)]
    · rw [if_neg e, trn_get l fr k i h]
      by_cases hh : fr ≤ i ∧ i < fr + k
      · rw [if_pos hh, if_pos (by omega)]
      · rw [if_neg hh, if_neg (by omega)]
  · rw [List.getElem?_eq_none (by rw [List.length_set, trn_len]; omega), List.getElem?_eq_none (by rw [trn_len]; omega)]
theorem trn_end (l m : List Nat) : trn (l ++ m) l.length m.length = l ++ turnB m := by
  apply List.ext_getElem?
  intro i
  by_cases h : i < (l ++ m).length
  · rw [trn_get _ _ _ i h]
    rw [List.length_append] at h
    by_cases hi : i < l.length
    · rw [if_neg (by omega), List.getElem?_append_left hi, List.getD_eq_getElem?_getD, List.getElem?_append_left hi, List.getElem?_eq_getElem hi]; rfl
    · rw [if_pos (by omega), List.getElem?_append_right (by omega), List.getD_eq_getElem?_getD, List.getElem?_append_right (by omega), List.getElem?_eq_getElem (by omega)]
      simp [turnB, List.getElem?_eq_getElem (show i - l.length < m.length by omega)]
  · rw [List.getElem?_eq_none (by rw [trn_len]; omega), List.getElem?_eq_none (by simp [turnB] at h ⊢; omega)]
theorem xor_u8 (x : Nat) (h : x < 256) : bits .xor .u8 (if IntKind.u8.signed = true then -1 else IntKind.u8.max) (x : Int) = ((255 - x : Nat) : Int) := by
  have : ∀ y : Fin 256, bits .xor .u8 (if IntKind.u8.signed = true then -1 else IntKind.u8.max) ((y.val : Nat) : Int) = ((255 - y.val : Nat) : Int) := by decide +kernel
  exact this ⟨x, h⟩
set_option maxRecDepth 8000 in
set_option maxHeartbeats 1000000 in
theorem turn_any (g fr c B : Nat) (l : List Nat) (W : World) (ho : Own W B (.slice (some ⟨g, 0, none⟩) l.length c) l) (hoc : ∀ k, l.getD (fr + k) 0 < 256) (hfr : fr ≤ l.length) (hl : l.length ≤ 1000000000) (hc : c ≤ 9223372036854775807) (hlc : l.length ≤ c) (cap : Nat) :
    Calls Tryz.prog 82 #[.slice (some ⟨g, fr, none⟩) (l.length - fr) cap] W fun e w' => e = .returned (.tuple #[]) ∧ Hid (Own w' B (.slice (some ⟨g, 0, none⟩) l.length c) (trn l fr (l.length - fr)) ∧ W.grownBy w' (some g)) := by
  have HO : Hid (Own W B (.slice (some ⟨g, 0, none⟩) l.length c) (trn l fr 0)) := by rw [trn_zero]; exact ho
  have HOc : Hid (∀ k, l.getD (fr + k) 0 < 256) := hoc
  obtain ⟨n, hn⟩ : ∃ n, n = l.length - fr := ⟨_, rfl⟩
  rw [← hn]
  clear ho hoc
  go_enter Tryz.func82, Tryz.ntmps82
  go_wp2
  go_loopw [5] (fun i wr => ∃ k : Nat, k ≤ n ∧ i = .int .i64 k ∧ Hid (Own wr B (.slice (some ⟨g, 0, none⟩) l.length c) (trn l fr k)) ∧ Hid (W.grownBy wr (some g))) (fun i _ => n - (intOf i).toNat)
  case atStart => exact ⟨0, by omega, rfl, HO.out, World.grownBy.refl _ _⟩
  case round =>
    obtain ⟨k, hk, rfl, HK, HG⟩ := hrel
    clear HO
    by_cases hlt : k < n
    · have o3 := HK.out
      have hce := World.ownsRow.cellAt (by unfold Own at o3; rw [trn_len] at o3; exact o3) (fr + k) (by omega)
      rw [vals_get _ (fr + k) (by rw [trn_len]; omega)] at hce
      have hfz : wr.frozen? ⟨g, fr + k, none⟩ = false := World.ownsRow.frozenAt (by unfold Own at o3; rw [trn_len] at o3; exact o3) (fr + k)
      have hv : (trn l fr k).getD (fr + k) 0 = l.getD (fr + k) 0 := by
        rw [List.getD_eq_getElem?_getD, trn_get l fr k _ (by omega), if_neg (by omega)]; rfl
      rw [hv] at hce
      have hx := HOc.out k
      have HX := xor_u8 _ hx
      have o4 := own_put (trn_len l fr k) o3 (fr + k) (255 - l.getD (fr + k) 0)
      rw [trn_set l fr k] at o4
      have HO4 : Hid _ := o4
      have HG4 : Hid (W.grownBy (wr.setCell ⟨g, fr + k, none⟩ (.int .u8 ((255 - l.getD (fr + k) 0 : Nat) : Int))) (some g)) := by
        have h1 := HG.out
        have h2 := grown_setCell wr ⟨g, fr + k, none⟩ (.int .u8 ((255 - l.getD (fr + k) 0 : Nat) : Int))
        exact ⟨h2.os.trans h1.os, h2.tape.trans h1.tape, h2.output.trans h1.output, Nat.le_trans h1.size h2.size, fun k hk hne => (h2.block k (Nat.lt_of_lt_of_le hk h1.size) hne).trans (h1.block k hk hne)⟩
      clear o3 o4 hv HK HG
      generalize hz : 255 - l.getD (fr + k) 0 = z at *
      generalize l.getD (fr + k) 0 = x at *
      go_wp2
      go_roundw
      case rel => exact ⟨k + 1, by omega, by go_num, HO4.out, HG4.out⟩
      case measure => simp [intOf]; omega
    · have hkn : k = n := by omega
      subst hkn
      go_wp2
      go_end0
      exact ⟨rfl, HK.out, HG.out⟩
end Go.Proofs.YtmlfhplhiedfjaaGreatDoor
