/-
  Regions that draw: one of several operations comes up; what each kind of operation does. · Appending, as an operation of a region. · codec's appendValue at decimals.
-/
import Derived.Test.YtpfiejmhnkcjbaaGreatDoorFG4x
import Derived.Test.YtpfiejmhnkcjbaaGreatDoorFOrz
import Derived.Test.YtpfiejmhnkcjbaaGreatDoorFWb
namespace Go.Proofs.YtpfiejmhnkcjbaaGreatDoor
open Go Go.RowKit
set_option linter.unusedVariables false
section
variable {P : Program} {C : World → Prop} {z : Nat} {Q : Exit → Act → World → Prop}
theorem one_of {L : List Oper} {n : Nat} {listed : Array Bool} {a : Act} {w : World} (N : Nat) (hn : n = N + 1) (is : List Nat) (hr : Region.ready .any L.toArray listed = is) (hne : is ≠ [])
    (h : ∀ i ∈ is, ∃ o, nth L i = some o ∧ Region.wanted o (yielded L.toArray a.tmps) = true ∧ ∀ K : Act → World → Prop, (∀ a' w', (i = z ∨ C w') → anyC P L.toArray C z Q N (listed.setIfInBounds i true) a' w' → K a' w') → o.wp P a w K Q) : anyC P L.toArray C z Q n listed a w := by
  subst hn
  refine ⟨fun h0 => absurd (hr.symm.trans h0) hne, fun j hj => ?_⟩
  rw [hr] at hj
  obtain ⟨o, h1, h2, h3⟩ := h j hj
  unfold wpOp
  simp only [show L.toArray[j]? = some o by rw [List.getElem?_toArray, ← nth_eq, h1]]
  rw [if_pos h2]
  exact .inl (h3 _ fun a' w' hC h' => ⟨hC, h'⟩)
theorem two_do {L : List Oper} {i j : Nat} {oi oj : Oper} {n : Nat} {listed : Array Bool} {a : Act} {w : World} (N : Nat) (hn : n = N + 1) (hr : Region.ready .any L.toArray listed = [i, j]) (hi : nth L i = some oi) (hwi : Region.wanted oi (yielded L.toArray a.tmps) = true) (hj : nth L j = some oj) (hwj : Region.wanted oj (yielded L.toArray a.tmps) = true)
    (h1 : ∀ K : Act → World → Prop, (∀ a' w', C w' → anyC P L.toArray C z Q N (listed.setIfInBounds i true) a' w' → K a' w') → oi.wp P a w K Q) (h2 : ∀ K : Act → World → Prop, (∀ a' w', C w' → anyC P L.toArray C z Q N (listed.setIfInBounds j true) a' w' → K a' w') → oj.wp P a w K Q) : anyC P L.toArray C z Q n listed a w := by
  refine one_of N hn [i, j] hr (by simp) fun k hk => ?_
  by_cases e : k = i
  · subst e
    exact ⟨oi, hi, hwi, fun K hK => h1 K fun a' w' hC => hK a' w' (.inr hC)⟩
  · have : k = j := by simpa [e] using hk
    subst this
    exact ⟨oj, hj, hwj, fun K hK => h2 K fun a' w' hC => hK a' w' (.inr hC)⟩
end
theorem enters {P : Program} {f : FuncId} {fn : Func} {c : Code} (hf : P.funcs[f]? = some fn) (hname : (fn.name == "runtime.NumGoroutine") = false) (hb : fn.body = some c) : ∀ (args : Array Value) (w : World), (callFunc f args).run P w = .ok (.enter f args) w := by
  intro args w
  have h1 : fn.name ≠ "runtime.NumGoroutine" := by simpa using hname
  simp [callFunc, hf, h1, hb]
section
variable {o : Oper} {a : Act} {w : World} {K : Act → World → Prop} {Q : Exit → Act → World → Prop}
theorem oper_call (k : Nat) (xs : Array Operand) (ts : Array TypeId)
    (hop : o.op = Op.call { callee := Callee.value (Operand.func k), args := xs, argTypes := ts }) (args : Array Value) (hargs : xs.map a.eval = args)
    (hent : ∀ (args : Array Value) (w : World), (callFunc k args).run Tryz.prog w = .ok (.enter k args) w) (R : Value → World → Prop)
    (hc : Calls Tryz.prog k args w fun e w' => ∃ v, e = .returned v ∧ R v w') (hK : ∀ v w', R v w' → K (a.put o.dst v) w') : Oper.wp Tryz.prog o a w K Q := by
  unfold Oper.wp
  have : (execOp a.eval o).run Tryz.prog w = .ok (.enter k args) w := by
    simp [execOp, hop, resolve, invoke, Act.eval, hargs, hent, Deferred.ofValue]
  rw [this, Oper.upon_enter]
  refine hc.mono ?_
  rintro e w' ⟨v, rfl, hr⟩
  exact hK v w' hr
/-- A slice of one element. -/
theorem oper_byte (t : Nat) (ho : o.op = .buildSlice 34 1 #[(0, .tmp t)]) (n : Int) (hx : a.tmps.getD t undef = .int .u8 n) (hK : K (a.put o.dst (.slice (some ⟨w.heap.size, 0, none⟩) 1 1)) (w.alloc (.cells #[.int .u8 n] 5))) : Oper.wp Tryz.prog o a w K Q := by
  have hx' : a.tmps[t]?.getD undef = .int .u8 n := by simpa using hx
  unfold Oper.wp execOp
  simp only [ho]
  go_simp
  exact hK
theorem oper_name (t : Nat) (ho : o.op = .buildSlice 38 1 #[(0, .tmp t)]) (s : ByteArray) (hx : a.tmps.getD t undef = .string s) (hK : K (a.put o.dst (.slice (some ⟨w.heap.size, 0, none⟩) 1 1)) (w.alloc (.cells #[.string s] 9))) : Oper.wp Tryz.prog o a w K Q := by
  have hx' : a.tmps[t]?.getD undef = .string s := by simpa using hx
  unfold Oper.wp execOp
  simp only [ho]
  go_simp
  exact hK
theorem oper_kid (t : Nat) (ho : o.op = .buildSlice 39 1 #[(0, .tmp t)]) (v0 v1 v2 v3 v4 v5 : Value) (hx : a.tmps.getD t undef = .agg #[v0, v1, v2, v3, v4, v5]) (hK : K (a.put o.dst (.slice (some ⟨w.heap.size, 0, none⟩) 1 1)) (w.alloc (.cells #[v0, v1, v2, v3, v4, v5] 41))) : Oper.wp Tryz.prog o a w K Q := by
  have hx' : a.tmps[t]?.getD undef = .agg #[v0, v1, v2, v3, v4, v5] := by simpa using hx
  unfold Oper.wp execOp
  simp only [ho]
  go_simp
  exact hK
end
end Go.Proofs.YtpfiejmhnkcjbaaGreatDoor
namespace Go.Proofs.YtpfiejmhnkcjbaaGreatDoor
open Go.RowKit Math
set_option linter.unusedVariables false
theorem oper_apb {o : Oper} {a : Act} {K : Act → World → Prop} {Q : Exit → Act → World → Prop} {w : World} (s x : Operand)
    (ho : o.op = .call { callee := .builtin .append, args := #[s, x], argTypes := #[34, 34] })
    (base : Nat) (v : Value) (l : List Nat) (hs : a.eval s = v) (hown : Own w base v l)
    (ax : Option Addr) (m c : Nat) (l2 : List Nat) (hm : m = l2.length) (hx : a.eval x = .slice ax m c) (hsrc : Byt w ax l2) (hnil : ax = none → c = 0)
    (hb : l.length + l2.length ≤ 1000000000) (hbase : base ≤ w.heap.size)
    (h : ∀ v' w', Ap base w w' v v' (l ++ l2) → K (a.put o.dst v') w') : Oper.wp Tryz.prog o a w K Q := by
  subst hm
  obtain ⟨i, hi, hz0, hz1, hz2⟩ := info_parts Tryz.info5
  cases ax with
  | none =>
    obtain rfl := hnil rfl
    have hl : l2 = [] := by
      rcases hsrc with h | ⟨_, _, h, _⟩
      · exact h
      · cases h
    subst hl
    have hr := run_append_owned_none (P := Tryz.prog) (w := w) base 34 o.type 5 i 1 Tryz.underlying34 hi v _ _ hown
    unfold Oper.wp execOp
    simp only [ho, resolve, invoke, builtin, Sem.run_bind, Sem.run_pure, Result.andThen_ok, List.map_toArray, List.map_cons, List.map_nil, hs, hx, List.length_nil, hr]
    exact (h v w (by rw [List.append_nil]; exact Ap.refl hown))
  | some ad =>
    obtain ⟨v', w', r1, r2, r3, _, r5⟩ := run_append_own_at (P := Tryz.prog) w base 34 o.type 5 i _ 1 1 Tryz.underlying34 hi hz0 hz1 hz2 rfl (by decide) v _ _ hown ad l2.length c (vals l2) (by simp [vals_length]) (by
      intro j u hj
      have hjl : j < l2.length := by
        have := (List.getElem?_eq_some_iff.1 hj).1
        simpa [vals_length] using this
      rcases hsrc with rfl | ⟨b, off, he, hc⟩
      · simp at hjl
      · obtain rfl := Option.some.inj he
        rw [vals_get l2 j hjl] at hj
        rw [Addr.add_lit, hc j hjl]
        exact hj) (vals_one l2) (by unfold maxLen; omega) (by omega) hbase
    unfold Oper.wp execOp
    simp only [ho, resolve, invoke, builtin, Sem.run_bind, Sem.run_pure, Result.andThen_ok, List.map_toArray, List.map_cons, List.map_nil, hs, hx, r1]
    refine (h v' w' ⟨?_, r3, fun b hb => ?_⟩)
    · unfold Own
      rw [List.length_append, vals_app]
      exact r2
    · rcases r5 with e | e
      · exact .inl (e.symm.trans hb)
      · rw [e] at hb
        exact .inr (by injection hb with hb; omega)
theorem oper_st1 {o : Oper} {a : Act} {K : Act → World → Prop} {Q : Exit → Act → World → Prop} {w : World} {P : Program} (ty : TypeId) (x y : Operand) (ho : o.op = .store ty x y) (b i : Nat) (t : TypeId) (vs : List Value) (v : Value)
    (hx : a.eval x = .pointer (some ⟨b, i, none⟩)) (hy : a.eval y = v) (hv : v.cells = #[v]) (hv1 : v.oneCell' = true) (hi : i < vs.length) (hb : Blk w b t vs) (hs : (P.info? ty).map (·.size) = some 1)
    (h : ∀ w', Blk w' b t (vs.set i v) → w.grownBy w' (some b) → K (a.put o.dst undef) w') : Oper.wp P o a w K Q := by
  have hst := run_storeCells_cells (P := P) b i [v] 0 w (fun j hj => by
      have : j = 0 := by simpa using hj
      subst this
      rw [Nat.add_zero, hb.cell, List.getElem?_eq_getElem hi]; rfl) (fun j hj => hb.frozen _) (by simp [hv1])
  unfold Oper.wp execOp
  cases hq : P.info? ty with
  | none => simp [hq] at hs
  | some q1 =>
    have hq1 : q1.size = 1 := by simpa [hq] using hs
    simp only [Nat.add_zero] at hst
    have hsv : (storeVar ty ⟨b, i, none⟩ v).run P w = .ok () (w.setCells b i [v]) := by
      simp [storeVar, Go.sizeOf, typeInfo, hq, hv, hq1, hst]
    simp only [ho, hx, hy, Instr.storeAt, Instr.sureAddr, Sem.run_bind, Sem.run_pure, Result.andThen_ok, hsv]
    exact h _ (hb.set i v) (grown_setCell w _ _)
/-- A load of one cell. -/
theorem q_one {C : World → Prop} {a : Act} {o : Oper} {K : Act → Prop} (T : TypeId) (hT : T = 3 ∨ T = 9 ∨ T = 38 ∨ T = 39 ∨ T = 34 ∨ T = 23) (x : Operand) (ho : o.op = .load T x) (b k : Nat) (hx : a.eval x = .pointer (some ⟨b, k, none⟩)) (v : Value) (hS : ∀ w, C w → w.cell? ⟨b, k, none⟩ = some v)
    (hk : K (a.put o.dst v)) : o.quiet Tryz.prog a C K :=
  ⟨_, fun w hw => by
    have h := hS w hw
    unfold Oper.quietAt execOp
    rcases hT with rfl | rfl | rfl | rfl | rfl | rfl <;> simp only [ho, hx] <;> go_simp, hk⟩
end Go.Proofs.YtpfiejmhnkcjbaaGreatDoor
namespace Go.Proofs.YtpfiejmhnkcjbaaGreatDoor
open Go.RowKit Math
set_option linter.unusedVariables false
set_option maxRecDepth 8000 in
theorem av_4 (n : Int) (t : ByteArray) (na : Option Addr) (nl nc : Nat) (ka : Option Addr) (kl kc : Nat) (ax : Option Addr) (c : Nat) (l : List Nat) (hl : l.length ≤ 65536) (n0 : -9223372036854775808 ≤ n) (n1 : n < 9223372036854775808) (q : Nat) (hq : q < 256) (B : Nat) (W : World) (ho : Own W B (.slice ax l.length c) l) (hB : B ≤ W.heap.size) :
    Calls Tryz.prog 138 #[.slice ax l.length c, .agg #[.int .i64 4, .int .i64 n, .int .i64 (q : Int), .string t, .slice na nl nc, .slice ka kl kc]] W fun e w' => ∃ v', e = .returned v' ∧ Ap B W w' (.slice ax l.length c) v' (l ++ 4 :: (uv (zigS n).toNat ++ [q])) := by
  have h1 : decide ((65536 : Int) < (l.length : Int)) = false := by simp; omega
  have hb0 : Below W.heap.size W (W.alloc (.cells #[.int .i64 4, .int .i64 n, .int .i64 (q : Int), .string t, .slice na nl nc, .slice ka kl kc] 41)) := (Below.refl _ _).alloc (Nat.le_refl _) _
  have HO : Hid (Own (W.alloc (.cells #[.int .i64 4, .int .i64 n, .int .i64 (q : Int), .string t, .slice na nl nc, .slice ka kl kc] 41)) B (.slice ax l.length c) l) := ho.alloc _
  have HX : Hid (Blk (W.alloc (.cells #[.int .i64 4, .int .i64 n, .int .i64 (q : Int), .string t, .slice na nl nc, .slice ka kl kc] 41)) W.heap.size 41 [.int .i64 4, .int .i64 n, .int .i64 (q : Int), .string t, .slice na nl nc, .slice ka kl kc]) := blk_new W 41 [.int .i64 4, .int .i64 n, .int .i64 (q : Int), .string t, .slice na nl nc, .slice ka kl kc]
  have HN : Hid ((Value.slice ax l.length c).ownBlock ≠ some W.heap.size) := ho.ne
  have HB0 : Hid (Below W.heap.size W (W.alloc (.cells #[.int .i64 4, .int .i64 n, .int .i64 (q : Int), .string t, .slice na nl nc, .slice ka kl kc] 41))) := hb0
  have hz : B ≤ (W.alloc (.cells #[.int .i64 4, .int .i64 n, .int .i64 (q : Int), .string t, .slice na nl nc, .slice ka kl kc] 41)).heap.size := by simp; omega
  have HZ : Hid ((W.alloc (.cells #[.int .i64 4, .int .i64 n, .int .i64 (q : Int), .string t, .slice na nl nc, .slice ka kl kc] 41)).heap.size = W.heap.size + 1) := by show _ = _; simp
  clear ho hb0
  go_enter Tryz.func138, Tryz.ntmps138
  go_wp2_with (at_builtin; go_must (generalize hWW : World.alloc W _ = W1 at *; refine ap_bytes rfl (.tmp 9) (.tmp 13) rfl B _ l rfl (HO.out.alloc _) _ _ _ [4] rfl rfl (byt_at W1 [4] _ HZ.out) (by simp) (by simp; omega) (by simp; omega) ?_))
  intro v1 w1 A1
  have HA : Hid (Ap B W1 w1 (.slice ax l.length c) v1 (l ++ [4])) := Ap.after ((Below.refl _ _).alloc (Nat.le_refl _) _) A1
  clear A1
  have hb1 : B ≤ w1.heap.size := Nat.le_trans hz HA.out.gr.size
  have HX1 : Hid (Blk w1 W.heap.size 41 [.int .i64 4, .int .i64 n, .int .i64 (q : Int), .string t, .slice na nl nc, .slice ka kl kc]) := HA.out.blk HX.out HN.out
  have HNE : Hid (v1.ownBlock ≠ some W.heap.size) := fun e => by
    rcases HA.out.ob _ e with h | h
    · exact HN.out h
    · rw [HZ.out] at h
      omega
  have HAW : Hid (Ap B W w1 (.slice ax l.length c) v1 (l ++ [4])) := Ap.after HB0.out HA.out
  clear HA HX HO HB0 hWW hz
  have c0 : w1.cell? ⟨W.heap.size, 0, none⟩ = some (.int .i64 4) := HX1.out.cell 0
  have hu := uv_ten _ (zig_nat n n0 n1).1
  go_wp2
  obtain ⟨C, hC⟩ : ∃ C : World → Prop, C = fun W' => Blk W' W.heap.size 41 [.int .i64 4, .int .i64 n, .int .i64 (q : Int), .string t, .slice na nl nc, .slice ka kl kc] := ⟨_, rfl⟩
  have C1 : Hid (∀ W', C W' → W'.cell? ⟨W.heap.size, 1, none⟩ = some (.int .i64 n)) := fun W' h => by rw [hC] at h; exact h.cell 1
  have C2 : Hid (∀ W', C W' → W'.cell? ⟨W.heap.size, 2, none⟩ = some (.int .i64 (q : Int))) := fun W' h => by rw [hC] at h; exact h.cell 2
  have CA : Hid (∀ W' W'' v v' l', C W' → Ap B W' W'' v v' l' → v.ownBlock ≠ some W.heap.size → C W'') := fun W' W'' v v' l' h A hne => by rw [hC] at h ⊢; exact A.blk h hne
  have CL : Hid (∀ W' o, C W' → C (W'.alloc o)) := fun W' o h => by rw [hC] at h ⊢; exact h.alloc o
  have C0 : Hid (C { w1 with drawn := w1.drawn + 1 }) := by rw [hC]; exact HX1.out
  have hW1 : W.heap.size < w1.heap.size := HX1.out.lt
  have D0 : Hid (Below w1.heap.size w1 { w1 with drawn := w1.drawn + 1 }) := Below.drew (Below.refl _ _)
  have HO1 : Hid (Own { w1 with drawn := w1.drawn + 1 } B v1 (l ++ [4])) := HAW.out.own.below D0.out
  have hsz : ({ w1 with drawn := w1.drawn + 1 } : World).heap.size = w1.heap.size := rfl
  clear hC HX1 c0
  refine region_calm C 9 (by kernel_rfl) ?_
  generalize ({ w1 with drawn := w1.drawn + 1 } : World) = v0 at *
  have hCp : ∀ p : Prop, (∀ W, C W → p) ↔ p := fun p => ⟨fun h => h _ C0.out, fun h _ _ => h⟩
  refine seg 4 [0, 1, 2, 4, 5, 6] rfl (by kernel_rfl) whole_blind C0.out (by kernel_rfl) ?_
  change wpQuiet _ _ _ _ (_ :: _ :: _ :: _ :: _ :: _ :: []) _
  repeat (first
    | go_big_quiet_skip
    | (go_big_quiet_want
       first
       | (refine q_one 3 (.inl rfl) (.tmp 34) rfl (W.heap.size) 1 rfl _ C1.out ?_
          simp only [Act.put, List.setIfInBounds_toArray, List.set_cons_zero, List.set_cons_succ]
          go_big_quiet_on)
       | (refine q_one 3 (.inl rfl) (.tmp 37) rfl (W.heap.size) 2 rfl _ C2.out ?_
          simp only [Act.put, List.setIfInBounds_toArray, List.set_cons_zero, List.set_cons_succ]
          go_big_quiet_on)
       | (go_big_quiet_op
          go_big_quiet_on)))
  refine wpQuiet_nil ?_
  refine two_do (i := 3) (j := 7) 3 rfl (by kernel_rfl) rfl (by rfl) rfl (by rfl) ?_ ?_
  · intro K hK
    refine oper_call 160 #[.tmp 33, .tmp 35] #[34, 3] rfl #[v1, .int .i64 n] (by rw [List.map_toArray]; rfl) (enters Tryz.func160 (by kernel_rfl) rfl) (fun v' w' => Ap B v0 w' v1 v' (l ++ [4] ++ uv (zigS n).toNat)) (apInt v1 (l ++ [4]) n n0 n1 B v0 (HO1.out) (by omega) (by simp; omega)) ?_
    intro v2 w3 A2
    have hs3 := A2.gr.size
    have hc3 := CA.out _ _ _ _ _ C0.out A2 HNE.out
    have hn3 : v2.ownBlock ≠ some W.heap.size := fun e => by
      rcases A2.ob _ e with h | h
      · exact HNE.out h
      · omega
    refine hK _ _ hc3 ?_
    simp only [Act.put, List.setIfInBounds_toArray, List.set_cons_zero, List.set_cons_succ]
    refine lone_do (i := 7) 2 rfl (by kernel_rfl) rfl (by rfl) ?_
    intro K hK
    refine oper_byte 39 rfl (q : Int) rfl ?_
    refine hK _ _ (CL.out _ _ hc3) ?_
    simp only [Act.put, List.setIfInBounds_toArray, List.set_cons_zero, List.set_cons_succ]
    refine lone_do (i := 8) 1 rfl (by kernel_rfl) rfl (by rfl) ?_
    intro K hK
    refine oper_apb (.tmp 36) (.tmp 40) rfl B v2 (l ++ [4] ++ uv (zigS n).toNat) rfl (A2.own.alloc _) _ _ _ [q] rfl rfl (byt_lit w3 [q]) (by simp) (by simp only [List.length_append, List.length_singleton]; omega) (by simp; omega) ?_
    intro v3 w5 A3
    have XA : Ap B W w5 (.slice ax l.length c) v3 (l ++ 4 :: (uv (zigS n).toNat ++ [q])) := by
      have := HAW.out.trans (Ap.after D0.out (A2.trans (Ap.after ((Below.refl _ _).alloc (Nat.le_refl _) _) A3)))
      simpa using this
    have HA3 : Hid _ := XA
    have hc5 := CA.out _ _ _ _ _ (CL.out _ _ hc3) A3 (hn3)
    clear A3 XA
    refine hK _ _ hc5 ?_
    simp only [Act.put, List.setIfInBounds_toArray, List.set_cons_zero, List.set_cons_succ]
    refine lone_calm (i := 9) 0 rfl (by kernel_rfl) rfl rfl hc5 ?_
    have hCq : ∀ p : Prop, (∀ W, C W → p) ↔ p := fun p => ⟨fun h => h _ hc5, fun h _ _ => h⟩
    go_big_quiet_want
    go_big_quiet_op
    go_big_quiet_on
    refine wpQuiet_nil ?_
    refine anyC_done (by kernel_rfl) ⟨rfl, ?_⟩
    clear hc5 hCq hCp
    go_wp2
    go_ret
    exact ⟨v3, rfl, HA3.out⟩
  · intro K hK
    refine oper_byte 39 rfl (q : Int) rfl ?_
    refine hK _ _ (CL.out _ _ C0.out) ?_
    simp only [Act.put, List.setIfInBounds_toArray, List.set_cons_zero, List.set_cons_succ]
    have hbq : Blk (v0.alloc (.cells #[.int .u8 (q : Int)] 5)) v0.heap.size 5 [.int .u8 (q : Int)] := blk_new v0 5 [.int .u8 (q : Int)]
    have hnq : v1.ownBlock ≠ some v0.heap.size := HO1.out.ne
    refine lone_do (i := 3) 2 rfl (by kernel_rfl) rfl (by rfl) ?_
    intro K hK
    refine oper_call 160 #[.tmp 33, .tmp 35] #[34, 3] rfl #[v1, .int .i64 n] (by rw [List.map_toArray]; rfl) (enters Tryz.func160 (by kernel_rfl) rfl) (fun v' w' => Ap B (v0.alloc (.cells #[.int .u8 (q : Int)] 5)) w' v1 v' (l ++ [4] ++ uv (zigS n).toNat)) (apInt v1 (l ++ [4]) n n0 n1 B (v0.alloc (.cells #[.int .u8 (q : Int)] 5)) (HO1.out.alloc _) (by simp; omega) (by simp; omega)) ?_
    intro v2 w3 A2
    have hs3 := A2.gr.size
    simp only [World.size_alloc] at hs3
    have hc3 := CA.out _ _ _ _ _ (CL.out _ _ C0.out) A2 HNE.out
    have hn3 : v2.ownBlock ≠ some W.heap.size := fun e => by
      rcases A2.ob _ e with h | h
      · exact HNE.out h
      · simp at h
        omega
    have hb3 : Byt w3 (some ⟨v0.heap.size, 0, none⟩) [q] := by
      have := A2.blk hbq hnq
      refine .inr ⟨_, _, rfl, fun i hi => ?_⟩
      have h0 : i = 0 := by simpa using hi
      subst h0
      rw [this.cell]
      rfl
    refine hK _ _ hc3 ?_
    simp only [Act.put, List.setIfInBounds_toArray, List.set_cons_zero, List.set_cons_succ]
    refine lone_do (i := 8) 1 rfl (by kernel_rfl) rfl (by rfl) ?_
    intro K hK
    refine oper_apb (.tmp 36) (.tmp 40) rfl B v2 (l ++ [4] ++ uv (zigS n).toNat) rfl (A2.own) _ _ _ [q] rfl rfl (hb3) (by simp) (by simp only [List.length_append, List.length_singleton]; omega) (by omega) ?_
    intro v3 w5 A3
    have XA : Ap B W w5 (.slice ax l.length c) v3 (l ++ 4 :: (uv (zigS n).toNat ++ [q])) := by
      have := HAW.out.trans (Ap.after D0.out (Ap.after ((Below.refl _ _).alloc (Nat.le_refl _) _) (A2.trans A3)))
      simpa using this
    have HA3 : Hid _ := XA
    have hc5 := CA.out _ _ _ _ _ (hc3) A3 (hn3)
    clear A3 XA
    refine hK _ _ hc5 ?_
    simp only [Act.put, List.setIfInBounds_toArray, List.set_cons_zero, List.set_cons_succ]
    refine lone_calm (i := 9) 0 rfl (by kernel_rfl) rfl rfl hc5 ?_
    have hCq : ∀ p : Prop, (∀ W, C W → p) ↔ p := fun p => ⟨fun h => h _ hc5, fun h _ _ => h⟩
    go_big_quiet_want
    go_big_quiet_op
    go_big_quiet_on
    refine wpQuiet_nil ?_
    refine anyC_done (by kernel_rfl) ⟨rfl, ?_⟩
    clear hc5 hCq hCp
    go_wp2
    go_ret
    exact ⟨v3, rfl, HA3.out⟩
end Go.Proofs.YtpfiejmhnkcjbaaGreatDoor
