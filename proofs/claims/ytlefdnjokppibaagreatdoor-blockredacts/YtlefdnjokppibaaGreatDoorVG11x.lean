/-
  Regions that draw: one of several operations comes up; what each kind of operation does. · Appending, as an operation of a region. · codec's appendValue at decimals. · codec's appendKids. · codec's appendKids, at structs.
-/
import Derived.Test.YtlefdnjokppibaaGreatDoorVG9x
import Derived.Test.YtlefdnjokppibaaGreatDoorVG5x
import Derived.Test.YtlefdnjokppibaaGreatDoorVWb
namespace Go.Proofs.YtlefdnjokppibaaGreatDoor
open Go Go.RowKit
set_option linter.unusedVariables false
section
variable {P : Program} {C : World → Prop} {z : Nat} {Q : Exit → Act → World → Prop}
theorem one_of {L : List Oper} {n : Nat} {listed : Array Bool} {a : Act} {w : World} (N : Nat) (hn : n = N + 1) (is : List Nat) (hr : Region.ready .any L.toArray listed = is) (hne : is ≠ [])
    (h : ∀ i ∈ is, ∃ o, nth L i = some o ∧ Region.wanted o (yielded L.toArray a.tmps) = true ∧ ∀ K : Act → World → Prop, (∀ a' w', (i = z ∨ C w') → anyC P L.toArray C z Q N (listed.setIfInBounds i true) a' w' → K a' w') → o.wp P a w K Q) : anyC P L.toArray C z Q n listed a w := by
  subst hn
  refine ⟨fun h0 => absurd (hr.symm.trans h0) hne, fun j hj => ?_⟩
  rw [hr] at hj
  obtain ⟨o, h1, h2, h3⟩ := h j hj
  unfold wpOp
  simp only [show L.toArray[j]? = some o by rw [List.getElem?_toArray, ← nth_eq, h1]]
  rw [if_pos h2]
  exact .inl (h3 _ fun a' w' hC h' => ⟨hC, h'⟩)
theorem two_do {L : List Oper} {i j : Nat} {oi oj : Oper} {n : Nat} {listed : Array Bool} {a : Act} {w : World} (N : Nat) (hn : n = N + 1) (hr : Region.ready .any L.toArray listed = [i, j]) (hi : nth L i = some oi) (hwi : Region.wanted oi (yielded L.toArray a.tmps) = true) (hj : nth L j = some oj) (hwj : Region.wanted oj (yielded L.toArray a.tmps) = true)
    (h1 : ∀ K : Act → World → Prop, (∀ a' w', C w' → anyC P L.toArray C z Q N (listed.setIfInBounds i true) a' w' → K a' w') → oi.wp P a w K Q) (h2 : ∀ K : Act → World → Prop, (∀ a' w', C w' → anyC P L.toArray C z Q N (listed.setIfInBounds j true) a' w' → K a' w') → oj.wp P a w K Q) : anyC P L.toArray C z Q n listed a w := by
  refine one_of N hn [i, j] hr (by simp) fun k hk => ?_
  by_cases e : k = i
  · subst e
    exact ⟨oi, hi, hwi, fun K hK => h1 K fun a' w' hC => hK a' w' (.inr hC)⟩
  · have : k = j := by simpa [e] using hk
    subst this
    exact ⟨oj, hj, hwj, fun K hK => h2 K fun a' w' hC => hK a' w' (.inr hC)⟩
end
theorem enters {P : Program} {f : FuncId} {fn : Func} {c : Code} (hf : P.funcs[f]? = some fn) (hname : (fn.name == "runtime.NumGoroutine") = false) (hb : fn.body = some c) : ∀ (args : Array Value) (w : World), (callFunc f args).run P w = .ok (.enter f args) w := by
  intro args w
  have h1 : fn.name ≠ "runtime.NumGoroutine" := by simpa using hname
  simp [callFunc, hf, h1, hb]
section
variable {o : Oper} {a : Act} {w : World} {K : Act → World → Prop} {Q : Exit → Act → World → Prop}
theorem oper_call (k : Nat) (xs : Array Operand) (ts : Array TypeId)
    (hop : o.op = Op.call { callee := Callee.value (Operand.func k), args := xs, argTypes := ts }) (args : Array Value) (hargs : xs.map a.eval = args)
    (hent : ∀ (args : Array Value) (w : World), (callFunc k args).run Tryz.prog w = .ok (.enter k args) w) (R : Value → World → Prop)
    (hc : Calls Tryz.prog k args w fun e w' => ∃ v, e = .returned v ∧ R v w') (hK : ∀ v w', R v w' → K (a.put o.dst v) w') : Oper.wp Tryz.prog o a w K Q := by
  unfold Oper.wp
  have : (execOp a.eval o).run Tryz.prog w = .ok (.enter k args) w := by
    simp [execOp, hop, resolve, invoke, Act.eval, hargs, hent, Deferred.ofValue]
  rw [this, Oper.upon_enter]
  refine hc.mono ?_
  rintro e w' ⟨v, rfl, hr⟩
  exact hK v w' hr
/-- A slice of one element. -/
theorem oper_byte (t : Nat) (ho : o.op = .buildSlice 70 1 #[(0, .tmp t)]) (n : Int) (hx : a.tmps.getD t undef = .int .u8 n) (hK : K (a.put o.dst (.slice (some ⟨w.heap.size, 0, none⟩) 1 1)) (w.alloc (.cells #[.int .u8 n] 5))) : Oper.wp Tryz.prog o a w K Q := by
  have hx' : a.tmps[t]?.getD undef = .int .u8 n := by simpa using hx
  unfold Oper.wp execOp
  simp only [ho]
  go_simp
  exact hK
end
end Go.Proofs.YtlefdnjokppibaaGreatDoor
namespace Go.Proofs.YtlefdnjokppibaaGreatDoor
open Go.RowKit Math
set_option linter.unusedVariables false
theorem oper_apb {o : Oper} {a : Act} {K : Act → World → Prop} {Q : Exit → Act → World → Prop} {w : World} (s x : Operand)
    (ho : o.op = .call { callee := .builtin .append, args := #[s, x], argTypes := #[70, 70] })
    (base : Nat) (v : Value) (l : List Nat) (hs : a.eval s = v) (hown : Own w base v l)
    (ax : Option Addr) (m c : Nat) (l2 : List Nat) (hm : m = l2.length) (hx : a.eval x = .slice ax m c) (hsrc : Byt w ax l2) (hnil : ax = none → c = 0)
    (hb : l.length + l2.length ≤ 1000000000) (hbase : base ≤ w.heap.size)
    (h : ∀ v' w', Ap base w w' v v' (l ++ l2) → K (a.put o.dst v') w') : Oper.wp Tryz.prog o a w K Q := by
  subst hm
  obtain ⟨i, hi, hz0, hz1, hz2⟩ := info_parts Tryz.info5
  cases ax with
  | none =>
    obtain rfl := hnil rfl
    have hl : l2 = [] := by
      rcases hsrc with h | ⟨_, _, h, _⟩
      · exact h
      · cases h
    subst hl
    have hr := run_append_owned_none (P := Tryz.prog) (w := w) base 70 o.type 5 i 1 Tryz.underlying70 hi v _ _ hown
    unfold Oper.wp execOp
    simp only [ho, resolve, invoke, builtin, Sem.run_bind, Sem.run_pure, Result.andThen_ok, List.map_toArray, List.map_cons, List.map_nil, hs, hx, List.length_nil, hr]
    exact (h v w (by rw [List.append_nil]; exact Ap.refl hown))
  | some ad =>
    obtain ⟨v', w', r1, r2, r3, _, r5⟩ := run_append_own_at (P := Tryz.prog) w base 70 o.type 5 i _ 1 1 Tryz.underlying70 hi hz0 hz1 hz2 rfl (by decide) v _ _ hown ad l2.length c (vals l2) (by simp [vals_length]) (by
      intro j u hj
      have hjl : j < l2.length := by
        have := (List.getElem?_eq_some_iff.1 hj).1
        simpa [vals_length] using this
      rcases hsrc with rfl | ⟨b, off, he, hc⟩
      · simp at hjl
      · obtain rfl := Option.some.inj he
        rw [vals_get l2 j hjl] at hj
        rw [Addr.add_lit, hc j hjl]
        exact hj) (vals_one l2) (by unfold maxLen; omega) (by omega) hbase
    unfold Oper.wp execOp
    simp only [ho, resolve, invoke, builtin, Sem.run_bind, Sem.run_pure, Result.andThen_ok, List.map_toArray, List.map_cons, List.map_nil, hs, hx, r1]
    refine (h v' w' ⟨?_, r3, fun b hb => ?_⟩)
    · unfold Own
      rw [List.length_append, vals_app]
      exact r2
    · rcases r5 with e | e
      · exact .inl (e.symm.trans hb)
      · rw [e] at hb
        exact .inr (by injection hb with hb; omega)
/-- A whole block is stored. -/
theorem oper_sta {o : Oper} {a : Act} {K : Act → World → Prop} {Q : Exit → Act → World → Prop} {w : World} {P : Program} (ty : TypeId) (x y : Operand) (ho : o.op = .store ty x y) (hg : o.guard = none) (b : Nat) (t : TypeId) (m m' : List Value)
    (hx : a.eval x = .pointer (some ⟨b, 0, none⟩)) (hy : a.eval y = .agg m'.toArray) (hb : Blk w b t m) (hl : m'.length = m.length)
    (hi : (P.info? ty).map (·.size) = some m'.length) (h1 : ∀ v ∈ m', v.oneCell' = true)
    (h : ∀ w', Blk w' b t m' → w.grownBy w' (some b) → K (a.put o.dst undef) w') : Oper.wp P o a w K Q := by
  have hst := run_storeCells_cells (P := P) b 0 m' 0 w (fun j hj => by rw [Nat.add_zero, Nat.zero_add, hb.cell, List.getElem?_eq_getElem (by omega)]; rfl) (fun j hj => hb.frozen _) h1
  unfold Oper.wp execOp
  cases hq : P.info? ty with
  | none => simp [hq] at hi
  | some q1 =>
    have hq1 : q1.size = m'.length := by simpa [hq] using hi
    simp only [Nat.add_zero] at hst
    have hsv : (storeVar ty ⟨b, 0, none⟩ (.agg m'.toArray)).run P w = .ok () (w.setCells b 0 m') := by
      simp [storeVar, Go.sizeOf, typeInfo, hq, Value.cells, hq1, hst]
    simp only [ho, hx, hy, Instr.storeAt, Instr.sureAddr, Sem.run_bind, Sem.run_pure, Result.andThen_ok, hsv]
    refine h _ ?_ ?_
    · have := Blk.setCells (b := b) (t := t) [] m' m [] w hl (by simpa using hb)
      simpa using this
    · exact grown_setCells b m' 0 w
/-- A load of one cell. -/
theorem q_one {C : World → Prop} {a : Act} {o : Oper} {K : Act → Prop} (T : TypeId) (hT : T = 3 ∨ T = 9 ∨ T = 38 ∨ T = 39 ∨ T = 70 ∨ T = 29) (x : Operand) (ho : o.op = .load T x) (b k : Nat) (hx : a.eval x = .pointer (some ⟨b, k, none⟩)) (v : Value) (hS : ∀ w, C w → w.cell? ⟨b, k, none⟩ = some v)
    (hk : K (a.put o.dst v)) : o.quiet Tryz.prog a C K :=
  ⟨_, fun w hw => by
    have h := hS w hw
    unfold Oper.quietAt execOp
    rcases hT with rfl | rfl | rfl | rfl | rfl | rfl <;> simp only [ho, hx] <;> go_simp, hk⟩
end Go.Proofs.YtlefdnjokppibaaGreatDoor
namespace Go.Proofs.YtlefdnjokppibaaGreatDoor
open Go.RowKit Math
set_option linter.unusedVariables false
set_option maxRecDepth 8000 in
theorem av_4 (n : Int) (t : ByteArray) (na : Option Addr) (nl nc : Nat) (ka : Option Addr) (kl kc : Nat) (ax : Option Addr) (c : Nat) (l : List Nat) (hl : l.length ≤ 65536) (n0 : -9223372036854775808 ≤ n) (n1 : n < 9223372036854775808) (q : Nat) (hq : q < 256) (B : Nat) (W : World) (ho : Own W B (.slice ax l.length c) l) (hB : B ≤ W.heap.size) :
    Calls Tryz.prog 93 #[.slice ax l.length c, .agg #[.int .i64 4, .int .i64 n, .int .i64 (q : Int), .string t, .slice na nl nc, .slice ka kl kc]] W fun e w' => ∃ v', e = .returned v' ∧ Ap B W w' (.slice ax l.length c) v' (l ++ 4 :: (uv (zigS n).toNat ++ [q])) := by
  have h1 : decide ((65536 : Int) < (l.length : Int)) = false := by simp; omega
  have hb0 : Below W.heap.size W (W.alloc (.cells #[.int .i64 4, .int .i64 n, .int .i64 (q : Int), .string t, .slice na nl nc, .slice ka kl kc] 41)) := (Below.refl _ _).alloc (Nat.le_refl _) _
  have HO : Hid (Own (W.alloc (.cells #[.int .i64 4, .int .i64 n, .int .i64 (q : Int), .string t, .slice na nl nc, .slice ka kl kc] 41)) B (.slice ax l.length c) l) := ho.alloc _
  have HX : Hid (Blk (W.alloc (.cells #[.int .i64 4, .int .i64 n, .int .i64 (q : Int), .string t, .slice na nl nc, .slice ka kl kc] 41)) W.heap.size 41 [.int .i64 4, .int .i64 n, .int .i64 (q : Int), .string t, .slice na nl nc, .slice ka kl kc]) := blk_new W 41 [.int .i64 4, .int .i64 n, .int .i64 (q : Int), .string t, .slice na nl nc, .slice ka kl kc]
  have HN : Hid ((Value.slice ax l.length c).ownBlock ≠ some W.heap.size) := ho.ne
  have HB0 : Hid (Below W.heap.size W (W.alloc (.cells #[.int .i64 4, .int .i64 n, .int .i64 (q : Int), .string t, .slice na nl nc, .slice ka kl kc] 41))) := hb0
  have hz : B ≤ (W.alloc (.cells #[.int .i64 4, .int .i64 n, .int .i64 (q : Int), .string t, .slice na nl nc, .slice ka kl kc] 41)).heap.size := by simp; omega
  have HZ : Hid ((W.alloc (.cells #[.int .i64 4, .int .i64 n, .int .i64 (q : Int), .string t, .slice na nl nc, .slice ka kl kc] 41)).heap.size = W.heap.size + 1) := by show _ = _; simp
  clear ho hb0
  go_enter Tryz.func93, Tryz.ntmps93
  go_wp2_with (at_builtin; go_must (generalize hWW : World.alloc W _ = W1 at *; refine ap_bytes rfl (.tmp 9) (.tmp 13) rfl B _ l rfl (HO.out.alloc _) _ _ _ [4] rfl rfl (byt_at W1 [4] _ HZ.out) (by simp) (by simp; omega) (by simp; omega) ?_))
  intro v1 w1 A1
  have HA : Hid (Ap B W1 w1 (.slice ax l.length c) v1 (l ++ [4])) := Ap.after ((Below.refl _ _).alloc (Nat.le_refl _) _) A1
  clear A1
  have hb1 : B ≤ w1.heap.size := Nat.le_trans hz HA.out.gr.size
  have HX1 : Hid (Blk w1 W.heap.size 41 [.int .i64 4, .int .i64 n, .int .i64 (q : Int), .string t, .slice na nl nc, .slice ka kl kc]) := HA.out.blk HX.out HN.out
  have HNE : Hid (v1.ownBlock ≠ some W.heap.size) := fun e => by
    rcases HA.out.ob _ e with h | h
    · exact HN.out h
    · rw [HZ.out] at h
      omega
  have HAW : Hid (Ap B W w1 (.slice ax l.length c) v1 (l ++ [4])) := Ap.after HB0.out HA.out
  clear HA HX HO HB0 hWW hz
  have c0 : w1.cell? ⟨W.heap.size, 0, none⟩ = some (.int .i64 4) := HX1.out.cell 0
  have hu := uv_ten _ (zig_nat n n0 n1).1
  go_wp2
  obtain ⟨C, hC⟩ : ∃ C : World → Prop, C = fun W' => Blk W' W.heap.size 41 [.int .i64 4, .int .i64 n, .int .i64 (q : Int), .string t, .slice na nl nc, .slice ka kl kc] := ⟨_, rfl⟩
  have C1 : Hid (∀ W', C W' → W'.cell? ⟨W.heap.size, 1, none⟩ = some (.int .i64 n)) := fun W' h => by rw [hC] at h; exact h.cell 1
  have C2 : Hid (∀ W', C W' → W'.cell? ⟨W.heap.size, 2, none⟩ = some (.int .i64 (q : Int))) := fun W' h => by rw [hC] at h; exact h.cell 2
  have CA : Hid (∀ W' W'' v v' l', C W' → Ap B W' W'' v v' l' → v.ownBlock ≠ some W.heap.size → C W'') := fun W' W'' v v' l' h A hne => by rw [hC] at h ⊢; exact A.blk h hne
  have CL : Hid (∀ W' o, C W' → C (W'.alloc o)) := fun W' o h => by rw [hC] at h ⊢; exact h.alloc o
  have C0 : Hid (C { w1 with drawn := w1.drawn + 1 }) := by rw [hC]; exact HX1.out
  have hW1 : W.heap.size < w1.heap.size := HX1.out.lt
  have D0 : Hid (Below w1.heap.size w1 { w1 with drawn := w1.drawn + 1 }) := Below.drew (Below.refl _ _)
  have HO1 : Hid (Own { w1 with drawn := w1.drawn + 1 } B v1 (l ++ [4])) := HAW.out.own.below D0.out
  have hsz : ({ w1 with drawn := w1.drawn + 1 } : World).heap.size = w1.heap.size := rfl
  clear hC HX1 c0
  refine region_calm C 9 (by kernel_rfl) ?_
  generalize ({ w1 with drawn := w1.drawn + 1 } : World) = v0 at *
  have hCp : ∀ p : Prop, (∀ W, C W → p) ↔ p := fun p => ⟨fun h => h _ C0.out, fun h _ _ => h⟩
  refine seg 4 [0, 1, 2, 4, 5, 6] rfl (by kernel_rfl) whole_blind C0.out (by kernel_rfl) ?_
  change wpQuiet _ _ _ _ (_ :: _ :: _ :: _ :: _ :: _ :: []) _
  repeat (first
    | go_big_quiet_skip
    | (go_big_quiet_want
       first
       | (refine q_one 3 (.inl rfl) (.tmp 34) rfl (W.heap.size) 1 rfl _ C1.out ?_
          simp only [Act.put, List.setIfInBounds_toArray, List.set_cons_zero, List.set_cons_succ]
          go_big_quiet_on)
       | (refine q_one 3 (.inl rfl) (.tmp 37) rfl (W.heap.size) 2 rfl _ C2.out ?_
          simp only [Act.put, List.setIfInBounds_toArray, List.set_cons_zero, List.set_cons_succ]
          go_big_quiet_on)
       | (go_big_quiet_op
          go_big_quiet_on)))
  refine wpQuiet_nil ?_
  refine two_do (i := 3) (j := 7) 3 rfl (by kernel_rfl) rfl (by rfl) rfl (by rfl) ?_ ?_
  · intro K hK
    refine oper_call 108 #[.tmp 33, .tmp 35] #[70, 3] rfl #[v1, .int .i64 n] (by rw [List.map_toArray]; rfl) (enters Tryz.func108 (by kernel_rfl) rfl) (fun v' w' => Ap B v0 w' v1 v' (l ++ [4] ++ uv (zigS n).toNat)) (apInt v1 (l ++ [4]) n n0 n1 B v0 (HO1.out) (by omega) (by simp; omega)) ?_
    intro v2 w3 A2
    have hs3 := A2.gr.size
    have hc3 := CA.out _ _ _ _ _ C0.out A2 HNE.out
    have hn3 : v2.ownBlock ≠ some W.heap.size := fun e => by
      rcases A2.ob _ e with h | h
      · exact HNE.out h
      · omega
    refine hK _ _ hc3 ?_
    simp only [Act.put, List.setIfInBounds_toArray, List.set_cons_zero, List.set_cons_succ]
    refine lone_do (i := 7) 2 rfl (by kernel_rfl) rfl (by rfl) ?_
    intro K hK
    refine oper_byte 39 rfl (q : Int) rfl ?_
    refine hK _ _ (CL.out _ _ hc3) ?_
    simp only [Act.put, List.setIfInBounds_toArray, List.set_cons_zero, List.set_cons_succ]
    refine lone_do (i := 8) 1 rfl (by kernel_rfl) rfl (by rfl) ?_
    intro K hK
    refine oper_apb (.tmp 36) (.tmp 40) rfl B v2 (l ++ [4] ++ uv (zigS n).toNat) rfl (A2.own.alloc _) _ _ _ [q] rfl rfl (byt_lit w3 [q]) (by simp) (by simp only [List.length_append, List.length_singleton]; omega) (by simp; omega) ?_
    intro v3 w5 A3
    have XA : Ap B W w5 (.slice ax l.length c) v3 (l ++ 4 :: (uv (zigS n).toNat ++ [q])) := by
      have := HAW.out.trans (Ap.after D0.out (A2.trans (Ap.after ((Below.refl _ _).alloc (Nat.le_refl _) _) A3)))
      simpa using this
    have HA3 : Hid _ := XA
    have hc5 := CA.out _ _ _ _ _ (CL.out _ _ hc3) A3 (hn3)
    clear A3 XA
    refine hK _ _ hc5 ?_
    simp only [Act.put, List.setIfInBounds_toArray, List.set_cons_zero, List.set_cons_succ]
    refine lone_calm (i := 9) 0 rfl (by kernel_rfl) rfl rfl hc5 ?_
    have hCq : ∀ p : Prop, (∀ W, C W → p) ↔ p := fun p => ⟨fun h => h _ hc5, fun h _ _ => h⟩
    go_big_quiet_want
    go_big_quiet_op
    go_big_quiet_on
    refine wpQuiet_nil ?_
    refine anyC_done (by kernel_rfl) ⟨rfl, ?_⟩
    clear hc5 hCq hCp
    go_wp2
    go_ret
    exact ⟨v3, rfl, HA3.out⟩
  · intro K hK
    refine oper_byte 39 rfl (q : Int) rfl ?_
    refine hK _ _ (CL.out _ _ C0.out) ?_
    simp only [Act.put, List.setIfInBounds_toArray, List.set_cons_zero, List.set_cons_succ]
    have hbq : Blk (v0.alloc (.cells #[.int .u8 (q : Int)] 5)) v0.heap.size 5 [.int .u8 (q : Int)] := blk_new v0 5 [.int .u8 (q : Int)]
    have hnq : v1.ownBlock ≠ some v0.heap.size := HO1.out.ne
    refine lone_do (i := 3) 2 rfl (by kernel_rfl) rfl (by rfl) ?_
    intro K hK
    refine oper_call 108 #[.tmp 33, .tmp 35] #[70, 3] rfl #[v1, .int .i64 n] (by rw [List.map_toArray]; rfl) (enters Tryz.func108 (by kernel_rfl) rfl) (fun v' w' => Ap B (v0.alloc (.cells #[.int .u8 (q : Int)] 5)) w' v1 v' (l ++ [4] ++ uv (zigS n).toNat)) (apInt v1 (l ++ [4]) n n0 n1 B (v0.alloc (.cells #[.int .u8 (q : Int)] 5)) (HO1.out.alloc _) (by simp; omega) (by simp; omega)) ?_
    intro v2 w3 A2
    have hs3 := A2.gr.size
    simp only [World.size_alloc] at hs3
    have hc3 := CA.out _ _ _ _ _ (CL.out _ _ C0.out) A2 HNE.out
    have hn3 : v2.ownBlock ≠ some W.heap.size := fun e => by
      rcases A2.ob _ e with h | h
      · exact HNE.out h
      · simp at h
        omega
    have hb3 : Byt w3 (some ⟨v0.heap.size, 0, none⟩) [q] := by
      have := A2.blk hbq hnq
      refine .inr ⟨_, _, rfl, fun i hi => ?_⟩
      have h0 : i = 0 := by simpa using hi
      subst h0
      rw [this.cell]
      rfl
    refine hK _ _ hc3 ?_
    simp only [Act.put, List.setIfInBounds_toArray, List.set_cons_zero, List.set_cons_succ]
    refine lone_do (i := 8) 1 rfl (by kernel_rfl) rfl (by rfl) ?_
    intro K hK
    refine oper_apb (.tmp 36) (.tmp 40) rfl B v2 (l ++ [4] ++ uv (zigS n).toNat) rfl (A2.own) _ _ _ [q] rfl rfl (hb3) (by simp) (by simp only [List.length_append, List.length_singleton]; omega) (by omega) ?_
    intro v3 w5 A3
    have XA : Ap B W w5 (.slice ax l.length c) v3 (l ++ 4 :: (uv (zigS n).toNat ++ [q])) := by
      have := HAW.out.trans (Ap.after D0.out (Ap.after ((Below.refl _ _).alloc (Nat.le_refl _) _) (A2.trans A3)))
      simpa using this
    have HA3 : Hid _ := XA
    have hc5 := CA.out _ _ _ _ _ (hc3) A3 (hn3)
    clear A3 XA
    refine hK _ _ hc5 ?_
    simp only [Act.put, List.setIfInBounds_toArray, List.set_cons_zero, List.set_cons_succ]
    refine lone_calm (i := 9) 0 rfl (by kernel_rfl) rfl rfl hc5 ?_
    have hCq : ∀ p : Prop, (∀ W, C W → p) ↔ p := fun p => ⟨fun h => h _ hc5, fun h _ _ => h⟩
    go_big_quiet_want
    go_big_quiet_op
    go_big_quiet_on
    refine wpQuiet_nil ?_
    refine anyC_done (by kernel_rfl) ⟨rfl, ?_⟩
    clear hc5 hCq hCp
    go_wp2
    go_ret
    exact ⟨v3, rfl, HA3.out⟩
end Go.Proofs.YtlefdnjokppibaaGreatDoor
namespace Go.Proofs.YtlefdnjokppibaaGreatDoor
open Go.RowKit Math
set_option linter.unusedVariables false
theorem al_zero {P : Program} {ops : Array Oper} {rest : List Oper} {o : Oper} {a : Act} {w : World} {Q : Exit → Act → World → Prop} (hg : o.guard = none) (t : TypeId) (ho : o.op = .alloc t) (cs : List Value) (hz : (P.info? t).map (fun i => i.zero.map (·.cells)) = some (some cs.toArray))
    (h : ∀ g w', w.heap.size ≤ g → Blk w' g t cs → w.grownBy w' none → wpList P ops Q rest (a.put o.dst (.pointer (some ⟨g, 0, none⟩))) w') : wpList P ops Q (o :: rest) a w := by
  refine wpList_plain hg fun K hK => ?_
  unfold Oper.wp execOp
  cases hi : P.info? t with
  | none => simp [hi] at hz
  | some i =>
    cases hq : i.zero with
    | none => simp [hi, hq] at hz
    | some z =>
      have hc : z.cells = cs.toArray := by simpa [hi, hq] using hz
      have hzv : (zeroValue t).run P w = .ok z w := by simp [zeroValue, typeInfo, hi, hq]
      simp only [ho, Sem.run_bind, Instr.alloc, hzv, newVar, newRow, run_newObj_alloc, Sem.run_pure, Result.andThen_ok, hc]
      exact hK _ _ (h _ _ (Nat.le_refl _) (blk_new w t cs) (World.grownBy_alloc w _ none))
theorem z25 : (Tryz.prog.info? 41).map (fun i => i.zero.map (·.cells)) = some (some zer.toArray) := by kernel_rfl
theorem below_new {w w1 w2 : World} {g : Nat} (h1 : w.grownBy w1 none) (hg : w.heap.size ≤ g) (h2 : w1.grownBy w2 (some g)) : Below w.heap.size w w2 := by
  have b1 : Below w.heap.size w w1 := (Below.refl _ _).grown h1 (Nat.le_refl _) (fun k e => by cases e)
  exact b1.grown h2 h1.size (fun k e => by injection e with e; omega)
theorem enc_drop {f : Fo} {b : Bool} {ns : List ByteArray} {k : Nat} {q : Vt} (h : f.list[k]? = some q) : enc (f.drop k) b (ns.drop k) = ((if b then txB ((ns.drop k).headD ⟨#[]⟩) else []) ++ encV q) ++ enc (f.drop (k + 1)) b (ns.drop (k + 1)) := by
  rw [Fo.drop_at f k q h, enc_cons]
  congr 2
  simp
structure KInv (B : Nat) (W wr : World) (v vb : Value) (l lk : List Nat) (box : List Value) (f : Fo) (b : Bool) (ns : List ByteArray) (k : Nat) (tot : List Nat) : Prop where
  ap : Ap B W wr v vb lk
  blk : Blk wr W.heap.size 41 box
  ne : vb.ownBlock ≠ some W.heap.size
  wr : ∃ x, Wr l x lk ∧ tot = x ++ enc (f.drop k) b (ns.drop k)
theorem KInv.len {B : Nat} {W wr : World} {v vb : Value} {l lk : List Nat} {box : List Value} {f : Fo} {b : Bool} {ns : List ByteArray} {k : Nat} {tot : List Nat} (h : KInv B W wr v vb l lk box f b ns k tot) : lk.length + (enc (f.drop k) b (ns.drop k)).length ≤ l.length + tot.length := by
  obtain ⟨x, h1, h2⟩ := h.wr
  have := h1.up
  rw [h2, List.length_append]
  omega
theorem KInv.step {B : Nat} {W wr w1 w2 : World} {v vb v2 : Value} {l lk l2 : List Nat} {box : List Value} {f : Fo} {b : Bool} {ns : List ByteArray} {k : Nat} {tot : List Nat} {q : Vt} (h : KInv B W wr v vb l lk box f b ns k tot) (hq : f.list[k]? = some q)
    (g : Below wr.heap.size wr w1) (A : Ap B w1 w2 vb v2 l2) (w : Wr lk ((if b then txB ((ns.drop k).headD ⟨#[]⟩) else []) ++ encV q) l2) : KInv B W w2 v v2 l l2 box f b ns (k + 1) tot := by
  have hlt := h.blk.lt
  have hs := g.size
  refine ⟨h.ap.trans (Ap.after g A), A.blk (h.blk.below g hlt) h.ne, fun e => ?_, ?_⟩
  · rcases A.ob _ e with h1 | h1
    · exact h.ne h1
    · omega
  · obtain ⟨x, h1, h2⟩ := h.wr
    refine ⟨x ++ ((if b then txB ((ns.drop k).headD ⟨#[]⟩) else []) ++ encV q), h1.trans w, ?_⟩
    rw [h2, enc_drop hq]
    simp only [List.append_assoc]
def AvC (p : Vt) : Prop := ∀ (na : Option Addr) (nc : Nat) (ka : Option Addr) (kc : Nat) (v : Value) (l : List Nat) (B : Nat) (w0 W : World), Vl w0 p na nc ka kc → Below w0.heap.size w0 W → w0.heap.size ≤ B → B ≤ W.heap.size → Own W B v l → l.length + (encV p).length ≤ 700000000 →
  Calls Tryz.prog 93 #[v, .agg #[.int .i64 p.1.k, .int .i64 p.1.n, .int .i64 p.1.s, .string p.1.t, .slice na p.1.ns.length nc, .slice ka p.2.list.length kc]] W fun e w' => ∃ v' l', e = .returned v' ∧ Hid (Ap B W w' v v' l' ∧ Wr l (encV p) l')
set_option maxRecDepth 8000 in
set_option maxHeartbeats 1000000 in
theorem ak_list (p : Vt) (hk : p.1.k = 8) (hkl : p.2.list.length ≤ 200) (ih : ∀ q ∈ p.2.list, AvC q) (na : Option Addr) (nc : Nat) (ka : Option Addr) (kc : Nat) (v : Value) (l : List Nat) (B : Nat) (w0 W : World) (hv : Vl w0 p na nc ka kc) (hb : Below w0.heap.size w0 W) (hB0 : w0.heap.size ≤ B) (hB : B ≤ W.heap.size) (ho : Own W B v l) (hl : l.length + (uv p.2.list.length ++ enc p.2 false p.1.ns).length ≤ 700000000) :
    Calls Tryz.prog 111 #[v, .agg #[.int .i64 8, .int .i64 p.1.n, .int .i64 p.1.s, .string p.1.t, .slice na p.1.ns.length nc, .slice ka p.2.list.length kc]] W fun e w' => ∃ v' l', e = .returned v' ∧ Hid (Ap B W w' v v' l' ∧ Wr l (uv p.2.list.length ++ enc p.2 false p.1.ns) l') := by
  obtain ⟨W1, HW1⟩ : ∃ W1, Hid (W.alloc (.cells #[.int .i64 8, .int .i64 p.1.n, .int .i64 p.1.s, .string p.1.t, .slice na p.1.ns.length nc, .slice ka p.2.list.length kc] 41) = W1) := ⟨_, rfl⟩
  have HX : Hid (Blk W1 W.heap.size 41 [.int .i64 8, .int .i64 p.1.n, .int .i64 p.1.s, .string p.1.t, .slice na p.1.ns.length nc, .slice ka p.2.list.length kc]) := by rw [← HW1.out]; exact blk_new W 41 [.int .i64 8, .int .i64 p.1.n, .int .i64 p.1.s, .string p.1.t, .slice na p.1.ns.length nc, .slice ka p.2.list.length kc]
  have HO1 : Hid (Own W1 B v l) := by rw [← HW1.out]; exact ho.alloc _
  have hz1 : W1.heap.size = W.heap.size + 1 := by have := HW1.out; subst this; simp
  have HB1 : Hid (Below W.heap.size W W1) := by rw [← HW1.out]; exact (Below.refl _ _).alloc (Nat.le_refl _) _
  have HN : Hid (v.ownBlock ≠ some W.heap.size) := ho.ne
  have HO : Hid (Own W B v l) := ho
  have HV : Hid (Vl w0 p na nc ka kc) := hv
  have HI : Hid (∀ q ∈ p.2.list, AvC q) := ih
  have HBw : Hid (Below w0.heap.size w0 W) := hb
  have HT : Hid (l.length + (uv p.2.list.length ++ enc p.2 false p.1.ns).length ≤ 700000000) := hl
  have hll : l.length ≤ 700000000 := by omega
  have KU := apUv v l p.2.list.length (by omega) B W1 HO1.out (by omega) (by omega)
  have c5 : W1.cell? ⟨W.heap.size, 5, none⟩ = some (.slice ka p.2.list.length kc) := HX.out.cell 5
  clear ho hv ih hb hl
  go_enter Tryz.func111, Tryz.ntmps111
  go_wp2_with fail
  generalize hWW : World.alloc W _ = W9
  obtain rfl : W1 = W9 := by rw [← hWW, ← HW1.out]
  clear hWW HW1
  refine KU.mono ?_
  rintro e w1 ⟨v1, rfl, A1⟩
  have HI0 : Hid (KInv B W w1 v v1 l (l ++ uv p.2.list.length) [.int .i64 8, .int .i64 p.1.n, .int .i64 p.1.s, .string p.1.t, .slice na p.1.ns.length nc, .slice ka p.2.list.length kc] p.2 false p.1.ns 0 (uv p.2.list.length ++ enc p.2 false p.1.ns)) := by
    refine ⟨Ap.after HB1.out A1, A1.blk HX.out HN.out, fun e => ?_, ⟨uv p.2.list.length, Wr.all _ _, rfl⟩⟩
    rcases A1.ob _ e with h | h
    · exact HN.out h
    · omega
  have c5' : w1.cell? ⟨W.heap.size, 5, none⟩ = some (.slice ka p.2.list.length kc) := HI0.out.blk.cell 5
  clear A1 KU c5 HX HO1 HB1 HN hz1
  go_wp2
  clear c5'
  go_loopw [0, 16] (fun vb i wr => ∃ (k : Nat) (lk : List Nat), k ≤ p.2.list.length ∧ i = .int .i64 (k : Int) ∧ Hid (KInv B W wr v vb l lk [.int .i64 8, .int .i64 p.1.n, .int .i64 p.1.s, .string p.1.t, .slice na p.1.ns.length nc, .slice ka p.2.list.length kc] p.2 false p.1.ns k (uv p.2.list.length ++ enc p.2 false p.1.ns))) (fun _ i _ => p.2.list.length - (intOf i).toNat)
  case atStart => exact ⟨0, _, by omega, rfl, HI0.out⟩
  case round =>
    clear HI0
    obtain ⟨k, lk, hk0, rfl, HK⟩ := hrel
    by_cases hlt : k < p.2.list.length
    case neg =>
      have HF : Hid (Ap B W wr v u0 lk ∧ Wr l (uv p.2.list.length ++ enc p.2 false p.1.ns) lk) := by
        obtain ⟨x, h1, h2⟩ := HK.out.wr
        rw [Fo.drop_end _ _ (by omega)] at h2
        simp only [enc, List.append_nil] at h2
        rw [h2]
        exact ⟨HK.out.ap, h1⟩
      go_wp2
      go_ret
      exact ⟨_, lk, rfl, HF.out⟩
    have HBr : Hid (Below w0.heap.size w0 wr) := HK.out.ap.below HO.out HBw.out HBw.out.size hB0
    obtain ⟨q, b, o, na', nc', ka', kc', hq, rfl, hnd, hvl⟩ := HV.out.kid (Below.refl _ _) (k := k) hlt
    have HQq : Hid (p.2.list[k]? = some q) := hq
    have HQ : Hid (AvC q) := HI.out q (List.mem_of_getElem? hq)
    have HVq : Hid (Vl w0 q na' nc' ka' kc') := hvl
    obtain ⟨d0, d1, d2, d3, d4, d5⟩ := hnd.below HBr.out
    clear hnd hvl hq
    go_wp2_with (refine al_zero rfl 41 rfl zer z25 ?_)
    intro g6 w6 hg6 Bz6 gr6
    go_wp2_with (refine st_all rfl 41 (.tmp 6) (.tmp 20) rfl g6 41 zer (six q.1 na' nc' ka' q.2.list.length kc') rfl rfl Bz6 rfl s25 (six_one _ _ _ _ _ _) ?_)
    intro w7 B7 gr7
    have G7 : Hid (Below wr.heap.size wr w7) := below_new gr6 hg6 gr7
    have cb0 : w7.cell? ⟨W.heap.size, 0, none⟩ = some (.int .i64 8) := (HK.out.blk.below G7.out HK.out.blk.lt).cell 0
    have e0 : w7.cell? ⟨g6, 0, none⟩ = some (.int .i64 q.1.k) := B7.cell 0
    have e1 : w7.cell? ⟨g6, 1, none⟩ = some (.int .i64 q.1.n) := B7.cell 1
    have e2 : w7.cell? ⟨g6, 2, none⟩ = some (.int .i64 q.1.s) := B7.cell 2
    have e3 : w7.cell? ⟨g6, 3, none⟩ = some (.string q.1.t) := B7.cell 3
    have e4 : w7.cell? ⟨g6, 4, none⟩ = some (.slice na' q.1.ns.length nc') := B7.cell 4
    have e5 : w7.cell? ⟨g6, 5, none⟩ = some (.slice ka' q.2.list.length kc') := B7.cell 5
    clear Bz6 gr6 gr7 B7 d0 d1 d2 d3 d4 d5
    have KQ := HQ.out na' nc' ka' kc' u0 lk B w0 w7 HVq.out (HBr.out.trans (G7.out.mono HBr.out.size)) hB0 (by have := HK.out.ap.gr.size; have := G7.out.size; omega) (HK.out.ap.own.below G7.out) (by
      have h1 := HK.out.len
      have h2 := HT.out
      have h3 := congrArg List.length (enc_drop (b := false) (ns := p.1.ns) HQq.out)
      simp only [List.length_append] at h3 h1 h2
      omega)
    go_wp2_with fail
    refine KQ.mono ?_
    rintro e w9 ⟨v9, l9, rfl, H9⟩
    have HK2 : Hid (KInv B W w9 v v9 l l9 [.int .i64 8, .int .i64 p.1.n, .int .i64 p.1.s, .string p.1.t, .slice na p.1.ns.length nc, .slice (some ⟨b, o, none⟩) p.2.list.length kc] p.2 false p.1.ns (k + 1) (uv p.2.list.length ++ enc p.2 false p.1.ns)) := HK.out.step HQq.out G7.out H9.out.1 (by simpa using H9.out.2)
    clear KQ H9 HK e0 e1 e2 e3 e4 e5 cb0
    go_wp2
    go_roundw
    case rel => exact ⟨k + 1, l9, by omega, by go_num, HK2.out⟩
    case measure => simp [intOf]; omega
end Go.Proofs.YtlefdnjokppibaaGreatDoor
namespace Go.Proofs.YtlefdnjokppibaaGreatDoor
open Go.RowKit Math
set_option linter.unusedVariables false
set_option maxRecDepth 8000 in
set_option maxHeartbeats 1000000 in
theorem ak_struct (p : Vt) (hk : p.1.k = 9) (hkl : p.2.list.length ≤ 200) (hn : p.1.ns.length = p.2.list.length) (hn2 : ∀ x ∈ p.1.ns, x.size ≤ 40) (ih : ∀ q ∈ p.2.list, AvC q) (na : Option Addr) (nc : Nat) (ka : Option Addr) (kc : Nat) (v : Value) (l : List Nat) (B : Nat) (w0 W : World) (hv : Vl w0 p na nc ka kc) (hb : Below w0.heap.size w0 W) (hB0 : w0.heap.size ≤ B) (hB : B ≤ W.heap.size) (ho : Own W B v l) (hl : l.length + (uv p.2.list.length ++ enc p.2 true p.1.ns).length ≤ 700000000) :
    Calls Tryz.prog 111 #[v, .agg #[.int .i64 9, .int .i64 p.1.n, .int .i64 p.1.s, .string p.1.t, .slice na p.1.ns.length nc, .slice ka p.2.list.length kc]] W fun e w' => ∃ v' l', e = .returned v' ∧ Hid (Ap B W w' v v' l' ∧ Wr l (uv p.2.list.length ++ enc p.2 true p.1.ns) l') := by
  obtain ⟨W1, HW1⟩ : ∃ W1, Hid (W.alloc (.cells #[.int .i64 9, .int .i64 p.1.n, .int .i64 p.1.s, .string p.1.t, .slice na p.1.ns.length nc, .slice ka p.2.list.length kc] 41) = W1) := ⟨_, rfl⟩
  have HX : Hid (Blk W1 W.heap.size 41 [.int .i64 9, .int .i64 p.1.n, .int .i64 p.1.s, .string p.1.t, .slice na p.1.ns.length nc, .slice ka p.2.list.length kc]) := by rw [← HW1.out]; exact blk_new W 41 [.int .i64 9, .int .i64 p.1.n, .int .i64 p.1.s, .string p.1.t, .slice na p.1.ns.length nc, .slice ka p.2.list.length kc]
  have HO1 : Hid (Own W1 B v l) := by rw [← HW1.out]; exact ho.alloc _
  have hz1 : W1.heap.size = W.heap.size + 1 := by have := HW1.out; subst this; simp
  have HB1 : Hid (Below W.heap.size W W1) := by rw [← HW1.out]; exact (Below.refl _ _).alloc (Nat.le_refl _) _
  have HN : Hid (v.ownBlock ≠ some W.heap.size) := ho.ne
  have HO : Hid (Own W B v l) := ho
  have HV : Hid (Vl w0 p na nc ka kc) := hv
  have HI : Hid (∀ q ∈ p.2.list, AvC q) := ih
  have HBw : Hid (Below w0.heap.size w0 W) := hb
  have HN1 : Hid (p.1.ns.length = p.2.list.length) := hn
  have HN2 : Hid (∀ x ∈ p.1.ns, x.size ≤ 40) := hn2
  have HT : Hid (l.length + (uv p.2.list.length ++ enc p.2 true p.1.ns).length ≤ 700000000) := hl
  have hll : l.length ≤ 700000000 := by omega
  have KU := apUv v l p.2.list.length (by omega) B W1 HO1.out (by omega) (by omega)
  have c5 : W1.cell? ⟨W.heap.size, 5, none⟩ = some (.slice ka p.2.list.length kc) := HX.out.cell 5
  clear ho hv ih hb hl hn hn2
  go_enter Tryz.func111, Tryz.ntmps111
  go_wp2_with fail
  generalize hWW : World.alloc W _ = W9
  obtain rfl : W1 = W9 := by rw [← hWW, ← HW1.out]
  clear hWW HW1
  refine KU.mono ?_
  rintro e w1 ⟨v1, rfl, A1⟩
  have HI0 : Hid (KInv B W w1 v v1 l (l ++ uv p.2.list.length) [.int .i64 9, .int .i64 p.1.n, .int .i64 p.1.s, .string p.1.t, .slice na p.1.ns.length nc, .slice ka p.2.list.length kc] p.2 true p.1.ns 0 (uv p.2.list.length ++ enc p.2 true p.1.ns)) := by
    refine ⟨Ap.after HB1.out A1, A1.blk HX.out HN.out, fun e => ?_, ⟨uv p.2.list.length, Wr.all _ _, rfl⟩⟩
    rcases A1.ob _ e with h | h
    · exact HN.out h
    · omega
  have c5' : w1.cell? ⟨W.heap.size, 5, none⟩ = some (.slice ka p.2.list.length kc) := HI0.out.blk.cell 5
  clear A1 KU c5 HX HO1 HB1 HN hz1
  go_wp2
  clear c5'
  go_loopw [0, 16] (fun vb i wr => ∃ (k : Nat) (lk : List Nat), k ≤ p.2.list.length ∧ i = .int .i64 (k : Int) ∧ Hid (KInv B W wr v vb l lk [.int .i64 9, .int .i64 p.1.n, .int .i64 p.1.s, .string p.1.t, .slice na p.1.ns.length nc, .slice ka p.2.list.length kc] p.2 true p.1.ns k (uv p.2.list.length ++ enc p.2 true p.1.ns))) (fun _ i _ => p.2.list.length - (intOf i).toNat)
  case atStart => exact ⟨0, _, by omega, rfl, HI0.out⟩
  case round =>
    clear HI0
    obtain ⟨k, lk, hk0, rfl, HK⟩ := hrel
    by_cases hlt : k < p.2.list.length
    case neg =>
      have HF : Hid (Ap B W wr v u0 lk ∧ Wr l (uv p.2.list.length ++ enc p.2 true p.1.ns) lk) := by
        obtain ⟨x, h1, h2⟩ := HK.out.wr
        rw [Fo.drop_end _ _ (by omega)] at h2
        simp only [enc, List.append_nil] at h2
        rw [h2]
        exact ⟨HK.out.ap, h1⟩
      go_wp2
      go_ret
      exact ⟨_, lk, rfl, HF.out⟩
    have HBr : Hid (Below w0.heap.size w0 wr) := HK.out.ap.below HO.out HBw.out HBw.out.size hB0
    obtain ⟨q, b, o, na', nc', ka', kc', hq, rfl, hnd, hvl⟩ := HV.out.kid (Below.refl _ _) (k := k) hlt
    have HQq : Hid (p.2.list[k]? = some q) := hq
    have HQ : Hid (AvC q) := HI.out q (List.mem_of_getElem? hq)
    have HVq : Hid (Vl w0 q na' nc' ka' kc') := hvl
    obtain ⟨d0, d1, d2, d3, d4, d5⟩ := hnd.below HBr.out
    clear hnd hvl hq
    go_wp2_with (refine al_zero rfl 41 rfl zer z25 ?_)
    intro g6 w6 hg6 Bz6 gr6
    go_wp2_with (refine st_all rfl 41 (.tmp 6) (.tmp 20) rfl g6 41 zer (six q.1 na' nc' ka' q.2.list.length kc') rfl rfl Bz6 rfl s25 (six_one _ _ _ _ _ _) ?_)
    intro w7 B7 gr7
    have B7x : Hid (Blk w7 g6 41 (six q.1 na' nc' ka' q.2.list.length kc')) := B7
    have G7 : Hid (Below wr.heap.size wr w7) := below_new gr6 hg6 gr7
    have cb0 : w7.cell? ⟨W.heap.size, 0, none⟩ = some (.int .i64 9) := (HK.out.blk.below G7.out HK.out.blk.lt).cell 0
    have e0 : w7.cell? ⟨g6, 0, none⟩ = some (.int .i64 q.1.k) := B7.cell 0
    have e1 : w7.cell? ⟨g6, 1, none⟩ = some (.int .i64 q.1.n) := B7.cell 1
    have e2 : w7.cell? ⟨g6, 2, none⟩ = some (.int .i64 q.1.s) := B7.cell 2
    have e3 : w7.cell? ⟨g6, 3, none⟩ = some (.string q.1.t) := B7.cell 3
    have e4 : w7.cell? ⟨g6, 4, none⟩ = some (.slice na' q.1.ns.length nc') := B7.cell 4
    have e5 : w7.cell? ⟨g6, 5, none⟩ = some (.slice ka' q.2.list.length kc') := B7.cell 5
    clear Bz6 gr6 gr7 B7 d0 d1 d2 d3 d4 d5
    have HB7 : Hid (Blk w7 g6 41 (six q.1 na' nc' ka' q.2.list.length kc')) := B7x.out
    obtain ⟨nm, hnm⟩ : ∃ nm, p.1.ns[k]? = some nm := ⟨_, List.getElem?_eq_getElem (by rw [HN1.out]; exact hlt)⟩
    have hns : nm.size ≤ 40 := HN2.out nm (List.mem_of_getElem? hnm)
    have HD : Hid ((p.1.ns.drop k).headD ⟨#[]⟩ = nm) := by
      show _ = _
      have := List.getElem?_eq_some_iff.1 hnm
      obtain ⟨h1, h2⟩ := this
      rw [List.drop_eq_getElem_cons h1, h2]
      rfl
    have hB7 : B ≤ w7.heap.size := by have := HK.out.ap.gr.size; have := G7.out.size; omega
    have HO7 : Hid (Own w7 B u0 lk) := HK.out.ap.own.below G7.out
    have Hb7 : Hid (Below w0.heap.size w0 w7) := HBr.out.trans (G7.out.mono HBr.out.size)
    have HLn : Hid (lk.length + (txB nm).length + (encV q).length ≤ 700000000) := by
      have h1 := HK.out.len
      have h2 := HT.out
      have h3 := congrArg List.length (enc_drop (b := true) (ns := p.1.ns) HQq.out)
      simp only [if_true] at h3
      rw [HD.out] at h3
      simp only [List.length_append] at h3 h1 h2
      show _ ≤ _
      omega
    have hlk : lk.length ≤ 700000000 := by have := HLn.out; omega
    have KT := apTx u0 lk nm B w7 HO7.out hB7 (by omega)
    rcases HV.out.nms with hem | ⟨bn, on, hna, hc⟩
    · rw [hem] at hnm; simp at hnm
    have hcn : w7.cell? ⟨bn, on + k, none⟩ = some (.string nm) := by
      have := hc k nm hnm
      rw [← this]
      exact Hb7.out.cell (p := ⟨bn, on + k, none⟩) (cell_lt this)
    have cb4 : w7.cell? ⟨W.heap.size, 4, none⟩ = some (.slice (some ⟨bn, on, none⟩) p.1.ns.length nc) := by
      rw [← hna]
      exact (HK.out.blk.below G7.out HK.out.blk.lt).cell 4
    have hkn : k < p.1.ns.length := by rw [HN1.out]; exact hlt
    clear hc hnm hna e0 e1 e2 e3 e4 e5
    go_wp2_with fail
    refine KT.mono ?_
    rintro e w8 ⟨v8, rfl, A8⟩
    have HA8 : Hid (Ap B w7 w8 u0 v8 (lk ++ txB nm)) := A8
    have B8 : Blk w8 g6 41 (six q.1 na' nc' ka' q.2.list.length kc') := A8.blk HB7.out (fun e => by have := (World.ownsRow.lt HK.out.ap.own _ e).2; omega)
    have e0 : w8.cell? ⟨g6, 0, none⟩ = some (.int .i64 q.1.k) := B8.cell 0
    have e1 : w8.cell? ⟨g6, 1, none⟩ = some (.int .i64 q.1.n) := B8.cell 1
    have e2 : w8.cell? ⟨g6, 2, none⟩ = some (.int .i64 q.1.s) := B8.cell 2
    have e3 : w8.cell? ⟨g6, 3, none⟩ = some (.string q.1.t) := B8.cell 3
    have e4 : w8.cell? ⟨g6, 4, none⟩ = some (.slice na' q.1.ns.length nc') := B8.cell 4
    have e5 : w8.cell? ⟨g6, 5, none⟩ = some (.slice ka' q.2.list.length kc') := B8.cell 5
    have KQ := HQ.out na' nc' ka' kc' v8 (lk ++ txB nm) B w0 w8 HVq.out (A8.below HO7.out Hb7.out Hb7.out.size hB0) hB0 (Nat.le_trans hB7 A8.gr.size) A8.own (by rw [List.length_append]; exact HLn.out)
    clear A8 B8 KT hcn cb4
    go_wp2_with fail
    refine KQ.mono ?_
    rintro e w9 ⟨v9, l9, rfl, H9⟩
    have HK2 : Hid (KInv B W w9 v v9 l l9 [.int .i64 9, .int .i64 p.1.n, .int .i64 p.1.s, .string p.1.t, .slice na p.1.ns.length nc, .slice (some ⟨b, o, none⟩) p.2.list.length kc] p.2 true p.1.ns (k + 1) (uv p.2.list.length ++ enc p.2 true p.1.ns)) := HK.out.step HQq.out G7.out (HA8.out.trans H9.out.1) (by
      simp only [if_true]
      rw [HD.out]
      exact (Wr.all lk (txB nm)).trans H9.out.2)
    clear KQ H9 HK e0 e1 e2 e3 e4 e5 cb0 HA8
    go_wp2
    go_roundw
    case rel => exact ⟨k + 1, l9, by omega, by go_num, HK2.out⟩
    case measure => simp [intOf]; omega
end Go.Proofs.YtlefdnjokppibaaGreatDoor
