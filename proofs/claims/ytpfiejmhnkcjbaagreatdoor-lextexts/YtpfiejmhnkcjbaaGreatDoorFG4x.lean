/-
  The document's own Clone. · Appending to bytes that the call made: where they lie then, and what stays as it was. · codec's appendUvarint, appendInt, appendText.
-/
import Derived.Test.YtpfiejmhnkcjbaaGreatDoorFG3x
import Derived.Test.YtpfiejmhnkcjbaaGreatDoorFG2x
import Derived.Lib.AppendStr
namespace Go.Proofs.YtpfiejmhnkcjbaaGreatDoor
open Go.RowKit
set_option linter.unusedVariables false
def zer : List Value := [.int .i64 0, .int .i64 0, .int .i64 0, .string ⟨#[]⟩, .slice none 0 0, .slice none 0 0]
theorem len_ws (f : Fo) : f.list.length ≤ f.ws := by
  induction f with
  | nil => simp [Fo.list]
  | cons h k r _ ihr => simp only [Fo.list, Fo.ws, List.length_cons, wsH]; omega
theorem res_row {P : Program} {w : World} {fn : Func} {p : Tmp} {ty : TypeId} (h : fn.results = #[.cell p ty]) (tmps : Array Value) (g : Nat) (t : TypeId) (cs : List Value) (d : TypeDesc)
    (hp : tmps.getD p undef = .pointer (some ⟨g, 0, none⟩)) (hg : Blk w g t cs) (hu : P.underlying ty = some d) (hd : d.isRow = true) (hi : (P.info? ty).map (·.size) = some cs.length) :
    (results fn tmps).run P w = .ok (.agg cs.toArray) w :=
  results_cell_row h tmps w g t cs.toArray (0, 0) d hp hg hu (by cases d <;> simp_all [TypeDesc.isRow]) (by simpa using hi)
theorem res_two {P : Program} {w : World} {fn : Func} {p q : Tmp} {ty : TypeId} (h : fn.results = #[.cell p ty, .tmp q]) (tmps : Array Value) (g : Nat) (t : TypeId) (cs : List Value) (d : TypeDesc)
    (hp : tmps.getD p undef = .pointer (some ⟨g, 0, none⟩)) (hg : Blk w g t cs) (hu : P.underlying ty = some d) (hd : d.isRow = true) (hi : (P.info? ty).map (·.size) = some cs.length) :
    (results fn tmps).run P w = .ok (.tuple #[.agg cs.toArray, tmps.getD q undef]) w := by
  have hp' : tmps[p]?.getD undef = .pointer (some ⟨g, 0, none⟩) := by simpa using hp
  simp [results, h, hp', asAddr, run_loadVar_row w g t ty cs.toArray (0, 0) d hg hu (by cases d <;> simp_all [TypeDesc.isRow]) (by simpa using hi)]
theorem s25 : (Tryz.prog.info? 41).map (·.size) = some 6 := by kernel_rfl
end Go.Proofs.YtpfiejmhnkcjbaaGreatDoor
namespace Go.Proofs.YtpfiejmhnkcjbaaGreatDoor
open Go.RowKit Math
set_option linter.unusedVariables false
/-- A step that appends: the new slice is the call's own; nothing else of what was there has turned. -/
structure Ap (B : Nat) (W w' : World) (v v' : Value) (l' : List Nat) : Prop where
  own : Own w' B v' l'
  gr : W.grownBy w' v.ownBlock
  ob : ∀ b, v'.ownBlock = some b → v.ownBlock = some b ∨ W.heap.size ≤ b
theorem Ap.trans {B : Nat} {W w1 w2 : World} {v v1 v2 : Value} {l1 l2 : List Nat} (h : Ap B W w1 v v1 l1) (k : Ap B w1 w2 v1 v2 l2) : Ap B W w2 v v2 l2 := by
  have hs := h.gr.size
  refine ⟨k.own, ⟨k.gr.os.trans h.gr.os, k.gr.tape.trans h.gr.tape, k.gr.output.trans h.gr.output, Nat.le_trans hs k.gr.size, fun i hi hne => ?_⟩, fun b hb => ?_⟩
  · rw [k.gr.block i (Nat.lt_of_lt_of_le hi hs) (fun e => ?_), h.gr.block i hi hne]
    rcases h.ob i e.symm with h1 | h1
    · exact hne h1.symm
    · omega
  · rcases k.ob b hb with h1 | h1
    · exact h.ob b h1
    · exact .inr (Nat.le_trans hs h1)
theorem Ap.refl {B : Nat} {W : World} {v : Value} {l : List Nat} (h : Own W B v l) : Ap B W W v v l := ⟨h, World.grownBy.refl _ _, fun b hb => .inl hb⟩
/-- New blocks ahead of a step. -/
theorem Ap.after {B : Nat} {W w1 w2 : World} {v v2 : Value} {l2 : List Nat} (g : Below W.heap.size W w1) (k : Ap B w1 w2 v v2 l2) : Ap B W w2 v v2 l2 :=
  ⟨k.own, ⟨k.gr.os.trans g.os, k.gr.tape.trans g.tape, k.gr.output.trans g.output, Nat.le_trans g.size k.gr.size, fun i hi hne => (k.gr.block i (Nat.lt_of_lt_of_le hi g.size) hne).trans (g.block i hi)⟩,
   fun b hb => (k.ob b hb).imp id (fun h => Nat.le_trans g.size h)⟩
theorem Own.below {w w' : World} {B : Nat} {v : Value} {l : List Nat} (h : Own w B v l) (g : Below w.heap.size w w') : Own w' B v l :=
  World.ownsRow.kept (row := none) h ⟨g.os, g.tape, g.output, g.size, fun x hx _ => g.block x hx⟩ (by simpa using Classical.em _)
theorem Ap.below {B C : Nat} {w0 W w' : World} {v v' : Value} {l l' : List Nat} (k : Ap B W w' v v' l') (h : Own W B v l) (hb : Below C w0 W) (hC : C ≤ W.heap.size) (hCB : C ≤ B) : Below C w0 w' :=
  hb.grown k.gr hC fun x hx => Nat.le_trans hCB (World.ownsRow.lt h x hx).1
theorem Ap.blk {B : Nat} {W w' : World} {v v' : Value} {l' : List Nat} (k : Ap B W w' v v' l') {b : Nat} {t : TypeId} {vs : List Value} (h : Blk W b t vs) (hne : v.ownBlock ≠ some b) : Blk w' b t vs := h.kept k.gr (fun e => hne e.symm)
theorem Own.ne {w : World} {B : Nat} {v : Value} {l : List Nat} (h : Own w B v l) : v.ownBlock ≠ some w.heap.size := fun e => by
  have := (World.ownsRow.lt h _ e).2
  omega
theorem vals_app (l m : List Nat) : vals (l ++ m) = vals l ++ vals m := by simp [vals]
theorem ap_bytes {ops : Array Oper} {rest : List Oper} {o : Oper} {a : Act} {Q : Exit → Act → World → Prop} {w : World} (hgd : o.guard = none) (s x : Operand)
    (ho : o.op = .call { callee := .builtin .append, args := #[s, x], argTypes := #[34, 34] })
    (base : Nat) (v : Value) (l : List Nat) (hs : a.eval s = v) (hown : Own w base v l)
    (ax : Option Addr) (m c : Nat) (l2 : List Nat) (hm : m = l2.length) (hx : a.eval x = .slice ax m c) (hsrc : Byt w ax l2) (hnil : ax = none → c = 0)
    (hb : l.length + l2.length ≤ 1000000000) (hbase : base ≤ w.heap.size)
    (h : ∀ v' w', Ap base w w' v v' (l ++ l2) → wpList Tryz.prog ops Q rest (a.put o.dst v') w') : wpList Tryz.prog ops Q (o :: rest) a w := by
  subst hm
  refine wpList_plain hgd fun K hK => ?_
  obtain ⟨i, hi, hz0, hz1, hz2⟩ := info_parts Tryz.info5
  cases ax with
  | none =>
    obtain rfl := hnil rfl
    have hl : l2 = [] := by
      rcases hsrc with h | ⟨_, _, h, _⟩
      · exact h
      · cases h
    subst hl
    have hr := run_append_owned_none (P := Tryz.prog) (w := w) base 34 o.type 5 i 1 Tryz.underlying34 hi v _ _ hown
    unfold Oper.wp execOp
    simp only [ho, resolve, invoke, builtin, Sem.run_bind, Sem.run_pure, Result.andThen_ok, List.map_toArray, List.map_cons, List.map_nil, hs, hx, List.length_nil, hr]
    exact hK _ _ (h v w (by rw [List.append_nil]; exact Ap.refl hown))
  | some ad =>
    obtain ⟨v', w', r1, r2, r3, _, r5⟩ := run_append_own_at (P := Tryz.prog) w base 34 o.type 5 i _ 1 1 Tryz.underlying34 hi hz0 hz1 hz2 rfl (by decide) v _ _ hown ad l2.length c (vals l2) (by simp [vals_length]) (by
      intro j u hj
      have hjl : j < l2.length := by
        have := (List.getElem?_eq_some_iff.1 hj).1
        simpa [vals_length] using this
      rcases hsrc with rfl | ⟨b, off, he, hc⟩
      · simp at hjl
      · obtain rfl := Option.some.inj he
        rw [vals_get l2 j hjl] at hj
        rw [Addr.add_lit, hc j hjl]
        exact hj) (vals_one l2) (by unfold maxLen; omega) (by omega) hbase
    unfold Oper.wp execOp
    simp only [ho, resolve, invoke, builtin, Sem.run_bind, Sem.run_pure, Result.andThen_ok, List.map_toArray, List.map_cons, List.map_nil, hs, hx, r1]
    refine hK _ _ (h v' w' ⟨?_, r3, fun b hb => ?_⟩)
    · unfold Own
      rw [List.length_append, vals_app]
      exact r2
    · rcases r5 with e | e
      · exact .inl (e.symm.trans hb)
      · rw [e] at hb
        exact .inr (by injection hb with hb; omega)
theorem str_vals (s : ByteArray) : Lib.strCells s = vals (bts s) := by
  simp [Lib.strCells, vals, bts]
theorem ap_str {ops : Array Oper} {rest : List Oper} {o : Oper} {a : Act} {Q : Exit → Act → World → Prop} {w : World} (hgd : o.guard = none) (sl x : Operand)
    (ho : o.op = .call { callee := .builtin .append, args := #[sl, x], argTypes := #[34, 9] })
    (base : Nat) (v : Value) (l : List Nat) (hs : a.eval sl = v) (hown : Own w base v l) (s : ByteArray) (hx : a.eval x = .string s)
    (hb : l.length + s.size ≤ 1000000000) (hbase : base ≤ w.heap.size)
    (h : ∀ v' w', Ap base w w' v v' (l ++ bts s) → wpList Tryz.prog ops Q rest (a.put o.dst v') w') : wpList Tryz.prog ops Q (o :: rest) a w := by
  refine wpList_plain hgd fun K hK => ?_
  obtain ⟨i, hi, hz0, hz1, hz2⟩ := info_parts Tryz.info5
  obtain ⟨v', w', r1, r2, r3, r4⟩ := Lib.run_append_own_string (P := Tryz.prog) w base 34 9 o.type 5 i Tryz.underlying34 Tryz.underlying9 hi hz0 hz1 hz2 v _ _ hown s (by unfold maxLen; omega) (by omega) hbase
  have ob : ∀ b, v'.ownBlock = some b → v.ownBlock = some b ∨ w.heap.size ≤ b := by
    intro b hvb
    rcases hown.2 with ⟨rfl, hn0⟩ | ⟨g, cap, cur, rfl, hbg, hg, hnc, hcm, hcs, htake⟩
    · by_cases hm : s.size = 0
      · have := r4.2 ⟨rfl, hm⟩
        rw [this] at hvb
        cases hvb
      · have hr := run_append_nil_string (P := Tryz.prog) w 34 9 o.type 5 i (.int .u8 0) Tryz.underlying34 Tryz.underlying9 hi hz0 s (by omega) (by omega) (by rw [hz2]; omega)
        rw [r1] at hr
        injection hr with e1 e2
        rw [e1] at hvb
        simp only [Value.ownBlock, Option.some.injEq] at hvb
        exact .inr (by omega)
    · by_cases hroom : l.length + s.size ≤ cap
      · have hcs' : cur.size = cap := by simpa using hcs
        have hr := Lib.run_append_room_string (P := Tryz.prog) w 34 9 o.type 5 i Tryz.underlying34 Tryz.underlying9 hi hz1 g l.length cap cur hg s hroom (by omega)
        rw [r1] at hr
        injection hr with e1 e2
        rw [e1] at hvb
        exact .inl hvb
      · have holds : ∀ j u, (vals l)[j]? = some u → w.cell? ((⟨g, 0, none⟩ : Addr).add j) = some u := World.ownsRow.cells hown (g := g) rfl
        have hr := Lib.run_append_grow_string (P := Tryz.prog) w 34 9 o.type 5 i (.int .u8 0) Tryz.underlying34 Tryz.underlying9 hi hz0 ⟨g, 0, none⟩ l.length cap (vals l) (by rw [hz1, vals_length]; simp) holds s (by omega) (by omega) (by rw [hz2]; exact growslice_fits (by omega) (by omega))
        rw [r1] at hr
        injection hr with e1 e2
        rw [e1] at hvb
        simp only [Value.ownBlock, Option.some.injEq] at hvb
        exact .inr (by omega)
  unfold Oper.wp execOp
  simp only [ho, resolve, invoke, builtin, Sem.run_bind, Sem.run_pure, Result.andThen_ok, List.map_toArray, List.map_cons, List.map_nil, hs, hx, r1]
  refine hK _ _ (h v' w' ⟨?_, r3, ob⟩)
  unfold Own
  rw [List.length_append, bts_len, vals_app, ← str_vals]
  exact r2
/-- A slice that the call made, as a source. -/
theorem Own.byt {w : World} {B : Nat} {v : Value} {l : List Nat} (h : Own w B v l) : ∃ a c, v = .slice a l.length c ∧ Byt w a l ∧ (a = none → c = 0) ∧ l.length ≤ c ∧ c ≤ maxLen := by
  have h' := h
  rcases h with ⟨_, ⟨rfl, h0⟩ | ⟨g, cap, cur, rfl, hg, hh, hle, hm, _⟩⟩
  · have : l = [] := List.eq_nil_of_length_eq_zero h0
    subst this
    exact ⟨none, 0, rfl, .inl rfl, fun _ => rfl, Nat.le_refl _, by unfold maxLen; omega⟩
  · refine ⟨_, cap, rfl, .inr ⟨g, 0, rfl, fun i hi => ?_⟩, (fun e => by cases e), hle, hm⟩
    rw [Nat.zero_add, World.ownsRow.cellAt h' i (by omega), vals_get l i hi]
end Go.Proofs.YtpfiejmhnkcjbaaGreatDoor
namespace Go.Proofs.YtpfiejmhnkcjbaaGreatDoor
open Go.RowKit Math
set_option linter.unusedVariables false
theorem zigN (n : Int) (h1 : -9223372036854775808 ≤ n) (h2 : n < 9223372036854775808) (w : World) :
    Calls Tryz.prog 175 #[.int .i64 n] w fun e w' => e = .returned (.int .u64 ((zigS n).toNat : Int)) ∧ w' = w := by
  have := zig_any n h1 (by omega) w
  rw [show zigS n = ((zigS n).toNat : Int) from (Int.toNat_of_nonneg (zig_bd n h1 (by omega)).1).symm] at this
  exact this
theorem apUv (v : Value) (l : List Nat) (u : Nat) (hu : u < 18446744073709551616) (B : Nat) (W : World) (ho : Own W B v l) (hB : B ≤ W.heap.size) (hl : l.length ≤ 900000000) :
    Calls Tryz.prog 161 #[v, .int .u64 (u : Int)] W fun e w' => ∃ v', e = .returned v' ∧ Ap B W w' v v' (l ++ uv u) := by
  have h10 := uv_ten u hu
  have K := fun W => uv_any u hu W
  have HO : Hid (Own W B v l) := ho
  clear ho
  go_enter Tryz.func161, Tryz.ntmps161
  go_wp2_with fail
  refine (K _).mono ?_
  rintro e w1 ⟨r, rfl, o1, b1⟩
  obtain ⟨ax, c, rfl, hby, hnil, _⟩ := o1.byt
  have hs := b1.size
  have HB : Hid (Below W.heap.size W w1) := b1
  have HY : Hid (Byt w1 ax (uv u)) := hby
  clear o1 b1 K hby
  go_wp2_with (at_builtin; go_must (refine ap_bytes rfl (.tmp 5) (.tmp 7) rfl B v l rfl (HO.out.below HB.out) ax _ c (uv u) rfl rfl HY.out hnil (by omega) (by omega) ?_))
  intro v' w2 A
  have HA : Hid (Ap B W w2 v v' (l ++ uv u)) := Ap.after HB.out A
  clear A HB HY HO
  go_wp2
  go_ret
  exact ⟨v', rfl, HA.out⟩
theorem apInt (v : Value) (l : List Nat) (n : Int) (h1 : -9223372036854775808 ≤ n) (h2 : n < 9223372036854775808) (B : Nat) (W : World) (ho : Own W B v l) (hB : B ≤ W.heap.size) (hl : l.length ≤ 900000000) :
    Calls Tryz.prog 160 #[v, .int .i64 n] W fun e w' => ∃ v', e = .returned v' ∧ Ap B W w' v v' (l ++ uv (zigS n).toNat) := by
  have z := (zig_nat n h1 h2).1
  have K := fun W => zigN n h1 h2 W
  have K2 := apUv v l (zigS n).toNat z B W ho hB hl
  generalize (zigS n).toNat = u at *
  clear ho
  go_enter Tryz.func160, Tryz.ntmps160
  go_wp2_with fail
  refine (K _).mono ?_
  rintro e w1 ⟨rfl, hw⟩
  have hw' := hw.symm
  subst hw'
  clear hw
  go_wp2_with fail
  refine K2.mono ?_
  rintro e w2 ⟨v', rfl, A⟩
  have HA : Hid (Ap B W w2 v v' (l ++ uv u)) := A
  clear A K K2
  go_wp2
  go_ret
  exact ⟨v', rfl, HA.out⟩
theorem apTx (v : Value) (l : List Nat) (s : ByteArray) (B : Nat) (W : World) (ho : Own W B v l) (hB : B ≤ W.heap.size) (hl : l.length + s.size ≤ 800000000) :
    Calls Tryz.prog 162 #[v, .string s] W fun e w' => ∃ v', e = .returned v' ∧ Ap B W w' v v' (l ++ txB s) := by
  have K2 := apUv v l s.size (by omega) B W ho hB (by omega)
  have h10 := uv_ten s.size (by omega)
  clear ho
  go_enter Tryz.func162, Tryz.ntmps162
  go_wp2_with fail
  refine K2.mono ?_
  rintro e w1 ⟨v1, rfl, A⟩
  have HA : Hid (Ap B W w1 v v1 (l ++ uv s.size)) := A
  have hs := A.gr.size
  clear A K2
  go_wp2_with (at_builtin; go_must (refine ap_str rfl (.tmp 9) (.tmp 10) rfl B v1 (l ++ uv s.size) rfl HA.out.own s rfl (by rw [List.length_append]; omega) (by omega) ?_))
  intro v2 w2 A2
  have HA2 : Hid (Ap B W w2 v v2 (l ++ txB s)) := by
    exact HA.out.trans A2
  clear A2 HA
  go_wp2
  go_ret
  exact ⟨v2, rfl, HA2.out⟩
end Go.Proofs.YtpfiejmhnkcjbaaGreatDoor
