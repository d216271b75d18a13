/-
  Range and Back: what they make; what they hand on of a nil Tree.
-/
import Derived.Test.YteokjfpppmnebaaNi
namespace Go.Proofs.Yteokjfpppmnebaa
open Go.RowKit
set_option linter.unusedVariables false
set_option linter.unusedSimpArgs false
/-- What a range has captured. -/
structure Cap (w : World) (b3 b4 b5 : Nat) (t : Option Addr) (x y : ByteArray) : Prop where
  t : Blk w b3 25 [.pointer t]
  x : Blk w b4 9 [.string x]
  y : Blk w b5 9 [.string y]
theorem Cap.below {w w' : World} {b3 b4 b5 : Nat} {t : Option Addr} {x y : ByteArray} (h : Cap w b3 b4 b5 t x y) (g : Below w.heap.size w w') : Cap w' b3 b4 b5 t x y := ⟨h.t.below g h.t.lt, h.x.below g h.x.lt, h.y.below g h.y.lt⟩
theorem cap_st {w w' : World} {b3 b4 b5 : Nat} {t : Option Addr} {x y : ByteArray} (h : Cap w b3 b4 b5 t x y) {b : Nat} (g : w.grownBy w' (some b)) (h3 : b3 ≠ b) (h4 : b4 ≠ b ∨ Blk w' b4 9 [.string x]) (h5 : b5 ≠ b ∨ Blk w' b5 9 [.string y]) : Cap w' b3 b4 b5 t x y :=
  ⟨h.t.kept g (by simpa using h3), h4.elim (fun q => h.x.kept g (by simpa using q)) id, h5.elim (fun q => h.y.kept g (by simpa using q)) id⟩
theorem al_boxv {P : Program} {ops : Array Oper} {rest : List Oper} {o : Oper} {a : Act} {w : World} {Q : Exit → Act → World → Prop} (hg : o.guard = none) (t : TypeId) (x : Operand) (ho : o.op = .box t x) (v : Value) (hx : a.eval x = v) (hv : v.cells = #[v])
    (h : ∀ g w', w.heap.size ≤ g → Blk w' g t [v] → w.grownBy w' none → wpList P ops Q rest (a.put o.dst (.pointer (some ⟨g, 0, none⟩))) w') : wpList P ops Q (o :: rest) a w := by
  refine wpList_plain hg fun K hK => ?_
  unfold Oper.wp execOp
  simp only [ho, hx, hv, Sem.run_bind, Instr.box, newVar, newRow, run_newObj_alloc, Sem.run_pure, Result.andThen_ok]
  exact hK _ _ (h _ _ (Nat.le_refl _) (blk_new w t [v]) (World.grownBy_alloc w _ none))
set_option maxHeartbeats 1000000 in
set_option maxRecDepth 8000 in
theorem range_any (t : Option Addr) (x y : ByteArray) (hx : x.size ≤ 281474976710656) (hy : y.size ≤ 281474976710656) (w : World) :
    Calls Try.prog 20 #[.pointer t, .string x, .string y] w fun e w' => ∃ b3 b4 b5, e = .returned (.func (.func 34) #[] #[.pointer (some ⟨b3, 0, none⟩), .pointer (some ⟨b4, 0, none⟩), .pointer (some ⟨b5, 0, none⟩)]) ∧ Hid (Cap w' b3 b4 b5 t x y ∧ Below w.heap.size w w' ∧ w.heap.size ≤ b3 ∧ w.heap.size ≤ b4 ∧ w.heap.size ≤ b5) := by
  go_enter Try.func20, Try.ntmps20
  go_wp2_with (refine al_boxv rfl 25 (.tmp 0) rfl (.pointer t) rfl rfl ?_)
  intro b3 w1 l3 B3 G0
  have Z := (Below.refl w.heap.size w).grown G0 (Nat.le_refl _) (by simp)
  clear G0
  go_wp2_with (refine al_boxv rfl 9 (.tmp 1) rfl (.string x) rfl rfl ?_)
  intro b4 w2 l4 B4 G0
  have n34 : b3 ≠ b4 := by have := B3.lt; omega
  have m4 : w.heap.size ≤ b4 := Nat.le_trans Z.size l4
  have B3 := B3.kept G0 (by simp)
  have Z := Z.grown G0 Z.size (by simp)
  clear G0
  go_wp2_with (refine al_boxv rfl 9 (.tmp 2) rfl (.string y) rfl rfl ?_)
  intro b5 w3 l5 B5 G0
  have n35 : b3 ≠ b5 := by have := B3.lt; omega
  have n45 : b4 ≠ b5 := by have := B4.lt; omega
  have m5 : w.heap.size ≤ b5 := Nat.le_trans Z.size l5
  have B3 := B3.kept G0 (by simp)
  have B4 := B4.kept G0 (by simp)
  have Z := Z.grown G0 Z.size (by simp)
  clear G0
  obtain ⟨C, hC⟩ : ∃ C : World → Prop, C = fun W => Cap W b3 b4 b5 t x y ∧ Below w.heap.size w W := ⟨_, rfl⟩
  have C0 : Hid (C { w3 with drawn := w3.drawn + 1 }) := by rw [hC]; exact ⟨⟨B3.below (Below.drew (Below.refl _ _)) B3.lt, B4.below (Below.drew (Below.refl _ _)) B4.lt, B5.below (Below.drew (Below.refl _ _)) B5.lt⟩, Below.drew Z⟩
  have CO : Hid (∀ W, C W → Cap W b3 b4 b5 t x y ∧ Below w.heap.size w W) := fun W h => by rw [hC] at h; exact h
  have CM : Hid (∀ W, (Cap W b3 b4 b5 t x y ∧ Below w.heap.size w W) → C W) := fun W h => by rw [hC]; exact h
  have F4 : Hid (∀ W, C W → W.cell? ⟨b4, 0, none⟩ = some (.string x)) := fun W h => (CO.out W h).1.x.cell 0
  have F5 : Hid (∀ W, C W → W.cell? ⟨b5, 0, none⟩ = some (.string y)) := fun W h => (CO.out W h).1.y.cell 0
  have CG : Hid (∀ W W', C W → Below W.heap.size W W' → C W') := fun W W' h g => CM.out _ ⟨(CO.out W h).1.below g, (CO.out W h).2.trans (g.mono (CO.out W h).2.size)⟩
  clear hC B3 B4 B5 Z
  go_wp2_with fail
  refine region_calm C 5 (by kernel_rfl) ?_
  have hCp : ∀ p : Prop, (∀ W, C W → p) ↔ p := fun p => ⟨fun h => h _ C0.out, fun h _ _ => h⟩
  generalize ({ w3 with drawn := w3.drawn + 1 } : World) = y0 at *
  refine seg 4 [0, 2] rfl (by kernel_rfl) whole_blind (C0.out) (by kernel_rfl) ?_
  change wpQuiet _ _ _ _ (_ :: _ :: []) _
  repeat (first
    | go_big_quiet_skip
    | (go_big_quiet_want
       first
       | (refine q_cell 9 (.inr (.inl rfl)) (.tmp 4) rfl b4 0 rfl _ F4.out ?_
          simp only [Act.put, List.setIfInBounds_toArray, List.set_cons_zero, List.set_cons_succ]
          go_big_quiet_on)
       | (refine q_cell 9 (.inr (.inl rfl)) (.tmp 5) rfl b5 0 rfl _ F5.out ?_
          simp only [Act.put, List.setIfInBounds_toArray, List.set_cons_zero, List.set_cons_succ]
          go_big_quiet_on)
       | (go_big_quiet_op
          go_big_quiet_on)))
  refine wpQuiet_nil ?_
  refine lone_do (i := 1) 3 rfl (by kernel_rfl) rfl (by rfl) ?_
  intro K hK
  refine oper_calls 28 _ _ rfl #[.string x] (by rw [List.map_toArray]; rfl) (enters Try.func28 (by kernel_rfl) rfl) (fun v w' => v = .string x ∧ Hid (Below y0.heap.size y0 w')) ((sclone_any x hx y0).mono (by rintro e w' ⟨rfl, h⟩; exact ⟨_, rfl, rfl, h⟩)) ?_
  rintro v y1 ⟨rfl, H1⟩
  refine hK _ _ (CG.out _ _ C0.out H1.out) ?_
  clear hK K
  simp only [Act.put, List.setIfInBounds_toArray, List.set_cons_zero, List.set_cons_succ]
  have C1 : Hid (C y1) := CG.out _ _ C0.out H1.out
  clear hCp
  have hCp : ∀ p : Prop, (∀ W, C W → p) ↔ p := fun p => ⟨fun h => h _ C1.out, fun h _ _ => h⟩
  refine lone_do (i := 3) 2 rfl (by kernel_rfl) rfl (by rfl) ?_
  intro K hK
  refine oper_calls 28 _ _ rfl #[.string y] (by rw [List.map_toArray]; rfl) (enters Try.func28 (by kernel_rfl) rfl) (fun v w' => v = .string y ∧ Hid (Below y1.heap.size y1 w')) ((sclone_any y hy y1).mono (by rintro e w' ⟨rfl, h⟩; exact ⟨_, rfl, rfl, h⟩)) ?_
  rintro v y2 ⟨rfl, H2⟩
  refine hK _ _ (CG.out _ _ C1.out H2.out) ?_
  clear hK K
  simp only [Act.put, List.setIfInBounds_toArray, List.set_cons_zero, List.set_cons_succ]
  have C2 : Hid (C y2) := CG.out _ _ C1.out H2.out
  refine lone_do (i := 4) 1 rfl (by kernel_rfl) rfl (by rfl) ?_
  intro K hK
  refine oper_st1 9 (.tmp 4) (.tmp 8) rfl b4 0 9 [.string x] (.string x) rfl rfl rfl rfl (by show 0 < 1; decide) (CO.out _ C2.out).1.x s9' ?_
  intro y3 B3 G3
  have C3 : Hid (C y3) := CM.out _ ⟨cap_st (CO.out _ C2.out).1 G3 n34 (.inr B3) (.inl (Ne.symm n45)), (CO.out _ C2.out).2.grown G3 (CO.out _ C2.out).2.size (fun k e => by injection e with e; omega)⟩
  clear B3 G3
  refine hK _ _ C3.out ?_
  clear hK K
  simp only [Act.put, List.setIfInBounds_toArray, List.set_cons_zero, List.set_cons_succ]
  refine lone_last (i := 5) 0 rfl rfl (by kernel_rfl) rfl (by rfl) ?_
  intro K hK
  refine oper_st1 9 (.tmp 5) (.tmp 10) rfl b5 0 9 [.string y] (.string y) rfl rfl rfl rfl (by show 0 < 1; decide) (CO.out _ C3.out).1.y s9' ?_
  intro y4 B4 G4
  have HE : Hid (Cap y4 b3 b4 b5 t x y ∧ Below w.heap.size w y4) := ⟨cap_st (CO.out _ C3.out).1 G4 n35 (.inl n45) (.inr B4), (CO.out _ C3.out).2.grown G4 (CO.out _ C3.out).2.size (fun k e => by injection e with e; omega)⟩
  refine hK _ _ ?_
  clear hK K
  refine anyC_done (by kernel_rfl) ⟨rfl, ?_⟩
  simp only [Act.put]
  clear C0 C1 C2 C3 hCp CO CM F4 F5 CG B4 G4 H1 H2
  go_wp2
  go_ret
  exact ⟨b3, b4, b5, rfl, HE.out.1, HE.out.2, by omega, by omega, by omega⟩
set_option maxHeartbeats 1000000 in
set_option maxRecDepth 8000 in
theorem back_any (t : Option Addr) (x y : ByteArray) (hx : x.size ≤ 281474976710656) (hy : y.size ≤ 281474976710656) (w : World) :
    Calls Try.prog 22 #[.pointer t, .string x, .string y] w fun e w' => ∃ b3 b4 b5, e = .returned (.func (.func 38) #[] #[.pointer (some ⟨b3, 0, none⟩), .pointer (some ⟨b4, 0, none⟩), .pointer (some ⟨b5, 0, none⟩)]) ∧ Hid (Cap w' b3 b4 b5 t x y ∧ Below w.heap.size w w' ∧ w.heap.size ≤ b3 ∧ w.heap.size ≤ b4 ∧ w.heap.size ≤ b5) := by
  go_enter Try.func22, Try.ntmps22
  go_wp2_with (refine al_boxv rfl 25 (.tmp 0) rfl (.pointer t) rfl rfl ?_)
  intro b3 w1 l3 B3 G0
  have Z := (Below.refl w.heap.size w).grown G0 (Nat.le_refl _) (by simp)
  clear G0
  go_wp2_with (refine al_boxv rfl 9 (.tmp 1) rfl (.string x) rfl rfl ?_)
  intro b4 w2 l4 B4 G0
  have n34 : b3 ≠ b4 := by have := B3.lt; omega
  have m4 : w.heap.size ≤ b4 := Nat.le_trans Z.size l4
  have B3 := B3.kept G0 (by simp)
  have Z := Z.grown G0 Z.size (by simp)
  clear G0
  go_wp2_with (refine al_boxv rfl 9 (.tmp 2) rfl (.string y) rfl rfl ?_)
  intro b5 w3 l5 B5 G0
  have n35 : b3 ≠ b5 := by have := B3.lt; omega
  have n45 : b4 ≠ b5 := by have := B4.lt; omega
  have m5 : w.heap.size ≤ b5 := Nat.le_trans Z.size l5
  have B3 := B3.kept G0 (by simp)
  have B4 := B4.kept G0 (by simp)
  have Z := Z.grown G0 Z.size (by simp)
  clear G0
  obtain ⟨C, hC⟩ : ∃ C : World → Prop, C = fun W => Cap W b3 b4 b5 t x y ∧ Below w.heap.size w W := ⟨_, rfl⟩
  have C0 : Hid (C { w3 with drawn := w3.drawn + 1 }) := by rw [hC]; exact ⟨⟨B3.below (Below.drew (Below.refl _ _)) B3.lt, B4.below (Below.drew (Below.refl _ _)) B4.lt, B5.below (Below.drew (Below.refl _ _)) B5.lt⟩, Below.drew Z⟩
  have CO : Hid (∀ W, C W → Cap W b3 b4 b5 t x y ∧ Below w.heap.size w W) := fun W h => by rw [hC] at h; exact h
  have CM : Hid (∀ W, (Cap W b3 b4 b5 t x y ∧ Below w.heap.size w W) → C W) := fun W h => by rw [hC]; exact h
  have F4 : Hid (∀ W, C W → W.cell? ⟨b4, 0, none⟩ = some (.string x)) := fun W h => (CO.out W h).1.x.cell 0
  have F5 : Hid (∀ W, C W → W.cell? ⟨b5, 0, none⟩ = some (.string y)) := fun W h => (CO.out W h).1.y.cell 0
  have CG : Hid (∀ W W', C W → Below W.heap.size W W' → C W') := fun W W' h g => CM.out _ ⟨(CO.out W h).1.below g, (CO.out W h).2.trans (g.mono (CO.out W h).2.size)⟩
  clear hC B3 B4 B5 Z
  go_wp2_with fail
  refine region_calm C 5 (by kernel_rfl) ?_
  have hCp : ∀ p : Prop, (∀ W, C W → p) ↔ p := fun p => ⟨fun h => h _ C0.out, fun h _ _ => h⟩
  generalize ({ w3 with drawn := w3.drawn + 1 } : World) = y0 at *
  refine seg 4 [0, 2] rfl (by kernel_rfl) whole_blind (C0.out) (by kernel_rfl) ?_
  change wpQuiet _ _ _ _ (_ :: _ :: []) _
  repeat (first
    | go_big_quiet_skip
    | (go_big_quiet_want
       first
       | (refine q_cell 9 (.inr (.inl rfl)) (.tmp 4) rfl b4 0 rfl _ F4.out ?_
          simp only [Act.put, List.setIfInBounds_toArray, List.set_cons_zero, List.set_cons_succ]
          go_big_quiet_on)
       | (refine q_cell 9 (.inr (.inl rfl)) (.tmp 5) rfl b5 0 rfl _ F5.out ?_
          simp only [Act.put, List.setIfInBounds_toArray, List.set_cons_zero, List.set_cons_succ]
          go_big_quiet_on)
       | (go_big_quiet_op
          go_big_quiet_on)))
  refine wpQuiet_nil ?_
  refine lone_do (i := 1) 3 rfl (by kernel_rfl) rfl (by rfl) ?_
  intro K hK
  refine oper_calls 28 _ _ rfl #[.string x] (by rw [List.map_toArray]; rfl) (enters Try.func28 (by kernel_rfl) rfl) (fun v w' => v = .string x ∧ Hid (Below y0.heap.size y0 w')) ((sclone_any x hx y0).mono (by rintro e w' ⟨rfl, h⟩; exact ⟨_, rfl, rfl, h⟩)) ?_
  rintro v y1 ⟨rfl, H1⟩
  refine hK _ _ (CG.out _ _ C0.out H1.out) ?_
  clear hK K
  simp only [Act.put, List.setIfInBounds_toArray, List.set_cons_zero, List.set_cons_succ]
  have C1 : Hid (C y1) := CG.out _ _ C0.out H1.out
  clear hCp
  have hCp : ∀ p : Prop, (∀ W, C W → p) ↔ p := fun p => ⟨fun h => h _ C1.out, fun h _ _ => h⟩
  refine lone_do (i := 3) 2 rfl (by kernel_rfl) rfl (by rfl) ?_
  intro K hK
  refine oper_calls 28 _ _ rfl #[.string y] (by rw [List.map_toArray]; rfl) (enters Try.func28 (by kernel_rfl) rfl) (fun v w' => v = .string y ∧ Hid (Below y1.heap.size y1 w')) ((sclone_any y hy y1).mono (by rintro e w' ⟨rfl, h⟩; exact ⟨_, rfl, rfl, h⟩)) ?_
  rintro v y2 ⟨rfl, H2⟩
  refine hK _ _ (CG.out _ _ C1.out H2.out) ?_
  clear hK K
  simp only [Act.put, List.setIfInBounds_toArray, List.set_cons_zero, List.set_cons_succ]
  have C2 : Hid (C y2) := CG.out _ _ C1.out H2.out
  refine lone_do (i := 4) 1 rfl (by kernel_rfl) rfl (by rfl) ?_
  intro K hK
  refine oper_st1 9 (.tmp 4) (.tmp 8) rfl b4 0 9 [.string x] (.string x) rfl rfl rfl rfl (by show 0 < 1; decide) (CO.out _ C2.out).1.x s9' ?_
  intro y3 B3 G3
  have C3 : Hid (C y3) := CM.out _ ⟨cap_st (CO.out _ C2.out).1 G3 n34 (.inr B3) (.inl (Ne.symm n45)), (CO.out _ C2.out).2.grown G3 (CO.out _ C2.out).2.size (fun k e => by injection e with e; omega)⟩
  clear B3 G3
  refine hK _ _ C3.out ?_
  clear hK K
  simp only [Act.put, List.setIfInBounds_toArray, List.set_cons_zero, List.set_cons_succ]
  refine lone_last (i := 5) 0 rfl rfl (by kernel_rfl) rfl (by rfl) ?_
  intro K hK
  refine oper_st1 9 (.tmp 5) (.tmp 10) rfl b5 0 9 [.string y] (.string y) rfl rfl rfl rfl (by show 0 < 1; decide) (CO.out _ C3.out).1.y s9' ?_
  intro y4 B4 G4
  have HE : Hid (Cap y4 b3 b4 b5 t x y ∧ Below w.heap.size w y4) := ⟨cap_st (CO.out _ C3.out).1 G4 n35 (.inl n45) (.inr B4), (CO.out _ C3.out).2.grown G4 (CO.out _ C3.out).2.size (fun k e => by injection e with e; omega)⟩
  refine hK _ _ ?_
  clear hK K
  refine anyC_done (by kernel_rfl) ⟨rfl, ?_⟩
  simp only [Act.put]
  clear C0 C1 C2 C3 hCp CO CM F4 F5 CG B4 G4 H1 H2
  go_wp2
  go_ret
  exact ⟨b3, b4, b5, rfl, HE.out.1, HE.out.2, by omega, by omega, by omega⟩
theorem nil_read (f : Value) (w : World) : Calls Try.prog 35 #[.pointer none, f] w fun e w' => e = .returned (.tuple #[]) ∧ w' = w := by
  go_enter Try.func35, Try.ntmps35
  go_wp2
  exact bodyPost_ret (results_none rfl _ _ _) rfl ⟨rfl, rfl⟩
theorem nil_range1 (l b3 b4 b5 : Nat) (x y : ByteArray) (w : World) (h : Cap w b3 b4 b5 none x y) : Calls Try.prog 34 #[.func (.yield l) #[] #[], .pointer (some ⟨b3, 0, none⟩), .pointer (some ⟨b4, 0, none⟩), .pointer (some ⟨b5, 0, none⟩)] w fun e w' => e = .returned (.tuple #[]) ∧ w.grownBy w' none := by
  go_enter Try.func34, Try.ntmps34
  go_wp2_with (refine al_boxv rfl 51 (.tmp 0) rfl (.func (.yield l) #[] #[]) rfl rfl ?_)
  intro g w1 l1 B1 G0
  have c3 : w1.cell? ⟨b3, 0, none⟩ = some (.pointer none) := (h.t.kept G0 (by simp)).cell 0
  have HG : Hid (w.grownBy w1 none) := G0
  clear G0 B1 h
  go_wp2_with (go_at_call 35; refine (nil_read _ _).mono ?_; rintro e w' ⟨rfl, rfl⟩)
  go_end0
  exact ⟨rfl, HG.out⟩
theorem nil_back1 (l b3 b4 b5 : Nat) (x y : ByteArray) (w : World) (h : Cap w b3 b4 b5 none x y) : Calls Try.prog 38 #[.func (.yield l) #[] #[], .pointer (some ⟨b3, 0, none⟩), .pointer (some ⟨b4, 0, none⟩), .pointer (some ⟨b5, 0, none⟩)] w fun e w' => e = .returned (.tuple #[]) ∧ w.grownBy w' none := by
  go_enter Try.func38, Try.ntmps38
  go_wp2_with (refine al_boxv rfl 51 (.tmp 0) rfl (.func (.yield l) #[] #[]) rfl rfl ?_)
  intro g w1 l1 B1 G0
  have c3 : w1.cell? ⟨b3, 0, none⟩ = some (.pointer none) := (h.t.kept G0 (by simp)).cell 0
  have HG : Hid (w.grownBy w1 none) := G0
  clear G0 B1 h
  go_wp2_with (go_at_call 35; refine (nil_read _ _).mono ?_; rintro e w' ⟨rfl, rfl⟩)
  go_end0
  exact ⟨rfl, HG.out⟩
#print axioms nil_back1
end Go.Proofs.Yteokjfpppmnebaa
