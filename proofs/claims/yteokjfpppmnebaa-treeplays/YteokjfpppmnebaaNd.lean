/-
  node: seek, under.
-/
import Derived.Test.YteokjfpppmnebaaNc
import Derived.Test.YteokjfpppmnebaaNor
namespace Go.Proofs.Yteokjfpppmnebaa
open Go.RowKit
set_option linter.unusedVariables false
set_option linter.unusedSimpArgs false
theorem Nd.rows {w : World} {b : Nat} {lv : Int} {ss : List Sl} {nx : Option Nat} {rd : Int} (h : Nd w b lv ss nx rd) : Rows3 w b 2 ss := fun i s hs => h.range i s (pad_at hs)
theorem sz60 (w : World) : (Go.sizeOf 60).run Try.prog w = .ok 3 w := by
  have h : (Try.prog.info? 60).map (·.size) = some 3 := by kernel_rfl
  cases hq : Try.prog.info? 60 with
  | none => simp [hq] at h
  | some i => simp [Go.sizeOf, typeInfo, hq]; simpa [hq] using h
/-- Slots from one place on, up to another one. -/
theorem run_sl (b : Nat) (lo hi : Option Nat) (p q : Nat) (hp : lo.getD 0 = p) (hq : hi.getD 16 = q) (hpq : p ≤ q) (hq2 : q ≤ 16) (w : World) :
    (Instr.sliceAt 69 (.pointer (some ⟨b, 2, none⟩)) (lo.map fun n => .int .i64 (n : Int)) (hi.map fun n => .int .i64 (n : Int)) none).run Try.prog w = .ok (.slice (some (if 16 = p then ⟨b, 2, none⟩ else ⟨b, 2 + p * 3, none⟩)) (q - p) (16 - p)) w := by
  subst hp hq
  cases lo <;> cases hi <;> simp only [Option.getD_none, Option.getD_some, Nat.zero_le, Nat.le_refl] at hpq hq2 <;> simp [Instr.sliceAt, Instr.sureAddr, Instr.sliceBounds, Instr.sliceBound, asIntOf, run_underlying Try.underlying69, sz60, Addr.add_lit, hpq, hq2]
/-- The first so many of a node's slots as a slice. -/
theorem q_sla {C : World → Prop} {a : Act} {o : Oper} {K : Act → Prop} (x y : Operand) (ho : o.op = .slice 69 x none (some y) none) (b n : Nat) (hx : a.eval x = .pointer (some ⟨b, 2, none⟩)) (hy : a.eval y = .int .i64 (n : Int)) (hn : n ≤ 16)
    (hk : K (a.put o.dst (.slice (some ⟨b, 2, none⟩) n 16))) : o.quiet Try.prog a C K :=
  ⟨_, fun w hw => by
    unfold Oper.quietAt execOp
    have h : (Instr.sliceAt 69 (.pointer (some ⟨b, 2, none⟩)) none (some (.int .i64 (n : Int))) none).run Try.prog w = .ok (.slice (some ⟨b, 2, none⟩) n 16) w := run_sl b none (some n) 0 n rfl rfl (by omega) hn w
    simp only [ho, hx, hy, Option.map_none, Option.map_some, h, Sem.run_bind, Result.andThen_ok, Sem.run_pure]
    exact ⟨rfl, rfl⟩, hk⟩
set_option maxRecDepth 8000 in
set_option maxHeartbeats 1000000 in
theorem seek_any (b : Nat) (lv : Int) (ss : List Sl) (nx : Option Nat) (rd : Int) (key : ByteArray) (w : World) (h : Nd w b lv ss nx rd) :
    Calls Try.prog 43 #[.pointer (some ⟨b, 0, none⟩), .string key] w fun e w' => e = .returned (.tuple #[.int .i64 (sk ss key : Int), .bool (hit ss key)]) ∧ Hid (Below w.heap.size w w') := by
  obtain ⟨C, hC⟩ : ∃ C : World → Prop, C = fun W => Below w.heap.size w W := ⟨_, rfl⟩
  have C0 : Hid (C { w with drawn := w.drawn + 1 }) := by rw [hC]; exact Below.drew (Below.refl _ _)
  have F1 : Hid (∀ W, C W → W.cell? ⟨b, 1, none⟩ = some (.int .i64 (ss.length : Int))) := fun W g => by rw [hC] at g; exact (h.below g h.lt).count
  have F5 : Hid (∀ W, C W → Calls Try.prog 52 #[.slice (some ⟨b, 2, none⟩) ss.length 16, .string key, .func (.func 53) #[] #[]] W fun e w' => e = .returned (.tuple #[.int .i64 (sk ss key : Int), .bool (hit ss key)]) ∧ C w') := fun W g => by
    rw [hC] at g ⊢
    have hW := h.below g h.lt
    refine (bs_any ss b 2 16 key h.le W hW.lt hW.rows).mono ?_
    rintro e w' ⟨rfl, H⟩
    exact ⟨rfl, g.trans (H.out.mono g.size)⟩
  have CO : Hid (∀ W, C W → Below w.heap.size w W) := fun W g => by rw [hC] at g; exact g
  have hle := h.le
  generalize hL : ss.length = L at *
  generalize sk ss key = R at *
  generalize hit ss key = T at *
  clear hC h hL
  go_enter Try.func43, Try.ntmps43
  go_wp2_with fail
  have hCp : ∀ p : Prop, (∀ W, C W → p) ↔ p := fun p => ⟨fun h => h _ C0.out, fun h _ _ => h⟩
  refine wp_region_quiet (C := C) (by kernel_rfl) (by kernel_rfl) C0.out ?_
  change wpQuiet _ _ _ _ (_ :: _ :: _ :: _ :: _ :: _ :: _ :: _ :: _ :: _ :: _ :: _ :: _ :: _ :: []) _
  repeat (first
    | go_big_quiet_skip
    | (go_big_quiet_want
       first
       | (refine q_cell 3 (.inl rfl) (.tmp 11) rfl b 1 rfl _ F1.out ?_
          simp only [Act.put, List.setIfInBounds_toArray, List.set_cons_zero, List.set_cons_succ]
          go_big_quiet_on)
       | (refine q_sla (.tmp 8) (.tmp 12) rfl b L rfl rfl hle ?_
          simp only [Act.put, List.setIfInBounds_toArray, List.set_cons_zero, List.set_cons_succ]
          go_big_quiet_on)
       | (refine q_callv 52 _ _ rfl #[.slice (some ⟨b, 2, none⟩) L 16, .string key, .func (.func 53) #[] #[]] (by rw [List.map_toArray]; rfl) (enters Try.func52 (by kernel_rfl) rfl) _ F5.out ?_
          simp only [Act.put, List.setIfInBounds_toArray, List.set_cons_zero, List.set_cons_succ]
          go_big_quiet_on)
       | (go_big_quiet_op
          go_big_quiet_on)))
  refine wpQuiet_nil ?_
  intro w9 h9
  have HN : Hid (Below w.heap.size w w9) := CO.out _ h9
  clear h9 hCp C0 F1 F5 CO
  go_wp2
  go_ret2
  exact ⟨rfl, HN.out⟩
/-- The place of the kid that a text belongs to. -/
def und (ss : List Sl) (key : ByteArray) : Nat := if hit ss key = true ∨ sk ss key = 0 then sk ss key else sk ss key - 1
theorem und_lt {ss : List Sl} (key : ByteArray) (h : 0 < ss.length) : und ss key < ss.length := by
  unfold und
  have := sk_le ss key
  by_cases hh : hit ss key = true
  · rw [if_pos (.inl hh)]; exact hit_lt hh
  · by_cases h0 : sk ss key = 0
    · rw [if_pos (.inr h0)]; omega
    · rw [if_neg (by simp [hh, h0])]; omega
theorem under_any (b : Nat) (lv : Int) (ss : List Sl) (nx : Option Nat) (rd : Int) (key : ByteArray) (w : World) (h : Nd w b lv ss nx rd) :
    Calls Try.prog 51 #[.pointer (some ⟨b, 0, none⟩), .string key] w fun e w' => e = .returned (.int .i64 (und ss key : Int)) ∧ Hid (Below w.heap.size w w') := by
  have K := seek_any b lv ss nx rd key w h
  have hR : sk ss key ≤ 16 := Nat.le_trans (sk_le ss key) h.le
  have HU : Hid (und ss key = if hit ss key = true ∨ sk ss key = 0 then sk ss key else sk ss key - 1) := rfl
  generalize und ss key = U at *
  generalize sk ss key = R at *
  generalize hit ss key = T at *
  clear h
  go_enter Try.func51, Try.ntmps51
  go_wp2_with fail
  refine K.mono ?_
  rintro e w' ⟨rfl, H⟩
  clear K
  cases T with
  | true =>
    obtain rfl : U = R := by have := HU.out; simpa using this
    go_wp2
    go_ret
    exact ⟨rfl, H.out⟩
  | false =>
    by_cases h0 : R = 0
    · obtain rfl : U = R := by have := HU.out; simpa [h0] using this
      subst h0
      clear HU
      go_wp2
      go_ret
      exact ⟨rfl, H.out⟩
    · have hU : Hid (U = R - 1) := by show U = R - 1; have := HU.out; simpa [h0] using this
      clear HU
      have hb : ((R : Int) == 0) = false := beq_eq_false_iff_ne.2 (by omega)
      go_wp2
      go_ret
      refine ⟨?_, H.out⟩
      rw [hU.out]
      go_num
#print axioms under_any
end Go.Proofs.Yteokjfpppmnebaa
