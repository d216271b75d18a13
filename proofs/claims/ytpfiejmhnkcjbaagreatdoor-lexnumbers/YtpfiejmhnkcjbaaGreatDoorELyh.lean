/-
  The program's lex: what stands behind a number; numbers; texts.
-/
import Derived.Test.YtpfiejmhnkcjbaaGreatDoorELyg
import Derived.Test.YtpfiejmhnkcjbaaGreatDoorED6Shz
namespace Go.Proofs.YtpfiejmhnkcjbaaGreatDoor
open Go.RowKit Lx
set_option linter.unusedVariables false
set_option linter.unusedSimpArgs false
theorem lx_idc {C : World → Prop} {a : Act} {o : Oper} {K : Act → Prop} (x y : Operand) (ho : o.op = .index 9 x y) (s : ByteArray) (k c : Nat) (hx : a.eval x = .string s) (hy : a.eval y = .int .i64 (k : Int)) (hk1 : k < s.size) (hc : (bts s).getD k 0 = c)
    (hk : K (a.put o.dst (.int .u8 (c : Int)))) : o.quiet Tryz.prog a C K := lx_idx x y ho s k hx hy hk1 (by rw [hc]; exact hk)
set_option maxRecDepth 8000 in
set_option maxHeartbeats 2000000 in
theorem goesOn_any (s : ByteArray) (w : World) : Calls Tryz.prog 51 #[.string s] w fun e w' => e = .returned (.bool (folw (bts s))) ∧ Hid (Below w.heap.size w w') := by
  by_cases h0 : s.size = 0
  · obtain rfl : s = ⟨#[]⟩ := ByteArray.ext (Array.eq_empty_of_size_eq_zero h0)
    go_enter Tryz.func51, Tryz.ntmps51
    obtain ⟨C, hC⟩ : ∃ C : World → Prop, C = fun W => Below w.heap.size w W := ⟨_, rfl⟩
    have C0 : Hid (C { w with drawn := w.drawn + 1 }) := by rw [hC]; exact Below.drew (Below.refl _ _)
    have CO : Hid (∀ W, C W → Below w.heap.size w W) := fun W h => by rw [hC] at h; exact h
    have hCp : ∀ p : Prop, (∀ W, C W → p) ↔ p := fun p => ⟨fun h => h _ C0.out, fun h _ _ => h⟩
    clear hC
    go_wp2_with fail
    refine wp_region_quiet (C := C) (by kernel_rfl) (by kernel_rfl) C0.out ?_
    change wpQuiet _ _ _ _ (_ :: _ :: _ :: _ :: _ :: _ :: _ :: _ :: _ :: _ :: _ :: _ :: _ :: _ :: []) _
    repeat (first
      | go_big_quiet_skip
      | (go_big_quiet_want
         first
         | (go_big_quiet_op
            go_big_quiet_on)))
    refine wpQuiet_nil ?_
    intro w9 h9
    have HB9 : Hid (Below w.heap.size w w9) := CO.out _ h9
    clear h9 hCp C0 CO
    go_wp2
    go_ret
    exact ⟨rfl, HB9.out⟩
  · have hlt : 0 < s.size := by omega
    have e := bts_dropL s 0 hlt
    rw [List.drop_zero] at e
    have hem := em_iff s h0
    have hf : folw (bts s) = (isLt ((bts s).getD 0 0) || (bts s).getD 0 0 == 46) := by
      conv => lhs; rw [e]
      rfl
    have hoc := oct_getD s 0
    obtain ⟨c, hc⟩ : ∃ c, Hid ((bts s).getD 0 0 = c) := ⟨_, rfl⟩
    rw [hc.out] at e hf hoc
    by_cases h46 : c = 46
    · have hf2 : folw (bts s) = true := by rw [hf, h46]; rfl
      rw [hf2]
      have x46 : ((c : Int) == 46) = true := by rw [h46]; rfl
      
      clear hf hf2 e
      go_enter Tryz.func51, Tryz.ntmps51
      obtain ⟨C, hC⟩ : ∃ C : World → Prop, C = fun W => Below w.heap.size w W := ⟨_, rfl⟩
      have C0 : Hid (C { w with drawn := w.drawn + 1 }) := by rw [hC]; exact Below.drew (Below.refl _ _)
      have CO : Hid (∀ W, C W → Below w.heap.size w W) := fun W h => by rw [hC] at h; exact h
      have hCp : ∀ p : Prop, (∀ W, C W → p) ↔ p := fun p => ⟨fun h => h _ C0.out, fun h _ _ => h⟩
      clear hC
      go_wp2_with fail
      refine wp_region_quiet (C := C) (by kernel_rfl) (by kernel_rfl) C0.out ?_
      change wpQuiet _ _ _ _ (_ :: _ :: _ :: _ :: _ :: _ :: _ :: _ :: _ :: _ :: _ :: _ :: _ :: _ :: []) _
      repeat (first
        | go_big_quiet_skip
        | (go_big_quiet_want
           first
           | (refine lx_idc (.tmp 6) (.const (.int .i64 0)) rfl s 0 c rfl rfl hlt hc.out ?_
              simp only [Act.put, List.setIfInBounds_toArray, List.set_cons_zero, List.set_cons_succ]
              go_big_quiet_on)
           | (refine lx_idc (.tmp 11) (.const (.int .i64 0)) rfl s 0 c rfl rfl hlt hc.out ?_
              simp only [Act.put, List.setIfInBounds_toArray, List.set_cons_zero, List.set_cons_succ]
              go_big_quiet_on)
           | (go_big_quiet_op
              go_big_quiet_on)))
      refine wpQuiet_nil ?_
      intro w9 h9
      have HB9 : Hid (Below w.heap.size w w9) := CO.out _ h9
      clear h9 hCp C0 CO
      go_wp2
      go_ret
      exact ⟨rfl, HB9.out⟩
    · have x46 : ((c : Int) == 46) = false := beq_eq_false_iff_ne.2 (by omega)
      have h47 : (c == 46) = false := beq_eq_false_iff_ne.2 h46
      rw [hf, h47, Bool.or_false]
      cases hV : isLt (c) with
      | true =>
        clear hf e h46 h47
        go_enter Tryz.func51, Tryz.ntmps51
        obtain ⟨C, hC⟩ : ∃ C : World → Prop, C = fun W => Below w.heap.size w W := ⟨_, rfl⟩
        have C0 : Hid (C { w with drawn := w.drawn + 1 }) := by rw [hC]; exact Below.drew (Below.refl _ _)
        have CO : Hid (∀ W, C W → Below w.heap.size w W) := fun W h => by rw [hC] at h; exact h
        have hCp : ∀ p : Prop, (∀ W, C W → p) ↔ p := fun p => ⟨fun h => h _ C0.out, fun h _ _ => h⟩
        have F1 : Hid (∀ W, C W → Calls Tryz.prog 33 #[] W fun e' w' => e' = .returned (.agg (cC 0 cLt).toArray) ∧ C w') := fun W h => by
          rw [hC] at h ⊢
          refine (letters_any W).mono ?_
          rintro e' w' ⟨rfl, H⟩
          exact ⟨rfl, h.trans (H.out.mono h.size)⟩
        have F2 : Hid (∀ W, C W → Calls Tryz.prog 34 #[.agg (cC 0 cLt).toArray, .int .u8 (c : Int)] W fun e' w' => e' = .returned (.bool true) ∧ C w') := fun W h => by
          rw [hC] at h ⊢
          have := has_any 0 cLt c (by decide) (by decide) (hoc) W
          rw [inC_lt _ (hoc)] at this
          refine this.mono ?_
          rintro e' w' ⟨rfl, H⟩
          rw [hV]
          exact ⟨rfl, h.trans (H.out.mono h.size)⟩
        clear hC
        clear hV
        go_wp2_with fail
        refine wp_region_quiet (C := C) (by kernel_rfl) (by kernel_rfl) C0.out ?_
        change wpQuiet _ _ _ _ (_ :: _ :: _ :: _ :: _ :: _ :: _ :: _ :: _ :: _ :: _ :: _ :: _ :: _ :: []) _
        repeat (first
          | go_big_quiet_skip
          | (go_big_quiet_want
             first
             | (refine lx_idc (.tmp 6) (.const (.int .i64 0)) rfl s 0 c rfl rfl hlt hc.out ?_
                simp only [Act.put, List.setIfInBounds_toArray, List.set_cons_zero, List.set_cons_succ]
                go_big_quiet_on)
             | (refine lx_idc (.tmp 11) (.const (.int .i64 0)) rfl s 0 c rfl rfl hlt hc.out ?_
                simp only [Act.put, List.setIfInBounds_toArray, List.set_cons_zero, List.set_cons_succ]
                go_big_quiet_on)
             | (refine lx_call 33 _ _ rfl #[] (by rw [List.map_toArray]; rfl) (lx_enters Tryz.func33 (by kernel_rfl) rfl) (.agg (cC 0 cLt).toArray) F1.out ?_
                simp only [Act.put, List.setIfInBounds_toArray, List.set_cons_zero, List.set_cons_succ]
                go_big_quiet_on)
             | (refine lx_call 34 _ _ rfl #[.agg (cC 0 cLt).toArray, .int .u8 (c : Int)] (by rw [List.map_toArray]; rfl) (lx_enters Tryz.func34 (by kernel_rfl) rfl) (.bool true) F2.out ?_
                simp only [Act.put, List.setIfInBounds_toArray, List.set_cons_zero, List.set_cons_succ]
                go_big_quiet_on)
             | (go_big_quiet_op
                go_big_quiet_on)))
        refine wpQuiet_nil ?_
        intro w9 h9
        have HB9 : Hid (Below w.heap.size w w9) := CO.out _ h9
        clear h9 hCp C0 CO
        go_wp2
        go_ret
        exact ⟨rfl, HB9.out⟩
      | false =>
        clear hf e h46 h47
        go_enter Tryz.func51, Tryz.ntmps51
        obtain ⟨C, hC⟩ : ∃ C : World → Prop, C = fun W => Below w.heap.size w W := ⟨_, rfl⟩
        have C0 : Hid (C { w with drawn := w.drawn + 1 }) := by rw [hC]; exact Below.drew (Below.refl _ _)
        have CO : Hid (∀ W, C W → Below w.heap.size w W) := fun W h => by rw [hC] at h; exact h
        have hCp : ∀ p : Prop, (∀ W, C W → p) ↔ p := fun p => ⟨fun h => h _ C0.out, fun h _ _ => h⟩
        have F1 : Hid (∀ W, C W → Calls Tryz.prog 33 #[] W fun e' w' => e' = .returned (.agg (cC 0 cLt).toArray) ∧ C w') := fun W h => by
          rw [hC] at h ⊢
          refine (letters_any W).mono ?_
          rintro e' w' ⟨rfl, H⟩
          exact ⟨rfl, h.trans (H.out.mono h.size)⟩
        have F2 : Hid (∀ W, C W → Calls Tryz.prog 34 #[.agg (cC 0 cLt).toArray, .int .u8 (c : Int)] W fun e' w' => e' = .returned (.bool false) ∧ C w') := fun W h => by
          rw [hC] at h ⊢
          have := has_any 0 cLt c (by decide) (by decide) (hoc) W
          rw [inC_lt _ (hoc)] at this
          refine this.mono ?_
          rintro e' w' ⟨rfl, H⟩
          rw [hV]
          exact ⟨rfl, h.trans (H.out.mono h.size)⟩
        clear hC
        clear hV
        go_wp2_with fail
        refine wp_region_quiet (C := C) (by kernel_rfl) (by kernel_rfl) C0.out ?_
        change wpQuiet _ _ _ _ (_ :: _ :: _ :: _ :: _ :: _ :: _ :: _ :: _ :: _ :: _ :: _ :: _ :: _ :: []) _
        repeat (first
          | go_big_quiet_skip
          | (go_big_quiet_want
             first
             | (refine lx_idc (.tmp 6) (.const (.int .i64 0)) rfl s 0 c rfl rfl hlt hc.out ?_
                simp only [Act.put, List.setIfInBounds_toArray, List.set_cons_zero, List.set_cons_succ]
                go_big_quiet_on)
             | (refine lx_idc (.tmp 11) (.const (.int .i64 0)) rfl s 0 c rfl rfl hlt hc.out ?_
                simp only [Act.put, List.setIfInBounds_toArray, List.set_cons_zero, List.set_cons_succ]
                go_big_quiet_on)
             | (refine lx_call 33 _ _ rfl #[] (by rw [List.map_toArray]; rfl) (lx_enters Tryz.func33 (by kernel_rfl) rfl) (.agg (cC 0 cLt).toArray) F1.out ?_
                simp only [Act.put, List.setIfInBounds_toArray, List.set_cons_zero, List.set_cons_succ]
                go_big_quiet_on)
             | (refine lx_call 34 _ _ rfl #[.agg (cC 0 cLt).toArray, .int .u8 (c : Int)] (by rw [List.map_toArray]; rfl) (lx_enters Tryz.func34 (by kernel_rfl) rfl) (.bool false) F2.out ?_
                simp only [Act.put, List.setIfInBounds_toArray, List.set_cons_zero, List.set_cons_succ]
                go_big_quiet_on)
             | (go_big_quiet_op
                go_big_quiet_on)))
        refine wpQuiet_nil ?_
        intro w9 h9
        have HB9 : Hid (Below w.heap.size w w9) := CO.out _ h9
        clear h9 hCp C0 CO
        go_wp2
        go_ret
        exact ⟨rfl, HB9.out⟩
end Go.Proofs.YtpfiejmhnkcjbaaGreatDoor
