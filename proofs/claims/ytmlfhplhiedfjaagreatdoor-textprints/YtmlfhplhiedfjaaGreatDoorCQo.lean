/-
  The document's own Quote.
-/
import Derived.Test.YtmlfhplhiedfjaaGreatDoorCG23x
import Derived.Test.YtmlfhplhiedfjaaGreatDoorCG40x
import Derived.Test.YtmlfhplhiedfjaaGreatDoorCG27x
namespace Go.Proofs.YtmlfhplhiedfjaaGreatDoor
open Go.RowKit Math
set_option linter.unusedVariables false
set_option linter.unusedSimpArgs false
theorem q_hex {C : World → Prop} {a : Act} {o : Oper} {K : Act → Prop} (x : Operand) (ho : o.op = .index 9 (.const (.string ⟨#[48, 49, 50, 51, 52, 53, 54, 55, 56, 57, 97, 98, 99, 100, 101, 102]⟩)) x) (n : Nat) (h : n < 16) (z : Int) (hx : a.eval x = .int .u8 z) (hz : z = (n : Int)) (hk : K (a.put o.dst (.int .u8 ((hxd n : Nat) : Int)))) : o.quiet Tryz.prog a C K :=
  ⟨_, fun w _ => by
    subst hz
    have hi := hx_idx n h w
    unfold Oper.quietAt execOp
    simp only [ho, hx]
    go_simp, hk⟩
theorem oper_three {o : Oper} {a : Act} {w : World} {K : Act → World → Prop} {Q : Exit → Act → World → Prop} (l s t : Nat) (ho : o.op = .buildSlice 52 3 #[(0, .const (.int .u8 (l : Int))), (1, .tmp s), (2, .tmp t)]) (m n : Nat) (hx : a.tmps.getD s undef = .int .u8 (m : Int)) (hy : a.tmps.getD t undef = .int .u8 (n : Int)) (hK : K (a.put o.dst (.slice (some ⟨w.heap.size, 0, none⟩) 3 3)) (w.alloc (.cells (vals [l, m, n]).toArray 5))) : Oper.wp Tryz.prog o a w K Q := by
  have hx' : a.tmps[s]?.getD undef = .int .u8 (m : Int) := by simpa using hx
  have hy' : a.tmps[t]?.getD undef = .int .u8 (n : Int) := by simpa using hy
  unfold Oper.wp execOp
  simp only [ho]
  go_simp
  exact hK
theorem oper_duo {o : Oper} {a : Act} {w : World} {K : Act → World → Prop} {Q : Exit → Act → World → Prop} (s t : Nat) (ho : o.op = .buildSlice 52 2 #[(0, .tmp s), (1, .tmp t)]) (m n : Nat) (hx : a.tmps.getD s undef = .int .u8 (m : Int)) (hy : a.tmps.getD t undef = .int .u8 (n : Int)) (hK : K (a.put o.dst (.slice (some ⟨w.heap.size, 0, none⟩) 2 2)) (w.alloc (.cells (vals [m, n]).toArray 5))) : Oper.wp Tryz.prog o a w K Q := by
  have hx' : a.tmps[s]?.getD undef = .int .u8 (m : Int) := by simpa using hx
  have hy' : a.tmps[t]?.getD undef = .int .u8 (n : Int) := by simpa using hy
  unfold Oper.wp execOp
  simp only [ho]
  go_simp
  exact hK
theorem own_single (w : World) (x : Nat) (base : Nat) (hb : base ≤ w.heap.size) : Own (w.alloc (.cells #[.int .u8 (x : Int)] 5)) base (.slice (some ⟨w.heap.size, 0, none⟩) 1 1) [x] :=
  World.ownsRow_lit w #[.int .u8 (x : Int)] 1 hb (by decide) rfl
theorem idx9 (s : ByteArray) (k : Nat) (h : k < s.size) (w : World) : (Instr.index 9 (.string s) (.int .i64 (k : Int))).run Tryz.prog w = .ok (.int .u8 (((bts s).getD k 0 : Nat) : Int)) w := by
  have e3 : s[k]? = some (s[k]'h) := by simp [h]
  rw [bget9 s k h]
  simp [Instr.index, asIntOf, run_underlying Tryz.underlying9, e3]
set_option maxRecDepth 8000 in
set_option maxHeartbeats 2000000 in
theorem quote9 (s : ByteArray) (hs : s.size ≤ 200000000) (W : World) :
    Calls Tryz.prog 65 #[.string s] W fun e w' => e = .returned (.string (ofB (pQ s))) ∧ Below W.heap.size W w' := by
  have HI0 : Hid (Own (W.alloc (.cells #[.int .u8 ((39 : Nat) : Int)] 5)) W.heap.size (.slice (some ⟨W.heap.size, 0, none⟩) 1 1) (39 :: pS ((bts s).take 0)) ∧ Below W.heap.size W (W.alloc (.cells #[.int .u8 ((39 : Nat) : Int)] 5))) := ⟨own_single W 39 _ (Nat.le_refl _), (Below.refl _ _).alloc (Nat.le_refl _) _⟩
  go_enter Tryz.func65, Tryz.ntmps65
  go_wp2
  go_loopw [3, 4, 5] (fun b i _ wr => ∃ (k : Nat), k ≤ s.size ∧ i = .int .i64 (k : Int) ∧ Hid (Own wr W.heap.size b (39 :: pS ((bts s).take k)) ∧ Below W.heap.size W wr)) (fun _ i _ _ => s.size - (intOf i).toNat)
  case atStart => exact ⟨0, by omega, rfl, HI0.out⟩
  case round =>
    clear HI0
    obtain ⟨k, hk, rfl, HI⟩ := hrel
    have hlen : (39 :: pS ((bts s).take k)).length ≤ 800000001 := by
      have := (pS_len ((bts s).take k)).2
      rw [List.length_take, bts_len] at this
      rw [List.length_cons]
      omega
    have hsz := HI.out.2.size
    by_cases hk2 : k < s.size
    case neg =>
      have HL : Hid (39 :: (pS ((bts s).take k) ++ [39]) = pQ s) := by
        show _ = _
        rw [List.take_of_length_le (by rw [bts_len]; omega)]
        rfl
      go_wp2_with (at_builtin; go_must (refine ap_bytes rfl (.tmp 46) (.tmp 47) rfl W.heap.size _ (39 :: pS ((bts s).take k)) rfl (HI.out.1.alloc _) _ _ _ [39] rfl rfl (byt_lit wr [39]) (by simp) (by simp at hlen ⊢; omega) (by simp; omega) ?_))
      intro v1 w1 A1
      rw [HL.out] at A1
      have HB : Hid (Below W.heap.size W w1) := A1.below (HI.out.1.alloc _) (HI.out.2.alloc (by omega) _) (by simp; omega) (Nat.le_refl _)
      obtain ⟨a, c, rfl, hb, hn, _⟩ := A1.own.byt
      have hcv := conv_byt9 hb (pQ_pln s).oct hn
      clear A1 hb hn HL HI hlen
      generalize (pQ s).length = n at *
      go_wp2
      go_ret
      exact ⟨rfl, HB.out⟩
    have hx := bts_oct s ((bts s).getD k 0) (by rw [List.getD_eq_getElem?_getD, List.getElem?_eq_getElem (by rw [bts_len]; exact hk2)]; exact List.getElem_mem _)
    have hidx := idx9 s k hk2
    have HN : Hid (pS ((bts s).take (k + 1)) = pS ((bts s).take k) ++ pE ((bts s).getD k 0)) := pS_next (by rw [bts_len]; exact hk2)
    generalize (bts s).getD k 0 = x at *
    obtain ⟨L, hL⟩ : ∃ L, 39 :: pS ((bts s).take k) = L := ⟨_, rfl⟩
    rw [hL] at hlen
    have HS : Hid (∀ v3 w2 w3, Below wr.heap.size wr w2 → Ap W.heap.size w2 w3 u3 v3 (L ++ pE x) → Own w3 W.heap.size v3 (39 :: pS ((bts s).take (k + 1))) ∧ Below W.heap.size W w3) := fun v3 w2 w3 hb A => by
      have h1 := HI.out.1
      rw [hL] at h1
      refine ⟨?_, A.below (h1.below hb) (HI.out.2.trans (hb.mono HI.out.2.size)) (by have := hb.size; omega) (Nat.le_refl _)⟩
      rw [HN.out, ← List.cons_append, hL]
      exact A.own
    have HO : Hid (Own wr W.heap.size u3 L) := by rw [← hL]; exact HI.out.1
    clear HI HN hL
    by_cases h39 : x = 39
    · have hb : ((x : Int) == 39) = true := by rw [h39]; rfl
      have HE : Hid (pE x = [39, 39]) := by show _ = _; unfold pE; rw [if_pos h39]
      clear h39
      go_wp2_with (at_builtin; go_must (refine ap_bytes rfl (.tmp 23) (.tmp 24) rfl W.heap.size _ L rfl (HO.out.alloc _) _ _ _ [39, 39] rfl rfl (byt_lit wr [39, 39]) (by simp) (by simp; omega) (by simp; omega) ?_))
      intro v1 w1 A1
      have HI2 : Hid (Own w1 W.heap.size v1 (39 :: pS ((bts s).take (k + 1))) ∧ Below W.heap.size W w1) := HS.out v1 _ w1 ((Below.refl _ _).alloc (Nat.le_refl _) _) (by rw [HE.out]; exact A1)
      clear A1 HS HO HE hidx
      go_wp2
      go_roundw
      case rel => exact ⟨k + 1, by omega, by go_num, HI2.out⟩
      case measure => simp [intOf]; omega
    have hb : ((x : Int) == 39) = false := by simp; omega
    by_cases hesc : x < 32 ∨ 126 < x ∨ x = 92
    · have HE : Hid (pE x = [92, hxd (x / 16), hxd (x % 16)]) := by show _ = _; unfold pE; rw [if_neg h39, if_pos hesc]; rfl
      obtain ⟨C, hC⟩ : ∃ C : World → Prop, C = fun _ => True := ⟨_, rfl⟩
      have CT : Hid (∀ w', C w') := fun w' => by rw [hC]; trivial
      have D0 : Hid (Below wr.heap.size wr { wr with drawn := wr.drawn + 1 }) := Below.drew (Below.refl _ _)
      have HOv : Hid (Own { wr with drawn := wr.drawn + 1 } W.heap.size u3 L) := HO.out.below D0.out
      clear hC h39
      by_cases h1 : x < 32
      · clear hesc
        go_wp2
        refine region_calm C 9 (by kernel_rfl) ?_
        have C0 : C { wr with drawn := wr.drawn + 1 } := CT.out _
        have hCp : ∀ p : Prop, (∀ W, C W → p) ↔ p := fun p => ⟨fun h => h _ C0, fun h _ _ => h⟩
        have hsz2 : W.heap.size ≤ ({ wr with drawn := wr.drawn + 1 } : World).heap.size := hsz
        generalize ({ wr with drawn := wr.drawn + 1 } : World) = y0 at *
        refine seg 3 [0, 1, 2, 3, 4, 5, 6] rfl (by kernel_rfl) whole_blind C0 (by kernel_rfl) ?_
        change wpQuiet _ _ _ _ (_ :: _ :: _ :: _ :: _ :: _ :: _ :: []) _
        repeat (first
          | go_big_quiet_skip
          | (go_big_quiet_want
             first
             | (refine q_hex (.tmp 39) rfl (x / 16) (by omega) _ rfl (by omega) ?_
                simp only [Act.put, List.setIfInBounds_toArray, List.set_cons_zero, List.set_cons_succ]
                go_big_quiet_on)
             | (refine q_hex (.tmp 42) rfl (x % 16) (by omega) _ rfl (by omega) ?_
                simp only [Act.put, List.setIfInBounds_toArray, List.set_cons_zero, List.set_cons_succ]
                go_big_quiet_on)
             | (go_big_quiet_op
                go_big_quiet_on)))
        refine wpQuiet_nil ?_
        refine lone_do (i := 7) 2 rfl (by kernel_rfl) rfl (by rfl) ?_
        intro K hK
        refine oper_three 92 40 43 rfl (hxd (x / 16)) (hxd (x % 16)) rfl rfl ?_
        refine hK _ _ (CT.out _) ?_
        simp only [Act.put, List.setIfInBounds_toArray, List.set_cons_zero, List.set_cons_succ]
        refine lone_do (i := 8) 1 rfl (by kernel_rfl) rfl (by rfl) ?_
        intro K hK
        refine oper_apb (.tmp 37) (.tmp 44) rfl W.heap.size u3 L rfl (HOv.out.alloc _) _ _ _ [92, hxd (x / 16), hxd (x % 16)] rfl rfl (byt_lit y0 [92, hxd (x / 16), hxd (x % 16)]) (by simp) (by simp; omega) (by simp; omega) ?_
        intro v1 w1 A1
        have HI2 : Hid (Own w1 W.heap.size v1 (39 :: pS ((bts s).take (k + 1))) ∧ Below W.heap.size W w1) := HS.out v1 _ w1 (D0.out.alloc D0.out.size _) (by rw [HE.out]; exact A1)
        clear A1
        refine hK _ _ (CT.out _) ?_
        simp only [Act.put, List.setIfInBounds_toArray, List.set_cons_zero, List.set_cons_succ]
        refine lone_calm (i := 9) 0 rfl (by kernel_rfl) rfl rfl (CT.out _) ?_
        go_big_quiet_want
        go_big_quiet_op
        go_big_quiet_on
        refine wpQuiet_nil ?_
        refine anyC_done (by kernel_rfl) ⟨rfl, ?_⟩
        clear HS HO HE hidx hCp CT D0 HOv
        go_wp2
        go_roundw
        case rel => exact ⟨k + 1, by omega, by go_num, HI2.out⟩
        case measure => simp [intOf]; omega
      by_cases h2 : 126 < x
      · clear hesc
        go_wp2
        refine region_calm C 9 (by kernel_rfl) ?_
        have C0 : C { wr with drawn := wr.drawn + 1 } := CT.out _
        have hCp : ∀ p : Prop, (∀ W, C W → p) ↔ p := fun p => ⟨fun h => h _ C0, fun h _ _ => h⟩
        have hsz2 : W.heap.size ≤ ({ wr with drawn := wr.drawn + 1 } : World).heap.size := hsz
        generalize ({ wr with drawn := wr.drawn + 1 } : World) = y0 at *
        refine seg 3 [0, 1, 2, 3, 4, 5, 6] rfl (by kernel_rfl) whole_blind C0 (by kernel_rfl) ?_
        change wpQuiet _ _ _ _ (_ :: _ :: _ :: _ :: _ :: _ :: _ :: []) _
        repeat (first
          | go_big_quiet_skip
          | (go_big_quiet_want
             first
             | (refine q_hex (.tmp 39) rfl (x / 16) (by omega) _ rfl (by omega) ?_
                simp only [Act.put, List.setIfInBounds_toArray, List.set_cons_zero, List.set_cons_succ]
                go_big_quiet_on)
             | (refine q_hex (.tmp 42) rfl (x % 16) (by omega) _ rfl (by omega) ?_
                simp only [Act.put, List.setIfInBounds_toArray, List.set_cons_zero, List.set_cons_succ]
                go_big_quiet_on)
             | (go_big_quiet_op
                go_big_quiet_on)))
        refine wpQuiet_nil ?_
        refine lone_do (i := 7) 2 rfl (by kernel_rfl) rfl (by rfl) ?_
        intro K hK
        refine oper_three 92 40 43 rfl (hxd (x / 16)) (hxd (x % 16)) rfl rfl ?_
        refine hK _ _ (CT.out _) ?_
        simp only [Act.put, List.setIfInBounds_toArray, List.set_cons_zero, List.set_cons_succ]
        refine lone_do (i := 8) 1 rfl (by kernel_rfl) rfl (by rfl) ?_
        intro K hK
        refine oper_apb (.tmp 37) (.tmp 44) rfl W.heap.size u3 L rfl (HOv.out.alloc _) _ _ _ [92, hxd (x / 16), hxd (x % 16)] rfl rfl (byt_lit y0 [92, hxd (x / 16), hxd (x % 16)]) (by simp) (by simp; omega) (by simp; omega) ?_
        intro v1 w1 A1
        have HI2 : Hid (Own w1 W.heap.size v1 (39 :: pS ((bts s).take (k + 1))) ∧ Below W.heap.size W w1) := HS.out v1 _ w1 (D0.out.alloc D0.out.size _) (by rw [HE.out]; exact A1)
        clear A1
        refine hK _ _ (CT.out _) ?_
        simp only [Act.put, List.setIfInBounds_toArray, List.set_cons_zero, List.set_cons_succ]
        refine lone_calm (i := 9) 0 rfl (by kernel_rfl) rfl rfl (CT.out _) ?_
        go_big_quiet_want
        go_big_quiet_op
        go_big_quiet_on
        refine wpQuiet_nil ?_
        refine anyC_done (by kernel_rfl) ⟨rfl, ?_⟩
        clear HS HO HE hidx hCp CT D0 HOv
        go_wp2
        go_roundw
        case rel => exact ⟨k + 1, by omega, by go_num, HI2.out⟩
        case measure => simp [intOf]; omega
      have h92 : ((x : Int) == 92) = true := by
        have : x = 92 := by omega
        rw [this]; rfl
      clear hesc
      go_wp2
      refine region_calm C 9 (by kernel_rfl) ?_
      have C0 : C { wr with drawn := wr.drawn + 1 } := CT.out _
      have hCp : ∀ p : Prop, (∀ W, C W → p) ↔ p := fun p => ⟨fun h => h _ C0, fun h _ _ => h⟩
      have hsz2 : W.heap.size ≤ ({ wr with drawn := wr.drawn + 1 } : World).heap.size := hsz
      generalize ({ wr with drawn := wr.drawn + 1 } : World) = y0 at *
      refine seg 3 [0, 1, 2, 3, 4, 5, 6] rfl (by kernel_rfl) whole_blind C0 (by kernel_rfl) ?_
      change wpQuiet _ _ _ _ (_ :: _ :: _ :: _ :: _ :: _ :: _ :: []) _
      repeat (first
        | go_big_quiet_skip
        | (go_big_quiet_want
           first
           | (refine q_hex (.tmp 39) rfl (x / 16) (by omega) _ rfl (by omega) ?_
              simp only [Act.put, List.setIfInBounds_toArray, List.set_cons_zero, List.set_cons_succ]
              go_big_quiet_on)
           | (refine q_hex (.tmp 42) rfl (x % 16) (by omega) _ rfl (by omega) ?_
              simp only [Act.put, List.setIfInBounds_toArray, List.set_cons_zero, List.set_cons_succ]
              go_big_quiet_on)
           | (go_big_quiet_op
              go_big_quiet_on)))
      refine wpQuiet_nil ?_
      refine lone_do (i := 7) 2 rfl (by kernel_rfl) rfl (by rfl) ?_
      intro K hK
      refine oper_three 92 40 43 rfl (hxd (x / 16)) (hxd (x % 16)) rfl rfl ?_
      refine hK _ _ (CT.out _) ?_
      simp only [Act.put, List.setIfInBounds_toArray, List.set_cons_zero, List.set_cons_succ]
      refine lone_do (i := 8) 1 rfl (by kernel_rfl) rfl (by rfl) ?_
      intro K hK
      refine oper_apb (.tmp 37) (.tmp 44) rfl W.heap.size u3 L rfl (HOv.out.alloc _) _ _ _ [92, hxd (x / 16), hxd (x % 16)] rfl rfl (byt_lit y0 [92, hxd (x / 16), hxd (x % 16)]) (by simp) (by simp; omega) (by simp; omega) ?_
      intro v1 w1 A1
      have HI2 : Hid (Own w1 W.heap.size v1 (39 :: pS ((bts s).take (k + 1))) ∧ Below W.heap.size W w1) := HS.out v1 _ w1 (D0.out.alloc D0.out.size _) (by rw [HE.out]; exact A1)
      clear A1
      refine hK _ _ (CT.out _) ?_
      simp only [Act.put, List.setIfInBounds_toArray, List.set_cons_zero, List.set_cons_succ]
      refine lone_calm (i := 9) 0 rfl (by kernel_rfl) rfl rfl (CT.out _) ?_
      go_big_quiet_want
      go_big_quiet_op
      go_big_quiet_on
      refine wpQuiet_nil ?_
      refine anyC_done (by kernel_rfl) ⟨rfl, ?_⟩
      clear HS HO HE hidx hCp CT D0 HOv
      go_wp2
      go_roundw
      case rel => exact ⟨k + 1, by omega, by go_num, HI2.out⟩
      case measure => simp [intOf]; omega
    have HE : Hid (pE x = [x]) := by show _ = _; unfold pE; rw [if_neg h39, if_neg hesc]
    have h1 : ¬ x < 32 := fun h => hesc (.inl h)
    have h2 : ¬ 126 < x := fun h => hesc (.inr (.inl h))
    have h92 : ((x : Int) == 92) = false := by
      have : ¬ x = 92 := fun h => hesc (.inr (.inr h))
      simp; omega
    clear hesc h39
    go_wp2_with (at_builtin; go_must (refine ap_bytes rfl (.tmp 16) (.tmp 18) rfl W.heap.size _ L rfl (HO.out.alloc _) _ _ _ [x] rfl rfl (byt_lit wr [x]) (by simp) (by simp; omega) (by simp; omega) ?_))
    intro v1 w1 A1
    have HI2 : Hid (Own w1 W.heap.size v1 (39 :: pS ((bts s).take (k + 1))) ∧ Below W.heap.size W w1) := HS.out v1 _ w1 ((Below.refl _ _).alloc (Nat.le_refl _) _) (by rw [HE.out]; exact A1)
    clear A1 HS HO HE hidx
    go_wp2
    go_roundw
    case rel => exact ⟨k + 1, by omega, by go_num, HI2.out⟩
    case measure => simp [intOf]; omega
end Go.Proofs.YtmlfhplhiedfjaaGreatDoor
