/-
  The document's own Quote. · LexTexts: any bytes, printed as a text, are one word.
-/
import Derived.Test.YtpfiejmhnkcjbaaGreatDoorFG37x
import Derived.Test.YtpfiejmhnkcjbaaGreatDoorFG47x
import Derived.Test.YtpfiejmhnkcjbaaGreatDoorFG7x
import Derived.Test.YtpfiejmhnkcjbaaGreatDoorFG20x
import Derived.Test.YtpfiejmhnkcjbaaGreatDoorFLyr
import Derived.Laws.BytesArg
namespace Go.Proofs.YtpfiejmhnkcjbaaGreatDoor
open Go.RowKit Math
set_option linter.unusedVariables false
set_option linter.unusedSimpArgs false
theorem q_hex {C : World → Prop} {a : Act} {o : Oper} {K : Act → Prop} (x : Operand) (ho : o.op = .index 9 (.const (.string ⟨#[48, 49, 50, 51, 52, 53, 54, 55, 56, 57, 97, 98, 99, 100, 101, 102]⟩)) x) (n : Nat) (h : n < 16) (z : Int) (hx : a.eval x = .int .u8 z) (hz : z = (n : Int)) (hk : K (a.put o.dst (.int .u8 ((hxd n : Nat) : Int)))) : o.quiet Tryz.prog a C K :=
  ⟨_, fun w _ => by
    subst hz
    have hi := hx_idx n h w
    unfold Oper.quietAt execOp
    simp only [ho, hx]
    go_simp, hk⟩
theorem oper_three {o : Oper} {a : Act} {w : World} {K : Act → World → Prop} {Q : Exit → Act → World → Prop} (l s t : Nat) (ho : o.op = .buildSlice 34 3 #[(0, .const (.int .u8 (l : Int))), (1, .tmp s), (2, .tmp t)]) (m n : Nat) (hx : a.tmps.getD s undef = .int .u8 (m : Int)) (hy : a.tmps.getD t undef = .int .u8 (n : Int)) (hK : K (a.put o.dst (.slice (some ⟨w.heap.size, 0, none⟩) 3 3)) (w.alloc (.cells (vals [l, m, n]).toArray 5))) : Oper.wp Tryz.prog o a w K Q := by
  have hx' : a.tmps[s]?.getD undef = .int .u8 (m : Int) := by simpa using hx
  have hy' : a.tmps[t]?.getD undef = .int .u8 (n : Int) := by simpa using hy
  unfold Oper.wp execOp
  simp only [ho]
  go_simp
  exact hK
theorem own_single (w : World) (x : Nat) (base : Nat) (hb : base ≤ w.heap.size) : Own (w.alloc (.cells #[.int .u8 (x : Int)] 5)) base (.slice (some ⟨w.heap.size, 0, none⟩) 1 1) [x] :=
  World.ownsRow_lit w #[.int .u8 (x : Int)] 1 hb (by decide) rfl
theorem idx9 (s : ByteArray) (k : Nat) (h : k < s.size) (w : World) : (Instr.index 9 (.string s) (.int .i64 (k : Int))).run Tryz.prog w = .ok (.int .u8 (((bts s).getD k 0 : Nat) : Int)) w := by
  have e3 : s[k]? = some (s[k]'h) := by simp [h]
  rw [bget9 s k h]
  simp [Instr.index, asIntOf, run_underlying Tryz.underlying9, e3]
set_option maxRecDepth 8000 in
set_option maxHeartbeats 2000000 in
theorem quote9 (s : ByteArray) (hs : s.size ≤ 200000000) (W : World) :
    Calls Tryz.prog 13 #[.string s] W fun e w' => e = .returned (.string (ofB (pQ s))) ∧ Below W.heap.size W w' := by
  have HI0 : Hid (Own (W.alloc (.cells #[.int .u8 ((39 : Nat) : Int)] 5)) W.heap.size (.slice (some ⟨W.heap.size, 0, none⟩) 1 1) (39 :: pS ((bts s).take 0)) ∧ Below W.heap.size W (W.alloc (.cells #[.int .u8 ((39 : Nat) : Int)] 5))) := ⟨own_single W 39 _ (Nat.le_refl _), (Below.refl _ _).alloc (Nat.le_refl _) _⟩
  go_enter Tryz.func13, Tryz.ntmps13
  go_wp2
  go_loopw [3, 4, 5] (fun b i _ wr => ∃ (k : Nat), k ≤ s.size ∧ i = .int .i64 (k : Int) ∧ Hid (Own wr W.heap.size b (39 :: pS ((bts s).take k)) ∧ Below W.heap.size W wr)) (fun _ i _ _ => s.size - (intOf i).toNat)
  case atStart => exact ⟨0, by omega, rfl, HI0.out⟩
  case round =>
    clear HI0
    obtain ⟨k, hk, rfl, HI⟩ := hrel
    have hlen : (39 :: pS ((bts s).take k)).length ≤ 800000001 := by
      have := (pS_len ((bts s).take k)).2
      rw [List.length_take, bts_len] at this
      rw [List.length_cons]
      omega
    have hsz := HI.out.2.size
    by_cases hk2 : k < s.size
    case neg =>
      have HL : Hid (39 :: (pS ((bts s).take k) ++ [39]) = pQ s) := by
        show _ = _
        rw [List.take_of_length_le (by rw [bts_len]; omega)]
        rfl
      go_wp2_with (at_builtin; go_must (refine ap_bytes rfl (.tmp 46) (.tmp 47) rfl W.heap.size _ (39 :: pS ((bts s).take k)) rfl (HI.out.1.alloc _) _ _ _ [39] rfl rfl (byt_lit wr [39]) (by simp) (by simp at hlen ⊢; omega) (by simp; omega) ?_))
      intro v1 w1 A1
      rw [HL.out] at A1
      have HB : Hid (Below W.heap.size W w1) := A1.below (HI.out.1.alloc _) (HI.out.2.alloc (by omega) _) (by simp; omega) (Nat.le_refl _)
      obtain ⟨a, c, rfl, hb, hn, _⟩ := A1.own.byt
      have hcv := conv_byt9 hb (pQ_pln s).oct hn
      clear A1 hb hn HL HI hlen
      generalize (pQ s).length = n at *
      go_wp2
      go_ret
      exact ⟨rfl, HB.out⟩
    have hx := bts_oct s ((bts s).getD k 0) (by rw [List.getD_eq_getElem?_getD, List.getElem?_eq_getElem (by rw [bts_len]; exact hk2)]; exact List.getElem_mem _)
    have hidx := idx9 s k hk2
    have HN : Hid (pS ((bts s).take (k + 1)) = pS ((bts s).take k) ++ pE ((bts s).getD k 0)) := pS_next (by rw [bts_len]; exact hk2)
    generalize (bts s).getD k 0 = x at *
    obtain ⟨L, hL⟩ : ∃ L, 39 :: pS ((bts s).take k) = L := ⟨_, rfl⟩
    rw [hL] at hlen
    have HS : Hid (∀ v3 w2 w3, Below wr.heap.size wr w2 → Ap W.heap.size w2 w3 u3 v3 (L ++ pE x) → Own w3 W.heap.size v3 (39 :: pS ((bts s).take (k + 1))) ∧ Below W.heap.size W w3) := fun v3 w2 w3 hb A => by
      have h1 := HI.out.1
      rw [hL] at h1
      refine ⟨?_, A.below (h1.below hb) (HI.out.2.trans (hb.mono HI.out.2.size)) (by have := hb.size; omega) (Nat.le_refl _)⟩
      rw [HN.out, ← List.cons_append, hL]
      exact A.own
    have HO : Hid (Own wr W.heap.size u3 L) := by rw [← hL]; exact HI.out.1
    clear HI HN hL
    by_cases h39 : x = 39
    · have hb : ((x : Int) == 39) = true := by rw [h39]; rfl
      have HE : Hid (pE x = [39, 39]) := by show _ = _; unfold pE; rw [if_pos h39]
      clear h39
      go_wp2_with (at_builtin; go_must (refine ap_bytes rfl (.tmp 23) (.tmp 24) rfl W.heap.size _ L rfl (HO.out.alloc _) _ _ _ [39, 39] rfl rfl (byt_lit wr [39, 39]) (by simp) (by simp; omega) (by simp; omega) ?_))
      intro v1 w1 A1
      have HI2 : Hid (Own w1 W.heap.size v1 (39 :: pS ((bts s).take (k + 1))) ∧ Below W.heap.size W w1) := HS.out v1 _ w1 ((Below.refl _ _).alloc (Nat.le_refl _) _) (by rw [HE.out]; exact A1)
      clear A1 HS HO HE hidx
      go_wp2
      go_roundw
      case rel => exact ⟨k + 1, by omega, by go_num, HI2.out⟩
      case measure => simp [intOf]; omega
    have hb : ((x : Int) == 39) = false := by simp; omega
    by_cases hesc : x < 32 ∨ 126 < x ∨ x = 92
    · have HE : Hid (pE x = [92, hxd (x / 16), hxd (x % 16)]) := by show _ = _; unfold pE; rw [if_neg h39, if_pos hesc]; rfl
      obtain ⟨C, hC⟩ : ∃ C : World → Prop, C = fun _ => True := ⟨_, rfl⟩
      have CT : Hid (∀ w', C w') := fun w' => by rw [hC]; trivial
      have D0 : Hid (Below wr.heap.size wr { wr with drawn := wr.drawn + 1 }) := Below.drew (Below.refl _ _)
      have HOv : Hid (Own { wr with drawn := wr.drawn + 1 } W.heap.size u3 L) := HO.out.below D0.out
      clear hC h39
      by_cases h1 : x < 32
      · clear hesc
        go_wp2
        refine region_calm C 9 (by kernel_rfl) ?_
        have C0 : C { wr with drawn := wr.drawn + 1 } := CT.out _
        have hCp : ∀ p : Prop, (∀ W, C W → p) ↔ p := fun p => ⟨fun h => h _ C0, fun h _ _ => h⟩
        have hsz2 : W.heap.size ≤ ({ wr with drawn := wr.drawn + 1 } : World).heap.size := hsz
        generalize ({ wr with drawn := wr.drawn + 1 } : World) = y0 at *
        refine seg 3 [0, 1, 2, 3, 4, 5, 6] rfl (by kernel_rfl) whole_blind C0 (by kernel_rfl) ?_
        change wpQuiet _ _ _ _ (_ :: _ :: _ :: _ :: _ :: _ :: _ :: []) _
        repeat (first
          | go_big_quiet_skip
          | (go_big_quiet_want
             first
             | (refine q_hex (.tmp 39) rfl (x / 16) (by omega) _ rfl (by omega) ?_
                simp only [Act.put, List.setIfInBounds_toArray, List.set_cons_zero, List.set_cons_succ]
                go_big_quiet_on)
             | (refine q_hex (.tmp 42) rfl (x % 16) (by omega) _ rfl (by omega) ?_
                simp only [Act.put, List.setIfInBounds_toArray, List.set_cons_zero, List.set_cons_succ]
                go_big_quiet_on)
             | (go_big_quiet_op
                go_big_quiet_on)))
        refine wpQuiet_nil ?_
        refine lone_do (i := 7) 2 rfl (by kernel_rfl) rfl (by rfl) ?_
        intro K hK
        refine oper_three 92 40 43 rfl (hxd (x / 16)) (hxd (x % 16)) rfl rfl ?_
        refine hK _ _ (CT.out _) ?_
        simp only [Act.put, List.setIfInBounds_toArray, List.set_cons_zero, List.set_cons_succ]
        refine lone_do (i := 8) 1 rfl (by kernel_rfl) rfl (by rfl) ?_
        intro K hK
        refine oper_apb (.tmp 37) (.tmp 44) rfl W.heap.size u3 L rfl (HOv.out.alloc _) _ _ _ [92, hxd (x / 16), hxd (x % 16)] rfl rfl (byt_lit y0 [92, hxd (x / 16), hxd (x % 16)]) (by simp) (by simp; omega) (by simp; omega) ?_
        intro v1 w1 A1
        have HI2 : Hid (Own w1 W.heap.size v1 (39 :: pS ((bts s).take (k + 1))) ∧ Below W.heap.size W w1) := HS.out v1 _ w1 (D0.out.alloc D0.out.size _) (by rw [HE.out]; exact A1)
        clear A1
        refine hK _ _ (CT.out _) ?_
        simp only [Act.put, List.setIfInBounds_toArray, List.set_cons_zero, List.set_cons_succ]
        refine lone_calm (i := 9) 0 rfl (by kernel_rfl) rfl rfl (CT.out _) ?_
        go_big_quiet_want
        go_big_quiet_op
        go_big_quiet_on
        refine wpQuiet_nil ?_
        refine anyC_done (by kernel_rfl) ⟨rfl, ?_⟩
        clear HS HO HE hidx hCp CT D0 HOv
        go_wp2
        go_roundw
        case rel => exact ⟨k + 1, by omega, by go_num, HI2.out⟩
        case measure => simp [intOf]; omega
      by_cases h2 : 126 < x
      · clear hesc
        go_wp2
        refine region_calm C 9 (by kernel_rfl) ?_
        have C0 : C { wr with drawn := wr.drawn + 1 } := CT.out _
        have hCp : ∀ p : Prop, (∀ W, C W → p) ↔ p := fun p => ⟨fun h => h _ C0, fun h _ _ => h⟩
        have hsz2 : W.heap.size ≤ ({ wr with drawn := wr.drawn + 1 } : World).heap.size := hsz
        generalize ({ wr with drawn := wr.drawn + 1 } : World) = y0 at *
        refine seg 3 [0, 1, 2, 3, 4, 5, 6] rfl (by kernel_rfl) whole_blind C0 (by kernel_rfl) ?_
        change wpQuiet _ _ _ _ (_ :: _ :: _ :: _ :: _ :: _ :: _ :: []) _
        repeat (first
          | go_big_quiet_skip
          | (go_big_quiet_want
             first
             | (refine q_hex (.tmp 39) rfl (x / 16) (by omega) _ rfl (by omega) ?_
                simp only [Act.put, List.setIfInBounds_toArray, List.set_cons_zero, List.set_cons_succ]
                go_big_quiet_on)
             | (refine q_hex (.tmp 42) rfl (x % 16) (by omega) _ rfl (by omega) ?_
                simp only [Act.put, List.setIfInBounds_toArray, List.set_cons_zero, List.set_cons_succ]
                go_big_quiet_on)
             | (go_big_quiet_op
                go_big_quiet_on)))
        refine wpQuiet_nil ?_
        refine lone_do (i := 7) 2 rfl (by kernel_rfl) rfl (by rfl) ?_
        intro K hK
        refine oper_three 92 40 43 rfl (hxd (x / 16)) (hxd (x % 16)) rfl rfl ?_
        refine hK _ _ (CT.out _) ?_
        simp only [Act.put, List.setIfInBounds_toArray, List.set_cons_zero, List.set_cons_succ]
        refine lone_do (i := 8) 1 rfl (by kernel_rfl) rfl (by rfl) ?_
        intro K hK
        refine oper_apb (.tmp 37) (.tmp 44) rfl W.heap.size u3 L rfl (HOv.out.alloc _) _ _ _ [92, hxd (x / 16), hxd (x % 16)] rfl rfl (byt_lit y0 [92, hxd (x / 16), hxd (x % 16)]) (by simp) (by simp; omega) (by simp; omega) ?_
        intro v1 w1 A1
        have HI2 : Hid (Own w1 W.heap.size v1 (39 :: pS ((bts s).take (k + 1))) ∧ Below W.heap.size W w1) := HS.out v1 _ w1 (D0.out.alloc D0.out.size _) (by rw [HE.out]; exact A1)
        clear A1
        refine hK _ _ (CT.out _) ?_
        simp only [Act.put, List.setIfInBounds_toArray, List.set_cons_zero, List.set_cons_succ]
        refine lone_calm (i := 9) 0 rfl (by kernel_rfl) rfl rfl (CT.out _) ?_
        go_big_quiet_want
        go_big_quiet_op
        go_big_quiet_on
        refine wpQuiet_nil ?_
        refine anyC_done (by kernel_rfl) ⟨rfl, ?_⟩
        clear HS HO HE hidx hCp CT D0 HOv
        go_wp2
        go_roundw
        case rel => exact ⟨k + 1, by omega, by go_num, HI2.out⟩
        case measure => simp [intOf]; omega
      have h92 : ((x : Int) == 92) = true := by
        have : x = 92 := by omega
        rw [this]; rfl
      clear hesc
      go_wp2
      refine region_calm C 9 (by kernel_rfl) ?_
      have C0 : C { wr with drawn := wr.drawn + 1 } := CT.out _
      have hCp : ∀ p : Prop, (∀ W, C W → p) ↔ p := fun p => ⟨fun h => h _ C0, fun h _ _ => h⟩
      have hsz2 : W.heap.size ≤ ({ wr with drawn := wr.drawn + 1 } : World).heap.size := hsz
      generalize ({ wr with drawn := wr.drawn + 1 } : World) = y0 at *
      refine seg 3 [0, 1, 2, 3, 4, 5, 6] rfl (by kernel_rfl) whole_blind C0 (by kernel_rfl) ?_
      change wpQuiet _ _ _ _ (_ :: _ :: _ :: _ :: _ :: _ :: _ :: []) _
      repeat (first
        | go_big_quiet_skip
        | (go_big_quiet_want
           first
           | (refine q_hex (.tmp 39) rfl (x / 16) (by omega) _ rfl (by omega) ?_
              simp only [Act.put, List.setIfInBounds_toArray, List.set_cons_zero, List.set_cons_succ]
              go_big_quiet_on)
           | (refine q_hex (.tmp 42) rfl (x % 16) (by omega) _ rfl (by omega) ?_
              simp only [Act.put, List.setIfInBounds_toArray, List.set_cons_zero, List.set_cons_succ]
              go_big_quiet_on)
           | (go_big_quiet_op
              go_big_quiet_on)))
      refine wpQuiet_nil ?_
      refine lone_do (i := 7) 2 rfl (by kernel_rfl) rfl (by rfl) ?_
      intro K hK
      refine oper_three 92 40 43 rfl (hxd (x / 16)) (hxd (x % 16)) rfl rfl ?_
      refine hK _ _ (CT.out _) ?_
      simp only [Act.put, List.setIfInBounds_toArray, List.set_cons_zero, List.set_cons_succ]
      refine lone_do (i := 8) 1 rfl (by kernel_rfl) rfl (by rfl) ?_
      intro K hK
      refine oper_apb (.tmp 37) (.tmp 44) rfl W.heap.size u3 L rfl (HOv.out.alloc _) _ _ _ [92, hxd (x / 16), hxd (x % 16)] rfl rfl (byt_lit y0 [92, hxd (x / 16), hxd (x % 16)]) (by simp) (by simp; omega) (by simp; omega) ?_
      intro v1 w1 A1
      have HI2 : Hid (Own w1 W.heap.size v1 (39 :: pS ((bts s).take (k + 1))) ∧ Below W.heap.size W w1) := HS.out v1 _ w1 (D0.out.alloc D0.out.size _) (by rw [HE.out]; exact A1)
      clear A1
      refine hK _ _ (CT.out _) ?_
      simp only [Act.put, List.setIfInBounds_toArray, List.set_cons_zero, List.set_cons_succ]
      refine lone_calm (i := 9) 0 rfl (by kernel_rfl) rfl rfl (CT.out _) ?_
      go_big_quiet_want
      go_big_quiet_op
      go_big_quiet_on
      refine wpQuiet_nil ?_
      refine anyC_done (by kernel_rfl) ⟨rfl, ?_⟩
      clear HS HO HE hidx hCp CT D0 HOv
      go_wp2
      go_roundw
      case rel => exact ⟨k + 1, by omega, by go_num, HI2.out⟩
      case measure => simp [intOf]; omega
    have HE : Hid (pE x = [x]) := by show _ = _; unfold pE; rw [if_neg h39, if_neg hesc]
    have h1 : ¬ x < 32 := fun h => hesc (.inl h)
    have h2 : ¬ 126 < x := fun h => hesc (.inr (.inl h))
    have h92 : ((x : Int) == 92) = false := by
      have : ¬ x = 92 := fun h => hesc (.inr (.inr h))
      simp; omega
    clear hesc h39
    go_wp2_with (at_builtin; go_must (refine ap_bytes rfl (.tmp 16) (.tmp 18) rfl W.heap.size _ L rfl (HO.out.alloc _) _ _ _ [x] rfl rfl (byt_lit wr [x]) (by simp) (by simp; omega) (by simp; omega) ?_))
    intro v1 w1 A1
    have HI2 : Hid (Own w1 W.heap.size v1 (39 :: pS ((bts s).take (k + 1))) ∧ Below W.heap.size W w1) := HS.out v1 _ w1 ((Below.refl _ _).alloc (Nat.le_refl _) _) (by rw [HE.out]; exact A1)
    clear A1 HS HO HE hidx
    go_wp2
    go_roundw
    case rel => exact ⟨k + 1, by omega, by go_num, HI2.out⟩
    case measure => simp [intOf]; omega
end Go.Proofs.YtpfiejmhnkcjbaaGreatDoor
namespace Go.Proofs.YtpfiejmhnkcjbaaGreatDoor
open Go.RowKit Lx
set_option linter.unusedVariables false
set_option linter.unusedSimpArgs false
theorem strOfL (l : List Nat) (h : Oct l) : strOfNums (l.map fun n : Nat => (n : Int)) = ofB l := by
  unfold strOfNums ofB
  congr 2
  rw [List.map_map]
  apply List.map_congr_left
  intro x hx
  have := h x hx
  simp
theorem conv_bytL {w : World} {a : Option Addr} {l : List Nat} {c : Nat} (h : Byt w a l) (ho : Oct l) (hnil : a = none → c = 0) : (convert 34 9 (.slice a l.length c)).run Tryz.prog w = .ok (.string (ofB l)) w := by
  cases a with
  | none =>
    have hl : l = [] := by
      rcases h with h | ⟨_, _, h, _⟩
      · exact h
      · cases h
    subst hl
    exact run_convert_bytes_nil w 34 5 Tryz.underlying34 Tryz.underlying5 0 c 9 Tryz.underlying9
  | some ad =>
    rw [← strOfL _ ho]
    by_cases hl : l = []
    · subst hl
      rw [run_convert_bytes_string w 34 9 5 (some ad) ([] : List Nat).length c Tryz.underlying34 Tryz.underlying5 Tryz.underlying9]
      have hl : (loadCells ad 0).run Tryz.prog w = .ok #[] w := by simpa using run_loadCells_list (P := Tryz.prog) w ad [] (by simp)
      simp [Conv.bytesToString, hl, strOfNums]
      try rfl
    · rcases h with h | ⟨b, o, h, hc⟩
      · exact absurd h hl
      · obtain rfl := Option.some.inj h
        refine run_convert_bytes_arg w 34 5 Tryz.underlying34 Tryz.underlying5 b o l.length c _ (by rw [List.length_map]) (fun k hk => ?_) 9 Tryz.underlying9
        have := hc k hk
        rw [this]
        simp [List.getD_eq_getElem?_getD, hk]
open Classical in
theorem txp_ex2 (w : World) (ht : D6.Ptab w) : ∃ tx, TxP tx w ∧ ∀ y, WfV y → encE y = 0 → tx (prV y) = true := by
  refine ⟨fun l => decide (∃ y, WfV y ∧ encE y = 0 ∧ prV y = l), fun x hx _ W hW => ?_, fun y h1 h2 => decide_eq_true ⟨y, h1, h2, rfl⟩⟩
  refine (tparse_any x (by omega) W (ptab_below ht hW)).mono ?_
  rintro e w' ⟨p, na, nc, ka, kc, E, rfl, H⟩
  refine ⟨six p.1 na nc ka p.2.list.length kc, E, rfl, six_one _ _ _ _ _ _, rfl, ?_, H.out.bl⟩
  rw [decide_eq_true_iff]
  rcases H.out.ok with ⟨h0, h1, h2, _⟩ | ⟨h3, _, h4⟩
  · exact ⟨fun _ => h0, fun _ => ⟨p, H.out.wf, h1, h2⟩⟩
  · constructor
    · rintro ⟨y, y1, y2, y3⟩
      exact absurd y3 (h4 (by omega) y y1 y2)
    · intro h
      rw [h3] at h
      cases h
/-- A text's value. -/
theorem lf_enc (x : ByteArray) (hx : x.size ≤ 500) : WfV (lf 6 0 0 x) ∧ encE (lf 6 0 0 x) = 0 ∧ prV (lf 6 0 0 x) = pQ x := by
  have e6 : own ⟨6, 0, 0, x, []⟩ 0 = 0 := by
    unfold own
    rw [if_pos (by simp [formed, only]), if_neg (by simp; omega), if_neg (by simp)]
  have hc : chkV (lf 6 0 0 x) 1 = 0 := by
    unfold chkV lf
    simp only [Fo.list, List.length_nil, chk]
    simp [e6]
  have hw : WfV (lf 6 0 0 x) := wf_leaf9 6 0 0 x (by omega) (by omega) (by omega) (by omega)
  have hb := bound_V (lf 6 0 0 x) hw (chk1 hc)
  have hs : ws (lf 6 0 0 x) = (1 + x.size / 20 + 0) + 0 := rfl
  refine ⟨hw, ?_, ?_⟩
  · unfold encE
    rw [if_neg (by simpa using hc), if_neg (by omega)]
  · unfold prV pH lf
    simp
/-! ### over lists -/
theorem pE_lenL (c : Nat) : (pE c).length ≤ 3 := by
  unfold pE pX
  split
  · simp
  split <;> simp
theorem pS_lenL : ∀ l : List Nat, (pS l).length ≤ 3 * l.length
  | [] => by simp [pS]
  | c :: l => by
    have h1 := pE_lenL c
    have h2 := pS_lenL l
    simp only [pS, List.length_append, List.length_cons]
    omega
theorem hxd_39 : ∀ n, n < 16 → hxd n ≠ 39 ∧ hxd n < 256 := by decide
theorem pE_oct (c : Nat) (hc : c < 256) : ∀ x ∈ pE c, x < 256 := by
  intro x hx
  unfold pE pX at hx
  split at hx
  · simp at hx; omega
  split at hx
  · have h1 := hxd_39 (c / 16) (by omega)
    have h2 := hxd_39 (c % 16) (by omega)
    simp at hx
    omega
  · simp at hx; omega
theorem pS_oct : ∀ l : List Nat, (∀ x ∈ l, x < 256) → ∀ x ∈ pS l, x < 256
  | [], _, x, hx => by simp [pS] at hx
  | c :: l, h, x, hx => by
    simp only [pS] at hx
    rcases List.mem_append.1 hx with hx | hx
    · exact pE_oct c (h c (by simp)) x hx
    · exact pS_oct l (fun y hy => h y (by simp [hy])) x hx
theorem txE_pE (c : Nat) (hc : c < 256) (q : List Nat) : txE (pE c ++ q) = (txE q).map (· + (pE c).length) := by
  unfold pE pX
  split
  · rw [show [39, 39] ++ q = 39 :: 39 :: q from rfl, tx_two]
    rfl
  split
  · have h1 := (hxd_39 (c / 16) (by omega)).1
    have h2 := (hxd_39 (c % 16) (by omega)).1
    rw [show (92 :: [hxd (c / 16), hxd (c % 16)]) ++ q = 92 :: hxd (c / 16) :: hxd (c % 16) :: q from rfl, tx_skip (by decide), tx_skip h1, tx_skip h2]
    cases txE q <;> rfl
  · rename_i h _
    rw [show [c] ++ q = c :: q from rfl, tx_skip h]
    rfl
theorem txE_pS : ∀ l : List Nat, (∀ x ∈ l, x < 256) → txE (pS l ++ [39]) = some ((pS l).length + 1)
  | [], _ => rfl
  | c :: l, h => by
    simp only [pS, List.append_assoc]
    rw [txE_pE c (h c (by simp)), txE_pS l (fun y hy => h y (by simp [hy]))]
    simp
    omega
theorem lex_quo {tx nu : List Nat → Bool} (l : List Nat) (h : ∀ x ∈ l, x < 256) (ht : tx (39 :: (pS l ++ [39])) = true) : lexR tx nu (39 :: (pS l ++ [39])) 0 = ([(5, 39 :: (pS l ++ [39]), 0), (8, [], (pS l).length + 2)], none) := by
  have hl : (39 :: (pS l ++ [39])).length = (pS l).length + 1 + 1 := by simp
  rw [lexR_step tx nu (by simp), st_txt, txE_pS l h]
  simp only
  rw [← hl, List.take_length, ht]
  simp only [if_true, List.drop_length, lexR_nil]
  rw [hl]
  simp
set_option maxRecDepth 8000 in
set_option maxHeartbeats 4000000 in
theorem texts_walkL (ab : Option Addr) (cb : Nat) (l : List Nat) (hnil : ab = none → cb = 0) (ho : Oct l) (hlm : l.length ≤ maxLen) (W : World) (hb : Byt W ab l) (ht : D6.Ptab W) :
    Calls Tryz.prog 6 #[.slice ab l.length cb] W fun e w' => e = .returned (.bool true) ∧ Hid (Below W.heap.size W w') := by
  by_cases hbig : 300 < l.length
  · have x1 : (300 : Int) < (l.length : Int) := by omega
    clear hb ht
    go_enter Tryz.func6, Tryz.ntmps6
    go_wp2
    go_ret
    exact ⟨rfl, Below.refl _ _⟩
  have x1 : ¬ (300 : Int) < (l.length : Int) := by omega
  have hcv := conv_bytL (c := cb) hb ho hnil
  have hbo : bts (ofB l) = l := bts_ofB l ho
  have hzo : (ofB l).size = l.length := ofB_size l
  have KQ := fun W => quote9 (ofB l) (by omega) W
  obtain ⟨tx, hX, hXt⟩ := txp_ex2 W ht
  obtain ⟨nu, hN⟩ := nup_ex W
  obtain ⟨l1, l2, l3⟩ := lf_enc (ofB l) (by omega)
  have hq : pQ (ofB l) = 39 :: (pS l ++ [39]) := by unfold pQ; rw [hbo]
  have htt := hXt _ l1 l2
  rw [l3, hq] at htt
  have hlx : Hid (lexR tx nu (39 :: (pS l ++ [39])) 0 = ([(5, 39 :: (pS l ++ [39]), 0), (8, [], (pS l).length + 2)], none)) := lex_quo l ho htt
  have hpo : ∀ x ∈ (39 :: (pS l ++ [39])), x < 256 := fun x hx => by
    rcases List.mem_cons.1 hx with h | h
    · omega
    · rcases List.mem_append.1 h with h | h
      · exact pS_oct l ho x h
      · simp at h; omega
  have hpl := pS_lenL l
  obtain ⟨S, hS⟩ : ∃ S, ofB (39 :: (pS l ++ [39])) = S := ⟨_, rfl⟩
  have hbS : bts S = 39 :: (pS l ++ [39]) := by rw [← hS]; exact bts_ofB _ hpo
  have hzS : S.size ≤ 4096 := by
    rw [← bts_len, hbS]
    simp
    omega
  rw [hq, hS] at KQ
  have KL : Hid (∀ W', Below W.heap.size W W' → Calls Tryz.prog 9 #[.string S] W' fun e w' => LexA W' tx nu (39 :: (pS l ++ [39])) e w' ∧ Hid (Below W'.heap.size W' w')) := fun W' h => by
    have := lex_any tx nu S hzS W' (fun _ => hX.mono h) (fun _ => ⟨hN.1.mono h, hN.2⟩)
    rw [hbS] at this
    exact this
  have HOS : Hid (ofB (39 :: (pS l ++ [39])) = S) := hS
  clear hb ht hX hXt hN l1 l2 l3 hq htt hpo hpl hbS hS hbo hzo
  go_enter Tryz.func6, Tryz.ntmps6
  go_wp2_with fail
  refine (KQ _).mono ?_
  rintro e w1 ⟨rfl, q⟩
  have HB1 : Hid (Below W.heap.size W w1) := q
  clear q KQ hcv
  go_wp2_with fail
  refine (KL.out _ HB1.out).mono ?_
  rintro e w2 ⟨hA, q⟩
  obtain ⟨v, e4, hR⟩ := lexA_ok hA (by rw [hlx.out])
  subst e4
  rw [hlx.out] at hR
  dsimp only at hR
  obtain ⟨b, c, e5, hvb, hr⟩ := TkS.row hR (by simp)
  subst e5
  have HB2 : Hid (Below W.heap.size W w2) := HB1.out.trans (q.out.mono HB1.out.size)
  have hr0 := tk_range (j := 0) hr rfl
  have c3 : w2.cell? ⟨b, 0, none⟩ = some (.int .i64 5) := hr0 0 _ rfl
  have c4 : w2.cell? ⟨b, 1, none⟩ = some (.string S) := hr0 1 _ (by unfold tk1; rw [HOS.out]; rfl)
  clear q hA hR hr hr0 KL hlx HB1
  simp only [List.length_cons, List.length_nil]
  go_wp2_with fail
  refine (known_any _).mono ?_
  rintro e w6 ⟨rfl, q⟩
  have HF : Hid (Below W.heap.size W w6) := HB2.out.trans (q.out.mono HB2.out.size)
  clear q
  go_wp2
  go_ret
  exact ⟨rfl, HF.out⟩
theorem bytes5 : Tryz.prog.bytesOf 5 = 1 := by kernel_rfl
theorem texts_row (ab : Option Addr) (len cb : Nat) (zs : List Int) (W : World) (h : IsRow .u8 W ab len cb zs) (ht : D6.Ptab W) :
    Calls Tryz.prog 6 #[.slice ab len cb] W fun e w' => e = .returned (.bool true) ∧ Hid (Below W.heap.size W w') := by
  obtain ⟨l, rfl, h1, h2, h3, h4⟩ := row_byt h
  exact texts_walkL ab cb l h3 h2 h4 W h1 ht
end Go.Proofs.YtpfiejmhnkcjbaaGreatDoor
