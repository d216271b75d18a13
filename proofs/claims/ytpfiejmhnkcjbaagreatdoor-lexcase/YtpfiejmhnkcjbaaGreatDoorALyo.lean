/-
  LexCase: words are words in small and great letters.
-/
import Derived.Test.YtpfiejmhnkcjbaaGreatDoorALyn
namespace Go.Proofs.YtpfiejmhnkcjbaaGreatDoor
open Go.RowKit Lx
set_option linter.unusedVariables false
set_option linter.unusedSimpArgs false
theorem and31 (n : Int) : bits .and .i64 n 31 = n % 32 := by
  have h127 : (BitVec.ofInt 64 31).toNat = 2 ^ 5 - 1 := by decide
  have key : (BitVec.ofInt 64 n &&& BitVec.ofInt 64 31).toNat = (n % ((2 ^ 64 : Nat) : Int)).toNat % 2 ^ 5 := by
    rw [BitVec.toNat_and, BitVec.toNat_ofInt, h127, Nat.and_two_pow_sub_one_eq_mod]
  show IntKind.i64.wrap ((BitVec.ofInt 64 n &&& BitVec.ofInt 64 31).toNat : Nat) = n % 32
  rw [key, IntKind.wrap_i64]
  omega
/-- The first i bytes are small letters, and have been written in small or great ones. -/
structure Cs (l M : List Nat) (i : Nat) : Prop where
  len : M.length = l.length
  sm : sml M = sml l
  fst : ∀ j c, j < i → l[j]? = some c → 97 ≤ c ∧ c ≤ 122
  let' : ∀ j c, j < i → M[j]? = some c → isLt c = true
  rest : ∀ j, i ≤ j → M[j]? = l[j]?
theorem Cs.zero (l : List Nat) : Cs l l 0 := ⟨rfl, rfl, fun j c h => by omega, fun j c h => by omega, fun j _ => rfl⟩
theorem isLt_low {c : Nat} (h1 : 97 ≤ c) (h2 : c ≤ 122) : isLt c = true := by unfold isLt; simp; omega
theorem isLt_up {c : Nat} (h1 : 97 ≤ c) (h2 : c ≤ 122) : isLt (c - 32) = true := by unfold isLt; simp; omega
theorem Cs.keep {l M : List Nat} {i c : Nat} (h : Cs l M i) (hc : l[i]? = some c) (h1 : 97 ≤ c) (h2 : c ≤ 122) : Cs l M (i + 1) := by
  refine ⟨h.len, h.sm, fun j x hj hx => ?_, fun j x hj hx => ?_, fun j hj => h.rest j (by omega)⟩
  · by_cases e : j = i
    · subst e; rw [hc] at hx; injection hx with hx; omega
    · exact h.fst j x (by omega) hx
  · by_cases e : j = i
    · subst e; rw [h.rest j (Nat.le_refl _), hc] at hx; injection hx with hx; subst hx; exact isLt_low h1 h2
    · exact h.let' j x (by omega) hx
theorem Cs.up {l M : List Nat} {i c : Nat} (h : Cs l M i) (hc : l[i]? = some c) (h1 : 97 ≤ c) (h2 : c ≤ 122) : Cs l (M.set i (c - 32)) (i + 1) := by
  have hi : i < M.length := by rw [h.len]; exact (List.getElem?_eq_some_iff.1 hc).1
  have hM : M[i]? = some c := by rw [h.rest i (Nat.le_refl _), hc]
  refine ⟨by rw [List.length_set]; exact h.len, ?_, fun j x hj hx => ?_, fun j x hj hx => ?_, fun j hj => ?_⟩
  · rw [← h.sm]
    unfold sml
    apply List.ext_getElem?
    intro j
    rw [List.getElem?_map, List.getElem?_map, List.getElem?_set]
    by_cases e : i = j
    · subst e
      rw [if_pos rfl, if_pos hi, hM]
      simp only [Option.map_some]
      congr 1
      rw [if_pos (by omega), if_neg (by omega)]
      omega
    · rw [if_neg e]
  · by_cases e : j = i
    · subst e; rw [hc] at hx; injection hx with hx; omega
    · exact h.fst j x (by omega) hx
  · rw [List.getElem?_set] at hx
    by_cases e : i = j
    · rw [if_pos e, if_pos hi] at hx; injection hx with hx; subst hx; exact isLt_up h1 h2
    · rw [if_neg e] at hx; exact h.let' j x (by omega) hx
  · rw [List.getElem?_set, if_neg (by omega)]
    exact h.rest j (by omega)
theorem Cs.all {l M : List Nat} {i : Nat} (h : Cs l M i) (hi : l.length ≤ i) : (∀ c ∈ M, isLt c = true) ∧ sml M = l ∧ M.length = l.length := by
  refine ⟨fun c hc => ?_, ?_, h.len⟩
  · obtain ⟨j, hj⟩ := List.mem_iff_getElem?.1 hc
    have := (List.getElem?_eq_some_iff.1 hj).1
    exact h.let' j c (by rw [h.len] at this; omega) hj
  · rw [h.sm]
    unfold sml
    apply List.ext_getElem?
    intro j
    rw [List.getElem?_map]
    cases hj : l[j]? with
    | none => rfl
    | some c =>
      have := (List.getElem?_eq_some_iff.1 hj).1
      have := h.fst j c (by omega) hj
      simp only [Option.map_some]
      rw [if_neg (by omega)]
theorem CellsL.below {w w' : World} {b : Nat} {L : List Nat} (h : CellsL w b L) (hb : b < w.heap.size) (g : Below w.heap.size w w') : CellsL w' b L := by
  refine ⟨fun i hi => ?_, fun i hi => ?_⟩
  · have := h.cell i hi
    unfold World.cell? at this ⊢
    simp only at this ⊢
    rw [g.block b hb]
    exact this
  · have := h.free i hi
    unfold World.frozen? at this ⊢
    simp only at this ⊢
    rw [g.block b hb]
    exact this
theorem range_below {w w' : World} {b o : Nat} {cs : List Value} (h : w.rangeAt b o cs) (hb : b < w.heap.size) (g : Below w.heap.size w w') : w'.rangeAt b o cs := fun j u hj => by
  have := h j u hj
  unfold World.cell? at this ⊢
  simp only at this ⊢
  rw [g.block b hb]
  exact this
set_option maxRecDepth 8000 in
set_option maxHeartbeats 4000000 in
theorem case_walk (s : ByteArray) (mask : Int) (w : World) : Calls Tryz.prog 7 #[.string s, .int .i64 mask] w fun e w' => e = .returned (.bool true) ∧ Hid (Below w.heap.size w w') := by
  by_cases h60 : 60 < s.size
  · have x1 : (60 : Int) < (s.size : Int) := by omega
    go_enter Tryz.func7, Tryz.ntmps7
    go_wp2
    go_ret
    exact ⟨rfl, Below.refl _ _⟩
  have x1 : ¬ (60 : Int) < (s.size : Int) := by omega
  obtain ⟨c, w1, hcv, hbl, hcl⟩ := conv_sbL s (by omega) w
  have HB : Hid (Below w.heap.size w w1) := hbl
  have HCL : Hid (CellsL w1 w.heap.size (bts s)) := hcl
  have HL : Hid ((bts s).length = s.size) := bts_len s
  have HOC : Hid (∀ x ∈ bts s, x < 256) := bts_oct s
  obtain ⟨b, hb⟩ : ∃ b, w.heap.size = b := ⟨_, rfl⟩
  rw [hb] at hcv HCL
  have HBB : Hid (w.heap.size = b) := hb
  have HH6 : Hid (¬ 60 < s.size) := h60
  clear hb hbl hcl h60
  go_enter Tryz.func7, Tryz.ntmps7
  go_wp2_with fail
  clear hcv
  go_loopw [6] (fun iv wr => ∃ (i : Nat) (M : List Nat), i ≤ s.size ∧ iv = .int .i64 (i : Int) ∧ Hid (Below w.heap.size w wr ∧ CellsL wr b M ∧ Cs (bts s) M i)) (fun iv _ => s.size - (intOf iv).toNat)
  case atStart => exact ⟨0, bts s, Nat.zero_le _, rfl, HB.out, HCL.out, Cs.zero _⟩
  case round =>
    obtain ⟨i, M, hi, rfl, HR⟩ := hrel
    have HBW : Hid (Below w.heap.size w wr) := HR.out.1
    have HCM : Hid (CellsL wr b M) := HR.out.2.1
    have HCS : Hid (Cs (bts s) M i) := HR.out.2.2
    clear HR HCL HB
    by_cases hlt : i < s.size
    · obtain ⟨x, hx⟩ : ∃ x, (bts s)[i]? = some x := ⟨_, List.getElem?_eq_getElem (by rw [HL.out]; exact hlt)⟩
      have HX : Hid ((bts s)[i]? = some x) := hx
      have hMi : i < M.length := by rw [HCS.out.len, HL.out]; exact hlt
      have HMI : Hid (i < M.length) := hMi
      have hMx : M.getD i 0 = x := getD_some (by rw [HCS.out.rest i (Nat.le_refl _), hx])
      have hx256 := HOC.out x (List.mem_of_getElem? hx)
      have c1 : wr.cell? ⟨b, i, none⟩ = some (.int .u8 (x : Int)) := by rw [HCM.out.cell i hMi, hMx]
      have f1 : wr.frozen? ⟨b, i, none⟩ = false := HCM.out.free i hMi
      have hlt' : (i : Int) < (s.size : Int) := by omega
      have hx1 : ¬ ((i : Int) < 0) := by omega
      have hx2 : ¬ ((s.size : Int) ≤ (i : Int)) := by omega
      clear hx hMx hMi
      by_cases hlow : x < 97
      · have g1 : (x : Int) < 97 := by omega
        go_wp2_with fail
        refine (known_any _).mono ?_
        rintro e w2 ⟨rfl, q⟩
        have HF : Hid (Below w.heap.size w w2) := HBW.out.trans (q.out.mono HBW.out.size)
        clear q
        go_wp2
        go_ret
        exact ⟨rfl, HF.out⟩
      have g1 : ¬ (x : Int) < 97 := by omega
      by_cases hhi : 122 < x
      · have g2 : (122 : Int) < (x : Int) := by omega
        go_wp2_with fail
        refine (known_any _).mono ?_
        rintro e w2 ⟨rfl, q⟩
        have HF : Hid (Below w.heap.size w w2) := HBW.out.trans (q.out.mono HBW.out.size)
        clear q
        go_wp2
        go_ret
        exact ⟨rfl, HF.out⟩
      have g2 : ¬ (122 : Int) < (x : Int) := by omega
      have ha : bits .and .i64 (i : Int) 31 = ((i % 32 : Nat) : Int) := by rw [and31]; omega
      have HNX : Hid (CellsL (wr.setCell ⟨b, i, none⟩ (.int .u8 ((x - 32 : Nat) : Int))) b (M.set i (x - 32))) := HCM.out.set i (x - 32) HMI.out
      have HBX : Hid (Below w.heap.size w (wr.setCell ⟨b, i, none⟩ (.int .u8 ((x - 32 : Nat) : Int)))) := HBW.out.setCell (by rw [HBB.out]; exact Nat.le_refl _) _
      have g3 : IntKind.u8.wrap ((x : Int) - 32) = ((x - 32 : Nat) : Int) := by rw [IntKind.wrap_u8]; omega
      have HCU : Hid (Cs (bts s) (M.set i (x - 32)) (i + 1)) := HCS.out.up HX.out (by omega) (by omega)
      have HCK : Hid (Cs (bts s) M (i + 1)) := HCS.out.keep HX.out (by omega) (by omega)
      clear HCS HX HMI
      go_wp2
      · exact ⟨⟨i + 1, _, by omega, by go_num, HBX.out, HNX.out, HCU.out⟩, by simp [intOf]; omega⟩
      · exact ⟨⟨i + 1, _, by omega, by go_num, HBW.out, HCM.out, HCK.out⟩, by simp [intOf]; omega⟩
    · obtain rfl : i = s.size := by omega
      obtain ⟨hM1, hM2, hM3⟩ := HCS.out.all (by rw [HL.out]; exact Nat.le_refl _)
      rw [HL.out] at hM3
      have x2 : ¬ (s.size : Int) < (s.size : Int) := by omega
      by_cases h0 : s.size = 0
      · have x3 : ((s.size : Int) == 0) = true := by rw [h0]; rfl
        go_wp2_with fail
        refine (known_any _).mono ?_
        rintro e w2 ⟨rfl, q⟩
        have HF : Hid (Below w.heap.size w w2) := HBW.out.trans (q.out.mono HBW.out.size)
        clear q
        go_wp2
        go_ret
        exact ⟨rfl, HF.out⟩
      have x3 : ((s.size : Int) == 0) = false := beq_eq_false_iff_ne.2 (by omega)
      have hoM : ∀ x ∈ M, x < 128 := fun x hx => by
        have := hM1 x hx
        unfold isLt at this
        simp at this
        omega
      have hbM : bts (ofB M) = M := bts_ofB M (fun x hx => by have := hoM x hx; omega)
      have hsM : (ofB M).size = s.size := by rw [ofB_size, hM3]
      have hb2 : b < wr.heap.size := by
        have h := HCM.out.cell 0 (by omega)
        unfold World.cell? at h
        simp only at h
        cases hq : wr.heap[b]? with
        | none => rw [hq] at h; cases h
        | some o => exact (Array.getElem?_eq_some_iff.1 hq).1
      have hbk : ∀ W, CellsL W b M → (convert 34 9 (.slice (some ⟨b, 0, none⟩) s.size c)).run Tryz.prog W = .ok (.string (ofB M)) W := fun W h => by
        have := back_L (c := c) h (fun x hx => by have := hoM x hx; omega)
        rwa [hM3] at this
      have hbk1 := hbk wr HCM.out
      have HBK : Hid (∀ W, CellsL W b M → (convert 34 9 (.slice (some ⟨b, 0, none⟩) s.size c)).run Tryz.prog W = .ok (.string (ofB M)) W) := hbk
      have KL := lex_any (fun _ => false) (fun _ => false) (ofB M) (by omega) wr (fun h => by
          rw [hbM] at h
          have := hM1 39 h
          simp [isLt] at this) (fun ⟨d, h, h2⟩ => by
          rw [hbM] at h
          have := hM1 d h
          unfold isLt at this
          unfold isDg at h2
          simp at this h2
          omega)
      rw [hbM] at KL
      have hlR := lexR_letters (fun _ => false) (fun _ => false) (b := M) (w := bts s) (by intro e; rw [e] at hM3; simp at hM3; omega) hM1 hM2
      have HLR : Hid (lexR (fun _ => false) (fun _ => false) M 0 = ([if isW (bts s) then (2, bts s, 0) else (1, M, 0), (8, [], M.length)], none)) := hlR
      clear hlR hbk hM1 hM2 hM3 hoM hbM hsM h0
      go_wp2_with fail
      refine KL.mono ?_
      rintro e w2 ⟨hA, q⟩
      unfold LexA at hA
      rw [HLR.out] at hA
      obtain ⟨v, rfl, hR⟩ := hA
      have HQ2 : Hid (Below wr.heap.size wr w2) := q.out
      have hR2 := TkR.tks hR
      dsimp only at hR2
      obtain ⟨va, vc, hv, hR3⟩ := hR2
      subst hv
      rcases hR3 with e | ⟨vb, hva, hvb, hvr⟩
      · exact absurd e (by simp)
      subst hva
      have HV2 : Hid (w2.rangeAt vb 0 (tk1 (if isW (bts s) then (2, bts s, 0) else (1, M, 0)))) := tk_range (j := 0) hvr rfl
      have hbk2 := HBK.out w2 (HCM.out.below hb2 HQ2.out)
      have HB2 : Hid (Below w.heap.size w w2) := HBW.out.trans (HQ2.out.mono HBW.out.size)
      clear q KL HLR hvr hbk1 HQ2 HBW HCM HCS HBK
      simp only [List.length_cons, List.length_nil]
      go_wp2_with (refine al_zero rfl 32 rfl tkZ zTk ?_)
      intro g w3 hg bz gr
      go_wp2_with (refine st_all rfl 32 (.tmp 10) (.tmp 62) rfl g 32 tkZ (tk1 (1, M, 0)) rfl rfl bz rfl sTk (one_k _ _) ?_)
      intro w4 b4 g4
      have HQ4 : Hid (Below w2.heap.size w2 w4) := below_new gr hg g4
      have HK4 : Hid (Blk w4 g 32 (tk1 (1, M, 0))) := b4
      clear bz gr b4 g4 hbk2
      go_wp2_with fail
      refine (isword_any s _).mono ?_
      rintro e w5 ⟨rfl, q⟩
      have HQ5 : Hid (Below w2.heap.size w2 w5) := HQ4.out.trans (q.out.mono HQ4.out.size)
      have HK5 : Hid (Blk w5 g 32 (tk1 (1, M, 0))) := HK4.out.below q.out HK4.out.lt
      clear q HQ4 HK4
      cases hW : isW (bts s) with
      | true =>
        rw [hW, if_pos rfl] at HV2
        go_wp2_with (refine st_all rfl 32 (.tmp 10) (.tmp 66) rfl g 32 (tk1 (1, M, 0)) (tk1 (2, bts s, 0)) rfl (by unfold tk1; rw [ofB_bts]; rfl) HK5.out rfl sTk (one_k _ _) ?_)
        intro w6 b6 g6
        have HQ6 : Hid (Below w2.heap.size w2 w6) := HQ5.out.grown g6 HQ5.out.size (fun k e => by injection e with e; omega)
        have HK6 : Hid (Blk w6 g 32 (tk1 (2, bts s, 0))) := b6
        have HV6 : Hid (w6.rangeAt vb 0 (tk1 (2, bts s, 0))) := range_below HV2.out hvb HQ6.out
        have HB6 : Hid (Below w.heap.size w w6) := HB2.out.trans (HQ6.out.mono HB2.out.size)
        clear b6 g6 HQ5 HK5 HV2 HB2
        obtain ⟨C, hC⟩ : ∃ C : World → Prop, C = fun W => Below w6.heap.size w6 W := ⟨_, rfl⟩
        have C0 : Hid (C { w6 with drawn := w6.drawn + 1 }) := by rw [hC]; exact Below.drew (Below.refl _ _)
        have CO : Hid (∀ W, C W → Below w6.heap.size w6 W) := fun W h => by rw [hC] at h; exact h
        have hCp : ∀ p : Prop, (∀ W, C W → p) ↔ p := fun p => ⟨fun h => h _ C0.out, fun h _ _ => h⟩
        have F1 : Hid (∀ W, C W → W.rangeAt vb 0 [.int .i64 2, .string (ofB (bts s)), .int .i64 0]) := fun W h => by
          rw [hC] at h
          exact range_below HV6.out (Nat.lt_of_lt_of_le hvb (HQ6.out.size)) h
        have F2 : Hid (∀ W, C W → W.rangeAt g 0 [.int .i64 2, .string (ofB (bts s)), .int .i64 0]) := fun W h j u hj => by
          rw [hC] at h
          rw [Nat.zero_add, (HK6.out.below h HK6.out.lt).cell]
          exact hj
        have F3 : Hid (∀ W, C W → Calls Tryz.prog 12 #[] W fun e' w' => e' = .returned (.bool true) ∧ C w') := fun W h => by
          rw [hC] at h ⊢
          refine (known_any W).mono ?_
          rintro e' w' ⟨rfl, H⟩
          exact ⟨rfl, h.trans (H.out.mono h.size)⟩
        clear hC
        go_wp2_with fail
        refine wp_region_quiet (C := C) (by kernel_rfl) (by kernel_rfl) C0.out ?_
        change wpQuiet _ _ _ _ (_ :: _ :: _ :: _ :: _ :: _ :: _ :: _ :: _ :: _ :: _ :: _ :: _ :: _ :: _ :: _ :: _ :: _ :: []) _
        repeat (first
          | go_big_quiet_skip
          | (go_big_quiet_want
             first
             | (refine lx_ixt (.tmp 75) (.const (.int .i64 0)) rfl vb 2 vc 0 rfl rfl (by decide) ?_
                simp only [Act.put, List.setIfInBounds_toArray, List.set_cons_zero, List.set_cons_succ]
                go_big_quiet_on)
             | (refine lx_load 32 (.tmp 76) rfl vb 0 rfl [.int .i64 2, .string (ofB (bts s)), .int .i64 0] _ F1.out Tryz.underlying32 rfl sTk ?_
                simp only [Act.put, List.setIfInBounds_toArray, List.set_cons_zero, List.set_cons_succ]
                go_big_quiet_on)
             | (refine lx_load 32 (.tmp 10) rfl g 0 rfl [.int .i64 2, .string (ofB (bts s)), .int .i64 0] _ F2.out Tryz.underlying32 rfl sTk ?_
                simp only [Act.put, List.setIfInBounds_toArray, List.set_cons_zero, List.set_cons_succ]
                go_big_quiet_on)
             | (refine lx_call 12 _ _ rfl #[] (by rw [List.map_toArray]; rfl) (lx_enters Tryz.func12 (by kernel_rfl) rfl) (.bool true) F3.out ?_
                simp only [Act.put, List.setIfInBounds_toArray, List.set_cons_zero, List.set_cons_succ]
                go_big_quiet_on)
             | (go_big_quiet_op
                go_big_quiet_on)))
        refine wpQuiet_nil ?_
        intro w9 h9
        have HB9 : Hid (Below w.heap.size w w9) := HB6.out.trans ((CO.out _ h9).mono HB6.out.size)
        clear h9 hCp C0 F1 F2 F3 CO
        go_wp2
        go_ret
        exact ⟨rfl, HB9.out⟩
      | false =>
        rw [hW, if_neg (by decide)] at HV2
        obtain ⟨w6, hw6⟩ : ∃ w6, w6 = w5 := ⟨_, rfl⟩
        subst hw6
        have HQ6 := HQ5
        have HK6 := HK5
        have HV6 : Hid (w6.rangeAt vb 0 (tk1 (1, M, 0))) := range_below HV2.out hvb HQ6.out
        have HB6 : Hid (Below w.heap.size w w6) := HB2.out.trans (HQ6.out.mono HB2.out.size)
        clear HQ5 HK5 HV2 HB2
        obtain ⟨C, hC⟩ : ∃ C : World → Prop, C = fun W => Below w6.heap.size w6 W := ⟨_, rfl⟩
        have C0 : Hid (C { w6 with drawn := w6.drawn + 1 }) := by rw [hC]; exact Below.drew (Below.refl _ _)
        have CO : Hid (∀ W, C W → Below w6.heap.size w6 W) := fun W h => by rw [hC] at h; exact h
        have hCp : ∀ p : Prop, (∀ W, C W → p) ↔ p := fun p => ⟨fun h => h _ C0.out, fun h _ _ => h⟩
        have F1 : Hid (∀ W, C W → W.rangeAt vb 0 [.int .i64 1, .string (ofB M), .int .i64 0]) := fun W h => by
          rw [hC] at h
          exact range_below HV6.out (Nat.lt_of_lt_of_le hvb (HQ6.out.size)) h
        have F2 : Hid (∀ W, C W → W.rangeAt g 0 [.int .i64 1, .string (ofB M), .int .i64 0]) := fun W h j u hj => by
          rw [hC] at h
          rw [Nat.zero_add, (HK6.out.below h HK6.out.lt).cell]
          exact hj
        have F3 : Hid (∀ W, C W → Calls Tryz.prog 12 #[] W fun e' w' => e' = .returned (.bool true) ∧ C w') := fun W h => by
          rw [hC] at h ⊢
          refine (known_any W).mono ?_
          rintro e' w' ⟨rfl, H⟩
          exact ⟨rfl, h.trans (H.out.mono h.size)⟩
        clear hC
        go_wp2_with fail
        refine wp_region_quiet (C := C) (by kernel_rfl) (by kernel_rfl) C0.out ?_
        change wpQuiet _ _ _ _ (_ :: _ :: _ :: _ :: _ :: _ :: _ :: _ :: _ :: _ :: _ :: _ :: _ :: _ :: _ :: _ :: _ :: _ :: []) _
        repeat (first
          | go_big_quiet_skip
          | (go_big_quiet_want
             first
             | (refine lx_ixt (.tmp 75) (.const (.int .i64 0)) rfl vb 2 vc 0 rfl rfl (by decide) ?_
                simp only [Act.put, List.setIfInBounds_toArray, List.set_cons_zero, List.set_cons_succ]
                go_big_quiet_on)
             | (refine lx_load 32 (.tmp 76) rfl vb 0 rfl [.int .i64 1, .string (ofB M), .int .i64 0] _ F1.out Tryz.underlying32 rfl sTk ?_
                simp only [Act.put, List.setIfInBounds_toArray, List.set_cons_zero, List.set_cons_succ]
                go_big_quiet_on)
             | (refine lx_load 32 (.tmp 10) rfl g 0 rfl [.int .i64 1, .string (ofB M), .int .i64 0] _ F2.out Tryz.underlying32 rfl sTk ?_
                simp only [Act.put, List.setIfInBounds_toArray, List.set_cons_zero, List.set_cons_succ]
                go_big_quiet_on)
             | (refine lx_call 12 _ _ rfl #[] (by rw [List.map_toArray]; rfl) (lx_enters Tryz.func12 (by kernel_rfl) rfl) (.bool true) F3.out ?_
                simp only [Act.put, List.setIfInBounds_toArray, List.set_cons_zero, List.set_cons_succ]
                go_big_quiet_on)
             | (go_big_quiet_op
                go_big_quiet_on)))
        refine wpQuiet_nil ?_
        intro w9 h9
        have HB9 : Hid (Below w.heap.size w w9) := HB6.out.trans ((CO.out _ h9).mono HB6.out.size)
        clear h9 hCp C0 F1 F2 F3 CO
        go_wp2
        go_ret
        exact ⟨rfl, HB9.out⟩
end Go.Proofs.YtpfiejmhnkcjbaaGreatDoor
