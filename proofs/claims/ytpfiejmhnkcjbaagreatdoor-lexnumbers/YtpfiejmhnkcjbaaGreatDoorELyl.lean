/-
  The program's lex: blanks and remarks.
-/
import Derived.Test.YtpfiejmhnkcjbaaGreatDoorELyk
namespace Go.Proofs.YtpfiejmhnkcjbaaGreatDoor
open Go.RowKit Lx
set_option linter.unusedVariables false
set_option linter.unusedSimpArgs false
theorem pre_rem (l : List Nat) : ([45, 45].isPrefixOf l = true ∧ ∃ q, l = 45 :: 45 :: q) ∨ ([45, 45].isPrefixOf l = false ∧ ∀ c q, l = c :: q → ¬ (c = 45 ∧ q.head? = some 45)) := by
  cases h : [45, 45].isPrefixOf l with
  | true =>
    obtain ⟨t, ht⟩ := List.isPrefixOf_iff_prefix.1 h
    exact .inl ⟨rfl, t, ht.symm⟩
  | false =>
    refine .inr ⟨rfl, ?_⟩
    rintro c q rfl ⟨rfl, h2⟩
    cases q with
    | nil => cases h2
    | cons d q =>
      simp at h2
      subst h2
      simp [List.isPrefixOf] at h
set_option maxRecDepth 8000 in
set_option maxHeartbeats 4000000 in
theorem skip_any (s : ByteArray) (hs : s.size ≤ 4096) (w : World) : Calls Tryz.prog 17 #[.string s] w fun e w' => ∃ n : Nat, e = .returned (.int .i64 (n : Int)) ∧ n ≤ s.size ∧ Hid (Skp (bts s) n ∧ NoSk ((bts s).drop n) ∧ Below w.heap.size w w') := by
  obtain ⟨N0, hN0⟩ : ∃ N0, ((bts s).takeWhile isBl).length = N0 := ⟨_, rfl⟩
  have hN0s : N0 ≤ s.size := by rw [← hN0, ← bts_len s]; exact tw_le _ _
  have KR := fun W => run_any cBl 0 isBl inC_bl (by decide) (by decide) s (by omega) W
  rw [hN0] at KR
  have HS0 : Hid (Skp (bts s) N0 ∧ ∀ c q, (bts s).drop N0 = c :: q → isBl c = false) := by
    rw [← hN0]
    exact ⟨skp_bl _, fun c q h => dw_hd _ h⟩
  clear hN0
  go_enter Tryz.func17, Tryz.ntmps17
  go_wp2_with fail
  refine (blanks_any _).mono ?_
  rintro e w1 ⟨rfl, q⟩
  have HB1 : Hid (Below w.heap.size w w1) := q.out
  clear q
  go_wp2_with fail
  refine (KR _).mono ?_
  rintro e w2 ⟨rfl, q⟩
  have HB2 : Hid (Below w.heap.size w w2) := HB1.out.trans (q.out.mono HB1.out.size)
  clear q HB1
  go_wp2
  go_loopw [3] (fun iv wr => ∃ k : Nat, k ≤ s.size ∧ iv = .int .i64 (k : Int) ∧ Hid (Skp (bts s) k ∧ (∀ c q, (bts s).drop k = c :: q → isBl c = false) ∧ Below w.heap.size w wr)) (fun iv _ => s.size - (intOf iv).toNat)
  case atStart => exact ⟨N0, hN0s, rfl, HS0.out.1, HS0.out.2, HB2.out⟩
  case round =>
    obtain ⟨k, hk, rfl, HR⟩ := hrel
    have HSk : Hid (Skp (bts s) k) := HR.out.1
    have HNb : Hid (∀ c q, (bts s).drop k = c :: q → isBl c = false) := HR.out.2.1
    have HB : Hid (Below w.heap.size w wr) := HR.out.2.2
    have hl : bts (s.extract k s.size) = (bts s).drop k := bts_restL s k hk
    have KH := fun W => hasp_any (s.extract k s.size) ⟨#[45, 45]⟩ W
    rw [hl] at KH
    have KI := fun W => ixb_any (s.extract k s.size) 10 (by decide) W
    rw [hl] at KI
    have hls : (s.extract k s.size).size = ((bts s).drop k).length := by rw [← hl, bts_len]
    rw [hls] at KI
    have hdl : ((bts s).drop k).length = s.size - k := by rw [List.length_drop, bts_len]
    have x1 : (k : Int) ≤ (s.size : Int) := by omega
    clear HR hl hls HB2 HS0 KR hN0s
    have hpp : (bts (⟨#[45, 45]⟩ : ByteArray)) = [45, 45] := rfl
    rw [hpp] at KH
    rcases pre_rem ((bts s).drop k) with ⟨hp, q, hq⟩ | ⟨hp, hq⟩
    · rw [hp] at KH
      obtain ⟨T, hT⟩ : ∃ T, (((bts s).drop k).takeWhile (· != 10)).length = T := ⟨_, rfl⟩
      rw [hT] at KI
      have HT : Hid (Skp (bts s) (k + T)) := HSk.out.add (by
        have := skp_rem (q := q)
        rw [← hq, hT] at this
        exact this)
      have hT2 : 2 ≤ T := by
        rw [← hT, hq]
        simp [List.takeWhile]
      have hTl : T ≤ s.size - k := by rw [← hT, ← hdl]; exact tw_le _ _
      clear hq hT hpp hp
      by_cases hlt : T < ((bts s).drop k).length
      · rw [if_pos hlt] at KI
        have x3 : (k : Int) + (T : Int) = ((k + T : Nat) : Int) := by omega
        have x5 : ¬ (T : Int) < 0 := by omega
        obtain ⟨M, hM⟩ : ∃ M, k + T = M := ⟨_, rfl⟩
        have hMs : M ≤ s.size := by omega
        have hMk : k < M := by omega
        have x4 : (M : Int) ≤ (s.size : Int) := by omega
        rw [hM] at x3 HT
        have hl2 : bts (s.extract M s.size) = (bts s).drop M := bts_restL s M hMs
        have KR := fun W => run_any cBl 0 isBl inC_bl (by decide) (by decide) (s.extract M s.size) (by rw [size_ex s M _ (Nat.le_refl _)]; omega) W
        rw [hl2] at KR
        obtain ⟨m, hm⟩ : ∃ m, (((bts s).drop M).takeWhile isBl).length = m := ⟨_, rfl⟩
        have hms : M + m ≤ s.size := by
          have := tw_le isBl ((bts s).drop M)
          rw [hm, List.length_drop, bts_len] at this
          omega
        rw [hm] at KR
        have HS2 : Hid (Skp (bts s) (M + m) ∧ ∀ c q, (bts s).drop (M + m) = c :: q → isBl c = false) := by
          constructor
          · exact HT.out.add (by rw [← hm]; exact skp_bl _)
          · intro c q h
            rw [← List.drop_drop, ← hm] at h
            exact dw_hd _ h
        clear hl2 hm hM hlt hdl HT HSk HNb
        go_wp2_with fail
        refine (KH _).mono ?_
        rintro e w3 ⟨rfl, qq⟩
        subst qq
        go_wp2_with fail
        refine (KI _).mono ?_
        rintro e w4 ⟨rfl, qq⟩
        subst qq
        obtain ⟨C, hC⟩ : ∃ C : World → Prop, C = fun W => Below w4.heap.size w4 W := ⟨_, rfl⟩
        have C0 : Hid (C { w4 with drawn := w4.drawn + 1 }) := by rw [hC]; exact Below.drew (Below.refl _ _)
        have CO : Hid (∀ W, C W → Below w4.heap.size w4 W) := fun W h => by rw [hC] at h; exact h
        have hCp : ∀ p : Prop, (∀ W, C W → p) ↔ p := fun p => ⟨fun h => h _ C0.out, fun h _ _ => h⟩
        have F1 : Hid (∀ W, C W → Calls Tryz.prog 29 #[] W fun e' w' => e' = .returned (.agg (cC cBl 0).toArray) ∧ C w') := fun W h => by
          rw [hC] at h ⊢
          refine (blanks_any W).mono ?_
          rintro e' w' ⟨rfl, H⟩
          exact ⟨rfl, h.trans (H.out.mono h.size)⟩
        have F2 : Hid (∀ W, C W → Calls Tryz.prog 30 #[.agg (cC cBl 0).toArray, .string (s.extract M s.size)] W fun e' w' => e' = .returned (.int .i64 (m : Int)) ∧ C w') := fun W h => by
          rw [hC] at h ⊢
          refine (KR W).mono ?_
          rintro e' w' ⟨rfl, H⟩
          exact ⟨rfl, h.trans (H.out.mono h.size)⟩
        clear hC
        go_wp2_with fail
        refine wp_region_quiet (C := C) (by kernel_rfl) (by kernel_rfl) C0.out ?_
        change wpQuiet _ _ _ _ (_ :: _ :: _ :: _ :: _ :: _ :: _ :: _ :: []) _
        repeat (first
          | go_big_quiet_skip
          | (go_big_quiet_want
             first
             | (refine lx_call 29 _ _ rfl #[] (by rw [List.map_toArray]; rfl) (lx_enters Tryz.func29 (by kernel_rfl) rfl) (.agg (cC cBl 0).toArray) F1.out ?_
                simp only [Act.put, List.setIfInBounds_toArray, List.set_cons_zero, List.set_cons_succ]
                go_big_quiet_on)
             | (refine lx_call 30 _ _ rfl #[.agg (cC cBl 0).toArray, .string (s.extract M s.size)] (by rw [List.map_toArray]; rfl) (lx_enters Tryz.func30 (by kernel_rfl) rfl) (.int .i64 (m : Int)) F2.out ?_
                simp only [Act.put, List.setIfInBounds_toArray, List.set_cons_zero, List.set_cons_succ]
                go_big_quiet_on)
             | (go_big_quiet_op
                go_big_quiet_on)))
        refine wpQuiet_nil ?_
        intro w9 h9
        have HB9 : Hid (Below w.heap.size w w9) := HB.out.trans ((CO.out _ h9).mono HB.out.size)
        clear h9 hCp C0 F1 F2 CO
        go_wp2
        go_roundw
        case rel => exact ⟨M + m, hms, by go_num, HS2.out.1, HS2.out.2, HB9.out⟩
        case measure => simp [intOf]; omega
      · rw [if_neg hlt] at KI
        have hkT : k + T = s.size := by omega
        rw [hkT] at HT
        clear hlt hdl hkT HSk HNb hTl hT2
        go_wp2_with fail
        refine (KH _).mono ?_
        rintro e w3 ⟨rfl, qq⟩
        subst qq
        go_wp2_with fail
        refine (KI _).mono ?_
        rintro e w4 ⟨rfl, qq⟩
        subst qq
        go_wp2
        go_ret
        refine ⟨s.size, rfl, Nat.le_refl _, HT.out, ?_, HB.out⟩
        rw [List.drop_of_length_le (by rw [bts_len]; exact Nat.le_refl _)]
        intro c q h
        cases h
    · rw [hp] at KH
      have HNS : Hid (NoSk ((bts s).drop k)) := fun c q h => ⟨HNb.out c q h, hq c q h⟩
      clear hq hdl hp hpp HNb
      go_wp2_with fail
      refine (KH _).mono ?_
      rintro e w3 ⟨rfl, qq⟩
      subst qq
      go_wp2
      go_ret
      exact ⟨k, rfl, hk, HSk.out, HNS.out, HB.out⟩
end Go.Proofs.YtpfiejmhnkcjbaaGreatDoor
