/-
   ·  ·  ·  · 
-/
import Derived.Test.YtpfiejmhnkcjbaaGreatDoorHG16x
namespace Go.Proofs.YtpfiejmhnkcjbaaGreatDoor
set_option maxHeartbeats 4000000
set_option maxRecDepth 8000
open Go.RowKit Lx
set_option linter.unusedVariables false
set_option linter.unusedSimpArgs false
theorem pre_rem (l : List Nat) : ([45, 45].isPrefixOf l = true /\ ∃ q, l = 45 :: 45 :: q) ∨ ([45, 45].isPrefixOf l = false /\ ∀ c q, l = c :: q -> ¬ (c = 45 /\ q.head? = some 45)) := by
 cases h : [45, 45].isPrefixOf l with
 | true =>
   obtain ⟨t, ht⟩ := List.isPrefixOf_iff_prefix.1 h
   exact .inl ⟨rfl, t, ht.symm⟩
 | false =>
   refine .inr ⟨rfl, ?_⟩
   rintro c q rfl ⟨rfl, h2⟩
   cases q with
   | nil => cases h2
   | cons d q =>
     simp at h2
     subst h2
     simp [List.isPrefixOf] at h
theorem skip_any (s : ByteArray) (hs : s.size <= 4096) (w : World) : Calls Tryz.prog 17 #[.string s] w fun e w' => ∃ n : Nat, e = .returned (.int .i64 (n : Int)) /\ n <= s.size /\ Hid (Skp (bts s) n /\ NoSk ((bts s).drop n) /\ Below w.heap.size w w') := by
 obtain ⟨N0, hN0⟩ : ∃ N0, ((bts s).takeWhile isBl).length = N0 := ⟨_, rfl⟩
 have hN0s : N0 <= s.size := by rw [<- hN0, <- bts_len s]; exact tw_le _ _
 have KR := fun W => run_any cBl 0 isBl inC_bl (by decide) (by decide) s (by omega) W
 rw [hN0] at KR
 have HS0 : Hid (Skp (bts s) N0 /\ ∀ c q, (bts s).drop N0 = c :: q -> isBl c = false) := by
  rw [<- hN0]
  exact ⟨skp_bl _, fun c q h => dw_hd _ h⟩
 clear hN0
 go_enter Tryz.func17, Tryz.ntmps17
 go_wp2_with fail
 refine (blanks_any _).mono ?_
 rintro e w1 ⟨rfl, q⟩
 have HB1 : Hid (Below w.heap.size w w1) := q.out
 clear q
 go_wp2_with fail
 refine (KR _).mono ?_
 rintro e w2 ⟨rfl, q⟩
 have HB2 : Hid (Below w.heap.size w w2) := HB1.out.trans (q.out.mono HB1.out.size)
 clear q HB1
 go_wp2
 go_loopw [3] (fun iv wr => ∃ k : Nat, k <= s.size /\ iv = .int .i64 (k : Int) /\ Hid (Skp (bts s) k /\ (∀ c q, (bts s).drop k = c :: q -> isBl c = false) /\ Below w.heap.size w wr)) (fun iv _ => s.size - (intOf iv).toNat)
 case atStart => exact ⟨N0, hN0s, rfl, HS0.out.1, HS0.out.2, HB2.out⟩
 case round =>
  obtain ⟨k, hk, rfl, HR⟩ := hrel
  have HSk : Hid (Skp (bts s) k) := HR.out.1
  have HNb : Hid (∀ c q, (bts s).drop k = c :: q -> isBl c = false) := HR.out.2.1
  have HB : Hid (Below w.heap.size w wr) := HR.out.2.2
  have hl : bts (s.extract k s.size) = (bts s).drop k := bts_restL s k hk
  have KH := fun W => hasp_any (s.extract k s.size) ⟨#[45, 45]⟩ W
  rw [hl] at KH
  have KI := fun W => ixb_any (s.extract k s.size) 10 (by decide) W
  rw [hl] at KI
  have hls : (s.extract k s.size).size = ((bts s).drop k).length := by rw [<- hl, bts_len]
  rw [hls] at KI
  have hdl : ((bts s).drop k).length = s.size - k := by rw [List.length_drop, bts_len]
  have x1 : (k : Int) <= (s.size : Int) := by omega
  clear HR hl hls HB2 HS0 KR hN0s
  have hpp : (bts (⟨#[45, 45]⟩ : ByteArray)) = [45, 45] := rfl
  rw [hpp] at KH
  rcases pre_rem ((bts s).drop k) with ⟨hp, q, hq⟩ | ⟨hp, hq⟩
  . rw [hp] at KH
    obtain ⟨T, hT⟩ : ∃ T, (((bts s).drop k).takeWhile (· != 10)).length = T := ⟨_, rfl⟩
    rw [hT] at KI
    have HT : Hid (Skp (bts s) (k + T)) := HSk.out.add (by
     have := skp_rem (q := q)
     rw [<- hq, hT] at this
     exact this)
    have hT2 : 2 <= T := by
     rw [<- hT, hq]
     simp [List.takeWhile]
    have hTl : T <= s.size - k := by rw [<- hT, <- hdl]; exact tw_le _ _
    clear hq hT hpp hp
    by_cases hlt : T < ((bts s).drop k).length
    . rw [if_pos hlt] at KI
      have x3 : (k : Int) + (T : Int) = ((k + T : Nat) : Int) := by omega
      have x5 : ¬ (T : Int) < 0 := by omega
      obtain ⟨M, hM⟩ : ∃ M, k + T = M := ⟨_, rfl⟩
      have hMs : M <= s.size := by omega
      have hMk : k < M := by omega
      have x4 : (M : Int) <= (s.size : Int) := by omega
      rw [hM] at x3 HT
      have hl2 : bts (s.extract M s.size) = (bts s).drop M := bts_restL s M hMs
      have KR := fun W => run_any cBl 0 isBl inC_bl (by decide) (by decide) (s.extract M s.size) (by rw [size_ex s M _ (Nat.le_refl _)]; omega) W
      rw [hl2] at KR
      obtain ⟨m, hm⟩ : ∃ m, (((bts s).drop M).takeWhile isBl).length = m := ⟨_, rfl⟩
      have hms : M + m <= s.size := by
       have := tw_le isBl ((bts s).drop M)
       rw [hm, List.length_drop, bts_len] at this
       omega
      rw [hm] at KR
      have HS2 : Hid (Skp (bts s) (M + m) /\ ∀ c q, (bts s).drop (M + m) = c :: q -> isBl c = false) := by
       constructor
       . exact HT.out.add (by rw [<- hm]; exact skp_bl _)
       . intro c q h
         rw [<- List.drop_drop, <- hm] at h
         exact dw_hd _ h
      clear hl2 hm hM hlt hdl HT HSk HNb
      go_wp2_with fail
      refine (KH _).mono ?_
      rintro e w3 ⟨rfl, qq⟩
      subst qq
      go_wp2_with fail
      refine (KI _).mono ?_
      rintro e w4 ⟨rfl, qq⟩
      subst qq
      obtain ⟨C, hC⟩ : ∃ C : World -> Prop, C = fun W => Below w4.heap.size w4 W := ⟨_, rfl⟩
      have C0 : Hid (C { w4 with drawn := w4.drawn + 1 }) := by rw [hC]; exact Below.drew (Below.refl _ _)
      have CO : Hid (∀ W, C W -> Below w4.heap.size w4 W) := fun W h => by rw [hC] at h; exact h
      have hCp : ∀ p : Prop, (∀ W, C W -> p) ↔ p := fun p => ⟨fun h => h _ C0.out, fun h _ _ => h⟩
      have F1 : Hid (∀ W, C W -> Calls Tryz.prog 29 #[] W fun e' w' => e' = .returned (.agg (cC cBl 0).toArray) /\ C w') := fun W h => by
       rw [hC] at h ⊢
       refine (blanks_any W).mono ?_
       rintro e' w' ⟨rfl, H⟩
       exact ⟨rfl, h.trans (H.out.mono h.size)⟩
      have F2 : Hid (∀ W, C W -> Calls Tryz.prog 30 #[.agg (cC cBl 0).toArray, .string (s.extract M s.size)] W fun e' w' => e' = .returned (.int .i64 (m : Int)) /\ C w') := fun W h => by
       rw [hC] at h ⊢
       refine (KR W).mono ?_
       rintro e' w' ⟨rfl, H⟩
       exact ⟨rfl, h.trans (H.out.mono h.size)⟩
      clear hC
      go_wp2_with fail
      refine wp_region_quiet (C := C) (by kernel_rfl) (by kernel_rfl) C0.out ?_
      change wpQuiet _ _ _ _ (_ :: _ :: _ :: _ :: _ :: _ :: _ :: _ :: []) _
      repeat (first
       | go_big_quiet_skip
       | (go_big_quiet_want
          first
          | (refine lx_call 29 _ _ rfl #[] (by rw [List.map_toArray]; rfl) (lx_enters Tryz.func29 (by kernel_rfl) rfl) (.agg (cC cBl 0).toArray) F1.out ?_
             simp only [Act.put, List.setIfInBounds_toArray, List.set_cons_zero, List.set_cons_succ]
             go_big_quiet_on)
          | (refine lx_call 30 _ _ rfl #[.agg (cC cBl 0).toArray, .string (s.extract M s.size)] (by rw [List.map_toArray]; rfl) (lx_enters Tryz.func30 (by kernel_rfl) rfl) (.int .i64 (m : Int)) F2.out ?_
             simp only [Act.put, List.setIfInBounds_toArray, List.set_cons_zero, List.set_cons_succ]
             go_big_quiet_on)
          | (go_big_quiet_op
             go_big_quiet_on)))
      refine wpQuiet_nil ?_
      intro w9 h9
      have HB9 : Hid (Below w.heap.size w w9) := HB.out.trans ((CO.out _ h9).mono HB.out.size)
      clear h9 hCp C0 F1 F2 CO
      go_wp2
      go_roundw
      case rel => exact ⟨M + m, hms, by go_num, HS2.out.1, HS2.out.2, HB9.out⟩
      case measure => simp [intOf]; omega
    . rw [if_neg hlt] at KI
      have hkT : k + T = s.size := by omega
      rw [hkT] at HT
      clear hlt hdl hkT HSk HNb hTl hT2
      go_wp2_with fail
      refine (KH _).mono ?_
      rintro e w3 ⟨rfl, qq⟩
      subst qq
      go_wp2_with fail
      refine (KI _).mono ?_
      rintro e w4 ⟨rfl, qq⟩
      subst qq
      go_wp2
      go_ret
      refine ⟨s.size, rfl, Nat.le_refl _, HT.out, ?_, HB.out⟩
      rw [List.drop_of_length_le (by rw [bts_len]; exact Nat.le_refl _)]
      intro c q h
      cases h
  . rw [hp] at KH
    have HNS : Hid (NoSk ((bts s).drop k)) := fun c q h => ⟨HNb.out c q h, hq c q h⟩
    clear hq hdl hp hpp HNb
    go_wp2_with fail
    refine (KH _).mono ?_
    rintro e w3 ⟨rfl, qq⟩
    subst qq
    go_wp2
    go_ret
    exact ⟨k, rfl, hk, HSk.out, HNS.out, HB.out⟩
end Go.Proofs.YtpfiejmhnkcjbaaGreatDoor
namespace Go.Proofs.YtpfiejmhnkcjbaaGreatDoor
set_option maxHeartbeats 8000000
set_option maxRecDepth 8000
open Go.RowKit Lx
set_option linter.unusedVariables false
set_option linter.unusedSimpArgs false
theorem lx_ld {P : Program} {ops : Array Oper} {rest : List Oper} {o : Oper} {a : Act} {w : World} {Q : Exit -> Act -> World -> Prop} (hg : o.guard = none) (ty : TypeId) (x : Operand) (ho : o.op = .load ty x) (b k : Nat) (hx : a.eval x = .pointer (some ⟨b, k, none⟩)) (cs : List Value) (d : TypeDesc) (hS : w.rangeAt b k cs) (hu : P.underlying ty = some d) (hd : d.isRow = true) (hi : (P.info? ty).map (·.size) = some cs.length)
 (h : wpList P ops Q rest (a.put o.dst (.agg cs.toArray)) w) : wpList P ops Q (o :: rest) a w :=
 wpList_plain hg fun _ hK => wp_load_mid ty x ho b k hx cs d hS hu hd hi (hK _ _ h)
theorem sL9 : (Tryz.prog.info? 9).map (·.size) = some 1 := by kernel_rfl
theorem sL3 : (Tryz.prog.info? 3).map (·.size) = some 1 := by kernel_rfl
theorem LexU.skp {tx nu : List Nat -> Bool} {r : List Nat} {L : List Tk} {p n : Nat} (h : LexU tx nu r L p) (k : Skp (r.drop p) n) : LexU tx nu r L (p + n) := by
 unfold LexU at *
 rw [h, k.2, List.drop_drop]
theorem step_tl {tx nu : List Nat -> Bool} {r : List Nat} {k : Nat} {t : List Nat} {n : Nat} (h : Lx.step tx nu r = .tok k t n) : t.length <= r.length + 2 := by
 cases r with
 | nil => cases h
 | cons c q =>
   have h1 := tw_le isNm (c :: q)
   have h2 := tw_le (· != 34) q
   unfold Lx.step at h
   simp only at h
   split at h
   . cases h
   split at h
   . cases h
   split at h
   . split at h
     . injection h with _ h _; subst h
       unfold sml; rw [List.length_map]; omega
     . injection h with _ h _; subst h; omega
   split at h
   . split at h
     . cases h
     . injection h with _ h _; subst h; simp only [List.length_cons]; omega
   split at h
   . split at h
     . cases h
     . injection h with _ h _; subst h; rw [List.length_take]; omega
   split at h
   . split at h
     . cases h
     . split at h
       . injection h with _ h _; subst h; rw [List.length_take]; omega
       . cases h
   split at h
   . injection h with _ h _; subst h; simp
   split at h
   . cases h
   . injection h with _ h _; subst h
     have h3 := (sgn_pre (c :: q)).length_le
     unfold told
     split
     . simp
     . omega
theorem lex_any (tx nu : List Nat -> Bool) (s : ByteArray) (hs : s.size <= 4096) (w : World) (hT : 39 ∈ bts s -> TxP tx w) (hN : (∃ d ∈ bts s, isDg d = true) -> NuP nu w /\ NuDot nu) :
 Calls Tryz.prog 9 #[.string s] w fun e w' => LexA w tx nu (bts s) e w' /\ Hid (Below w.heap.size w w') := by
 have HOT : Hid (39 ∈ bts s -> TxP tx w) := hT
 have HON : Hid ((∃ d ∈ bts s, isDg d = true) -> NuP nu w /\ NuDot nu) := hN
 have hs4 : ¬ (4096 : Int) < (s.size : Int) := by omega
 have KS := fun W => skip_any s hs W
 clear hT hN
 go_enter Tryz.func9, Tryz.ntmps9
 go_wp2_with fail
 refine (KS _).mono ?_
 rintro e w1 ⟨n0, rfl, hn0, H0⟩
 have HS0 : Hid (Skp (bts s) n0 /\ NoSk ((bts s).drop n0) /\ Below w.heap.size w w1) := H0
 clear H0 KS
 go_wp2
 go_loopw [5, 6] (fun v iv wr => ∃ (i : Nat) (L : List Tk), i <= s.size /\ iv = .int .i64 (i : Int) /\ Hid (TkR w.heap.size wr v L /\ L.length <= i /\ LexU tx nu (bts s) L i /\ NoSk ((bts s).drop i) /\ Below w.heap.size w wr)) (fun _ iv _ => s.size - (intOf iv).toNat)
 case atStart => exact ⟨n0, [], hn0, rfl, ⟨rfl, .inl ⟨rfl, rfl⟩⟩, Nat.zero_le _, by
  have := (LexU.zero tx nu (bts s)).skp HS0.out.1
  rwa [Nat.zero_add] at this, HS0.out.2.1, HS0.out.2.2⟩
 case round =>
  obtain ⟨i, L, hi, rfl, H⟩ := hrel
  have HT : Hid (TkR w.heap.size wr u5 L) := H.out.1
  have hLi : L.length <= i := H.out.2.1
  have HU : Hid (LexU tx nu (bts s) L i) := H.out.2.2.1
  have HNS : Hid (NoSk ((bts s).drop i)) := H.out.2.2.2.1
  have HB : Hid (Below w.heap.size w wr) := H.out.2.2.2.2
  obtain ⟨va, vc, rfl⟩ := HT.out.slice
  clear H HS0
  by_cases hlt : i < s.size
  . have x1 : (i : Int) < (s.size : Int) := by omega
    have x2 : (i : Int) <= (s.size : Int) := by omega
    have hbx : bts (s.extract i s.size) = (bts s).drop i := bts_restL s i hi
    have hne : (bts s).drop i ≠ [] := by rw [bts_dropL s i hlt]; exact List.cons_ne_nil _ _
    have hsx : (s.extract i s.size).size = s.size - i := size_ex s i _ (Nat.le_refl _)
    have KN : Calls Tryz.prog 18 #[.string (s.extract i s.size)] wr fun e w' => e = AnsE (ans (Lx.step tx nu (bts (s.extract i s.size)))) /\ Hid (Below wr.heap.size wr w') :=
     next_any tx nu w (s.extract i s.size) (by omega) (by omega) (by rw [hbx]; exact HNS.out) (fun h => HOT.out (by rw [hbx] at h; exact List.mem_of_mem_drop h)) (fun ⟨d, h, h2⟩ => HON.out ⟨d, by rw [hbx] at h; exact List.mem_of_mem_drop h, h2⟩) wr HB.out
    rw [hbx] at KN
    obtain ⟨k, t, n, hA⟩ : ∃ k t n, ans (Lx.step tx nu ((bts s).drop i)) = (k, t, n) := ⟨_, _, _, rfl⟩
    have HA : Hid (ans (Lx.step tx nu ((bts s).drop i)) = (k, t, n)) := hA
    rw [hA] at KN
    have HNE : Hid ((bts s).drop i ≠ []) := hne
    clear hA hne hbx hsx
    go_wp2_with fail
    refine KN.mono ?_
    rintro e w2 ⟨rfl, q⟩
    have HQ : Hid (Below wr.heap.size wr w2) := q.out
    clear q KN
    dsimp only [AnsE]
    go_wp2_with (refine al_zero rfl 32 rfl tkZ zTk ?_)
    intro g w3 hg bz gr
    go_wp2_with (refine st_all rfl 32 (.tmp 7) (.tmp 23) rfl g 32 tkZ (tk1 (k, t, 0)) rfl rfl bz rfl sTk (one_k _ _) ?_)
    intro w4 b4 g4
    have HQ4 : Hid (Below wr.heap.size wr w4) := HQ.out.trans ((below_new gr hg g4).mono HQ.out.size)
    have HK4 : Hid (Blk w4 g 32 (tk1 (k, t, 0))) := b4
    have hgr : wr.heap.size <= g := Nat.le_trans HQ.out.size hg
    clear bz gr b4 g4 HQ hg
    cases hst : Lx.step tx nu ((bts s).drop i) with
    | skip m => exact absurd hst (step_ns HNE.out HNS.out m)
    | bad =>
      rw [hst] at HA
      obtain ⟨rfl, rfl, rfl⟩ : 0 = k /\ [] = t /\ 0 = n := by
       have h := HA.out
       simp only [ans, Prod.mk.injEq] at h
       exact h
      have HBD : Hid ((lexR tx nu (bts s) 0).2 = some i) := HU.out.bad HNE.out hst
      have HBZ : Hid (Below w.heap.size w w4) := HB.out.trans (HQ4.out.mono HB.out.size)
      clear hst HA HU HNS HNE HB HQ4 HK4 HT
      go_wp2
      go_ret3
      refine ⟨?_, HBZ.out⟩
      unfold LexA
      rw [HBD.out]
      all_goals rfl
    | tok k' t' n' =>
      rw [hst] at HA
      obtain ⟨rfl, rfl, rfl⟩ : k' = k /\ t' = t /\ n' = n := by
       have h := HA.out
       simp only [ans, Prod.mk.injEq] at h
       exact h
      have hn := (step_le HNE.out).2 _ _ _ hst
      rw [List.length_drop, bts_len] at hn
      have htl := step_tl hst
      rw [List.length_drop, bts_len] at htl
      have HU2 : Hid (LexU tx nu (bts s) (L ++ [(k', t', i)]) (i + n')) := HU.out.tok HNE.out hst
      have xn : ((n' : Int) == 0) = false := beq_eq_false_iff_ne.2 (by omega)
      have c1 : w4.cell? ⟨g, 1, none⟩ = some (.string (ofB t')) := HK4.out.cell 1
      have KC := fun W => sclone_any (ofB t') (by rw [ofB_size]; omega) W
      clear hst HA HU HNS HNE htl
      go_wp2_with fail
      refine (KC _).mono ?_
      rintro e w5 ⟨rfl, q⟩
      have HQ5 : Hid (Below wr.heap.size wr w5) := HQ4.out.trans (q.mono HQ4.out.size)
      have HK5 : Hid (Blk w5 g 32 (tk1 (k', t', 0))) := HK4.out.below q HK4.out.lt
      clear q HQ4 HK4 c1 KC
      go_wp2_with (refine st_one rfl 9 (.tmp 31) (.tmp 30) rfl g 1 32 (tk1 (k', t', 0)) (.string (ofB t')) rfl rfl rfl rfl (by simp [tk1]) HK5.out sL9 ?_)
      intro w6 b6 g6
      have HQ6 : Hid (Below wr.heap.size wr w6) := HQ5.out.grown g6 HQ5.out.size (fun k e => by injection e with e; omega)
      have HK6 : Hid (Blk w6 g 32 (tk1 (k', t', 0))) := b6
      clear b6 g6 HQ5 HK5
      go_wp2_with (refine st_one rfl 3 (.tmp 33) (.tmp 32) rfl g 2 32 (tk1 (k', t', 0)) (.int .i64 (i : Int)) rfl rfl rfl rfl (by simp [tk1]) HK6.out sL3 ?_)
      intro w7 b7 g7
      have HQ7 : Hid (Below wr.heap.size wr w7) := HQ6.out.grown g7 HQ6.out.size (fun k e => by injection e with e; omega)
      have HK7 : Hid (Blk w7 g 32 (tk1 (k', t', i))) := b7
      have HB7 : Hid (Below w.heap.size w w7) := HB.out.trans (HQ7.out.mono HB.out.size)
      have HT7 : Hid (TkR w.heap.size w7 (.slice va L.length vc) L) := HT.out.below HQ7.out
      clear b7 g7 HQ6 HK6 HB HT HQ7
      go_wp2_with (first | refine lx_ld rfl 32 (.tmp 7) rfl g 0 rfl [.int .i64 (k' : Int), .string (ofB t'), .int .i64 (i : Int)] _ (fun j u hj => by rw [Nat.zero_add, HK7.out.cell]; exact hj) Tryz.underlying32 rfl sTk ?_ | refine wl_app rfl (.tmp 34) (.tmp 36) 22 32 3 rfl (by decide) Tryz.underlying22 iTk (.slice va L.length vc) L.length (tkC L) rfl w.heap.size (Nat.le_trans HB7.out.size (by simp)) (HT7.out.below (Below.alloc (Below.refl _ _) (Nat.le_refl _) _)) (some ⟨w7.heap.size, 0, none⟩) 1 1 rfl (by simp) [.int .i64 k', .string (ofB t'), .int .i64 i] rfl (cells_new w7 _ _) (one_tk _ _ _) (by omega) ?_)
      intro v8 w8 hr8 hg8 _
      have HR : Hid (TkR w.heap.size w8 v8 (L ++ [(k', t', i)])) := by
       show w8.ownsRow w.heap.size 32 3 v8 (L ++ [(k', t', i)]).length (tkC (L ++ [(k', t', i)]))
       rw [<- tkC_app, List.length_append]
       exact hr8
      have HB8 : Hid (Below w.heap.size w w8) := app_below HB7.out HT7.out HB7.out.size _ hg8
      clear hr8 hg8 HT7 HB7 HK7 hgr
      have x3 : (i : Int) + (n' : Int) = ((i + n' : Nat) : Int) := by omega
      obtain ⟨M, hM⟩ : ∃ M, i + n' = M := ⟨_, rfl⟩
      have hMs : M <= s.size := by omega
      have hiM : i < M := by omega
      have x4 : (M : Int) <= (s.size : Int) := by omega
      rw [hM] at x3 HU2
      have KS := fun W => skip_any (s.extract M s.size) (by rw [size_ex s M _ (Nat.le_refl _)]; omega) W
      rw [bts_restL s M hMs, size_ex s M _ (Nat.le_refl _)] at KS
      clear hM hn
      go_wp2_with fail
      refine (KS _).mono ?_
      rintro e w9 ⟨m, rfl, hm, H9⟩
      have HR9 : Hid (TkR w.heap.size w9 v8 (L ++ [(k', t', i)])) := HR.out.below H9.out.2.2
      have HB9 : Hid (Below w.heap.size w w9) := HB8.out.trans (H9.out.2.2.mono HB8.out.size)
      have HU9 : Hid (LexU tx nu (bts s) (L ++ [(k', t', i)]) (M + m)) := HU2.out.skp H9.out.1
      have HN9 : Hid (NoSk ((bts s).drop (M + m))) := by rw [<- List.drop_drop]; exact H9.out.2.1
      clear H9 HR HB8 HU2 KS
      go_wp2
      go_roundw
      case rel => exact ⟨M + m, L ++ [(k', t', i)], by omega, by go_num, HR9.out, by simp; omega, HU9.out, HN9.out, HB9.out⟩
      case measure => simp [intOf]; omega
  . have x1' : ¬ (i : Int) < (s.size : Int) := by omega
    obtain rfl : i = s.size := by omega
    have HD := HU.out.done (by rw [bts_len])
    have HDD : Hid (lexR tx nu (bts s) 0 = (L ++ [(8, [], s.size)], none)) := HD
    clear HU HD HNS
    go_wp2_with (refine wl_app rfl (.tmp 47) (.tmp 50) 22 32 3 rfl (by decide) Tryz.underlying22 iTk (.slice va L.length vc) L.length (tkC L) rfl w.heap.size (Nat.le_trans HB.out.size (by simp)) (HT.out.below (Below.alloc (Below.refl _ _) (Nat.le_refl _) _)) (some ⟨wr.heap.size, 0, none⟩) 1 1 rfl (by simp) [.int .i64 8, .string ⟨#[]⟩, .int .i64 (s.size : Int)] rfl (cells_new wr _ _) (one_tk _ _ _) (by omega) ?_)
    intro v6 w6 hr6 hg6 _
    have HR : Hid (TkR w.heap.size w6 v6 (L ++ [(8, [], s.size)])) := by
     show w6.ownsRow w.heap.size 32 3 v6 (L ++ [(8, [], s.size)]).length (tkC (L ++ [(8, [], s.size)]))
     rw [<- tkC_app, List.length_append]
     exact hr6
    have HB6 : Hid (Below w.heap.size w w6) := app_below HB.out HT.out HB.out.size _ hg6
    clear hr6 hg6 HT HB
    go_wp2
    go_ret3
    refine ⟨?_, HB6.out⟩
    unfold LexA
    rw [HDD.out]
    exact ⟨v6, rfl, HR.out⟩
end Go.Proofs.YtpfiejmhnkcjbaaGreatDoor
namespace Go.Proofs.YtpfiejmhnkcjbaaGreatDoor
set_option maxHeartbeats 2000000
set_option maxRecDepth 8000
open Go.RowKit Lx
set_option linter.unusedVariables false
set_option linter.unusedSimpArgs false
def TkS (w : World) (v : Value) (L : List Tk) : Prop := ∃ a c, v = .slice a L.length c /\ (L = [] ∨ ∃ b, a = some ⟨b, 0, none⟩ /\ b < w.heap.size /\ w.rangeAt b 0 (tkC L))
theorem TkR.tks {B : Nat} {w : World} {v : Value} {L : List Tk} (h : TkR B w v L) : TkS w v L := by
 rcases h with ⟨h1, ⟨rfl, h0⟩ | ⟨g, cap, cur, rfl, hg, hh, hle, hm, h5, h6⟩⟩
 . exact ⟨none, 0, by rw [h0], .inl (List.eq_nil_of_length_eq_zero h0)⟩
 . refine ⟨_, cap, rfl, .inr ⟨g, rfl, (Array.getElem?_eq_some_iff.1 hh).1, ?_⟩⟩
   intro j u hj
   rw [Nat.zero_add, cell_of_row w g j cur _ (0, 0) hh, <- Array.getElem?_toList]
   rw [<- h6] at hj
   rw [List.getElem?_take] at hj
   split at hj
   . exact hj
   . cases hj
theorem TkS.below {w w' : World} {v : Value} {L : List Tk} (h : TkS w v L) (g : Below w.heap.size w w') : TkS w' v L := by
 obtain ⟨a, c, e, h | ⟨b, e2, hb, hr⟩⟩ := h
 . exact ⟨a, c, e, .inl h⟩
 . refine ⟨a, c, e, .inr ⟨b, e2, Nat.lt_of_lt_of_le hb g.size, fun j u hj => ?_⟩⟩
   have := hr j u hj
   unfold World.cell? at this ⊢
   simp only at this ⊢
   rw [g.block b hb]
   exact this
theorem tkC_at {L : List Tk} : ∀ {j : Nat} {x : Tk}, L[j]? = some x -> ∀ i u, (tk1 x)[i]? = some u -> (tkC L)[j * 3 + i]? = some u := by
 induction L with
 | nil => intro j x h; simp at h
 | cons y L ih =>
   intro j x h i u hu
   have h3 : (tk1 y).length = 3 := rfl
   show (tk1 y ++ tkC L)[j * 3 + i]? = some u
   cases j with
   | zero =>
     simp at h
     subst h
     have hi : i < (tk1 y).length := (List.getElem?_eq_some_iff.1 hu).1
     rw [Nat.zero_mul, Nat.zero_add, List.getElem?_append_left hi]
     exact hu
   | succ j =>
     rw [List.getElem?_append_right (by omega), h3, show (j + 1) * 3 + i - 3 = j * 3 + i by omega]
     exact ih (by simpa using h) i u hu
theorem tk_range {w : World} {b : Nat} {L : List Tk} (h : w.rangeAt b 0 (tkC L)) {j : Nat} {x : Tk} (hx : L[j]? = some x) : w.rangeAt b (j * 3) (tk1 x) := fun i u hu => by
 have := h (j * 3 + i) u (tkC_at hx i u hu)
 rwa [Nat.zero_add] at this
theorem lx_ixt {C : World -> Prop} {a : Act} {o : Oper} {K : Act -> Prop} (x y : Operand) (ho : o.op = .indexAddr 22 x y) (b n c k : Nat) (hx : a.eval x = .slice (some ⟨b, 0, none⟩) n c) (hy : a.eval y = .int .i64 (k : Int)) (hk1 : k < n)
 (hk : K (a.put o.dst (.pointer (some ⟨b, k * 3, none⟩)))) : o.quiet Tryz.prog a C K :=
 ⟨_, fun w hw => by
   unfold Oper.quietAt execOp
   have h1 : ¬ ((k : Int) < 0) := by omega
   have h2 : ¬ ((n : Int) <= (k : Int)) := by omega
   simp only [ho, hx, hy]
   go_simp, hk⟩
theorem tokens_any (L : List Tk) (hL : L.length <= 100000) (v u : Value) (w : World) (hv : TkS w v L) (hu : TkS w u L) : Calls Tryz.prog 11 #[v, u] w fun e w' => e = .returned (.bool true) /\ Hid (Below w.heap.size w w') := by
 obtain ⟨a, c, rfl, HA⟩ := hv
 obtain ⟨a2, c2, rfl, HA2⟩ := hu
 have HA : Hid _ := HA
 have HA2 : Hid _ := HA2
 go_enter Tryz.func11, Tryz.ntmps11
 go_wp2
 go_loopw [5] (fun iv wr => ∃ k : Nat, k <= L.length /\ iv = .int .i64 (k : Int) /\ Hid (Below w.heap.size w wr)) (fun iv _ => L.length - (intOf iv).toNat)
 case atStart => exact ⟨0, Nat.zero_le _, rfl, Below.refl _ _⟩
 case round =>
  obtain ⟨k, hk, rfl, HB⟩ := hrel
  by_cases hlt : k < L.length
  . have x1 : (k : Int) < (L.length : Int) := by omega
    obtain ⟨x, hx⟩ : ∃ x, L[k]? = some x := ⟨_, List.getElem?_eq_getElem hlt⟩
    rcases HA.out with e | ⟨b, rfl, hb, hr⟩
    . rw [e] at hlt; simp at hlt
    rcases HA2.out with e | ⟨b2, rfl, hb2, hr2⟩
    . rw [e] at hlt; simp at hlt
    have HR : Hid (w.rangeAt b (k * 3) (tk1 x)) := tk_range hr hx
    have HR2 : Hid (w.rangeAt b2 (k * 3) (tk1 x)) := tk_range hr2 hx
    obtain ⟨C, hC⟩ : ∃ C : World -> Prop, C = fun W => Below w.heap.size w W := ⟨_, rfl⟩
    have C0 : Hid (C { wr with drawn := wr.drawn + 1 }) := by rw [hC]; exact Below.drew HB.out
    have CO : Hid (∀ W, C W -> Below w.heap.size w W) := fun W h => by rw [hC] at h; exact h
    have hCp : ∀ p : Prop, (∀ W, C W -> p) ↔ p := fun p => ⟨fun h => h _ C0.out, fun h _ _ => h⟩
    have F1 : Hid (∀ W, C W -> W.rangeAt b (k * 3) (tk1 x)) := fun W h j u hj => by
     rw [hC] at h
     have := HR.out j u hj
     unfold World.cell? at this ⊢
     simp only at this ⊢
     rw [h.block b hb]
     exact this
    have F2 : Hid (∀ W, C W -> W.rangeAt b2 (k * 3) (tk1 x)) := fun W h j u hj => by
     rw [hC] at h
     have := HR2.out j u hj
     unfold World.cell? at this ⊢
     simp only at this ⊢
     rw [h.block b2 hb2]
     exact this
    clear hC hr hr2 HR HR2 hb hb2 hx
    obtain ⟨xk, xt, xp⟩ := x
    go_wp2_with fail
    refine wp_region_quiet (C := C) (by kernel_rfl) (by kernel_rfl) C0.out ?_
    change wpQuiet _ _ _ _ (_ :: _ :: _ :: _ :: _ :: _ :: _ :: _ :: _ :: []) _
    repeat (first
     | go_big_quiet_skip
     | (go_big_quiet_want
        first
        | (refine lx_ixt (.tmp 17) (.tmp 18) rfl b L.length c k rfl rfl hlt ?_
           simp only [Act.put, List.setIfInBounds_toArray, List.set_cons_zero, List.set_cons_succ]
           go_big_quiet_on)
        | (refine lx_ixt (.tmp 21) (.tmp 22) rfl b2 L.length c2 k rfl rfl hlt ?_
           simp only [Act.put, List.setIfInBounds_toArray, List.set_cons_zero, List.set_cons_succ]
           go_big_quiet_on)
        | (refine lx_load 32 (.tmp 19) rfl b (k * 3) rfl [.int .i64 (xk : Int), .string (ofB xt), .int .i64 (xp : Int)] _ F1.out Tryz.underlying32 rfl sTk ?_
           simp only [Act.put, List.setIfInBounds_toArray, List.set_cons_zero, List.set_cons_succ]
           go_big_quiet_on)
        | (refine lx_load 32 (.tmp 23) rfl b2 (k * 3) rfl [.int .i64 (xk : Int), .string (ofB xt), .int .i64 (xp : Int)] _ F2.out Tryz.underlying32 rfl sTk ?_
           simp only [Act.put, List.setIfInBounds_toArray, List.set_cons_zero, List.set_cons_succ]
           go_big_quiet_on)
        | (go_big_quiet_op
           go_big_quiet_on)))
    refine wpQuiet_nil ?_
    intro w9 h9
    have HB9 : Hid (Below w.heap.size w w9) := CO.out _ h9
    clear h9 hCp C0 F1 F2 CO
    go_wp2
    go_roundw
    case rel => exact ⟨k + 1, by omega, by go_num, HB9.out⟩
    case measure => simp [intOf]; omega
  . have x1 : ¬ (k : Int) < (L.length : Int) := by omega
    go_wp2
    go_ret
    exact ⟨rfl, HB.out⟩
def knT : List Tk := [(2, [115, 101, 108, 101, 99, 116], 0), (1, [120], 7), (6, [46], 8), (1, [97], 9), (8, [], 15)]
theorem known_lex : lexR (fun _ => false) (fun _ => false) [83, 101, 108, 101, 99, 116, 32, 120, 46, 97, 32, 45, 45, 32, 121] 0 = (knT, none) := by decide +kernel
theorem known_any (w : World) : Calls Tryz.prog 12 #[] w fun e w' => e = .returned (.bool true) /\ Hid (Below w.heap.size w w') := by
 have KL := lex_any (fun _ => false) (fun _ => false) ⟨#[83, 101, 108, 101, 99, 116, 32, 120, 46, 97, 32, 45, 45, 32, 121]⟩ (by decide) w (fun h => absurd h (by decide +kernel)) (fun h => absurd h (by decide +kernel))
 have hb : bts (⟨#[83, 101, 108, 101, 99, 116, 32, 120, 46, 97, 32, 45, 45, 32, 121]⟩ : ByteArray) = [83, 101, 108, 101, 99, 116, 32, 120, 46, 97, 32, 45, 45, 32, 121] := rfl
 rw [hb] at KL
 clear hb
 go_enter Tryz.func12, Tryz.ntmps12
 go_wp2_with fail
 refine KL.mono ?_
 rintro e w1 ⟨hA, q⟩
 unfold LexA at hA
 rw [known_lex] at hA
 obtain ⟨v, rfl, hR⟩ := hA
 have HR : Hid (TkS w1 v knT) := TkR.tks hR
 have HB : Hid (Below w.heap.size w w1) := q.out
 clear q hR KL
 go_wp2_with (go_at_call 11; refine (tokens_any knT (by decide) v _ _ (HR.out.below ((Below.refl _ _).alloc (Nat.le_refl _) _)) ?_).mono ?_)
 . refine ⟨_, 5, rfl, .inr ⟨w1.heap.size, rfl, by simp, ?_⟩⟩
   intro j u hj
   rw [Nat.zero_add, cell_of_row _ w1.heap.size j _ 32 (0, 0) (heap_alloc_new w1 _)]
   rw [<- hj]
   rw [<- Array.getElem?_toList]
   rfl
 rintro e w2 ⟨rfl, q⟩
 have HB2 : Hid (Below w.heap.size w w2) := (HB.out.alloc HB.out.size _).trans (q.out.mono (Nat.le_trans HB.out.size (by simp)))
 clear q HB HR
 go_wp2
 go_ret
 exact ⟨rfl, HB2.out⟩
end Go.Proofs.YtpfiejmhnkcjbaaGreatDoor
namespace Go.Proofs.YtpfiejmhnkcjbaaGreatDoor
open Go.RowKit Lx
set_option linter.unusedVariables false
set_option linter.unusedSimpArgs false
theorem lexR_len (tx nu : List Nat -> Bool) : ∀ (m : Nat) (r : List Nat) (p : Nat), r.length <= m -> (lexR tx nu r p).1.length <= r.length + 1 := by
 intro m
 induction m with
 | zero =>
   intro r p h
   obtain rfl : r = [] := List.eq_nil_of_length_eq_zero (by omega)
   simp [lexR_nil]
 | succ m ih =>
   intro r p h
   by_cases hr : r = []
   . subst hr; simp [lexR_nil]
   . rw [lexR_step tx nu hr p]
     obtain ⟨s1, s2⟩ := step_le (tx := tx) (nu := nu) hr
     cases hs : Lx.step tx nu r with
     | skip n =>
       have h1 := s1 n hs
       have h2 := ih (r.drop n) (p + n) (by rw [List.length_drop]; omega)
       rw [List.length_drop] at h2
       simp only
       omega
     | tok k t n =>
       have h1 := s2 k t n hs
       have h2 := ih (r.drop n) (p + n) (by rw [List.length_drop]; omega)
       rw [List.length_drop] at h2
       simp only [List.length_cons]
       omega
     | bad => simp
end Go.Proofs.YtpfiejmhnkcjbaaGreatDoor
namespace Go.Proofs.YtpfiejmhnkcjbaaGreatDoor
open Go.RowKit Lx
set_option linter.unusedVariables false
set_option linter.unusedSimpArgs false
theorem lexA_bad {w : World} {tx nu : List Nat -> Bool} {r : List Nat} {e : Ending} {w' : World} (h : LexA w tx nu r e w') {p : Nat} (hp : (lexR tx nu r 0).2 = some p) : e = .returned (.tuple #[.slice none 0 0, .int .i64 (p : Int), .int .i64 12]) := by
 unfold LexA at h
 rw [hp] at h
 exact h
theorem lexA_ok {w : World} {tx nu : List Nat -> Bool} {r : List Nat} {e : Ending} {w' : World} (h : LexA w tx nu r e w') (hp : (lexR tx nu r 0).2 = none) : ∃ v, e = .returned (.tuple #[v, .int .i64 0, .int .i64 0]) /\ TkS w' v (lexR tx nu r 0).1 := by
 unfold LexA at h
 rw [hp] at h
 obtain ⟨v, e, hR⟩ := h
 exact ⟨v, e, TkR.tks hR⟩
end Go.Proofs.YtpfiejmhnkcjbaaGreatDoor
