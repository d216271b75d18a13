/-
  The program's lex: Lex.
-/
import Derived.Test.YtpfiejmhnkcjbaaGreatDoorELyl
namespace Go.Proofs.YtpfiejmhnkcjbaaGreatDoor
open Go.RowKit Lx
set_option linter.unusedVariables false
set_option linter.unusedSimpArgs false
theorem lx_ld {P : Program} {ops : Array Oper} {rest : List Oper} {o : Oper} {a : Act} {w : World} {Q : Exit → Act → World → Prop} (hg : o.guard = none) (ty : TypeId) (x : Operand) (ho : o.op = .load ty x) (b k : Nat) (hx : a.eval x = .pointer (some ⟨b, k, none⟩)) (cs : List Value) (d : TypeDesc) (hS : w.rangeAt b k cs) (hu : P.underlying ty = some d) (hd : d.isRow = true) (hi : (P.info? ty).map (·.size) = some cs.length)
    (h : wpList P ops Q rest (a.put o.dst (.agg cs.toArray)) w) : wpList P ops Q (o :: rest) a w :=
  wpList_plain hg fun _ hK => wp_load_mid ty x ho b k hx cs d hS hu hd hi (hK _ _ h)
theorem sL9 : (Tryz.prog.info? 9).map (·.size) = some 1 := by kernel_rfl
theorem sL3 : (Tryz.prog.info? 3).map (·.size) = some 1 := by kernel_rfl
theorem LexU.skp {tx nu : List Nat → Bool} {r : List Nat} {L : List Tk} {p n : Nat} (h : LexU tx nu r L p) (k : Skp (r.drop p) n) : LexU tx nu r L (p + n) := by
  unfold LexU at *
  rw [h, k.2, List.drop_drop]
/-- A token's text is no longer than what there is. -/
theorem step_tl {tx nu : List Nat → Bool} {r : List Nat} {k : Nat} {t : List Nat} {n : Nat} (h : Lx.step tx nu r = .tok k t n) : t.length ≤ r.length + 2 := by
  cases r with
  | nil => cases h
  | cons c q =>
    have h1 := tw_le isNm (c :: q)
    have h2 := tw_le (· != 34) q
    unfold Lx.step at h
    simp only at h
    split at h
    · cases h
    split at h
    · cases h
    split at h
    · split at h
      · injection h with _ h _; subst h
        unfold sml; rw [List.length_map]; omega
      · injection h with _ h _; subst h; omega
    split at h
    · split at h
      · cases h
      · injection h with _ h _; subst h; simp only [List.length_cons]; omega
    split at h
    · split at h
      · cases h
      · injection h with _ h _; subst h; rw [List.length_take]; omega
    split at h
    · split at h
      · cases h
      · split at h
        · injection h with _ h _; subst h; rw [List.length_take]; omega
        · cases h
    split at h
    · injection h with _ h _; subst h; simp
    split at h
    · cases h
    · injection h with _ h _; subst h
      have h3 := (sgn_pre (c :: q)).length_le
      unfold told
      split
      · simp
      · omega
set_option maxRecDepth 8000 in
set_option maxHeartbeats 8000000 in
theorem lex_any (tx nu : List Nat → Bool) (s : ByteArray) (hs : s.size ≤ 4096) (w : World) (hT : 39 ∈ bts s → TxP tx w) (hN : (∃ d ∈ bts s, isDg d = true) → NuP nu w ∧ NuDot nu) :
    Calls Tryz.prog 9 #[.string s] w fun e w' => LexA w tx nu (bts s) e w' ∧ Hid (Below w.heap.size w w') := by
  have HOT : Hid (39 ∈ bts s → TxP tx w) := hT
  have HON : Hid ((∃ d ∈ bts s, isDg d = true) → NuP nu w ∧ NuDot nu) := hN
  have hs4 : ¬ (4096 : Int) < (s.size : Int) := by omega
  have KS := fun W => skip_any s hs W
  clear hT hN
  go_enter Tryz.func9, Tryz.ntmps9
  go_wp2_with fail
  refine (KS _).mono ?_
  rintro e w1 ⟨n0, rfl, hn0, H0⟩
  have HS0 : Hid (Skp (bts s) n0 ∧ NoSk ((bts s).drop n0) ∧ Below w.heap.size w w1) := H0
  clear H0 KS
  go_wp2
  go_loopw [5, 6] (fun v iv wr => ∃ (i : Nat) (L : List Tk), i ≤ s.size ∧ iv = .int .i64 (i : Int) ∧ Hid (TkR w.heap.size wr v L ∧ L.length ≤ i ∧ LexU tx nu (bts s) L i ∧ NoSk ((bts s).drop i) ∧ Below w.heap.size w wr)) (fun _ iv _ => s.size - (intOf iv).toNat)
  case atStart => exact ⟨n0, [], hn0, rfl, ⟨rfl, .inl ⟨rfl, rfl⟩⟩, Nat.zero_le _, by
    have := (LexU.zero tx nu (bts s)).skp HS0.out.1
    rwa [Nat.zero_add] at this, HS0.out.2.1, HS0.out.2.2⟩
  case round =>
    obtain ⟨i, L, hi, rfl, H⟩ := hrel
    have HT : Hid (TkR w.heap.size wr u5 L) := H.out.1
    have hLi : L.length ≤ i := H.out.2.1
    have HU : Hid (LexU tx nu (bts s) L i) := H.out.2.2.1
    have HNS : Hid (NoSk ((bts s).drop i)) := H.out.2.2.2.1
    have HB : Hid (Below w.heap.size w wr) := H.out.2.2.2.2
    obtain ⟨va, vc, rfl⟩ := HT.out.slice
    clear H HS0
    by_cases hlt : i < s.size
    · have x1 : (i : Int) < (s.size : Int) := by omega
      have x2 : (i : Int) ≤ (s.size : Int) := by omega
      have hbx : bts (s.extract i s.size) = (bts s).drop i := bts_restL s i hi
      have hne : (bts s).drop i ≠ [] := by rw [bts_dropL s i hlt]; exact List.cons_ne_nil _ _
      have hsx : (s.extract i s.size).size = s.size - i := size_ex s i _ (Nat.le_refl _)
      have KN : Calls Tryz.prog 18 #[.string (s.extract i s.size)] wr fun e w' => e = AnsE (ans (Lx.step tx nu (bts (s.extract i s.size)))) ∧ Hid (Below wr.heap.size wr w') :=
        next_any tx nu w (s.extract i s.size) (by omega) (by omega) (by rw [hbx]; exact HNS.out) (fun h => HOT.out (by rw [hbx] at h; exact List.mem_of_mem_drop h)) (fun ⟨d, h, h2⟩ => HON.out ⟨d, by rw [hbx] at h; exact List.mem_of_mem_drop h, h2⟩) wr HB.out
      rw [hbx] at KN
      obtain ⟨k, t, n, hA⟩ : ∃ k t n, ans (Lx.step tx nu ((bts s).drop i)) = (k, t, n) := ⟨_, _, _, rfl⟩
      have HA : Hid (ans (Lx.step tx nu ((bts s).drop i)) = (k, t, n)) := hA
      rw [hA] at KN
      have HNE : Hid ((bts s).drop i ≠ []) := hne
      clear hA hne hbx hsx
      go_wp2_with fail
      refine KN.mono ?_
      rintro e w2 ⟨rfl, q⟩
      have HQ : Hid (Below wr.heap.size wr w2) := q.out
      clear q KN
      dsimp only [AnsE]
      go_wp2_with (refine al_zero rfl 32 rfl tkZ zTk ?_)
      intro g w3 hg bz gr
      go_wp2_with (refine st_all rfl 32 (.tmp 7) (.tmp 23) rfl g 32 tkZ (tk1 (k, t, 0)) rfl rfl bz rfl sTk (one_k _ _) ?_)
      intro w4 b4 g4
      have HQ4 : Hid (Below wr.heap.size wr w4) := HQ.out.trans ((below_new gr hg g4).mono HQ.out.size)
      have HK4 : Hid (Blk w4 g 32 (tk1 (k, t, 0))) := b4
      have hgr : wr.heap.size ≤ g := Nat.le_trans HQ.out.size hg
      clear bz gr b4 g4 HQ hg
      cases hst : Lx.step tx nu ((bts s).drop i) with
      | skip m => exact absurd hst (step_ns HNE.out HNS.out m)
      | bad =>
        rw [hst] at HA
        obtain ⟨rfl, rfl, rfl⟩ : 0 = k ∧ [] = t ∧ 0 = n := by
          have h := HA.out
          simp only [ans, Prod.mk.injEq] at h
          exact h
        have HBD : Hid ((lexR tx nu (bts s) 0).2 = some i) := HU.out.bad HNE.out hst
        have HBZ : Hid (Below w.heap.size w w4) := HB.out.trans (HQ4.out.mono HB.out.size)
        clear hst HA HU HNS HNE HB HQ4 HK4 HT
        go_wp2
        go_ret3
        refine ⟨?_, HBZ.out⟩
        unfold LexA
        rw [HBD.out]
        all_goals rfl
      | tok k' t' n' =>
        rw [hst] at HA
        obtain ⟨rfl, rfl, rfl⟩ : k' = k ∧ t' = t ∧ n' = n := by
          have h := HA.out
          simp only [ans, Prod.mk.injEq] at h
          exact h
        have hn := (step_le HNE.out).2 _ _ _ hst
        rw [List.length_drop, bts_len] at hn
        have htl := step_tl hst
        rw [List.length_drop, bts_len] at htl
        have HU2 : Hid (LexU tx nu (bts s) (L ++ [(k', t', i)]) (i + n')) := HU.out.tok HNE.out hst
        have xn : ((n' : Int) == 0) = false := beq_eq_false_iff_ne.2 (by omega)
        have c1 : w4.cell? ⟨g, 1, none⟩ = some (.string (ofB t')) := HK4.out.cell 1
        have KC := fun W => sclone_any (ofB t') (by rw [ofB_size]; omega) W
        clear hst HA HU HNS HNE htl
        go_wp2_with fail
        refine (KC _).mono ?_
        rintro e w5 ⟨rfl, q⟩
        have HQ5 : Hid (Below wr.heap.size wr w5) := HQ4.out.trans (q.mono HQ4.out.size)
        have HK5 : Hid (Blk w5 g 32 (tk1 (k', t', 0))) := HK4.out.below q HK4.out.lt
        clear q HQ4 HK4 c1 KC
        go_wp2_with (refine st_one rfl 9 (.tmp 31) (.tmp 30) rfl g 1 32 (tk1 (k', t', 0)) (.string (ofB t')) rfl rfl rfl rfl (by simp [tk1]) HK5.out sL9 ?_)
        intro w6 b6 g6
        have HQ6 : Hid (Below wr.heap.size wr w6) := HQ5.out.grown g6 HQ5.out.size (fun k e => by injection e with e; omega)
        have HK6 : Hid (Blk w6 g 32 (tk1 (k', t', 0))) := b6
        clear b6 g6 HQ5 HK5
        go_wp2_with (refine st_one rfl 3 (.tmp 33) (.tmp 32) rfl g 2 32 (tk1 (k', t', 0)) (.int .i64 (i : Int)) rfl rfl rfl rfl (by simp [tk1]) HK6.out sL3 ?_)
        intro w7 b7 g7
        have HQ7 : Hid (Below wr.heap.size wr w7) := HQ6.out.grown g7 HQ6.out.size (fun k e => by injection e with e; omega)
        have HK7 : Hid (Blk w7 g 32 (tk1 (k', t', i))) := b7
        have HB7 : Hid (Below w.heap.size w w7) := HB.out.trans (HQ7.out.mono HB.out.size)
        have HT7 : Hid (TkR w.heap.size w7 (.slice va L.length vc) L) := HT.out.below HQ7.out
        clear b7 g7 HQ6 HK6 HB HT HQ7
        go_wp2_with (first | refine lx_ld rfl 32 (.tmp 7) rfl g 0 rfl [.int .i64 (k' : Int), .string (ofB t'), .int .i64 (i : Int)] _ (fun j u hj => by rw [Nat.zero_add, HK7.out.cell]; exact hj) Tryz.underlying32 rfl sTk ?_ | refine wl_app rfl (.tmp 34) (.tmp 36) 22 32 3 rfl (by decide) Tryz.underlying22 iTk (.slice va L.length vc) L.length (tkC L) rfl w.heap.size (Nat.le_trans HB7.out.size (by simp)) (HT7.out.below (Below.alloc (Below.refl _ _) (Nat.le_refl _) _)) (some ⟨w7.heap.size, 0, none⟩) 1 1 rfl (by simp) [.int .i64 k', .string (ofB t'), .int .i64 i] rfl (cells_new w7 _ _) (one_tk _ _ _) (by omega) ?_)
        intro v8 w8 hr8 hg8 _
        have HR : Hid (TkR w.heap.size w8 v8 (L ++ [(k', t', i)])) := by
          show w8.ownsRow w.heap.size 32 3 v8 (L ++ [(k', t', i)]).length (tkC (L ++ [(k', t', i)]))
          rw [← tkC_app, List.length_append]
          exact hr8
        have HB8 : Hid (Below w.heap.size w w8) := app_below HB7.out HT7.out HB7.out.size _ hg8
        clear hr8 hg8 HT7 HB7 HK7 hgr
        have x3 : (i : Int) + (n' : Int) = ((i + n' : Nat) : Int) := by omega
        obtain ⟨M, hM⟩ : ∃ M, i + n' = M := ⟨_, rfl⟩
        have hMs : M ≤ s.size := by omega
        have hiM : i < M := by omega
        have x4 : (M : Int) ≤ (s.size : Int) := by omega
        rw [hM] at x3 HU2
        have KS := fun W => skip_any (s.extract M s.size) (by rw [size_ex s M _ (Nat.le_refl _)]; omega) W
        rw [bts_restL s M hMs, size_ex s M _ (Nat.le_refl _)] at KS
        clear hM hn
        go_wp2_with fail
        refine (KS _).mono ?_
        rintro e w9 ⟨m, rfl, hm, H9⟩
        have HR9 : Hid (TkR w.heap.size w9 v8 (L ++ [(k', t', i)])) := HR.out.below H9.out.2.2
        have HB9 : Hid (Below w.heap.size w w9) := HB8.out.trans (H9.out.2.2.mono HB8.out.size)
        have HU9 : Hid (LexU tx nu (bts s) (L ++ [(k', t', i)]) (M + m)) := HU2.out.skp H9.out.1
        have HN9 : Hid (NoSk ((bts s).drop (M + m))) := by rw [← List.drop_drop]; exact H9.out.2.1
        clear H9 HR HB8 HU2 KS
        go_wp2
        go_roundw
        case rel => exact ⟨M + m, L ++ [(k', t', i)], by omega, by go_num, HR9.out, by simp; omega, HU9.out, HN9.out, HB9.out⟩
        case measure => simp [intOf]; omega
    · have x1' : ¬ (i : Int) < (s.size : Int) := by omega
      obtain rfl : i = s.size := by omega
      have HD := HU.out.done (by rw [bts_len])
      have HDD : Hid (lexR tx nu (bts s) 0 = (L ++ [(8, [], s.size)], none)) := HD
      clear HU HD HNS
      go_wp2_with (refine wl_app rfl (.tmp 47) (.tmp 50) 22 32 3 rfl (by decide) Tryz.underlying22 iTk (.slice va L.length vc) L.length (tkC L) rfl w.heap.size (Nat.le_trans HB.out.size (by simp)) (HT.out.below (Below.alloc (Below.refl _ _) (Nat.le_refl _) _)) (some ⟨wr.heap.size, 0, none⟩) 1 1 rfl (by simp) [.int .i64 8, .string ⟨#[]⟩, .int .i64 (s.size : Int)] rfl (cells_new wr _ _) (one_tk _ _ _) (by omega) ?_)
      intro v6 w6 hr6 hg6 _
      have HR : Hid (TkR w.heap.size w6 v6 (L ++ [(8, [], s.size)])) := by
        show w6.ownsRow w.heap.size 32 3 v6 (L ++ [(8, [], s.size)]).length (tkC (L ++ [(8, [], s.size)]))
        rw [← tkC_app, List.length_append]
        exact hr6
      have HB6 : Hid (Below w.heap.size w w6) := app_below HB.out HT.out HB.out.size _ hg6
      clear hr6 hg6 HT HB
      go_wp2
      go_ret3
      refine ⟨?_, HB6.out⟩
      unfold LexA
      rw [HDD.out]
      exact ⟨v6, rfl, HR.out⟩
end Go.Proofs.YtpfiejmhnkcjbaaGreatDoor
