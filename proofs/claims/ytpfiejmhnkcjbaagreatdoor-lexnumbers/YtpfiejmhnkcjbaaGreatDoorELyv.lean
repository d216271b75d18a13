/-
  LexNumbers: any number that is not below nought, printed, is one word.
-/
import Derived.Test.YtpfiejmhnkcjbaaGreatDoorEG26x
import Derived.Test.YtpfiejmhnkcjbaaGreatDoorELyr
import Derived.Test.YtpfiejmhnkcjbaaGreatDoorELyu
import Derived.Test.YtpfiejmhnkcjbaaGreatDoorEG45x
namespace Go.Proofs.YtpfiejmhnkcjbaaGreatDoor
open Go.RowKit Lx
set_option linter.unusedVariables false
set_option linter.unusedSimpArgs false
theorem bts_map (x : ByteArray) : bts x = x.data.toList.map UInt8.toNat := rfl
/-- What decimal.Parse says of a text, whichever way it is cut. -/
theorem nup_ex2 (w : World) : ∃ nu, (NuP nu w ∧ NuDot nu) ∧ ∀ (x R A B : ByteArray) (b d : Bool), x.size ≤ 4096 → D6.Minus x R b → D6.Cuts R A B d → (nu (bts x) = true ↔ D6.Po.e (D6.parseV b d R A B) = 0) := by
  have h : ∀ x : ByteArray, ∃ c : Bool, (x.size ≤ 4096 → ∀ W, Calls Tryz.prog 53 #[.string x] W fun e w' => ∃ (v : List Value) (E : Int), v.length = 6 ∧ (∀ u ∈ v, u.oneCell' = true) ∧ e = .returned (.tuple #[.agg v.toArray, .int .i64 E]) ∧ (c = true ↔ E = 0) ∧ Below W.heap.size W w') ∧ (∀ l : List Nat, (∀ d ∈ l, isDg d = true) → bts x = l ++ [46] → c = false) ∧ (∀ (R A B : ByteArray) (b d : Bool), x.size ≤ 4096 → D6.Minus x R b → D6.Cuts R A B d → (c = true ↔ D6.Po.e (D6.parseV b d R A B) = 0)) := fun x => by
    obtain ⟨R, b, hm, hR, CP⟩ := D6.minus_any x
    by_cases hx : x.size ≤ 4096
    · obtain ⟨A, B, d, hc, CT⟩ := D6.cut_any R (by omega)
      have hA : A.size ≤ 1000000 ∧ B.size ≤ 1000000 ∧ (d = false → B = ⟨#[]⟩) := by
        cases hc with
        | none h ha hb => subst ha hb; exact ⟨by omega, by decide, fun _ => rfl⟩
        | «at» h ha =>
          have h1 := congrArg List.length h
          rw [List.length_append, List.length_cons] at h1
          have e1 : R.data.toList.length = R.size := Array.length_toList ..
          have e2 : A.data.toList.length = A.size := Array.length_toList ..
          have e3 : B.data.toList.length = B.size := Array.length_toList ..
          exact ⟨by omega, by omega, fun h => by cases h⟩
      refine ⟨decide (D6.Po.e (D6.parseV b d R A B) = 0), fun _ W => ?_, fun l hl e => ?_, fun R' A' B' b' d' _ hm' hc' => ?_⟩
      · refine (D6.dParse_any x R A B b d (by omega) hA.1 hA.2.1 hA.2.2 CP CT W).mono ?_
        rintro e w' ⟨rfl, g⟩
        refine ⟨[_, _, _, _, _, _], _, rfl, ?_, rfl, by simp, g⟩
        simp
        exact ⟨rfl, rfl, rfl, rfl, rfl⟩
      · rw [dot_no hl e hm hc]
        rfl
      · obtain ⟨rfl, rfl⟩ := minus_uni hm hm'
        obtain ⟨rfl, rfl, rfl⟩ := cuts_uni hc hc'
        simp
    · exact ⟨false, fun h => absurd h hx, fun _ _ _ => rfl, fun _ _ _ _ _ h => absurd h hx⟩
  obtain ⟨f, hf⟩ := Classical.axiomOfChoice h
  refine ⟨fun l => f (ofB l), ⟨fun x hx W _ => ?_, fun l hl => ?_⟩, fun x R A B b d hx hm hc => ?_⟩
  · simp only [ofB_bts]
    exact (hf x).1 hx W
  · refine (hf _).2.1 l hl (bts_ofB _ fun y hy => ?_)
    rcases List.mem_append.1 hy with h | h
    · have := hl y h
      unfold isDg at this
      simp at this
      omega
    · simp at h
      omega
  · simp only [ofB_bts]
    exact (hf x).2.2 R A B b d hx hm hc
/-- A number that is not below nought, printed. -/
theorem num_form (n : Int) (s : Nat) (hN : D6.Nu n s) (h0 : 0 ≤ n) (x : ByteArray) (hx : D6.txt n s ⟨(Lib.decDigits n.natAbs).toArray⟩ = x) : ∃ A B : List UInt8, NumL (bts x) (A.map UInt8.toNat) (B.map UInt8.toNat) s ∧ x.size ≤ 60 ∧
    D6.Minus x x false ∧ D6.Cuts x ⟨A.toArray⟩ ⟨(if s = 0 then [] else B).toArray⟩ (decide (s ≠ 0)) ∧
    D6.Minus (⟨#[48]⟩ ++ x) (⟨#[48]⟩ ++ x) false ∧ D6.Cuts (⟨#[48]⟩ ++ x) ⟨(48 :: A).toArray⟩ ⟨(if s = 0 then [] else B).toArray⟩ (decide (s ≠ 0)) := by
  have hu : n.natAbs ≤ 9223372036854775808 := by have := hN.n0; have := hN.n1; omega
  have hs18 := hN.t1
  have key : ∃ A B : List UInt8, x.data.toList = A ++ (if s = 0 then [] else 46 :: B) ∧ A ≠ [] ∧ A.all D6.dig10 = true ∧ B.all D6.dig10 = true ∧ B.length = s ∧ A.length ≤ 19 := by
    rw [← hx]
    unfold D6.txt
    rw [if_neg (by omega)]
    by_cases s0 : s = 0
    · obtain ⟨d1, d2, d3, d4⟩ := D6.dec_num _ n.natAbs (Nat.le_refl _)
      refine ⟨Lib.decDigits n.natAbs, [], ?_, d3, d2, rfl, by simp [s0], D6.dec_19 _ hu⟩
      rw [if_pos s0, if_pos s0, List.append_nil]
    · obtain ⟨a, c, e1, e2, e3, e4, e5, e6, e7, e8⟩ := D6.dot_parts n.natAbs s (by omega) hu ⟨(Lib.decDigits n.natAbs).toArray⟩ rfl
      refine ⟨a, c, ?_, e6, e2, e3, e4, e8⟩
      rw [if_neg s0, if_neg s0, e1]
  obtain ⟨A, B, k1, k2, k3, k4, k5, k6⟩ := key
  have d46 : ∀ {l : List UInt8}, l.all D6.dig10 = true → ¬ (46 : UInt8) ∈ l := fun h hm => by
    have := List.all_eq_true.1 h 46 hm
    cases this
  have hhd : ∃ c q, A = c :: q ∧ D6.dig10 c = true := by
    cases A with
    | nil => exact absurd rfl k2
    | cons c q => exact ⟨c, q, rfl, List.all_eq_true.1 k3 c (by simp)⟩
  obtain ⟨c, q, hA, hc⟩ := hhd
  have e0 : (⟨#[48]⟩ ++ x : ByteArray).data.toList = 48 :: x.data.toList := by
    rw [ByteArray.data_append, Array.toList_append]
    rfl
  refine ⟨A, B, ⟨?_, ?_, ?_, ?_, ?_⟩, ?_, ?_, ?_, ?_, ?_⟩
  · rw [bts_map, k1]
    by_cases s0 : s = 0 <;> simp [s0]
  · simpa using k2
  · intro y hy
    obtain ⟨u, hu, rfl⟩ := List.mem_map.1 hy
    exact dg_of (List.all_eq_true.1 k3 u hu)
  · intro y hy
    obtain ⟨u, hu, rfl⟩ := List.mem_map.1 hy
    exact dg_of (List.all_eq_true.1 k4 u hu)
  · rw [List.length_map, k5]
  · have e : x.data.toList.length = x.size := Array.length_toList ..
    rw [← e, k1, List.length_append]
    by_cases s0 : s = 0
    · simp [s0]; omega
    · simp [s0]; omega
  · refine .no ?_ rfl
    rw [k1, hA]
    intro h
    injection h with h
    subst h
    cases hc
  · by_cases s0 : s = 0
    · rw [if_pos s0] at k1 ⊢
      rw [List.append_nil] at k1
      rw [show decide (s ≠ 0) = false by simp [s0]]
      exact .none (by rw [k1]; exact d46 k3) (ByteArray.ext (by rw [← k1])) rfl
    · rw [if_neg s0] at k1 ⊢
      rw [show decide (s ≠ 0) = true by simp [s0]]
      exact .at k1 (d46 k3)
  · refine .no ?_ rfl
    rw [e0]
    intro h
    cases h
  · by_cases s0 : s = 0
    · rw [if_pos s0] at k1 ⊢
      rw [List.append_nil] at k1
      rw [show decide (s ≠ 0) = false by simp [s0]]
      refine .none ?_ (ByteArray.ext (Array.toList_inj.1 (by rw [e0, k1]))) rfl
      rw [e0, k1]
      intro h
      rcases List.mem_cons.1 h with h | h
      · cases h
      · exact d46 k3 h
    · rw [if_neg s0] at k1 ⊢
      rw [show decide (s ≠ 0) = true by simp [s0]]
      refine .at (by rw [e0, k1]; rfl) ?_
      intro h
      rcases List.mem_cons.1 h with h | h
      · cases h
      · exact d46 k3 h
theorem NumL.no39 {l A B : List Nat} {s : Nat} (h : NumL l A B s) : ¬ 39 ∈ l := fun hm => by
  rw [h.eq] at hm
  rcases List.mem_append.1 hm with hm | hm
  · have := h.da 39 hm
    cases this
  · split at hm
    · simp at hm
    · rcases List.mem_cons.1 hm with hm | hm
      · cases hm
      · have := h.db 39 hm
        cases this
/-- Such a text is a number, and not with a nought ahead. -/
theorem num_two {nu : List Nat → Bool} (hnu : ∀ (x R A B : ByteArray) (b d : Bool), x.size ≤ 4096 → D6.Minus x R b → D6.Cuts R A B d → (nu (bts x) = true ↔ D6.Po.e (D6.parseV b d R A B) = 0)) (n : Int) (s : Nat) (hN : D6.Nu n s) (h0 : 0 ≤ n) (x : ByteArray) (hx : D6.txt n s ⟨(Lib.decDigits n.natAbs).toArray⟩ = x) :
    ∃ A B, NumL (bts x) A B s ∧ x.size ≤ 60 ∧ nu (bts x) = true ∧ nu (48 :: bts x) = false := by
  obtain ⟨A, B, hl, hsz, m1, c1, m2, c2⟩ := num_form n s hN h0 x hx
  refine ⟨_, _, hl, hsz, ?_, ?_⟩
  · rw [hnu x _ _ _ _ _ (by omega) m1 c1]
    have := D6.parse_txt n s hN ⟨(Lib.decDigits n.natAbs).toArray⟩ rfl x _ _ false _ (by rw [hx]; exact m1) c1
    rw [this]
    rfl
  · have e : (48 :: bts x) = bts (⟨#[48]⟩ ++ x) := by rw [bts_appL]; rfl
    rw [e]
    have hz : (⟨#[48]⟩ ++ x : ByteArray).size ≤ 4096 := by
      rw [ByteArray.size_append]
      have : (⟨#[48]⟩ : ByteArray).size = 1 := rfl
      omega
    have := hnu _ _ _ _ _ _ hz m2 c2
    cases hq : nu (bts (⟨#[48]⟩ ++ x)) with
    | false => rfl
    | true =>
      have h := this.1 hq
      unfold D6.parseV at h
      rw [if_neg] at h
      · cases h
      · rintro ⟨hw, _⟩
        unfold D6.wholeB at hw
        simp only [Bool.and_eq_true, Bool.or_eq_true, decide_eq_true_eq] at hw
        rcases hw.2 with h | h
        · exact h rfl
        · have h2 : (48 :: A).length = 1 := h
          have h3 := hl.ne
          cases A with
          | nil => exact h3 rfl
          | cons y l => simp at h2
set_option maxRecDepth 8000 in
set_option maxHeartbeats 4000000 in
theorem numbers_walk (v : D6.Vv) (f : v.fit) (w : World) : Calls Tryz.prog 8 #[.agg #[.int .i64 v.k, .int .i64 v.n, .int .i64 v.s, .string v.t, .slice v.na v.nl v.nc, .slice v.ka v.kl v.kc]] w fun e w' => e = .returned (.bool true) ∧ Hid (Below w.heap.size w w') := by
  obtain ⟨k, n, s, tt, na, nl, nc, ka, kl, kc⟩ := v
  have f : -9223372036854775808 ≤ n ∧ n < 9223372036854775808 := f
  show Calls Tryz.prog 8 #[.agg #[.int .i64 k, .int .i64 n, .int .i64 s, .string tt, .slice na nl nc, .slice ka kl kc]] w fun e w' => e = .returned (.bool true) ∧ Hid (Below w.heap.size w w')
  have KI := fun W => D6.isR_any k n s tt na nl nc ka kl kc W
  obtain ⟨V, hV⟩ : ∃ V : List Value, V = [.int .i64 k, .int .i64 n, .int .i64 s, .string tt, .slice na nl nc, .slice ka kl kc] := ⟨_, rfl⟩
  go_enter Tryz.func8, Tryz.ntmps8
  go_wp2_with (refine lx_box rfl 41 (.tmp 0) rfl [.int .i64 k, .int .i64 n, .int .i64 s, .string tt, .slice na nl nc, .slice ka kl kc] rfl ?_)
  intro g w1 hg B1 gr
  have HB1 : Hid (Below w.heap.size w w1) := (Below.refl _ _).grown gr (Nat.le_refl _) (fun k e => by cases e)
  have HK1 : Hid (Blk w1 g 41 [.int .i64 k, .int .i64 n, .int .i64 s, .string tt, .slice na nl nc, .slice ka kl kc]) := B1
  clear B1 gr hg hV
  cases hI : D6.isNum k n s tt nl kl with
  | false =>
    rw [hI] at KI
    go_wp2_with (first | refine lx_ld rfl 41 (.tmp 1) rfl g 0 rfl [.int .i64 k, .int .i64 n, .int .i64 s, .string tt, .slice na nl nc, .slice ka kl kc] _ (fun j u hj => by rw [Nat.zero_add, HK1.out.cell]; exact hj) Tryz.underlying41 rfl s25 ?_ | fail)
    refine (KI _).mono ?_
    rintro e w2 ⟨rfl, q⟩
    have HF : Hid (Below w.heap.size w w2) := HB1.out.trans (Below.mono q HB1.out.size)
    clear q
    go_wp2
    go_ret
    exact ⟨rfl, HF.out⟩
  | true =>
    rw [hI] at KI
    obtain ⟨rfl, rfl, rfl, hks⟩ := D6.isNum_yes hI
    go_wp2_with (first | refine lx_ld rfl 41 (.tmp 1) rfl g 0 rfl [.int .i64 k, .int .i64 n, .int .i64 s, .string ⟨#[]⟩, .slice na 0 nc, .slice ka 0 kc] _ (fun j u hj => by rw [Nat.zero_add, HK1.out.cell]; exact hj) Tryz.underlying41 rfl s25 ?_ | fail)
    refine (KI _).mono ?_
    rintro e w2 ⟨rfl, q⟩
    have HB2 : Hid (Below w.heap.size w w2) := HB1.out.trans (Below.mono q HB1.out.size)
    have HK2 : Hid (Blk w2 g 41 [.int .i64 k, .int .i64 n, .int .i64 s, .string ⟨#[]⟩, .slice na 0 nc, .slice ka 0 kc]) := HK1.out.below q HK1.out.lt
    have c1 : w2.cell? ⟨g, 1, none⟩ = some (.int .i64 n) := HK2.out.cell 1
    clear q HK1 HB1 KI
    by_cases h0 : n < 0
    · go_wp2
      go_ret
      exact ⟨rfl, HB2.out⟩
    obtain ⟨s', rfl⟩ : ∃ s' : Nat, s = (s' : Int) := ⟨s.toNat, by omega⟩
    have KT := fun W => D6.rText_num k n s' hI f na nc ka kc W
    obtain ⟨nu, hNP, hnu⟩ := nup_ex2 w
    have hNu : D6.Nu n s' := ⟨f.1, f.2, by omega, by
      rcases hks with ⟨_, h⟩ | ⟨_, _, _, h⟩
      · left; omega
      · right
        intro e
        apply h
        rw [Int.tmod_eq_emod_of_nonneg (by omega)]
        exact e⟩
    obtain ⟨x, hx⟩ : ∃ x, D6.txt n s' ⟨(Lib.decDigits n.natAbs).toArray⟩ = x := ⟨_, rfl⟩
    rw [hx] at KT
    obtain ⟨A, B, hl, hsz, hn1, hn2⟩ := num_two hnu n s' hNu (by omega) x hx
    have hza : (⟨#[32]⟩ ++ x ++ ⟨#[32]⟩ : ByteArray).size ≤ 4096 := by
      rw [ByteArray.size_append, ByteArray.size_append]
      have : (⟨#[32]⟩ : ByteArray).size = 1 := rfl
      omega
    have hzb : (⟨#[48]⟩ ++ x : ByteArray).size ≤ 4096 := by
      rw [ByteArray.size_append]
      have : (⟨#[48]⟩ : ByteArray).size = 1 := rfl
      omega
    have hba : bts (⟨#[32]⟩ ++ x ++ ⟨#[32]⟩) = [32] ++ bts x ++ [32] := by rw [bts_appL, bts_appL]; rfl
    have hbb : bts (⟨#[48]⟩ ++ x) = 48 :: bts x := by rw [bts_appL]; rfl
    have KA : Hid (∀ W, Below w.heap.size w W → Calls Tryz.prog 9 #[.string (⟨#[32]⟩ ++ x ++ ⟨#[32]⟩)] W fun e w' => LexA W (fun _ => false) nu ([32] ++ bts x ++ [32]) e w' ∧ Hid (Below W.heap.size W w')) := fun W h => by
      have := lex_any (fun _ => false) nu (⟨#[32]⟩ ++ x ++ ⟨#[32]⟩) hza W (fun h39 => absurd h39 (by
        rw [hba]
        intro h
        rcases List.mem_append.1 h with h | h
        · rcases List.mem_append.1 h with h | h
          · simp at h
          · exact hl.no39 h
        · simp at h)) (fun _ => ⟨hNP.1.mono h, hNP.2⟩)
      rw [hba] at this
      exact this
    have KB : Hid (∀ W, Below w.heap.size w W → Calls Tryz.prog 9 #[.string (⟨#[48]⟩ ++ x)] W fun e w' => LexA W (fun _ => false) nu (48 :: bts x) e w' ∧ Hid (Below W.heap.size W w')) := fun W h => by
      have := lex_any (fun _ => false) nu (⟨#[48]⟩ ++ x) hzb W (fun h39 => absurd h39 (by
        rw [hbb]
        intro h
        rcases List.mem_cons.1 h with h | h
        · cases h
        · exact hl.no39 h)) (fun _ => ⟨hNP.1.mono h, hNP.2⟩)
      rw [hbb] at this
      exact this
    have HLA : Hid (lexR (fun _ => false) nu ([32] ++ bts x ++ [32]) 0 = ([(if s' = 0 then 3 else 4, bts x, 1), (8, [], (bts x).length + 2)], none)) := lex_num hl hn1
    have HLB : Hid ((lexR (fun _ => false) nu (48 :: bts x) 0).2 = some 0) := lex_zero hl hn2
    have HKS : Hid (k = 3 ∧ (s' : Int) = 0 ∨ k = 4 ∧ 1 ≤ (s' : Int) ∧ (s' : Int) ≤ 18 ∧ n.tmod 10 ≠ 0) := hks
    clear hNP hnu hNu hx hl hn1 hn2 hza hzb hba hbb hks
    go_wp2_with (first | refine lx_ld rfl 41 (.tmp 1) rfl g 0 rfl [.int .i64 k, .int .i64 n, .int .i64 (s' : Int), .string ⟨#[]⟩, .slice na 0 nc, .slice ka 0 kc] _ (fun j u hj => by rw [Nat.zero_add, HK2.out.cell]; exact hj) Tryz.underlying41 rfl s25 ?_ | fail)
    refine (KT _).mono ?_
    rintro e w3 ⟨rfl, q⟩
    have HB3 : Hid (Below w.heap.size w w3) := HB2.out.trans (Below.mono q HB2.out.size)
    have HK3 : Hid (Blk w3 g 41 [.int .i64 k, .int .i64 n, .int .i64 (s' : Int), .string ⟨#[]⟩, .slice na 0 nc, .slice ka 0 kc]) := HK2.out.below q HK2.out.lt
    clear q HK2 HB2 KT c1
    go_wp2_with fail
    refine (KA.out _ HB3.out).mono ?_
    rintro e w4 ⟨hA, q⟩
    obtain ⟨v4, e4, hR4⟩ := lexA_ok hA (by rw [HLA.out])
    subst e4
    rw [HLA.out] at hR4
    dsimp only at hR4
    obtain ⟨b, c, e5, hb, hr⟩ := TkS.row hR4 (by simp)
    subst e5
    have HB4 : Hid (Below w.heap.size w w4) := HB3.out.trans (q.out.mono HB3.out.size)
    have HK4 : Hid (Blk w4 g 41 [.int .i64 k, .int .i64 n, .int .i64 (s' : Int), .string ⟨#[]⟩, .slice na 0 nc, .slice ka 0 kc]) := HK3.out.below q.out HK3.out.lt
    have c2 : w4.cell? ⟨g, 2, none⟩ = some (.int .i64 (s' : Int)) := HK4.out.cell 2
    have HR4 : Hid (w4.rangeAt b 0 (tk1 (if s' = 0 then 3 else 4, bts x, 1)) ∧ b < w4.heap.size) := ⟨tk_range (j := 0) hr rfl, hb⟩
    clear q HK3 HB3 hA hR4 hr hb KA HLA HK4
    simp only [List.length_cons, List.length_nil]
    by_cases s0 : s' = 0
    · rw [if_pos s0] at HR4
      have y1 : ¬ (0 : Int) < (s' : Int) := by omega
      go_wp2_with fail
      refine (KB.out _ HB4.out).mono ?_
      rintro e w5 ⟨hA, q⟩
      have e4 := lexA_bad hA HLB.out
      subst e4
      have HB5 : Hid (Below w.heap.size w w5) := HB4.out.trans (q.out.mono HB4.out.size)
      have HR5 : Hid (w5.rangeAt b 0 (tk1 (3, bts x, 1))) := range_belowP HR4.out.1 HR4.out.2 q.out
      have c3 : w5.cell? ⟨b, 0, none⟩ = some (.int .i64 3) := HR5.out 0 _ rfl
      have c4 : w5.cell? ⟨b, 1, none⟩ = some (.string x) := HR5.out 1 _ (by simp [tk1, ofB_bts])
      clear q hA HR4 HB4 KB HLB HR5 c2
      go_wp2_with fail
      refine (known_any _).mono ?_
      rintro e w6 ⟨rfl, q⟩
      have HF : Hid (Below w.heap.size w w6) := HB5.out.trans (q.out.mono HB5.out.size)
      clear q
      go_wp2
      go_ret
      exact ⟨rfl, HF.out⟩
    · rw [if_neg s0] at HR4
      have y1 : (0 : Int) < (s' : Int) := by omega
      go_wp2_with fail
      refine (KB.out _ HB4.out).mono ?_
      rintro e w5 ⟨hA, q⟩
      have e4 := lexA_bad hA HLB.out
      subst e4
      have HB5 : Hid (Below w.heap.size w w5) := HB4.out.trans (q.out.mono HB4.out.size)
      have HR5 : Hid (w5.rangeAt b 0 (tk1 (4, bts x, 1))) := range_belowP HR4.out.1 HR4.out.2 q.out
      have c3 : w5.cell? ⟨b, 0, none⟩ = some (.int .i64 4) := HR5.out 0 _ rfl
      have c4 : w5.cell? ⟨b, 1, none⟩ = some (.string x) := HR5.out 1 _ (by simp [tk1, ofB_bts])
      clear q hA HR4 HB4 KB HLB HR5 c2
      go_wp2_with fail
      refine (known_any _).mono ?_
      rintro e w6 ⟨rfl, q⟩
      have HF : Hid (Below w.heap.size w w6) := HB5.out.trans (q.out.mono HB5.out.size)
      clear q
      go_wp2
      go_ret
      exact ⟨rfl, HF.out⟩
end Go.Proofs.YtpfiejmhnkcjbaaGreatDoor
