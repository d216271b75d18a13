/-
  order: the number of a row of bytes, walked. · order: the number of a row of bytes, walked. · order's reader: number. · The document's own reader of order: a number, plain mathematics.
-/
import Derived.Test.YtmlfhplhiedfjaaGreatDoorOG23x
import Derived.Test.YtmlfhplhiedfjaaGreatDoorOUc
import Derived.Test.YtmlfhplhiedfjaaGreatDoorOG13x
namespace Go.Proofs.YtmlfhplhiedfjaaGreatDoor
open Go.RowKit Math
set_option linter.unusedVariables false
set_option linter.unusedSimpArgs false

set_option maxRecDepth 8000 in
set_option maxHeartbeats 2000000 in
theorem numO_false (g c : Nat) (G : List Nat) (x : Nat) (D : List Nat) (z : Nat) (W : World) (hG : G = x :: (D ++ [z])) (hcl : Cells W g 0 G) (hfz : ∀ i, i < G.length → W.frozen? ⟨g, i, none⟩ = false) (hoc : Oct G) (hl : G.length ≤ 1000000000) (hc : c ≤ 9223372036854775807) (hlc : G.length ≤ c) :
    Calls Tryz.prog 88 #[.slice (some ⟨g, 0, none⟩) G.length c, .bool false] W fun e w' => e = .returned (.tuple #[.agg #[.int .i64 (D6.mkR (nuF false (szF x D)) (scF x D)).k, .int .i64 (D6.mkR (nuF false (szF x D)) (scF x D)).n, .int .i64 (D6.mkR (nuF false (szF x D)) (scF x D)).s, .string ⟨#[]⟩, .slice none 0 0, .slice none 0 0], .int .i64 (D6.mkR (nuF false (szF x D)) (scF x D)).e]) ∧ Hid (W.grownBy w' (some g)) := by
  have hN : G.length = D.length + 2 := by
    have := congrArg List.length hG
    
    simpa using this
  have ho2 : Oct (x :: (D ++ [z])) := by rw [← hG]; exact hoc
  have hx : x < 256 := ho2 x (by simp)
  have HOd : Hid (∀ k, D.getD k 0 < 256) := fun k => oct_get (fun y hy => ho2 y (by simp [hy])) k
  have hgW : g < W.heap.size := cell_lt (hcl 0 (by omega))
  have HCl : Hid (Cells W g 0 G ∧ (∀ i, i < G.length → W.frozen? ⟨g, i, none⟩ = false) ∧ Oct G) := ⟨hcl, hfz, hoc⟩
  have HGe : Hid (G = x :: (D ++ [z])) := hG
  clear hcl hfz hoc hG ho2
  obtain ⟨N, hNe⟩ : ∃ N, N = G.length := ⟨_, rfl⟩
  rw [← hNe] at hN hl hlc
  rw [← hNe]
  have hc1 : ¬ c = 1 := by omega
  obtain ⟨R, hR⟩ : ∃ R, D6.mkR (nuF false (szF x D)) (scF x D) = R := ⟨_, rfl⟩
  rw [hR]
  have HRe : Hid (D6.mkR (nuF false (szF x D)) (scF x D) = R) := hR
  clear hR
  have hD : D.length ≤ 1000000000 := by omega
  have hn1 : ((N : Nat) : Int) - 1 = ((D.length + 1 : Nat) : Int) := by omega
  go_enter Tryz.func88, Tryz.ntmps88
  go_wp2_with (refine al_zero rfl 38 rfl zer zV ?_)
  intro gv w1 hgv hb1 hg1
  have hne : g ≠ gv := by omega
  have HB1 : Hid (Blk w1 gv 38 zer) := hb1
  have HG1 : Hid (W.grownBy w1 none) := hg1
  have HC1 : Hid (Cells w1 g 0 G ∧ (∀ i, i < G.length → w1.frozen? ⟨g, i, none⟩ = false) ∧ Oct G) := by
    have hbl := hg1.block g hgW (by simp)
    refine ⟨fun i hi => ?_, fun i hi => ?_, HCl.out.2.2⟩
    · have := HCl.out.1 i hi
      unfold World.cell? at this ⊢
      simp only [hbl]
      exact this
    · have := HCl.out.2.1 i hi
      unfold World.frozen? at this ⊢
      simp only [hbl]
      exact this
  clear hb1 hg1 HCl
  obtain ⟨w2, rfl⟩ : ∃ w2, w2 = w1 := ⟨_, rfl⟩
  have HC2 : Hid (Cells w2 g 0 (x :: (D ++ [z]))) := by rw [← HGe.out]; exact HC1.out.1
  have HB2 : Hid (Blk w2 gv 38 zer) := HB1.out
  have HG2 : Hid (W.grownBy w2 (some g)) := by
    have h1 := HG1.out
    exact ⟨h1.os, h1.tape, h1.output, h1.size, fun y hy hne => h1.block y hy (by simp)⟩
  clear HC1 HB1 HG1 HGe hNe hl

  -- the row as it is read
  have c0 : w2.cell? ⟨g, 0, none⟩ = some (.int .u8 (x : Int)) := HC2.out 0 (by simp)
  have HCk : Hid (∀ k, k < D.length → ∀ q, (w2.drewN q).cell? ⟨g, 1 + k, none⟩ = some (.int .u8 ((D.getD k 0 : Nat) : Int))) := fun k hk q => by
    have := HC2.out (1 + k) (by simp; omega)
    rw [Nat.zero_add] at this
    rw [Nat.add_comm 1 k] at this ⊢
    simp only [List.getD_cons_succ] at this
    rw [show (D ++ [z]).getD k 0 = D.getD k 0 by rw [List.getD_eq_getElem?_getD, List.getD_eq_getElem?_getD, List.getElem?_append_left hk]] at this
    simpa using this
  clear HC2
  go_wp2
  go_quiet (fail)
  have HB3 : Hid (Blk (w2.drewN nq) gv 38 zer) := HB2.out.dq nq
  have HG3 : Hid (W.grownBy (w2.drewN nq) (some g)) := HG2.out.trans (grown_dq _ _ _)
  have HC3 : Hid (∀ k, k < D.length → (w2.drewN nq).cell? ⟨g, 1 + k, none⟩ = some (.int .u8 ((D.getD k 0 : Nat) : Int))) := fun k hk => HCk.out k hk nq
  generalize w2.drewN nq = w3 at *
  clear HB2 HG2 HCk c0
  go_wp2
  go_loop [8, 10, 27] (fun sz _ i => ∃ (k a : Nat), k ≤ D.length ∧ i = .int .i64 (k : Int) ∧ sz = .int .u64 (a : Int) ∧ a < 18446744073709551616 ∧ Hid (dgF D k = a)) (fun sz _ i => D.length - (intOf i).toNat)
  case atStart => exact ⟨0, 0, by omega, rfl, rfl, by omega, rfl⟩
  case round =>
    obtain ⟨k, a, hk, rfl, rfl, ha, HA⟩ := hrel
    by_cases hlt : k < D.length
    · have ck := HC3.out k hlt
      have hdx : D.getD k 0 < 256 := HOd.out k
      have HD := dgF_succ D k hlt
      rw [HA.out] at HD
      have HD2 : Hid (dgF D (k + 1) = (a * 10 + (D.getD k 0 + 255) % 256) % 18446744073709551616) := HD
      clear HD
      generalize D.getD k 0 = dk at *
      obtain ⟨a2, h3⟩ : ∃ a2 : Nat, a2 = (a * 10 + (dk + 255) % 256) % 18446744073709551616 := ⟨_, rfl⟩
      have HR : Hid (dgF D (k + 1) = a2 ∧ a2 < 18446744073709551616) := ⟨by rw [HD2.out, h3], by omega⟩
      have HS : Hid (a2 = (a * 10 + (dk + 255) % 256) % 18446744073709551616) := h3
      clear h3
      clear HD2 HA
      go_wp2
      go_round
      case rel => exact ⟨k + 1, a2, by omega, by go_num, (by have := HS.out; congr 1; simp only [IntKind.wrap_u64, IntKind.wrap_u8]; omega), HR.out.2, HR.out.1⟩
      case measure => simp [intOf]; omega
    · have hkn : k = D.length := by omega
      subst hkn
      obtain ⟨p, hp⟩ : ∃ p : Int, p = (x : Int) - 192 - (D.length : Int) := ⟨_, rfl⟩
      have hpt : nou x D = p.toNat := by unfold nou; rw [hp]
      have HSz : Hid (szF x D = tenF p.toNat a) := by
        show _ = _
        unfold szF
        rw [hpt, HA.out]
      clear HA hlt hpt
      go_wp2
      rw [← hp]
      go_loop [8, 42] (fun sz i => ∃ (k b : Nat), (k : Int) ≤ max p 0 ∧ i = .int .i64 (k : Int) ∧ sz = .int .u64 (b : Int) ∧ b < 18446744073709551616 ∧ Hid (tenF k a = b)) (fun sz i => p.toNat - (intOf i).toNat)
      case atStart => exact ⟨0, a, by omega, rfl, rfl, ha, rfl⟩
      case round =>
        obtain ⟨k, b, hk, rfl, rfl, hb, HT⟩ := hrel
        by_cases hlt : (k : Int) < p
        · obtain ⟨b1, h1⟩ : ∃ b1 : Nat, b1 = b * 10 % 18446744073709551616 := ⟨_, rfl⟩
          have HR : Hid (tenF (k + 1) a = b1 ∧ b1 < 18446744073709551616) := ⟨by rw [tenF, HT.out, h1], by omega⟩
          have HS : Hid (b1 = b * 10 % 18446744073709551616) := h1
          clear HT h1
          go_wp2
          go_round
          case rel => exact ⟨k + 1, b1, by omega, by go_num, (by have := HS.out; congr 1; first | (simp only [IntKind.wrap_u64]; omega) | omega), HR.out.2, HR.out.1⟩
          case measure => simp [intOf]; omega
        · have hkp : k = p.toNat := by omega
          have hbs : szF x D = b := by rw [HSz.out, ← hkp, HT.out]
          have hsl : scF x D < 9223372036854775808 := by unfold scF; omega
          have K : Hid (Calls Tryz.prog 126 #[.int .i64 (wrap64 (b : Int)), .int .i64 (max ((D.length : Int) - ((x : Int) - 192)) 0)] w3 fun e w' => e = .returned (.tuple #[.agg #[.int .i64 R.k, .int .i64 R.n, .int .i64 R.s, .string ⟨#[]⟩, .slice none 0 0, .slice none 0 0], .int .i64 R.e]) ∧ D6.Grow w3 w') := by
            have h1 : nuF false (szF x D) = (wrap64 (b : Int)) := by rw [hbs]; exact nuF_false b
            have h2 := D6.make_any (nuF false (szF x D)) (scF x D) (nuF_fit _ _) hsl w3
            rw [HRe.out, h1, scF_eq] at h2
            exact h2
          clear HSz HT hkp hbs hsl
          go_wp2_with fail
          refine K.out.mono ?_
          rintro e w4 ⟨rfl, g4⟩
          have g4' : Below w3.heap.size w3 w4 := g4
          have HB4 : Hid (Blk w4 gv 38 zer) := HB3.out.below g4' HB3.out.lt
          have HG4 : Hid (W.grownBy w4 (some g)) := by
            have h1 := HG3.out
            exact ⟨g4'.os.trans h1.os, g4'.tape.trans h1.tape, g4'.output.trans h1.output, Nat.le_trans h1.size g4'.size, fun y hy hne => (g4'.block y (Nat.lt_of_lt_of_le hy h1.size)).trans (h1.block y hy hne)⟩
          clear K HB3 HG3 HC3 g4 g4'
          go_wp2_with (refine st_all rfl 38 (.tmp 4) (.tmp 59) rfl gv 38 zer [.int .i64 R.k, .int .i64 R.n, .int .i64 R.s, .string ⟨#[]⟩, .slice none 0 0, .slice none 0 0] rfl rfl HB4.out rfl sV (D6.ones rfl) ?_)
          intro w5 b5 g5
          have HB5 : Hid (Blk w5 gv 38 [.int .i64 R.k, .int .i64 R.n, .int .i64 R.s, .string ⟨#[]⟩, .slice none 0 0, .slice none 0 0]) := b5
          have HG5 : Hid (W.grownBy w5 (some g)) := by
            have h1 := HG4.out
            exact ⟨g5.os.trans h1.os, g5.tape.trans h1.tape, g5.output.trans h1.output, Nat.le_trans h1.size g5.size, fun y hy hne => (g5.block y (Nat.lt_of_lt_of_le hy h1.size) (by intro e; injection e with e; omega)).trans (h1.block y hy hne)⟩
          clear b5 g5 HB4 HG4
          go_wp2
          exact bodyPost_ret (D6.res_two rfl _ gv 38 _ _ rfl HB5.out Tryz.underlying38 rfl sV) rfl ⟨rfl, HG5.out⟩
end Go.Proofs.YtmlfhplhiedfjaaGreatDoor
namespace Go.Proofs.YtmlfhplhiedfjaaGreatDoor
open Go.RowKit Math
set_option linter.unusedVariables false
set_option linter.unusedSimpArgs false

set_option maxRecDepth 8000 in
set_option maxHeartbeats 2000000 in
theorem numO_true (g c : Nat) (G : List Nat) (x : Nat) (D : List Nat) (z : Nat) (W : World) (hG : turnB G = x :: (D ++ [z])) (hcl : Cells W g 0 G) (hfz : ∀ i, i < G.length → W.frozen? ⟨g, i, none⟩ = false) (hoc : Oct G) (hl : G.length ≤ 1000000000) (hc : c ≤ 9223372036854775807) (hlc : G.length ≤ c) :
    Calls Tryz.prog 88 #[.slice (some ⟨g, 0, none⟩) G.length c, .bool true] W fun e w' => e = .returned (.tuple #[.agg #[.int .i64 (D6.mkR (nuF true (szF x D)) (scF x D)).k, .int .i64 (D6.mkR (nuF true (szF x D)) (scF x D)).n, .int .i64 (D6.mkR (nuF true (szF x D)) (scF x D)).s, .string ⟨#[]⟩, .slice none 0 0, .slice none 0 0], .int .i64 (D6.mkR (nuF true (szF x D)) (scF x D)).e]) ∧ Hid (W.grownBy w' (some g)) := by
  have hN : G.length = D.length + 2 := by
    have := congrArg List.length hG
    rw [turnB, List.length_map] at this
    simpa using this
  have ho2 : Oct (x :: (D ++ [z])) := by rw [← hG]; exact turnB_oct _
  have hx : x < 256 := ho2 x (by simp)
  have HOd : Hid (∀ k, D.getD k 0 < 256) := fun k => oct_get (fun y hy => ho2 y (by simp [hy])) k
  have hgW : g < W.heap.size := cell_lt (hcl 0 (by omega))
  have HCl : Hid (Cells W g 0 G ∧ (∀ i, i < G.length → W.frozen? ⟨g, i, none⟩ = false) ∧ Oct G) := ⟨hcl, hfz, hoc⟩
  have HGe : Hid (turnB G = x :: (D ++ [z])) := hG
  clear hcl hfz hoc hG ho2
  obtain ⟨N, hNe⟩ : ∃ N, N = G.length := ⟨_, rfl⟩
  rw [← hNe] at hN hl hlc
  rw [← hNe]
  have hc1 : ¬ c = 1 := by omega
  obtain ⟨R, hR⟩ : ∃ R, D6.mkR (nuF true (szF x D)) (scF x D) = R := ⟨_, rfl⟩
  rw [hR]
  have HRe : Hid (D6.mkR (nuF true (szF x D)) (scF x D) = R) := hR
  clear hR
  have hD : D.length ≤ 1000000000 := by omega
  have hn1 : ((N : Nat) : Int) - 1 = ((D.length + 1 : Nat) : Int) := by omega
  go_enter Tryz.func88, Tryz.ntmps88
  go_wp2_with (refine al_zero rfl 38 rfl zer zV ?_)
  intro gv w1 hgv hb1 hg1
  have hne : g ≠ gv := by omega
  have HB1 : Hid (Blk w1 gv 38 zer) := hb1
  have HG1 : Hid (W.grownBy w1 none) := hg1
  have HC1 : Hid (Cells w1 g 0 G ∧ (∀ i, i < G.length → w1.frozen? ⟨g, i, none⟩ = false) ∧ Oct G) := by
    have hbl := hg1.block g hgW (by simp)
    refine ⟨fun i hi => ?_, fun i hi => ?_, HCl.out.2.2⟩
    · have := HCl.out.1 i hi
      unfold World.cell? at this ⊢
      simp only [hbl]
      exact this
    · have := HCl.out.2.1 i hi
      unfold World.frozen? at this ⊢
      simp only [hbl]
      exact this
  clear hb1 hg1 HCl
  have K := trc_any g c G w1 HC1.out.1 HC1.out.2.1 HC1.out.2.2 (by omega) hc (by omega)
  rw [← hNe, hN] at K
  go_wp2_with fail
  refine K.mono ?_
  rintro e w2 ⟨rfl, H2⟩
  have HC2 : Hid (Cells w2 g 0 (x :: (D ++ [z]))) := by rw [← HGe.out]; exact H2.out.1
  have HB2 : Hid (Blk w2 gv 38 zer) := HB1.out.kept H2.out.2 (by intro e; injection e with e; omega)
  have HG2 : Hid (W.grownBy w2 (some g)) := by
    have h1 := HG1.out
    have h2 := H2.out.2
    exact ⟨h2.os.trans h1.os, h2.tape.trans h1.tape, h2.output.trans h1.output, Nat.le_trans h1.size h2.size, fun y hy hne => (h2.block y (Nat.lt_of_lt_of_le hy h1.size) hne).trans (h1.block y hy (by simp))⟩
  clear K H2 HC1 HB1 HG1 HGe hNe hl

  -- the row as it is read
  have c0 : w2.cell? ⟨g, 0, none⟩ = some (.int .u8 (x : Int)) := HC2.out 0 (by simp)
  have HCk : Hid (∀ k, k < D.length → ∀ q, (w2.drewN q).cell? ⟨g, 1 + k, none⟩ = some (.int .u8 ((D.getD k 0 : Nat) : Int))) := fun k hk q => by
    have := HC2.out (1 + k) (by simp; omega)
    rw [Nat.zero_add] at this
    rw [Nat.add_comm 1 k] at this ⊢
    simp only [List.getD_cons_succ] at this
    rw [show (D ++ [z]).getD k 0 = D.getD k 0 by rw [List.getD_eq_getElem?_getD, List.getD_eq_getElem?_getD, List.getElem?_append_left hk]] at this
    simpa using this
  clear HC2
  go_wp2
  go_quiet (fail)
  have HB3 : Hid (Blk (w2.drewN nq) gv 38 zer) := HB2.out.dq nq
  have HG3 : Hid (W.grownBy (w2.drewN nq) (some g)) := HG2.out.trans (grown_dq _ _ _)
  have HC3 : Hid (∀ k, k < D.length → (w2.drewN nq).cell? ⟨g, 1 + k, none⟩ = some (.int .u8 ((D.getD k 0 : Nat) : Int))) := fun k hk => HCk.out k hk nq
  generalize w2.drewN nq = w3 at *
  clear HB2 HG2 HCk c0
  go_wp2
  go_loop [8, 10, 27] (fun sz _ i => ∃ (k a : Nat), k ≤ D.length ∧ i = .int .i64 (k : Int) ∧ sz = .int .u64 (a : Int) ∧ a < 18446744073709551616 ∧ Hid (dgF D k = a)) (fun sz _ i => D.length - (intOf i).toNat)
  case atStart => exact ⟨0, 0, by omega, rfl, rfl, by omega, rfl⟩
  case round =>
    obtain ⟨k, a, hk, rfl, rfl, ha, HA⟩ := hrel
    by_cases hlt : k < D.length
    · have ck := HC3.out k hlt
      have hdx : D.getD k 0 < 256 := HOd.out k
      have HD := dgF_succ D k hlt
      rw [HA.out] at HD
      have HD2 : Hid (dgF D (k + 1) = (a * 10 + (D.getD k 0 + 255) % 256) % 18446744073709551616) := HD
      clear HD
      generalize D.getD k 0 = dk at *
      obtain ⟨a2, h3⟩ : ∃ a2 : Nat, a2 = (a * 10 + (dk + 255) % 256) % 18446744073709551616 := ⟨_, rfl⟩
      have HR : Hid (dgF D (k + 1) = a2 ∧ a2 < 18446744073709551616) := ⟨by rw [HD2.out, h3], by omega⟩
      have HS : Hid (a2 = (a * 10 + (dk + 255) % 256) % 18446744073709551616) := h3
      clear h3
      clear HD2 HA
      go_wp2
      go_round
      case rel => exact ⟨k + 1, a2, by omega, by go_num, (by have := HS.out; congr 1; simp only [IntKind.wrap_u64, IntKind.wrap_u8]; omega), HR.out.2, HR.out.1⟩
      case measure => simp [intOf]; omega
    · have hkn : k = D.length := by omega
      subst hkn
      obtain ⟨p, hp⟩ : ∃ p : Int, p = (x : Int) - 192 - (D.length : Int) := ⟨_, rfl⟩
      have hpt : nou x D = p.toNat := by unfold nou; rw [hp]
      have HSz : Hid (szF x D = tenF p.toNat a) := by
        show _ = _
        unfold szF
        rw [hpt, HA.out]
      clear HA hlt hpt
      go_wp2
      rw [← hp]
      go_loop [8, 42] (fun sz i => ∃ (k b : Nat), (k : Int) ≤ max p 0 ∧ i = .int .i64 (k : Int) ∧ sz = .int .u64 (b : Int) ∧ b < 18446744073709551616 ∧ Hid (tenF k a = b)) (fun sz i => p.toNat - (intOf i).toNat)
      case atStart => exact ⟨0, a, by omega, rfl, rfl, ha, rfl⟩
      case round =>
        obtain ⟨k, b, hk, rfl, rfl, hb, HT⟩ := hrel
        by_cases hlt : (k : Int) < p
        · obtain ⟨b1, h1⟩ : ∃ b1 : Nat, b1 = b * 10 % 18446744073709551616 := ⟨_, rfl⟩
          have HR : Hid (tenF (k + 1) a = b1 ∧ b1 < 18446744073709551616) := ⟨by rw [tenF, HT.out, h1], by omega⟩
          have HS : Hid (b1 = b * 10 % 18446744073709551616) := h1
          clear HT h1
          go_wp2
          go_round
          case rel => exact ⟨k + 1, b1, by omega, by go_num, (by have := HS.out; congr 1; first | (simp only [IntKind.wrap_u64]; omega) | omega), HR.out.2, HR.out.1⟩
          case measure => simp [intOf]; omega
        · have hkp : k = p.toNat := by omega
          have hbs : szF x D = b := by rw [HSz.out, ← hkp, HT.out]
          have hsl : scF x D < 9223372036854775808 := by unfold scF; omega
          have K : Hid (Calls Tryz.prog 126 #[.int .i64 (wrap64 (-(wrap64 (b : Int)))), .int .i64 (max ((D.length : Int) - ((x : Int) - 192)) 0)] w3 fun e w' => e = .returned (.tuple #[.agg #[.int .i64 R.k, .int .i64 R.n, .int .i64 R.s, .string ⟨#[]⟩, .slice none 0 0, .slice none 0 0], .int .i64 R.e]) ∧ D6.Grow w3 w') := by
            have h1 : nuF true (szF x D) = (wrap64 (-(wrap64 (b : Int)))) := by rw [hbs]; exact nuF_true b
            have h2 := D6.make_any (nuF true (szF x D)) (scF x D) (nuF_fit _ _) hsl w3
            rw [HRe.out, h1, scF_eq] at h2
            exact h2
          clear HSz HT hkp hbs hsl
          go_wp2_with fail
          refine K.out.mono ?_
          rintro e w4 ⟨rfl, g4⟩
          have g4' : Below w3.heap.size w3 w4 := g4
          have HB4 : Hid (Blk w4 gv 38 zer) := HB3.out.below g4' HB3.out.lt
          have HG4 : Hid (W.grownBy w4 (some g)) := by
            have h1 := HG3.out
            exact ⟨g4'.os.trans h1.os, g4'.tape.trans h1.tape, g4'.output.trans h1.output, Nat.le_trans h1.size g4'.size, fun y hy hne => (g4'.block y (Nat.lt_of_lt_of_le hy h1.size)).trans (h1.block y hy hne)⟩
          clear K HB3 HG3 HC3 g4 g4'
          go_wp2_with (refine st_all rfl 38 (.tmp 4) (.tmp 59) rfl gv 38 zer [.int .i64 R.k, .int .i64 R.n, .int .i64 R.s, .string ⟨#[]⟩, .slice none 0 0, .slice none 0 0] rfl rfl HB4.out rfl sV (D6.ones rfl) ?_)
          intro w5 b5 g5
          have HB5 : Hid (Blk w5 gv 38 [.int .i64 R.k, .int .i64 R.n, .int .i64 R.s, .string ⟨#[]⟩, .slice none 0 0, .slice none 0 0]) := b5
          have HG5 : Hid (W.grownBy w5 (some g)) := by
            have h1 := HG4.out
            exact ⟨g5.os.trans h1.os, g5.tape.trans h1.tape, g5.output.trans h1.output, Nat.le_trans h1.size g5.size, fun y hy hne => (g5.block y (Nat.lt_of_lt_of_le hy h1.size) (by intro e; injection e with e; omega)).trans (h1.block y hy hne)⟩
          clear b5 g5 HB4 HG4
          go_wp2
          exact bodyPost_ret (D6.res_two rfl _ gv 38 _ _ rfl HB5.out Tryz.underlying38 rfl sV) rfl ⟨rfl, HG5.out⟩
end Go.Proofs.YtmlfhplhiedfjaaGreatDoor
namespace Go.Proofs.YtmlfhplhiedfjaaGreatDoor
open Go.RowKit Math
set_option linter.unusedVariables false
set_option linter.unusedSimpArgs false
theorem Rd.weak {α : Type} {enc : α → List Nat} {Ps Ps' Pc : α → Prop} {l l' : List Nat} {b b' : Bool} {x : α} (h : Rd enc Ps Pc l b l' b' x) (hp : Ps' x → Ps x) : Rd enc Ps' Pc l b l' b' x :=
  ⟨h.suf, fun e => ⟨(h.so e).1, fun p => (h.so e).2 (hp p)⟩, h.co⟩
/-- Where a number's key is read. -/
theorem num_co {l l1 l2 : List Nat} {bad bad1 bad2 : Bool} {x : Nat} {s : ByteArray} (hne : ∀ t, l ≠ 128 :: t) (R1 : Rb l bad l1 bad1 x) (U : Un [if x < 128 then 255 else 0] l1 bad1 l2 bad2 s) (hb : bad = false) {h : Hd} {m : List Nat} (H : NumOk h) (hl : l = numB h.n h.s ++ m) :
    bad2 = false ∧ l2 = m ∧ x :: (bts s ++ [if x < 128 then 255 else 0]) = numB h.n h.s ∧ D6.mkR (nuF (decide (x < 128)) (szF (if x < 128 then 255 - x else x) (if x < 128 then turnB (bts s) else bts s))) (scF (if x < 128 then 255 - x else x) (if x < 128 then turnB (bts s) else bts s)) = .ok h.n h.s.toNat := by
  by_cases hn : h.n = 0
  · exfalso
    have : numB h.n h.s = [128] := by unfold numB; rw [if_pos hn]
    rw [this] at hl
    exact hne m hl
  · obtain ⟨x', D', e1, e2, e3, e4, e5⟩ := numB_shape H hn
    rw [e1, List.cons_append, List.append_assoc] at hl
    obtain ⟨b1, b2, b3⟩ := R1.co hb x' (D' ++ ([if h.n < 0 then 255 else 0] ++ m)) trivial hl
    subst b2
    have hif : (if x < 128 then (255 : Nat) else 0) = if h.n < 0 then 255 else 0 := by
      by_cases hx : x < 128
      · rw [if_pos hx, if_pos (e3.1 hx)]
      · rw [if_neg hx, if_neg (fun e => hx (e3.2 e))]
    rw [hif] at U ⊢
    obtain ⟨c1, c2, c3⟩ := U.co b1 D' m b3 (fun j hj => by
      rw [b3, List.drop_append_of_le_length (by omega)]
      rw [List.drop_eq_getElem_cons hj, List.cons_append]
      simp only [List.isPrefixOf, Bool.and_true, beq_eq_false_iff_ne]
      exact fun e => e4 _ (List.getElem_mem hj) e.symm)
    refine ⟨c1, c3, by rw [c2, e1], ?_⟩
    have hdec : decide (x < 128) = decide (h.n < 0) := by rw [decide_eq_decide]; exact e3
    have hxd : (if x < 128 then 255 - x else x) = kyP h.n.natAbs h.s ∧ (if x < 128 then turnB (bts s) else bts s) = kyD h.n.natAbs := by
      rw [e1] at e5
      rw [c2]
      by_cases hx : x < 128
      · have hn0 := e3.1 hx
        simp only [if_pos hx, if_pos hn0] at e5 ⊢
        simp only [turnB, List.map_cons, List.map_append, List.map_nil] at e5 ⊢
        injection e5 with f1 f2
        exact ⟨f1, List.append_inj_left' f2 rfl⟩
      · have hn0 : ¬ h.n < 0 := fun e => hx (e3.2 e)
        simp only [if_neg hx, if_neg hn0] at e5 ⊢
        injection e5 with f1 f2
        exact ⟨f1, List.append_inj_left' f2 rfl⟩
    rw [hdec, hxd.1, hxd.2]
    exact mkR_read H hn
theorem zero_num {h : Hd} (H : NumOk h) (hn : h.n = 0) : h = ⟨3, 0, 0, ⟨#[]⟩, []⟩ := by
  obtain ⟨n0, n1, s0, s1, hr, hk, hz⟩ := num_parts H
  have := hz hn
  rw [this] at hk
  exact hd_eq hk hn this H.2.2.2.1 H.2.2.2.2
theorem own_nil (w : World) (B : Nat) (hB : B ≤ w.heap.size) : Own w B (.slice none 0 0) [] := ⟨rfl, .inl ⟨rfl, rfl⟩⟩
/-- What a number's value is. -/
structure NuH (h : Hd) : Prop where
  ok : Hok h
  t : h.t = ⟨#[]⟩
  ns : h.ns = []
  k : h.k = 0 ∨ h.k = 3 ∨ h.k = 4
theorem nuH_mk (n s : Int) : NuH ⟨(D6.mkR n s).k, (D6.mkR n s).n, (D6.mkR n s).s, ⟨#[]⟩, []⟩ := by
  rcases mkR_out n s with ⟨_, h2, h3, h4, h5, h6⟩ | ⟨_, h2, h3, h4⟩
  · refine ⟨⟨?_, ?_, h3, h4, ?_, ?_, Nat.zero_le _, Nat.zero_le _, fun x hx => by cases hx⟩, rfl, rfl, .inr h2⟩
    all_goals (simp only; omega)
  · refine ⟨⟨?_, ?_, ?_, ?_, ?_, ?_, Nat.zero_le _, Nat.zero_le _, fun x hx => by cases hx⟩, rfl, rfl, .inl h2⟩
    all_goals (simp only; omega)
theorem Ko.kept {r : Nat} {k : ByteArray} {W w1 w2 : World} {i : Nat} {b : Bool} {g : Nat} (h : Ko r k W w1 i b) (k2 : w1.grownBy w2 (some g)) (hg : W.heap.size ≤ g) (hr : r < W.heap.size) : Ko r k W w2 i b :=
  ⟨h.blk.kept k2 (by intro e; injection e with e; omega), h.le, ⟨k2.os.trans h.gr.os, k2.tape.trans h.gr.tape, k2.output.trans h.gr.output, Nat.le_trans h.gr.size k2.size, fun x hx hne => (k2.block x (Nat.lt_of_lt_of_le hx h.gr.size) (by intro e; injection e with e; omega)).trans (h.gr.block x hx hne)⟩⟩
theorem Ko.grown {r : Nat} {k : ByteArray} {W w1 w2 : World} {i : Nat} {b : Bool} (h : Ko r k W w1 i b) (k2 : w1.grownBy w2 none) : Ko r k W w2 i b :=
  ⟨h.blk.kept k2 (by simp), h.le, ⟨k2.os.trans h.gr.os, k2.tape.trans h.gr.tape, k2.output.trans h.gr.output, Nat.le_trans h.gr.size k2.size, fun x hx hne => (k2.block x (Nat.lt_of_lt_of_le hx h.gr.size) (by simp)).trans (h.gr.block x hx hne)⟩⟩
end Go.Proofs.YtmlfhplhiedfjaaGreatDoor
namespace Go.Proofs.YtmlfhplhiedfjaaGreatDoor
open Go.RowKit Math
set_option linter.unusedVariables false
set_option linter.unusedSimpArgs false
def tn (neg : Bool) (y : Nat) : Nat := if neg then 255 - y else y
theorem tn_tn (neg : Bool) (y : Nat) (h : y < 256) : tn neg (tn neg y) = y := by
  unfold tn; cases neg <;> simp; omega
theorem tn_lt (neg : Bool) (y : Nat) (h : y < 256) : tn neg y < 256 := by
  unfold tn; cases neg <;> simp <;> omega
theorem numB_tn {h : Hd} (hn : h.n ≠ 0) : numB h.n h.s = (kyP h.n.natAbs h.s :: (kyD h.n.natAbs ++ [0])).map (tn (decide (h.n < 0))) := by
  unfold numB
  rw [if_neg hn, posB_parts]
  by_cases h0 : h.n < 0
  · rw [if_pos h0, decide_eq_true h0]
    rfl
  · rw [if_neg h0, decide_eq_false h0]
    conv => lhs; rw [← List.map_id (kyP h.n.natAbs h.s :: (kyD h.n.natAbs ++ [0]))]
    rfl
def vD (D : List Nat) : Nat := dvl (D.map (· - 1))
theorem vD_snoc (D : List Nat) (d : Nat) : vD (D ++ [d]) = vD D * 10 + (d - 1) := by
  unfold vD; rw [List.map_append, List.map_singleton, dvl_snoc]
theorem vD_pre (D u : List Nat) : vD D * 10 ^ u.length ≤ vD (D ++ u) := by
  induction u generalizing D with
  | nil => simp
  | cons a u ih =>
    have h1 := ih (D ++ [a])
    rw [vD_snoc] at h1
    rw [List.append_assoc, List.singleton_append] at h1
    refine Nat.le_trans ?_ h1
    rw [List.length_cons, Nat.pow_succ, Nat.mul_comm (10 ^ u.length) 10, ← Nat.mul_assoc]
    exact Nat.mul_le_mul_right _ (by omega)
theorem vD_ky (m : Nat) : vD (kyD m) = dvl (trz (dgs 20 m)) := by
  unfold vD kyD
  rw [List.map_map]
  congr 1
  conv => rhs; rw [← List.map_id (trz (dgs 20 m))]
  apply List.map_congr_left
  intro x _
  simp
theorem ky_val (m : Nat) (s : Int) (hm : m < 10000000000000000000) (hm0 : m ≠ 0) (hs0 : 0 ≤ s) (hs1 : s ≤ 18) (hs : s = 0 ∨ m % 10 ≠ 0) :
    vD (kyD m) * 10 ^ nou (kyP m s) (kyD m) = m ∧ ((kyD m).length : Int) + (nou (kyP m s) (kyD m) : Int) - ((kyP m s : Int) - 192) = s ∧ (kyD m).length + nou (kyP m s) (kyD m) ≤ 19 := by
  have e1 : dvl (dgs 20 m) = m := dvl_dgs 20 m (by show m < 10 ^ 20; omega)
  have e2 := trz_split _ (dgs 20 m) rfl
  have e3 := trz_len (dgs 20 m)
  have e4 : 0 < (dgs 20 m).length := dgs_pos 19 m hm0
  have e5 : (dgs 20 m).length ≤ 19 := by
    rw [dgs_fuel 19 m (by show m < 10 ^ 19; omega) 20 (by omega)]
    exact dgs_len 19 m
  have e6 : s ≠ 0 → (trz (dgs 20 m)).length = (dgs 20 m).length := fun h => by
    have hx : m % 10 ≠ 0 := by
      rcases hs with e | e
      · exact absurd e h
      · exact e
    rw [show dgs 20 m = dgs 19 (m / 10) ++ [m % 10] by rw [dgs, if_neg hm0], trz_snoc_n _ _ hx]
  have hkD : (kyD m).length = (trz (dgs 20 m)).length := by unfold kyD; rw [List.length_map]
  have hnou : nou (kyP m s) (kyD m) = (dgs 20 m).length - (trz (dgs 20 m)).length := by
    unfold nou kyP
    rw [hkD]
    by_cases h : s = 0
    · omega
    · have := e6 h
      omega
  refine ⟨?_, ?_, ?_⟩
  · rw [vD_ky, hnou, ← dvl_zeros, ← e2, e1]
  · rw [hnou, hkD]
    unfold kyP
    by_cases h : s = 0
    · omega
    · have := e6 h
      omega
  · rw [hnou, hkD]
    omega
/-- A number, while its digits are read. -/
structure Dn (l : List Nat) (bad neg : Bool) (c : Nat) (lk : List Nat) (bk : Bool) (D : List Nat) : Prop where
  suf : ∃ e, l = e ++ lk
  so : bk = false → bad = false
  co : bad = false → ∀ h m, NumOk h → l = numB h.n h.s ++ m → bk = false ∧ h.n ≠ 0 ∧ decide (h.n < 0) = neg ∧ c = kyP h.n.natAbs h.s ∧ ∃ u, kyD h.n.natAbs = D ++ u ∧ lk = (u ++ [0]).map (tn neg) ++ m
theorem Dn.start {l l1 : List Nat} {bad b1 : Bool} {x : Nat} (R : Rb l bad l1 b1 x) (hx : x ≠ 128) (hx2 : x < 256) : Dn l bad (decide (x < 128)) (tn (decide (x < 128)) x) l1 b1 [] := by
  refine ⟨R.suf, fun h => (R.so h).1, fun hb h m H hl => ?_⟩
  by_cases hn : h.n = 0
  · exfalso
    rw [show numB h.n h.s = [128] by unfold numB; rw [if_pos hn]] at hl
    exact hx (R.co hb 128 m trivial hl).2.1
  · obtain ⟨x', D', e1, e2, e3, _⟩ := numB_shape H hn
    have e4 := numB_tn (h := h) hn
    rw [e4, List.map_cons, List.cons_append] at hl
    obtain ⟨r1, r2, r3⟩ := R.co hb _ _ trivial hl
    have hxx : x' = x := by
      rw [e4, List.map_cons] at e1
      injection e1 with e1 _
      rw [r2, e1]
    subst hxx
    have hd : decide (h.n < 0) = decide (x' < 128) := by rw [decide_eq_decide]; exact e3.symm
    obtain ⟨n0, n1, s0, s1, _⟩ := num_parts H
    obtain ⟨p1, p2⟩ := kyP_in h.n.natAbs h.s (by omega) s0 s1
    refine ⟨r1, hn, hd, ?_, kyD h.n.natAbs, by simp, ?_⟩
    · rw [← hd, r2, tn_tn _ _ (by omega)]
    · rw [← hd]
      exact r3
theorem Dn.digit {l lk l1 : List Nat} {bad neg b1 : Bool} {c y d : Nat} {D : List Nat} (h : Dn l bad neg c lk false D) (R : Rb lk false l1 b1 y) (hy : y < 256) (hd : tn neg y = d) (hd0 : d ≠ 0) : Dn l bad neg c l1 b1 (D ++ [d]) ∧ (bad = false → ∀ h m, NumOk h → l = numB h.n h.s ++ m → d ≤ 10 ∧ ∃ u, kyD h.n.natAbs = D ++ d :: u) := by
  have key : bad = false → ∀ h m, NumOk h → l = numB h.n h.s ++ m → b1 = false ∧ h.n ≠ 0 ∧ decide (h.n < 0) = neg ∧ c = kyP h.n.natAbs h.s ∧ ∃ u, kyD h.n.natAbs = D ++ d :: u ∧ l1 = (u ++ [0]).map (tn neg) ++ m := fun hb h' m H hl => by
    obtain ⟨_, k1, k2, k3, u, k4, k5⟩ := h.co hb h' m H hl
    cases u with
    | nil =>
      exfalso
      obtain ⟨_, r2, _⟩ := R.co rfl _ _ trivial k5
      rw [r2, tn_tn _ _ (by omega)] at hd
      exact hd0 hd.symm
    | cons a u =>
      rw [List.cons_append, List.map_cons, List.cons_append] at k5
      obtain ⟨r1, r2, r3⟩ := R.co rfl _ _ trivial k5
      have ha : a < 256 := by have := kyD_in h'.n.natAbs a (by rw [k4]; simp); omega
      rw [r2, tn_tn _ _ ha] at hd
      subst hd
      exact ⟨r1, k1, k2, k3, u, k4, r3⟩
  refine ⟨⟨?_, fun _ => h.so rfl, fun hb h' m H hl => ?_⟩, fun hb h' m H hl => ?_⟩
  · obtain ⟨a, e⟩ := h.suf
    obtain ⟨b, f⟩ := R.suf
    exact ⟨a ++ b, by rw [e, f, List.append_assoc]⟩
  · obtain ⟨k0, k1, k2, k3, u, k4, k5⟩ := key hb h' m H hl
    exact ⟨k0, k1, k2, k3, u, by rw [k4]; simp, k5⟩
  · obtain ⟨k0, k1, k2, k3, u, k4, k5⟩ := key hb h' m H hl
    have := kyD_in h'.n.natAbs d (by rw [k4]; simp)
    exact ⟨this.2, u, k4⟩
/-- What is known of a number whose digits have been read. -/
def Dk (l : List Nat) (bad neg : Bool) (c : Nat) (l' : List Nat) (b' : Bool) (D : List Nat) : Prop := bad = false → ∀ h m, NumOk h → l = numB h.n h.s ++ m → b' = false ∧ h.n ≠ 0 ∧ decide (h.n < 0) = neg ∧ c = kyP h.n.natAbs h.s ∧ kyD h.n.natAbs = D ∧ l' = m
theorem Dn.last {l lk l1 : List Nat} {bad neg b1 : Bool} {c y : Nat} {D : List Nat} (h : Dn l bad neg c lk false D) (R : Rb lk false l1 b1 y) (hy : y < 256) (hd : tn neg y = 0) : Dk l bad neg c l1 b1 D := fun hb h' m H hl => by
  obtain ⟨_, k1, k2, k3, u, k4, k5⟩ := h.co hb h' m H hl
  cases u with
  | nil =>
    obtain ⟨r1, _, r3⟩ := R.co rfl _ _ trivial k5
    exact ⟨r1, k1, k2, k3, by rw [k4]; simp, r3⟩
  | cons a u =>
    exfalso
    rw [List.cons_append, List.map_cons, List.cons_append] at k5
    obtain ⟨_, r2, _⟩ := R.co rfl _ _ trivial k5
    have ha := kyD_in h'.n.natAbs a (by rw [k4]; simp)
    rw [r2, tn_tn _ _ (by omega)] at hd
    omega
abbrev RdM (l : List Nat) (bad : Bool) (l' : List Nat) (bad' : Bool) (h : Hd) : Prop := Rd (fun h : Hd => numB h.n h.s) (fun _ => False) NumOk l bad l' bad' h
theorem Dn.bad {l lk : List Nat} {bad neg : Bool} {c : Nat} {D : List Nat} (h : Dn l bad neg c lk true D) (y : Hd) : RdM l bad lk true y :=
  ⟨h.suf, fun e => (by cases e), fun hb h' m H hl => by have := (h.co hb h' m H hl).1; cases this⟩
theorem rdM_no {l l' : List Nat} {bad : Bool} (hs : ∃ e, l = e ++ l') (hc : bad = false → ∀ h m, NumOk h → l = numB h.n h.s ++ m → False) (y : Hd) : RdM l bad l' true y :=
  ⟨hs, fun e => (by cases e), fun hb h' m H hl => (hc hb h' m H hl).elim⟩
/-- Too long, or too great, for a number. -/
theorem ky_small {h : Hd} (H : NumOk h) (hn : h.n ≠ 0) {D u : List Nat} (e : kyD h.n.natAbs = D ++ u) : D.length + u.length ≤ 19 ∧ vD D * 10 ^ u.length ≤ 9223372036854775808 := by
  obtain ⟨n0, n1, s0, s1, hr, _⟩ := num_parts H
  obtain ⟨a1, _, a3⟩ := ky_val h.n.natAbs h.s (by omega) (by omega) s0 s1 hr
  have h1 := congrArg List.length e
  rw [List.length_append] at h1
  refine ⟨by omega, Nat.le_trans (vD_pre D u) ?_⟩
  rw [← e]
  have : 1 ≤ 10 ^ nou (kyP h.n.natAbs h.s) (kyD h.n.natAbs) := Nat.one_le_pow _ _ (by decide)
  have := Nat.mul_le_mul_left (vD (kyD h.n.natAbs)) this
  omega
end Go.Proofs.YtmlfhplhiedfjaaGreatDoor
