/-
  MerkleHalves' walk.
-/
import Derived.Test.YtehkaploinklmabDoorEy
namespace Go.Proofs.YtehkaploinklmabDoor
open Go Go.RowKit Go.Maps Sh
theorem owe_zero (w : World) (base : Nat) (hb : base ≤ w.heap.size) : OwE (nums .u8) 28 32 (w.alloc (.cells #[] 28)) base (.slice (some ⟨w.heap.size, 0, none⟩) 0 0) [] :=
  ⟨World.ownsRow_made w #[] 0 hb (by unfold maxLen; omega) rfl, by simp⟩
theorem hl_one {M : List (List Nat)} (h : Hl M) : ∀ y ∈ M, (nums .u8 y).length = 32 ∧ ∀ u ∈ nums .u8 y, u.oneCell' = true := fun y hy => ⟨by rw [nums_length]; exact (h y hy).1, nums_one _ _⟩
/-- the first of two halves has as many as a power of two. -/
theorem R_halves (A B : List (List Nat)) (T : Nat) (hA : A.length = 2 ^ T) (h1 : 1 ≤ B.length) (h2 : B.length ≤ 2 ^ T) : Mk.R nd em (A ++ B) = nd (Mk.R nd em A) (Mk.R nd em B) := by
  rw [Mk.R_split nd em (l := A ++ B) (T := T) (by rw [List.length_append]; omega) (by rw [List.length_append, Nat.pow_succ]; omega), ← hA, List.take_left, List.drop_left]
set_option maxHeartbeats 2000000 in
set_option maxRecDepth 8000 in
theorem halves_walk (L M : List (List Nat)) (hL : Hl L) (hM : Hl M) (a b : Option Addr) (ca cb : Nat) (hla : L.length ≤ 140737488355328) (hlb : M.length ≤ 140737488355328) (hca : L.length ≤ ca) (hcb : M.length ≤ cb) (hna : a = none → ca = 0) (hnb : b = none → cb = 0) (w : World) (hSa : ES (nums .u8) 32 w a L) (hSb : ES (nums .u8) 32 w b M) (hT : Tb w) :
    Calls Tryd.prog 3 #[.slice a L.length ca, .slice b M.length cb] w fun e w' => e = .returned (.bool true) ∧ Below w.heap.size w w' := by
  have HL : Hid (Hl L) := hL
  have HM : Hid (Hl M) := hM
  have HA0 : Hid (ES (nums .u8) 32 w a L ∧ (a = none → ca = 0)) := ⟨hSa, hna⟩
  have HB0 : Hid (ES (nums .u8) 32 w b M ∧ (b = none → cb = 0)) := ⟨hSb, hnb⟩
  have HTb : Hid (Tb w) := hT
  clear hL hM hSa hSb hT hna hnb
  go_enter Tryd.func3, Tryd.ntmps3
  go_wp2
  go_loopw [5] (fun iv wr => ∃ p : Nat, iv = .int .i64 (p : Int) ∧ Hid (∃ T, p = 2 ^ T) ∧ 1 ≤ p ∧ (p = 1 ∨ p ≤ L.length) ∧ w = wr) (fun iv _ => L.length - (intOf iv).toNat)
  case atStart => exact ⟨1, rfl, ⟨0, rfl⟩, Nat.le_refl _, .inl rfl, rfl⟩
  case round =>
    obtain ⟨p, rfl, HP, hp1, hp2, rfl⟩ := hrel
    have hp3 : p ≤ 140737488355328 := by omega
    by_cases hle : 2 * (p : Int) ≤ (L.length : Int)
    · go_wp2
      go_roundw
      case rel => exact ⟨2 * p, by simp, (by obtain ⟨T, e⟩ := HP.out; exact ⟨T + 1, by rw [Nat.pow_succ, ← e, Nat.mul_comm]⟩), by omega, .inr (by omega), (by first | rfl | trivial)⟩
      case measure => simp [intOf]; omega
    by_cases hmost : 1 ≤ L.length ∧ L.length ≤ 80 ∧ 1 ≤ M.length
    case neg =>
      have KK := known_any w HTb.out
      by_cases c1 : (L.length : Int) < 1
      · go_wp2_with fail
        refine KK.mono ?_
        rintro e y1 ⟨rfl, Y1⟩
        clear KK
        go_wp2
        go_ret
        exact ⟨rfl, Y1⟩
      by_cases c2 : (80 : Int) < (L.length : Int)
      · go_wp2_with fail
        refine KK.mono ?_
        rintro e y1 ⟨rfl, Y1⟩
        clear KK
        go_wp2
        go_ret
        exact ⟨rfl, Y1⟩
      have c3 : (M.length : Int) < 1 := by omega
      go_wp2_with fail
      refine KK.mono ?_
      rintro e y1 ⟨rfl, Y1⟩
      clear KK
      go_wp2
      go_ret
      exact ⟨rfl, Y1⟩
    obtain ⟨m1, m2, m3⟩ := hmost
    have c1 : ¬ (L.length : Int) < 1 := by omega
    have c2 : ¬ (80 : Int) < (L.length : Int) := by omega
    have c3 : ¬ (M.length : Int) < 1 := by omega
    have hpL : p ≤ L.length := by omega
    obtain ⟨q, hq⟩ : ∃ q : Nat, q = min p M.length := ⟨_, rfl⟩
    have hq1 : 1 ≤ q := by omega
    have hqp : q ≤ p := by omega
    have hqM : q ≤ M.length := by omega
    obtain ⟨A, hA⟩ : ∃ A, Hid (A = L.take p) := ⟨_, rfl⟩
    obtain ⟨B, hB⟩ : ∃ B, Hid (B = M.take q) := ⟨_, rfl⟩
    have lA : A.length = p := by rw [hA.out, List.length_take]; omega
    have lB : B.length = q := by rw [hB.out, List.length_take]; omega
    have HA : Hid (Hl A) := by rw [hA.out]; exact HL.out.take p
    have HB : Hid (Hl B) := by rw [hB.out]; exact HM.out.take q
    have EA : Hid (ES (nums .u8) 32 w a A) := by show ES _ _ _ _ _; rw [hA.out]; exact HA0.out.1.take p
    have EB : Hid (ES (nums .u8) 32 w b B) := by show ES _ _ _ _ _; rw [hB.out]; exact HB0.out.1.take q
    have NA : Hid (a = none → ca = 0) := HA0.out.2
    have NB : Hid (b = none → cb = 0) := HB0.out.2
    have emin : min (p : Int) (M.length : Int) = (q : Int) := by omega
    clear hq
    have KA := made_any a ca A HA.out (by omega) w HTb.out EA.out
    rw [lA] at KA
    go_wp2_with fail
    refine KA.mono ?_
    rintro e w1 ⟨ba, rfl, hTr, Z1⟩
    have T1 : Hid (Tr w1 ba w.heap.size A) := hTr
    have KB := made_any b cb B HB.out (by omega) w1 (HTb.out.grow Z1) (EB.out.below Z1)
    rw [lB] at KB
    clear hTr KA
    go_wp2_with fail
    refine KB.mono ?_
    rintro e w2 ⟨bb, rfl, hTr, Z2⟩
    have T2 : Hid (Tr w2 bb w1.heap.size B) := hTr
    have T2a : Hid (Tr w2 ba w.heap.size A) := T1.out.grow Z2
    have ZZ := Z1.trans (Z2.mono Z1.size)
    clear hTr KB T1 Z1
    obtain ⟨w3, hw3, Z3, O3⟩ : ∃ w3, w2.alloc (.cells #[] 28) = w3 ∧ Below w2.heap.size w2 w3 ∧ OwE (nums .u8) 28 32 w3 w2.heap.size (.slice (some ⟨w2.heap.size, 0, none⟩) 0 0) [] := ⟨_, rfl, (Below.refl _ _).alloc (Nat.le_refl _) _, owe_zero w2 _ (Nat.le_refl _)⟩
    have HO3 : Hid (OwE (nums .u8) 28 32 w3 w2.heap.size (.slice (some ⟨w2.heap.size, 0, none⟩) 0 0) []) := O3
    have EA3 : Hid (ES (nums .u8) 32 w3 a A) := EA.out.below (ZZ.trans (Z3.mono ZZ.size))
    have s3 := Z3.size
    go_wp2_with (at_builtin; go_must (refine app_wl rfl (.tmp 59) (.tmp 60) 22 28 rfl Tryd.underlying22 _ 32 iH (by decide) (by decide) (by decide) w2.heap.size (.slice (some ⟨w2.heap.size, 0, none⟩) 0 0) [] A rfl HO3.out a ca (by rw [lA]; rfl) EA3.out NA.out (hl_one HA.out) (by simp; omega) s3 ?_))
    intro v4 w4 O4 G4
    have Z4 := below_own Z3 s3 O3 G4
    have HO4 : Hid (OwE (nums .u8) 28 32 w4 w2.heap.size v4 A) := O4
    have EB4 : Hid (ES (nums .u8) 32 w4 b B) := EB.out.below (ZZ.trans (Z4.mono ZZ.size))
    have s4 := Z4.size
    clear G4 O4 O3 hw3 Z3 HO3 EA3
    go_wp2_with (at_builtin; go_must (refine app_wl rfl (.tmp 61) (.tmp 62) 22 28 rfl Tryd.underlying22 _ 32 iH (by decide) (by decide) (by decide) w2.heap.size v4 A B rfl HO4.out b cb (by rw [lB]; rfl) EB4.out NB.out (hl_one HB.out) (by omega) s4 ?_))
    intro v5 w5 O5 G5
    have Z5 := below_own Z4 s4 HO4.out G5
    obtain ⟨a5, c5, rfl, _, _, es5, _⟩ := O5.es
    have HAB0 : Hid (Hl (A ++ B)) := HA.out.app HB.out
    have ZZ := ZZ.trans (Z5.mono ZZ.size)
    have T5A : Hid (Tr w5 ba w.heap.size A) := T2a.out.grow Z5
    have T5B : Hid (Tr w5 bb w1.heap.size B) := T2.out.grow Z5
    have KC := made_any a5 c5 (A ++ B) HAB0.out (by rw [List.length_append]; omega) w5 (HTb.out.grow ZZ) es5
    have hRR : Hid (Mk.R nd em (A ++ B) = nd (Mk.R nd em A) (Mk.R nd em B)) := by
      obtain ⟨T, hT⟩ := HP.out
      exact R_halves A B T (by rw [lA, hT]) (by omega) (by omega)
    obtain ⟨AB, hAB⟩ : ∃ AB, Hid (AB = A ++ B) := ⟨_, rfl⟩
    have lAB : Hid (AB.length = p + q) := by show _ = _; rw [hAB.out, List.length_append]; omega
    rw [← hAB.out] at KC HAB0 hRR ⊢
    have HAB : Hid (Hl AB) := HAB0
    clear G5 O5 es5 HO4 EB4 Z4 s4 s3 T2 T2a HAB0
    go_wp2_with fail
    refine KC.mono ?_
    rintro e w7 ⟨bc, rfl, hTr, Z7⟩
    have T7C : Hid (Tr w7 bc w5.heap.size AB) := hTr
    have TX : Hid (Tr w7 ba w.heap.size A) := T5A.out.grow Z7
    have T7B : Hid (Tr w7 bb w1.heap.size B) := T5B.out.grow Z7
    have ZZ := ZZ.trans (Z7.mono ZZ.size)
    obtain ⟨x, hx⟩ : ∃ x, Hid (x = Mk.R nd em A) := ⟨_, rfl⟩
    obtain ⟨y, hy⟩ : ∃ y, Hid (y = Mk.R nd em B) := ⟨_, rfl⟩
    obtain ⟨z, hz⟩ : ∃ z, Hid (z = Mk.R nd em AB) := ⟨_, rfl⟩
    have HX : Hid (Hh x) := by show Hh x; rw [hx.out]; exact R_hh HA.out
    have HY : Hid (Hh y) := by show Hh y; rw [hy.out]; exact R_hh HB.out
    have HZ : Hid (Hh z) := by show Hh z; rw [hz.out]; exact R_hh HAB.out
    have HE : Hid (z = nd x y) := by show _ = _; rw [hz.out, hRR.out, hx.out, hy.out]
    have Sx : Hid ((Tryd.prog.info? 28).map (·.size) = some (nums .u8 x).length ∧ (nums .u8 x).length = (nums .u8 (List.replicate 32 0)).length) := ⟨sH HX.out, by rw [nums_length, nums_length, HX.out.1, List.length_replicate]⟩
    have Sy : Hid ((Tryd.prog.info? 28).map (·.size) = some (nums .u8 y).length ∧ (nums .u8 y).length = (nums .u8 (List.replicate 32 0)).length) := ⟨sH HY.out, by rw [nums_length, nums_length, HY.out.1, List.length_replicate]⟩
    have Sz : Hid ((Tryd.prog.info? 28).map (·.size) = some (nums .u8 z).length ∧ (nums .u8 z).length = (nums .u8 (List.replicate 32 0)).length) := ⟨sH HZ.out, by rw [nums_length, nums_length, HZ.out.1, List.length_replicate]⟩
    clear hTr KC Z7 Z5 T5A T5B hRR
    have Y := Below.refl w7.heap.size w7
    have KR := root_in ba w.heap.size A HA.out (by omega) A.length (Nat.le_refl _) w7 TX.out
    rw [List.take_of_length_le (Nat.le_refl _), ← hx.out, lA] at KR
    go_wp2_with fail
    refine KR.mono ?_
    rintro e w8 ⟨rfl, Z0⟩
    have Y := Y.trans (Z0.mono Y.size)
    clear KR Z0
    go_wp2_with (refine al_zero rfl 28 rfl _ z25 ?_)
    intro gx w9a lgx B0 G0
    have hg : w7.heap.size ≤ gx := Nat.le_trans Y.size lgx
    have Y := Y.grown G0 Y.size (by simp)
    clear G0
    go_wp2_with (refine st_all rfl 28 (.tmp 12) (.tmp 82) rfl gx 28 (nums .u8 (List.replicate 32 0)) (nums .u8 x) rfl rfl B0 Sx.out.2 Sx.out.1 (nums_one _ _) ?_)
    intro w9 BX G0
    have Y := grown_below Y G0 Y.size hg
    clear G0 B0
    have TY : Hid (Tr w9 bb w1.heap.size B) := T7B.out.grow Y
    have KR := root_in bb w1.heap.size B HB.out (by omega) B.length (Nat.le_refl _) w9 TY.out
    rw [List.take_of_length_le (Nat.le_refl _), ← hy.out, lB] at KR
    go_wp2_with fail
    refine KR.mono ?_
    rintro e w10 ⟨rfl, Z0⟩
    have BX := BX.below Z0 BX.lt
    have Y := Y.trans (Z0.mono Y.size)
    clear KR Z0
    go_wp2_with (refine al_zero rfl 28 rfl _ z25 ?_)
    intro gy w11a lgy B0 G0
    have hg : w7.heap.size ≤ gy := Nat.le_trans Y.size lgy
    have ngx : gx ≠ gy := by have := BX.lt; omega
    have BX := BX.kept G0 (by simp)
    have Y := Y.grown G0 Y.size (by simp)
    clear G0
    go_wp2_with (refine st_all rfl 28 (.tmp 14) (.tmp 89) rfl gy 28 (nums .u8 (List.replicate 32 0)) (nums .u8 y) rfl rfl B0 Sy.out.2 Sy.out.1 (nums_one _ _) ?_)
    intro w11 BY G0
    have BX := BX.kept G0 (fun e => ngx (Option.some.inj e))
    have Y := grown_below Y G0 Y.size hg
    clear G0 B0
    have TZ : Hid (Tr w11 bc w5.heap.size AB) := T7C.out.grow Y
    have KR := root_in bc w5.heap.size AB HAB.out (by rw [lAB.out]; omega) AB.length (Nat.le_refl _) w11 TZ.out
    rw [List.take_of_length_le (Nat.le_refl _), ← hz.out, lAB.out, Int.natCast_add] at KR
    go_wp2_with fail
    refine KR.mono ?_
    rintro e w12 ⟨rfl, Z0⟩
    have BX := BX.below Z0 BX.lt
    have BY := BY.below Z0 BY.lt
    have Y := Y.trans (Z0.mono Y.size)
    clear KR Z0
    go_wp2_with (refine al_zero rfl 28 rfl _ z25 ?_)
    intro gz w13a lgz B0 G0
    have hg : w7.heap.size ≤ gz := Nat.le_trans Y.size lgz
    have ngx : gx ≠ gz := by have := BX.lt; omega
    have BX := BX.kept G0 (by simp)
    have ngy : gy ≠ gz := by have := BY.lt; omega
    have BY := BY.kept G0 (by simp)
    have Y := Y.grown G0 Y.size (by simp)
    clear G0
    go_wp2_with (refine st_all rfl 28 (.tmp 16) (.tmp 99) rfl gz 28 (nums .u8 (List.replicate 32 0)) (nums .u8 z) rfl rfl B0 Sz.out.2 Sz.out.1 (nums_one _ _) ?_)
    intro w13 BZ G0
    have BX := BX.kept G0 (fun e => ngx (Option.some.inj e))
    have BY := BY.kept G0 (fun e => ngy (Option.some.inj e))
    have Y := grown_below Y G0 Y.size hg
    clear G0 B0
    have ZZ := ZZ.trans (Y.mono ZZ.size)
    clear Y TX TY TZ T7B T7C
    have eq := fun W => eq_hash HZ.out HZ.out W
    simp only [decide_true] at eq
    go_wp2_with fail
    obtain ⟨C, hC⟩ : ∃ C : World → Prop, C = fun W => Below w13.heap.size w13 W := ⟨_, rfl⟩
    have FX : Hid (∀ W, C W → W.rangeAt gx 0 (nums .u8 x)) := fun W hW => by rw [hC] at hW; exact (BX.below hW BX.lt).all
    have FY : Hid (∀ W, C W → W.rangeAt gy 0 (nums .u8 y)) := fun W hW => by rw [hC] at hW; exact (BY.below hW BY.lt).all
    have FZ : Hid (∀ W, C W → W.rangeAt gz 0 (nums .u8 z)) := fun W hW => by rw [hC] at hW; exact (BZ.below hW BZ.lt).all
    have CK : Hid (∀ W W', C W → Below W.heap.size W W' → C W') := fun W W' h1 h2 => by rw [hC] at h1 ⊢; exact h1.trans (h2.mono h1.size)
    have CA : Hid (∀ W W', C W → Below w13.heap.size W W' → C W') := fun W W' h1 h2 => by rw [hC] at h1 ⊢; exact h1.trans h2
    have CE : Hid (∀ W, C W → Below w13.heap.size w13 W) := fun W h => by rw [hC] at h; exact h
    have C0 : Hid (C { w13 with drawn := w13.drawn + 1 }) := by rw [hC]; exact Below.drew (Below.refl _ _)
    clear hC
    refine region_calm C 20 (by kernel_rfl) ?_
    have hCp : ∀ p : Prop, (∀ W, C W → p) ↔ p := fun p => ⟨fun h => h _ C0.out, fun h _ _ => h⟩
    generalize ({ w13 with drawn := w13.drawn + 1 } : World) = y0 at *
    refine seg 7 [0, 1, 2, 3, 4, 5, 6, 7, 8, 9, 10, 11, 12, 13] rfl (by kernel_rfl) whole_blind (C0.out) (by kernel_rfl) ?_
    change wpQuiet _ _ _ _ (_ :: _ :: _ :: _ :: _ :: _ :: _ :: _ :: _ :: _ :: _ :: _ :: _ :: _ :: []) _
    repeat (first
      | go_big_quiet_skip
      | (go_big_quiet_want
         first
         | (refine q_load 28 (.tmp 16) rfl gz 0 rfl (nums .u8 z) _ FZ.out Tryd.underlying28 rfl (sH HZ.out) ?_
            simp only [Act.put, List.setIfInBounds_toArray, List.set_cons_zero, List.set_cons_succ]
            go_big_quiet_on)
         | (refine q_load 28 (.tmp 12) rfl gx 0 rfl (nums .u8 x) _ FX.out Tryd.underlying28 rfl (sH HX.out) ?_
            simp only [Act.put, List.setIfInBounds_toArray, List.set_cons_zero, List.set_cons_succ]
            go_big_quiet_on)
         | (refine q_load 28 (.tmp 14) rfl gy 0 rfl (nums .u8 y) _ FY.out Tryd.underlying28 rfl (sH HY.out) ?_
            simp only [Act.put, List.setIfInBounds_toArray, List.set_cons_zero, List.set_cons_succ]
            go_big_quiet_on)
         | (go_big_quiet_op
            go_big_quiet_on)))
    refine wpQuiet_nil ?_
    refine lone_do (i := 14) 6 rfl (by kernel_rfl) rfl (by rfl) ?_
    intro K hK
    refine oper_calls 7 _ _ rfl #[.agg (nums .u8 x).toArray, .agg (nums .u8 y).toArray] (by rw [List.map_toArray]; rfl) (enters Tryd.func7 (by kernel_rfl) rfl) (fun v w' => v = .agg (nums .u8 z).toArray ∧ Below y0.heap.size y0 w') (by have K := rnode_any x y HX.out.1 HY.out.1 HX.out.2 HY.out.2 y0; rw [HE.out]; exact K.mono (by rintro e w' ⟨rfl, g⟩; exact ⟨_, rfl, rfl, g⟩)) ?_
    rintro v y1 ⟨rfl, Z1⟩
    have C1 : Hid (C y1) := CK.out _ _ C0.out Z1
    clear Z1
    refine hK _ _ (C1.out) ?_
    clear hK K
    simp only [Act.put, List.setIfInBounds_toArray, List.set_cons_zero, List.set_cons_succ]
    refine lone_calm (i := 15) 5 rfl (by kernel_rfl) rfl rfl (C1.out) ?_
    repeat (first
      | go_big_quiet_skip
      | (go_big_quiet_want
         first
         | (go_big_quiet_op
            go_big_quiet_on)))
    refine wpQuiet_nil ?_
    refine lone_calm (i := 16) 4 rfl (by kernel_rfl) rfl rfl (C1.out) ?_
    repeat (first
      | go_big_quiet_skip
      | (go_big_quiet_want
         first
         | (go_big_quiet_op
            go_big_quiet_on)))
    refine wpQuiet_nil ?_
    refine lone_calm (i := 17) 3 rfl (by kernel_rfl) rfl rfl (C1.out) ?_
    repeat (first
      | go_big_quiet_skip
      | (go_big_quiet_want
         first
         | (go_big_quiet_op
            go_big_quiet_on)))
    refine wpQuiet_nil ?_
    refine lone_do (i := 18) 2 rfl (by kernel_rfl) rfl (by rfl) ?_
    intro K hK
    refine oper_calls 4 _ _ rfl #[] (by rw [List.map_toArray]; rfl) (enters Tryd.func4 (by kernel_rfl) rfl) (fun v w' => v = .bool true ∧ Below y1.heap.size y1 w') ((known_any y1 (HTb.out.grow (ZZ.trans ((CE.out _ C1.out).mono ZZ.size)))).mono (by rintro e w' ⟨rfl, g⟩; exact ⟨_, rfl, rfl, g⟩)) ?_
    rintro v y2 ⟨rfl, Z2⟩
    have C2 : Hid (C y2) := CK.out _ _ C1.out Z2
    clear Z2
    refine hK _ _ (C2.out) ?_
    clear hK K
    simp only [Act.put, List.setIfInBounds_toArray, List.set_cons_zero, List.set_cons_succ]
    refine lone_calm (i := 19) 1 rfl (by kernel_rfl) rfl rfl (C2.out) ?_
    repeat (first
      | go_big_quiet_skip
      | (go_big_quiet_want
         first
         | (go_big_quiet_op
            go_big_quiet_on)))
    refine wpQuiet_nil ?_
    refine lone_calm (i := 20) 0 rfl (by kernel_rfl) rfl rfl (C2.out) ?_
    repeat (first
      | go_big_quiet_skip
      | (go_big_quiet_want
         first
         | (go_big_quiet_op
            go_big_quiet_on)))
    refine wpQuiet_nil ?_
    refine anyC_done (by kernel_rfl) ⟨rfl, ?_⟩
    have ZE := ZZ.trans ((CE.out _ C2.out).mono ZZ.size)
    clear C0 C1 C2 CK CA CE FX FY FZ hCp
    go_wp2
    go_ret
    exact ⟨rfl, ZE⟩
#print axioms halves_walk
end Go.Proofs.YtehkaploinklmabDoor
