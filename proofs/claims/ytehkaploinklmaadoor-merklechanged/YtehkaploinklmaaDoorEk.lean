/-
  merkle.VerifyConsist: whether hashes prove a beginning.
-/
import Derived.Test.YtehkaploinklmaaDoorEs
namespace Go.Proofs.YtehkaploinklmaaDoor
open Go.RowKit Sh
def mtl (os : List (Nat × Nat)) : List (List Nat) → List Nat → List Nat → Bool
  | [], _, _ => false
  | s :: r, x, y => mt s os r x y
/-- what VerifyConsist answers of m = (2 u + 1) 2^c leaves among n. -/
def vcs (m c u n : Nat) (L : List (List Nat)) (x y : List Nat) : Bool :=
  if m = n then decide (L = [] ∧ x = y) else if u = 0 then mt x (Mk.wy c (2 * u) n) L x y else mtl (Mk.wy c (2 * u) n) L x y
set_option maxHeartbeats 2000000 in
set_option maxRecDepth 8000 in
theorem vcons_in (m n c u : Nat) (hm : m = (2 * u + 1) * 2 ^ c) (hmn : m ≤ n) (hn : n ≤ 1099511627776) (a : Option Addr) (cap : Nat) (L : List (List Nat)) (hL : Hl L) (hcap : L.length ≤ cap) (x y : List Nat) (hx : Hh x) (hy : Hh y) (w : World) (hT : Tb w) (hS : ES (nums .u8) 32 w a L) :
    Calls Tryd.prog 19 #[.int .i64 (m : Int), .int .i64 (n : Int), .agg #[.slice a L.length cap], .agg (nums .u8 x).toArray, .agg (nums .u8 y).toArray] w fun e w' => e = .returned (.bool (vcs m c u n L x y)) ∧ Below w.heap.size w w' := by
  have hm0 : 0 < m := by rw [hm]; exact Nat.mul_pos (by omega) (Mk.pow_pos2 c)
  have HX : Hid (Hh x) := hx
  have HY : Hid (Hh y) := hy
  have HS : Hid (ES (nums .u8) 32 w a L) := hS
  have HL : Hid (Hl L) := hL
  have HTb : Hid (Tb w) := hT
  have HM : Hid (m = (2 * u + 1) * 2 ^ c) := hm
  have hp : Hid (2 * u * 2 ^ c < n ∧ c ≤ 50) := by
    have h0 := Mk.pow_pos2 c
    rw [Nat.add_mul, Nat.one_mul] at hm
    refine ⟨by omega, Nat.le_of_not_lt fun h => ?_⟩
    have h2 := Nat.pow_le_pow_right (n := 2) (by decide) (Nat.le_of_lt h)
    omega
  have KO : Hid (∀ W, Calls Tryd.prog 29 #[.agg #[.int .i64 (c : Int), .int .i64 ((2 * u : Nat) : Int)], .int .i64 (n : Int)] W fun e w' => ∃ v, e = .returned v ∧ OwE encV 60 2 w' W.heap.size v (Mk.wy c (2 * u) n) ∧ Below W.heap.size W w') := fun W => others_any c (2 * u) n hn hp.out.1 hp.out.2 W
  obtain ⟨os, hos⟩ : ∃ os, Hid (os = Mk.wy c (2 * u) n) := ⟨_, rfl⟩
  have hol : os.length ≤ 51 := by rw [hos.out]; exact Nat.le_trans (Mk.wy_len (T := 51) (by omega) (by have := hp.out.2; omega) hp.out.1) (by omega)
  have hob : Hid (∀ x ∈ os, x.2 ≤ 1000000000000000) := by
    intro x hx
    rw [hos.out] at hx
    have := Mk.mem_wy (T := 51) (by omega) (by have := hp.out.2; omega) hp.out.1 hx
    have h2 := Nat.le_mul_of_pos_right x.2 (Mk.pow_pos2 x.1)
    omega
  obtain ⟨ans, HA⟩ : ∃ ans, Hid (vcs m c u n L x y = ans) := ⟨_, rfl⟩
  have HB : Hid (ans = if m = n then decide (L = [] ∧ x = y) else if u = 0 then mt x os L x y else mtl os L x y) := by show _ = _; rw [← HA.out, hos.out]; rfl
  rw [HA.out]
  rw [← hos.out] at KO
  have h1 : ¬ ((m : Int) < 1) := by omega
  have h2 : ¬ ((n : Int) < (m : Int)) := by omega
  have h3 : ¬ ((1099511627776 : Int) < (n : Int)) := by omega
  clear HA hx hy hS hL hT hm
  go_enter Tryd.func19, Tryd.ntmps19
  go_wp2_with (refine al_box rfl 37 (.tmp 2) rfl [.slice a L.length cap] rfl ?_)
  intro gp wp lp BP GP
  have Z := (Below.refl w.heap.size w).grown GP (Nat.le_refl _) (by simp)
  clear GP
  go_wp2_with (refine al_box rfl 30 (.tmp 3) rfl (nums .u8 x) rfl ?_)
  intro gx wx lx BX GX
  have BP := BP.kept GX (by simp)
  have Z := Z.grown GX Z.size (by simp)
  clear GX
  go_wp2_with (refine al_box rfl 30 (.tmp 4) rfl (nums .u8 y) rfl ?_)
  intro gy w0 ly BY GY
  have BP := BP.kept GY (by simp)
  have BX := BX.kept GY (by simp)
  have Z := Z.grown GY Z.size (by simp)
  clear GY
  by_cases hmn' : m = n
  · subst hmn'
    have cP : w0.cell? ⟨gp, 0, none⟩ = some (.slice a L.length cap) := by rw [BP.cell]; rfl
    have HB : Hid (ans = decide (L = [] ∧ x = y)) := by show _ = _; rw [HB.out, if_pos rfl]
    by_cases hl0 : L.length = 0
    · have eq := fun W => eq_hash HX.out HY.out W
      have HC : Hid (decide (x = y) = ans) := by
        show _ = _
        rw [HB.out, List.eq_nil_of_length_eq_zero hl0]; simp
      rw [hl0] at cP ⊢
      clear hl0 hcap
      go_wp2_with (first | (refine ld_want (by rfl) 30 (.tmp 8) rfl gx 0 rfl (nums .u8 x) _ BX.all Tryd.underlying30 rfl (sH HX.out) ?_) | (refine ld_want (by rfl) 30 (.tmp 9) rfl gy 0 rfl (nums .u8 y) _ BY.all Tryd.underlying30 rfl (sH HY.out) ?_))
      go_ret
      exact ⟨by rw [← HC.out]; rfl, Z⟩
    · have HC : ans = false := by
        rw [HB.out, decide_eq_false]
        rintro ⟨rfl, _⟩
        exact hl0 rfl
      subst HC
      have hl1 : ((L.length : Int) == 0) = false := by rw [beq_eq_false_iff_ne]; omega
      go_wp2
      go_ret
      exact ⟨rfl, Z⟩
  · have HB : Hid (ans = if u = 0 then mt x os L x y else mtl os L x y) := by show _ = _; rw [HB.out, if_neg hmn']
    have hne : ((m : Int) == (n : Int)) = false := by rw [beq_eq_false_iff_ne]; omega
    clear hmn'
    go_wp2_with fail
    refine (last_any m c u HM.out (by omega) w0 (HTb.out.grow Z)).mono ?_
    rintro e w1 ⟨rfl, Z1⟩
    have BP := BP.below Z1 BP.lt
    have BX := BX.below Z1 BX.lt
    have BY := BY.below Z1 BY.lt
    have Z := Z.trans (Z1.mono Z.size)
    clear Z1
    obtain ⟨u2, hu2⟩ : ∃ u2 : Nat, Hid (u2 = 2 * u) := ⟨_, rfl⟩
    rw [← hu2.out]
    rw [← hu2.out] at KO
    go_wp2_with fail
    obtain ⟨w2, HW, G2⟩ : ∃ w2, w1.alloc (Obj.cells #[.int .i64 (c : Int), .int .i64 (u2 : Int)] 60) = w2 ∧ Hid (Below w1.heap.size w1 w2 ∧ Blk w2 w1.heap.size 60 [.int .i64 (c : Int), .int .i64 (u2 : Int)]) := ⟨_, rfl, (Below.refl _ _).alloc (Nat.le_refl _) _, blk_new w1 _ _⟩
    rw [HW]
    clear HW
    have BL := G2.out.2
    have BP := BP.below G2.out.1 BP.lt
    have BX := BX.below G2.out.1 BX.lt
    have BY := BY.below G2.out.1 BY.lt
    have Z := Z.trans (G2.out.1.mono Z.size)
    clear G2
    refine (first_any c u2 w2).mono ?_
    rintro e w3 ⟨rfl, Z3⟩
    have BL := BL.below Z3 BL.lt
    have BP := BP.below Z3 BP.lt
    have BX := BX.below Z3 BX.lt
    have BY := BY.below Z3 BY.lt
    have Z := Z.trans (Z3.mono Z.size)
    obtain ⟨gl, hgl⟩ : ∃ gl, w1.heap.size = gl := ⟨_, rfl⟩
    rw [hgl] at BL ⊢
    clear Z3 hgl
    by_cases hu0 : u = 0
    · have hd : decide (u2 = 0) = true := decide_eq_true (by rw [hu2.out, hu0])
      have HB : Hid (ans = mt x os L x y) := by show _ = _; rw [HB.out, if_pos hu0]
      clear hu0
      go_wp2_with fail
      obtain ⟨C, hC⟩ : ∃ C : World → Prop, C = fun W => Below w3.heap.size w3 W := ⟨_, rfl⟩
      have FL : Hid (∀ W, C W → W.rangeAt gl 0 [.int .i64 (c : Int), .int .i64 (u2 : Int)]) := fun W hW => by rw [hC] at hW; exact (BL.below hW BL.lt).all
      have FX : Hid (∀ W, C W → W.rangeAt gx 0 (nums .u8 x)) := fun W hW => by rw [hC] at hW; exact (BX.below hW BX.lt).all
      have FY : Hid (∀ W, C W → W.rangeAt gy 0 (nums .u8 y)) := fun W hW => by rw [hC] at hW; exact (BY.below hW BY.lt).all
      have FP : Hid (∀ W, C W → W.cell? ⟨gp, 0, none⟩ = some (.slice a L.length cap)) := fun W hW => by rw [hC] at hW; exact by rw [(BP.below hW BP.lt).cell]; rfl
      have FS : Hid (∀ W, C W → ES (nums .u8) 32 W a L) := fun W hW => by rw [hC] at hW; exact HS.out.below (Z.trans (hW.mono Z.size))
      have CK : Hid (∀ W W', C W → Below W.heap.size W W' → C W') := fun W W' h1 h2 => by rw [hC] at h1 ⊢; exact h1.trans (h2.mono h1.size)
      have CA : Hid (∀ W W', C W → Below w3.heap.size W W' → C W') := fun W W' h1 h2 => by rw [hC] at h1 ⊢; exact h1.trans h2
      have CE : Hid (∀ W, C W → Below w3.heap.size w3 W) := fun W h => by rw [hC] at h; exact h
      have C0 : Hid (C { w3 with drawn := w3.drawn + 1 }) := by rw [hC]; exact Below.drew (Below.refl _ _)
      clear hC
      refine region_calm C 9 (by kernel_rfl) ?_
      have hCp : ∀ p : Prop, (∀ W, C W → p) ↔ p := fun p => ⟨fun h => h _ C0.out, fun h _ _ => h⟩
      generalize ({ w3 with drawn := w3.drawn + 1 } : World) = y0 at *
      refine seg 3 [0, 1, 3, 4, 5, 6, 7] rfl (by kernel_rfl) whole_blind (C0.out) (by kernel_rfl) ?_
      change wpQuiet _ _ _ _ (_ :: _ :: _ :: _ :: _ :: _ :: _ :: []) _
      repeat (first
        | go_big_quiet_skip
        | (go_big_quiet_want
           first
           | (refine q_load 60 (.tmp 11) rfl gl 0 rfl [.int .i64 (c : Int), .int .i64 (u2 : Int)] _ FL.out Tryd.underlying60 rfl (by kernel_rfl) ?_
              simp only [Act.put, List.setIfInBounds_toArray, List.set_cons_zero, List.set_cons_succ]
              go_big_quiet_on)
           | (refine q_slc (.tmp 43) rfl gp 0 rfl a L.length cap FP.out ?_
              simp only [Act.put, List.setIfInBounds_toArray, List.set_cons_zero, List.set_cons_succ]
              go_big_quiet_on)
           | (refine q_load 30 (.tmp 8) rfl gx 0 rfl (nums .u8 x) _ FX.out Tryd.underlying30 rfl (sH HX.out) ?_
              simp only [Act.put, List.setIfInBounds_toArray, List.set_cons_zero, List.set_cons_succ]
              go_big_quiet_on)
           | (refine q_load 30 (.tmp 9) rfl gy 0 rfl (nums .u8 y) _ FY.out Tryd.underlying30 rfl (sH HY.out) ?_
              simp only [Act.put, List.setIfInBounds_toArray, List.set_cons_zero, List.set_cons_succ]
              go_big_quiet_on)
           | (go_big_quiet_op
              go_big_quiet_on)))
      refine wpQuiet_nil ?_
      refine lone_do (i := 2) 2 rfl (by kernel_rfl) rfl (by rfl) ?_
      intro K hK
      refine oper_calls 29 _ _ rfl #[.agg #[.int .i64 (c : Int), .int .i64 (u2 : Int)], .int .i64 (n : Int)] (by rw [List.map_toArray]; rfl) (enters Tryd.func29 (by kernel_rfl) rfl) (fun v w' => OwE encV 60 2 w' y0.heap.size v os ∧ Below y0.heap.size y0 w') ((KO.out y0).mono (by rintro e w' ⟨v, rfl, g1, g2⟩; exact ⟨_, rfl, g1, g2⟩)) ?_
      rintro v y1 ⟨O1, Z1⟩
      obtain ⟨oa, ocap, rfl, _, _, hoes, _⟩ := O1.es
      have C1 : Hid (C y1) := CK.out _ _ C0.out Z1
      have HOE : Hid (ES encV 2 y1 oa os) := hoes
      clear Z1 O1 hoes
      refine hK _ _ (C1.out) ?_
      clear hK K
      simp only [Act.put, List.setIfInBounds_toArray, List.set_cons_zero, List.set_cons_succ]
      refine lone_do (i := 8) 1 rfl (by kernel_rfl) rfl (by rfl) ?_
      intro K hK
      refine oper_calls 36 _ _ rfl #[.slice oa os.length ocap, .agg (nums .u8 x).toArray, .slice a L.length cap, .agg (nums .u8 x).toArray, .agg (nums .u8 y).toArray] (by rw [List.map_toArray]; rfl) (enters Tryd.func36 (by kernel_rfl) rfl) (fun v w' => v = .bool ans ∧ Below y1.heap.size y1 w') (by have K := meet_any oa ocap os hob (by omega) x HX.out a cap L HL.out x y HX.out HY.out y1 HOE.out (FS.out _ C1.out); rw [← HB.out] at K; exact K.mono (by rintro e w' ⟨rfl, g⟩; exact ⟨_, rfl, rfl, g⟩)) ?_
      rintro v y2 ⟨rfl, Z2⟩
      have C2 : Hid (C y2) := CK.out _ _ C1.out Z2
      clear Z2 HOE
      refine hK _ _ (C2.out) ?_
      clear hK K
      simp only [Act.put, List.setIfInBounds_toArray, List.set_cons_zero, List.set_cons_succ]
      refine lone_calm (i := 9) 0 rfl (by kernel_rfl) rfl rfl (C2.out) ?_
      repeat (first
        | go_big_quiet_skip
        | (go_big_quiet_want
           first
           | (go_big_quiet_op
              go_big_quiet_on)))
      refine wpQuiet_nil ?_
      refine anyC_done (by kernel_rfl) ⟨rfl, ?_⟩
      have ZE := CE.out _ C2.out
      have ZZ := Z.trans (ZE.mono Z.size)
      clear ZE C2 C1 C0 CK CA CE FL FX FY FP FS hCp
      go_wp2
      go_ret
      exact ⟨rfl, ZZ⟩
    · have hd : ¬ (u2 = 0) := by rw [hu2.out]; omega
      have HB : Hid (ans = mtl os L x y) := by show _ = _; rw [HB.out, if_neg hu0]
      clear hu0
      cases L with
      | nil =>
        have HB : ans = false := by rw [HB.out]; rfl
        subst HB
        simp only [List.length_nil] at BP ⊢
        go_wp2_with fail
        obtain ⟨C, hC⟩ : ∃ C : World → Prop, C = fun W => Below w3.heap.size w3 W := ⟨_, rfl⟩
        have FP : Hid (∀ W, C W → W.cell? ⟨gp, 0, none⟩ = some (.slice a 0 cap)) := fun W hW => by rw [hC] at hW; exact by rw [(BP.below hW BP.lt).cell]; rfl
        have CK : Hid (∀ W W', C W → Below W.heap.size W W' → C W') := fun W W' h1 h2 => by rw [hC] at h1 ⊢; exact h1.trans (h2.mono h1.size)
        have CA : Hid (∀ W W', C W → Below w3.heap.size W W' → C W') := fun W W' h1 h2 => by rw [hC] at h1 ⊢; exact h1.trans h2
        have CE : Hid (∀ W, C W → Below w3.heap.size w3 W) := fun W h => by rw [hC] at h; exact h
        have C0 : Hid (C { w3 with drawn := w3.drawn + 1 }) := by rw [hC]; exact Below.drew (Below.refl _ _)
        clear hC
        refine region_calm C 19 (by kernel_rfl) ?_
        have hCp : ∀ p : Prop, (∀ W, C W → p) ↔ p := fun p => ⟨fun h => h _ C0.out, fun h _ _ => h⟩
        generalize ({ w3 with drawn := w3.drawn + 1 } : World) = y0 at *
        refine seg 18 [0, 1] rfl (by kernel_rfl) whole_blind (C0.out) (by kernel_rfl) ?_
        change wpQuiet _ _ _ _ (_ :: _ :: []) _
        repeat (first
          | go_big_quiet_skip
          | (go_big_quiet_want
             first
             | (refine q_slc (.tmp 48) rfl gp 0 rfl a 0 cap FP.out ?_
                simp only [Act.put, List.setIfInBounds_toArray, List.set_cons_zero, List.set_cons_succ]
                go_big_quiet_on)
             | (go_big_quiet_op
                go_big_quiet_on)))
        refine wpQuiet_nil ?_
        refine lone_do (i := 2) 17 rfl (by kernel_rfl) rfl (by rfl) ?_
        intro K hK
        refine oper_len (.tmp 49) 22 rfl 30 Tryd.underlying22 (a) (0) cap rfl ?_
        refine hK _ _ C0.out ?_
        clear hK K
        simp only [Act.put, List.setIfInBounds_toArray, List.set_cons_zero, List.set_cons_succ]
        refine seg 4 [3, 4, 5, 6, 8, 9, 10, 11, 12, 13, 14, 15, 16] rfl (by kernel_rfl) whole_blind (C0.out) (by kernel_rfl) ?_
        change wpQuiet _ _ _ _ (_ :: _ :: _ :: _ :: _ :: _ :: _ :: _ :: _ :: _ :: _ :: _ :: _ :: []) _
        repeat (first
          | go_big_quiet_skip
          | (go_big_quiet_want
             first
             | (go_big_quiet_op
                go_big_quiet_on)))
        refine wpQuiet_nil ?_
        refine lone_pass (i := 7) 3 rfl (by kernel_rfl) rfl (by rfl) C0.out ?_
        simp only [Act.put, List.setIfInBounds_toArray, List.set_cons_zero, List.set_cons_succ]
        refine lone_pass (i := 17) 2 rfl (by kernel_rfl) rfl (by rfl) C0.out ?_
        simp only [Act.put, List.setIfInBounds_toArray, List.set_cons_zero, List.set_cons_succ]
        refine lone_calm (i := 18) 1 rfl (by kernel_rfl) rfl rfl (C0.out) ?_
        repeat (first
          | go_big_quiet_skip
          | (go_big_quiet_want
             first
             | (go_big_quiet_op
                go_big_quiet_on)))
        refine wpQuiet_nil ?_
        refine lone_calm (i := 19) 0 rfl (by kernel_rfl) rfl rfl (C0.out) ?_
        repeat (first
          | go_big_quiet_skip
          | (go_big_quiet_want
             first
             | (go_big_quiet_op
                go_big_quiet_on)))
        refine wpQuiet_nil ?_
        refine anyC_done (by kernel_rfl) ⟨rfl, ?_⟩
        have ZE := CE.out _ C0.out
        have ZZ := Z.trans (ZE.mono Z.size)
        clear ZE C0 CK CA CE FP hCp
        go_wp2
        go_ret
        exact ⟨rfl, ZZ⟩
      | cons s r =>
        have HB : Hid (ans = mt s os r x y) := by show _ = _; rw [HB.out]; rfl
        have Hsh : Hid (Hh s) := HL.out.at (i := 0) rfl
        have Hrl : Hid (Hl r) := HL.out.drop 1
        obtain ⟨b2, o2, rfl, RQ⟩ := HS.out.at (i := 0) rfl
        rw [Nat.zero_mul, Nat.add_zero] at RQ
        simp only [List.length_cons] at BP hcap ⊢
        go_wp2_with fail
        obtain ⟨C, hC⟩ : ∃ C : World → Prop, C = fun W => Below w3.heap.size w3 W := ⟨_, rfl⟩
        have FL : Hid (∀ W, C W → W.rangeAt gl 0 [.int .i64 (c : Int), .int .i64 (u2 : Int)]) := fun W hW => by rw [hC] at hW; exact (BL.below hW BL.lt).all
        have FX : Hid (∀ W, C W → W.rangeAt gx 0 (nums .u8 x)) := fun W hW => by rw [hC] at hW; exact (BX.below hW BX.lt).all
        have FY : Hid (∀ W, C W → W.rangeAt gy 0 (nums .u8 y)) := fun W hW => by rw [hC] at hW; exact (BY.below hW BY.lt).all
        have FP : Hid (∀ W, C W → W.cell? ⟨gp, 0, none⟩ = some (.slice (some ⟨b2, o2, none⟩) (r.length + 1) cap)) := fun W hW => by rw [hC] at hW; exact by rw [(BP.below hW BP.lt).cell]; rfl
        have FQ : Hid (∀ W, C W → W.rangeAt b2 o2 (nums .u8 s)) := fun W hW => by rw [hC] at hW; exact range_below RQ (Z.trans (hW.mono Z.size))
        have FS : Hid (∀ W, C W → ES (nums .u8) 32 W (lo (some ⟨b2, o2, none⟩) cap 1) r) := fun W hW => by rw [hC] at hW; exact (HS.out.below (Z.trans (hW.mono Z.size))).lo cap 1 hcap
        have CK : Hid (∀ W W', C W → Below W.heap.size W W' → C W') := fun W W' h1 h2 => by rw [hC] at h1 ⊢; exact h1.trans (h2.mono h1.size)
        have CA : Hid (∀ W W', C W → Below w3.heap.size W W' → C W') := fun W W' h1 h2 => by rw [hC] at h1 ⊢; exact h1.trans h2
        have CE : Hid (∀ W, C W → Below w3.heap.size w3 W) := fun W h => by rw [hC] at h; exact h
        have C0 : Hid (C { w3 with drawn := w3.drawn + 1 }) := by rw [hC]; exact Below.drew (Below.refl _ _)
        clear hC
        refine region_calm C 19 (by kernel_rfl) ?_
        have hCp : ∀ p : Prop, (∀ W, C W → p) ↔ p := fun p => ⟨fun h => h _ C0.out, fun h _ _ => h⟩
        generalize ({ w3 with drawn := w3.drawn + 1 } : World) = y0 at *
        refine seg 18 [0, 1] rfl (by kernel_rfl) whole_blind (C0.out) (by kernel_rfl) ?_
        change wpQuiet _ _ _ _ (_ :: _ :: []) _
        repeat (first
          | go_big_quiet_skip
          | (go_big_quiet_want
             first
             | (refine q_slc (.tmp 48) rfl gp 0 rfl (some ⟨b2, o2, none⟩) (r.length + 1) cap FP.out ?_
                simp only [Act.put, List.setIfInBounds_toArray, List.set_cons_zero, List.set_cons_succ]
                go_big_quiet_on)
             | (go_big_quiet_op
                go_big_quiet_on)))
        refine wpQuiet_nil ?_
        refine lone_do (i := 2) 17 rfl (by kernel_rfl) rfl (by rfl) ?_
        intro K hK
        refine oper_len (.tmp 49) 22 rfl 30 Tryd.underlying22 (some ⟨b2, o2, none⟩) (r.length + 1) cap rfl ?_
        refine hK _ _ C0.out ?_
        clear hK K
        simp only [Act.put, List.setIfInBounds_toArray, List.set_cons_zero, List.set_cons_succ]
        refine seg 4 [3, 4, 5, 6, 8, 9, 10, 11, 12, 13, 14, 15, 16] rfl (by kernel_rfl) whole_blind (C0.out) (by kernel_rfl) ?_
        change wpQuiet _ _ _ _ (_ :: _ :: _ :: _ :: _ :: _ :: _ :: _ :: _ :: _ :: _ :: _ :: _ :: []) _
        repeat (first
          | go_big_quiet_skip
          | (go_big_quiet_want
             first
             | (refine q_load 60 (.tmp 11) rfl gl 0 rfl [.int .i64 (c : Int), .int .i64 (u2 : Int)] _ FL.out Tryd.underlying60 rfl (by kernel_rfl) ?_
                simp only [Act.put, List.setIfInBounds_toArray, List.set_cons_zero, List.set_cons_succ]
                go_big_quiet_on)
             | (refine q_slc (.tmp 56) rfl gp 0 rfl (some ⟨b2, o2, none⟩) (r.length + 1) cap FP.out ?_
                simp only [Act.put, List.setIfInBounds_toArray, List.set_cons_zero, List.set_cons_succ]
                go_big_quiet_on)
             | (refine q_slc (.tmp 60) rfl gp 0 rfl (some ⟨b2, o2, none⟩) (r.length + 1) cap FP.out ?_
                simp only [Act.put, List.setIfInBounds_toArray, List.set_cons_zero, List.set_cons_succ]
                go_big_quiet_on)
             | (refine q_load 30 (.tmp 58) rfl b2 o2 rfl (nums .u8 s) _ FQ.out Tryd.underlying30 rfl (sH Hsh.out) ?_
                simp only [Act.put, List.setIfInBounds_toArray, List.set_cons_zero, List.set_cons_succ]
                go_big_quiet_on)
             | (refine q_load 30 (.tmp 8) rfl gx 0 rfl (nums .u8 x) _ FX.out Tryd.underlying30 rfl (sH HX.out) ?_
                simp only [Act.put, List.setIfInBounds_toArray, List.set_cons_zero, List.set_cons_succ]
                go_big_quiet_on)
             | (refine q_load 30 (.tmp 9) rfl gy 0 rfl (nums .u8 y) _ FY.out Tryd.underlying30 rfl (sH HY.out) ?_
                simp only [Act.put, List.setIfInBounds_toArray, List.set_cons_zero, List.set_cons_succ]
                go_big_quiet_on)
             | (refine q_lo (.tmp 61) (.const (.int .i64 1)) rfl (some ⟨b2, o2, none⟩) (r.length + 1) cap 1 rfl rfl (by omega) hcap ?_
                simp only [Act.put, List.setIfInBounds_toArray, List.set_cons_zero, List.set_cons_succ]
                go_big_quiet_on)
             | (go_big_quiet_op
                go_big_quiet_on)))
        refine wpQuiet_nil ?_
        refine lone_do (i := 7) 3 rfl (by kernel_rfl) rfl (by rfl) ?_
        intro K hK
        refine oper_calls 29 _ _ rfl #[.agg #[.int .i64 (c : Int), .int .i64 (u2 : Int)], .int .i64 (n : Int)] (by rw [List.map_toArray]; rfl) (enters Tryd.func29 (by kernel_rfl) rfl) (fun v w' => OwE encV 60 2 w' y0.heap.size v os ∧ Below y0.heap.size y0 w') ((KO.out y0).mono (by rintro e w' ⟨v, rfl, g1, g2⟩; exact ⟨_, rfl, g1, g2⟩)) ?_
        rintro v y1 ⟨O1, Z1⟩
        obtain ⟨oa, ocap, rfl, _, _, hoes, _⟩ := O1.es
        have C1 : Hid (C y1) := CK.out _ _ C0.out Z1
        have HOE : Hid (ES encV 2 y1 oa os) := hoes
        clear Z1 O1 hoes
        refine hK _ _ (C1.out) ?_
        clear hK K
        simp only [Act.put, List.setIfInBounds_toArray, List.set_cons_zero, List.set_cons_succ]
        refine lone_do (i := 17) 2 rfl (by kernel_rfl) rfl (by rfl) ?_
        intro K hK
        refine oper_calls 36 _ _ rfl #[.slice oa os.length ocap, .agg (nums .u8 s).toArray, .slice (lo (some ⟨b2, o2, none⟩) cap 1) r.length (cap - 1), .agg (nums .u8 x).toArray, .agg (nums .u8 y).toArray] (by rw [List.map_toArray]; rfl) (enters Tryd.func36 (by kernel_rfl) rfl) (fun v w' => v = .bool ans ∧ Below y1.heap.size y1 w') (by have K := meet_any oa ocap os hob (by omega) s Hsh.out (lo (some ⟨b2, o2, none⟩) cap 1) (cap - 1) r Hrl.out x y HX.out HY.out y1 HOE.out (FS.out _ C1.out); rw [← HB.out] at K; exact K.mono (by rintro e w' ⟨rfl, g⟩; exact ⟨_, rfl, rfl, g⟩)) ?_
        rintro v y2 ⟨rfl, Z2⟩
        have C2 : Hid (C y2) := CK.out _ _ C1.out Z2
        clear Z2 HOE
        refine hK _ _ (C2.out) ?_
        clear hK K
        simp only [Act.put, List.setIfInBounds_toArray, List.set_cons_zero, List.set_cons_succ]
        refine lone_calm (i := 18) 1 rfl (by kernel_rfl) rfl rfl (C2.out) ?_
        repeat (first
          | go_big_quiet_skip
          | (go_big_quiet_want
             first
             | (go_big_quiet_op
                go_big_quiet_on)))
        refine wpQuiet_nil ?_
        refine lone_calm (i := 19) 0 rfl (by kernel_rfl) rfl rfl (C2.out) ?_
        repeat (first
          | go_big_quiet_skip
          | (go_big_quiet_want
             first
             | (go_big_quiet_op
                go_big_quiet_on)))
        refine wpQuiet_nil ?_
        refine anyC_done (by kernel_rfl) ⟨rfl, ?_⟩
        have ZE := CE.out _ C2.out
        have ZZ := Z.trans (ZE.mono Z.size)
        clear ZE C2 C1 C0 CK CA CE FL FX FY FP FS FQ hCp
        go_wp2
        go_ret
        exact ⟨rfl, ZZ⟩
#print axioms vcons_in
end Go.Proofs.YtehkaploinklmaaDoor
