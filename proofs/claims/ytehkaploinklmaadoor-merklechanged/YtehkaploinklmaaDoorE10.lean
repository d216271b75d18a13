/-
  VerifyConsist on both sides; MerkleTells' walk.
-/
import Derived.Test.YtehkaploinklmaaDoorEy
import Derived.Test.YtehkaploinklmaaDoorE6
import Derived.Test.YtehkaploinklmaaDoorE9
namespace Go.Proofs.YtehkaploinklmaaDoor
open Go Go.RowKit Go.Maps Sh
set_option maxHeartbeats 1000000 in
set_option maxRecDepth 8000 in
theorem rverify_in (lf rt : List Nat) (hlf : Hh lf) (hrt : Hh rt) (i n : Nat) (hi : i < n) (hn : n ≤ 1099511627776) (a : Option Addr) (cap : Nat) (L : List (List Nat)) (hL : Hl L) (hlen : L.length ≤ 1000000) (hcap : L.length ≤ cap) (w : World) (hS : ES (nums .u8) 32 w a L) :
    Calls Tryd.prog 20 #[.agg (nums .u8 lf).toArray, .int .i64 (i : Int), .int .i64 (n : Int), .agg #[.slice a L.length cap], .agg (nums .u8 rt).toArray] w fun e w' => e = .returned (.bool (vfy lf i n L rt)) ∧ Below w.heap.size w w' := by
  have HF : Hid (Hh lf) := hlf
  have HT : Hid (Hh rt) := hrt
  have HS : Hid (ES (nums .u8) 32 w a L) := hS
  have HL : Hid (Hl L) := hL
  have hi1 : ¬ (n : Int) ≤ (i : Int) := by omega
  have hn1 : ¬ (1099511627776 : Int) < (n : Int) := by omega
  have hi0 : ¬ (i : Int) < 0 := by omega
  have U := upF_R lf hlf 40 i n L hi hn
  have KU := fun W hW => up_any lf hlf i n a cap L W hi hn hL hlen hcap hW
  obtain ⟨x, ok, eu⟩ : ∃ x ok, upF lf 40 i n L = (x, ok) := ⟨_, _, rfl⟩
  simp only [eu] at U KU
  have HX : Hid (Hh x) := U.1
  obtain ⟨ans, HA⟩ : ∃ ans, Hid (vfy lf i n L rt = ans) := ⟨_, rfl⟩
  have HB : Hid (ans = (ok && decide (x = rt))) := by
    show _ = _
    rw [← HA.out, vfy]
    cases ok with
    | false =>
      have := of_decide_eq_false U.2.1.symm
      rw [Bool.false_and]
      exact decide_eq_false (fun h => this h.1)
    | true =>
      have h := of_decide_eq_true U.2.1.symm
      rw [Bool.true_and, U.2.2 rfl]
      simp [h]
  rw [HA.out]
  have SX : Hid ((Tryd.prog.info? 30).map (·.size) = some (nums .u8 x).length ∧ (nums .u8 x).length = (nums .u8 (List.replicate 32 0)).length) := ⟨sH HX.out, by rw [nums_length, nums_length, HX.out.1, List.length_replicate]⟩
  clear hlf hrt hS hL U eu HA
  go_enter Tryd.func20, Tryd.ntmps20
  go_wp2_with (refine al_box rfl 30 (.tmp 0) rfl (nums .u8 lf) rfl ?_)
  intro ga wa la BA GA
  have Z := (Below.refl w.heap.size w).grown GA (Nat.le_refl _) (by simp)
  clear GA
  go_wp2_with (refine al_box rfl 37 (.tmp 3) rfl [.slice a L.length cap] rfl ?_)
  intro gp wp lp BP GP
  have BA := BA.kept GP (by simp)
  have Z := Z.grown GP Z.size (by simp)
  clear GP
  go_wp2_with (refine al_box rfl 30 (.tmp 4) rfl (nums .u8 rt) rfl ?_)
  intro gr w0 lr BR GR
  have BA := BA.kept GR (by simp)
  have BP := BP.kept GR (by simp)
  have Z := Z.grown GR Z.size (by simp)
  have cP : w0.cell? ⟨gp, 0, none⟩ = some (.slice a L.length cap) := by rw [BP.cell]; rfl
  have KU := KU w0 (HS.out.below Z)
  clear GR
  go_wp2_with (refine ld_mid rfl 30 (.tmp 5) rfl ga 0 rfl (nums .u8 lf) _ BA.all Tryd.underlying30 rfl (sH HF.out) ?_)
  refine KU.mono ?_
  rintro e w1 ⟨rfl, Z1⟩
  have BR := BR.below Z1 BR.lt
  have Z := Z.trans (Z1.mono Z.size)
  clear KU Z1 BA BP cP
  go_wp2_with (refine al_zero rfl 30 rfl _ z25 ?_)
  intro gx w2 lx BX GX
  have nrx : gr ≠ gx := by have := BR.lt; omega
  have BR := BR.kept GX (by simp)
  have hgx := Nat.le_trans Z.size lx
  have Z := Z.grown GX Z.size (by simp)
  clear GX
  go_wp2_with (refine st_all rfl 30 (.tmp 11) (.tmp 31) rfl gx 30 (nums .u8 (List.replicate 32 0)) (nums .u8 x) rfl rfl BX SX.out.2 SX.out.1 (nums_one _ _) ?_)
  intro w3 BX GX
  have BR := BR.kept GX (fun e => nrx (Option.some.inj e))
  have Z := grown_below Z GX Z.size hgx
  clear GX
  have eq := fun W => eq_hash HX.out HT.out W
  cases ok with
  | false =>
    have e : ans = false := HB.out
    subst e
    go_wp2
    go_ret
    exact ⟨rfl, Z⟩
  | true =>
    have e : decide (x = rt) = ans := by rw [HB.out]; rfl
    rw [e] at eq
    clear e
    go_wp2_with (first | (refine ld_want (by rfl) 30 (.tmp 11) rfl gx 0 rfl (nums .u8 x) _ BX.all Tryd.underlying30 rfl SX.out.1 ?_) | (refine ld_want (by rfl) 30 (.tmp 9) rfl gr 0 rfl (nums .u8 rt) _ BR.all Tryd.underlying30 rfl (sH HT.out) ?_))
    go_ret
    exact ⟨rfl, Z⟩
#print axioms rverify_in
set_option maxHeartbeats 1000000 in
set_option maxRecDepth 8000 in
theorem rverify_any (lf rt : List Nat) (hlf : Hh lf) (hrt : Hh rt) (i n : Int) (a : Option Addr) (cap : Nat) (L : List (List Nat)) (hL : Hl L) (hlen : L.length ≤ 1000000) (hcap : L.length ≤ cap) (w : World) (hS : ES (nums .u8) 32 w a L) :
    Calls Tryd.prog 20 #[.agg (nums .u8 lf).toArray, .int .i64 i, .int .i64 n, .agg #[.slice a L.length cap], .agg (nums .u8 rt).toArray] w fun e w' => e = .returned (.bool (vf lf i n L rt)) ∧ Below w.heap.size w w' := by
  by_cases hin : 0 ≤ i ∧ i < n ∧ n ≤ 1099511627776
  · have K := rverify_in lf rt hlf hrt i.toNat n.toNat (by omega) (by omega) a cap L hL hlen hcap w hS
    have e : vf lf i n L rt = vfy lf i.toNat n.toNat L rt := by unfold vf; rw [decide_eq_true hin]; rfl
    rw [e]
    rw [Int.toNat_of_nonneg hin.1, Int.toNat_of_nonneg (by omega)] at K
    exact K
  · have e : vf lf i n L rt = false := by unfold vf; rw [decide_eq_false hin]; rfl
    rw [e]
    clear e hS
    go_enter Tryd.func20, Tryd.ntmps20
    go_wp2_with (refine al_box rfl 30 (.tmp 0) rfl (nums .u8 lf) rfl ?_)
    intro ga wa la BA GA
    have Z := (Below.refl w.heap.size w).grown GA (Nat.le_refl _) (by simp)
    clear GA
    go_wp2_with (refine al_box rfl 37 (.tmp 3) rfl [.slice a L.length cap] rfl ?_)
    intro gp wp lp BP GP
    have Z := Z.grown GP Z.size (by simp)
    clear GP
    go_wp2_with (refine al_box rfl 30 (.tmp 4) rfl (nums .u8 rt) rfl ?_)
    intro gr w0 lr BR GR
    have Z := Z.grown GR Z.size (by simp)
    clear GR
    by_cases c1 : i < 0
    · go_wp2
      go_ret
      exact ⟨rfl, Z⟩
    by_cases c2 : n ≤ i
    · go_wp2
      go_ret
      exact ⟨rfl, Z⟩
    have c3 : (1099511627776 : Int) < n := by omega
    go_wp2
    go_ret
    exact ⟨rfl, Z⟩
#print axioms rverify_any
/-- what VerifyConsist answers of any numbers. -/
def vcA (m n : Int) (L : List (List Nat)) (x y : List Nat) : Bool := decide (1 ≤ m ∧ m ≤ n ∧ n ≤ 1099511627776) && ((boF x 40 m.toNat n.toNat true L).2 && (decide ((boF x 40 m.toNat n.toNat true L).1.1 = x) && decide ((boF x 40 m.toNat n.toNat true L).1.2 = y)))
set_option maxHeartbeats 1000000 in
set_option maxRecDepth 8000 in
theorem vcons_any (m n : Int) (a : Option Addr) (cap : Nat) (L : List (List Nat)) (hL : Hl L) (hcap : L.length ≤ cap) (x y : List Nat) (hx : Hh x) (hy : Hh y) (w : World) (hT : Tb w) (hS : ES (nums .u8) 32 w a L) :
    Calls Tryd.prog 19 #[.int .i64 m, .int .i64 n, .agg #[.slice a L.length cap], .agg (nums .u8 x).toArray, .agg (nums .u8 y).toArray] w fun e w' => e = .returned (.bool (vcA m n L x y)) ∧ Below w.heap.size w w' := by
  by_cases hin : 1 ≤ m ∧ m ≤ n ∧ n ≤ 1099511627776
  · obtain ⟨c, u, hm, _, _⟩ := odd_of m.toNat (by omega) (by omega)
    have K := vcons_in m.toNat n.toNat c u hm (by omega) (by omega) a cap L hL hcap x y hx hy w hT hS
    rw [bo_vcs m.toNat n.toNat c u L x y hm (by omega) (by omega), Int.toNat_of_nonneg (by omega), Int.toNat_of_nonneg (by omega)] at K
    unfold vcA
    rw [decide_eq_true hin, Bool.true_and]
    exact K
  · have e : vcA m n L x y = false := by unfold vcA; rw [decide_eq_false hin, Bool.false_and]
    rw [e]
    clear e hS hT
    go_enter Tryd.func19, Tryd.ntmps19
    go_wp2_with (refine al_box rfl 37 (.tmp 2) rfl [.slice a L.length cap] rfl ?_)
    intro gp wp lp BP GP
    have Z := (Below.refl w.heap.size w).grown GP (Nat.le_refl _) (by simp)
    clear GP
    go_wp2_with (refine al_box rfl 30 (.tmp 3) rfl (nums .u8 x) rfl ?_)
    intro gx wx lx BX GX
    have BP := BP.kept GX (by simp)
    have Z := Z.grown GX Z.size (by simp)
    clear GX
    go_wp2_with (refine al_box rfl 30 (.tmp 4) rfl (nums .u8 y) rfl ?_)
    intro gy w0 ly BY GY
    have BP := BP.kept GY (by simp)
    have BX := BX.kept GY (by simp)
    have Z := Z.grown GY Z.size (by simp)
    clear GY
    by_cases c1 : m < 1
    · go_wp2
      go_ret
      exact ⟨rfl, Z⟩
    by_cases c2 : n < m
    · go_wp2
      go_ret
      exact ⟨rfl, Z⟩
    have c3 : (1099511627776 : Int) < n := by omega
    go_wp2
    go_ret
    exact ⟨rfl, Z⟩
set_option maxHeartbeats 1000000 in
set_option maxRecDepth 8000 in
theorem rvcons_in (m n : Nat) (hm1 : 1 ≤ m) (hmn : m ≤ n) (hn : n ≤ 1099511627776) (a : Option Addr) (cap : Nat) (L : List (List Nat)) (hL : Hl L) (hlen : L.length ≤ 1000000) (hcap : L.length ≤ cap) (x y : List Nat) (hx : Hh x) (hy : Hh y) (w : World) (hS : ES (nums .u8) 32 w a L) :
    Calls Tryd.prog 21 #[.int .i64 (m : Int), .int .i64 (n : Int), .agg #[.slice a L.length cap], .agg (nums .u8 x).toArray, .agg (nums .u8 y).toArray] w fun e w' => e = .returned (.bool ((boF x 40 m n true L).2 && (decide ((boF x 40 m n true L).1.1 = x) && decide ((boF x 40 m n true L).1.2 = y)))) ∧ Below w.heap.size w w' := by
  have HX : Hid (Hh x) := hx
  have HY : Hid (Hh y) := hy
  have HS : Hid (ES (nums .u8) 32 w a L) := hS
  have c1 : ¬ (m : Int) < 1 := by omega
  have c2 : ¬ (n : Int) < (m : Int) := by omega
  have c3 : ¬ (1099511627776 : Int) < (n : Int) := by omega
  have KB := fun W hW => bo_any x hx m n true a cap L W hm1 hmn hn hL hlen hcap hW
  have HP := boF_hh hx 40 m n true L hL
  obtain ⟨p, q, ok, eu⟩ : ∃ p q ok, boF x 40 m n true L = ((p, q), ok) := ⟨_, _, _, rfl⟩
  simp only [eu] at KB HP ⊢
  have HP1 : Hid (Hh p) := HP.1
  have HP2 : Hid (Hh q) := HP.2
  have SP : Hid ((Tryd.prog.info? 30).map (·.size) = some (nums .u8 p).length ∧ (nums .u8 p).length = (nums .u8 (List.replicate 32 0)).length) := ⟨sH HP1.out, lenz HP1.out⟩
  have SQ : Hid ((Tryd.prog.info? 30).map (·.size) = some (nums .u8 q).length ∧ (nums .u8 q).length = (nums .u8 (List.replicate 32 0)).length) := ⟨sH HP2.out, lenz HP2.out⟩
  obtain ⟨ans, HA⟩ : ∃ ans, Hid ((ok && (decide (p = x) && decide (q = y))) = ans) := ⟨_, rfl⟩
  rw [HA.out]
  clear hx hy hS hL HP eu
  go_enter Tryd.func21, Tryd.ntmps21
  go_wp2_with (refine al_box rfl 37 (.tmp 2) rfl [.slice a L.length cap] rfl ?_)
  intro gp wp lp BP GP
  have Z := (Below.refl w.heap.size w).grown GP (Nat.le_refl _) (by simp)
  clear GP
  go_wp2_with (refine al_box rfl 30 (.tmp 3) rfl (nums .u8 x) rfl ?_)
  intro gx wx lx BX GX
  have BP := BP.kept GX (by simp)
  have Z := Z.grown GX Z.size (by simp)
  clear GX
  go_wp2_with (refine al_box rfl 30 (.tmp 4) rfl (nums .u8 y) rfl ?_)
  intro gy w0 ly BY GY
  have BP := BP.kept GY (by simp)
  have BX := BX.kept GY (by simp)
  have Z := Z.grown GY Z.size (by simp)
  clear GY
  have cP : w0.cell? ⟨gp, 0, none⟩ = some (.slice a L.length cap) := by rw [BP.cell]; rfl
  have KB := KB w0 (HS.out.below Z)
  go_wp2_with (refine ld_mid rfl 30 (.tmp 8) rfl gx 0 rfl (nums .u8 x) _ BX.all Tryd.underlying30 rfl (sH HX.out) ?_)
  refine KB.mono ?_
  rintro e w1 ⟨rfl, Z1⟩
  have BX := BX.below Z1 BX.lt
  have BY := BY.below Z1 BY.lt
  have Z := Z.trans (Z1.mono Z.size)
  clear KB Z1 BP cP
  go_wp2_with (refine al_zero rfl 30 rfl _ z25 ?_)
  intro g1 w2 l1 B1 G1
  have nx1 : gx ≠ g1 := by have := BX.lt; omega
  have ny1 : gy ≠ g1 := by have := BY.lt; omega
  have BX := BX.kept G1 (by simp)
  have BY := BY.kept G1 (by simp)
  have hg1 := Nat.le_trans Z.size l1
  have Z := Z.grown G1 Z.size (by simp)
  clear G1
  go_wp2_with (refine al_zero rfl 30 rfl _ z25 ?_)
  intro g2 w3 l2 B2 G2
  have nx2 : gx ≠ g2 := by have := BX.lt; omega
  have ny2 : gy ≠ g2 := by have := BY.lt; omega
  have n12 : g1 ≠ g2 := by have := B1.lt; omega
  have BX := BX.kept G2 (by simp)
  have BY := BY.kept G2 (by simp)
  have B1 := B1.kept G2 (by simp)
  have hg2 := Nat.le_trans Z.size l2
  have Z := Z.grown G2 Z.size (by simp)
  clear G2
  go_wp2_with (refine st_all rfl 30 (.tmp 11) (.tmp 32) rfl g1 30 (nums .u8 (List.replicate 32 0)) (nums .u8 p) rfl rfl B1 SP.out.2 SP.out.1 (nums_one _ _) ?_)
  intro w4 B1 G1
  have BX := BX.kept G1 (fun e => nx1 (Option.some.inj e))
  have BY := BY.kept G1 (fun e => ny1 (Option.some.inj e))
  have B2 := B2.kept G1 (fun e => n12.symm (Option.some.inj e))
  have Z := grown_below Z G1 Z.size hg1
  clear G1
  go_wp2_with (refine st_all rfl 30 (.tmp 12) (.tmp 33) rfl g2 30 (nums .u8 (List.replicate 32 0)) (nums .u8 q) rfl rfl B2 SQ.out.2 SQ.out.1 (nums_one _ _) ?_)
  intro w5 B2 G2
  have BX := BX.kept G2 (fun e => nx2 (Option.some.inj e))
  have BY := BY.kept G2 (fun e => ny2 (Option.some.inj e))
  have B1 := B1.kept G2 (fun e => n12 (Option.some.inj e))
  have Z := grown_below Z G2 Z.size hg2
  clear G2 c1 c2 c3
  have eq1 := fun W => eq_hash HP1.out HX.out W
  have eq2 := fun W => eq_hash HP2.out HY.out W
  cases ok with
  | false =>
    have e : ans = false := HA.out.symm
    subst e
    go_wp2
    go_ret
    exact ⟨rfl, Z⟩
  | true =>
    by_cases hpx : p = x
    · have e : decide (q = y) = ans := by rw [← HA.out, decide_eq_true hpx]; rfl
      rw [e] at eq2
      rw [decide_eq_true hpx] at eq1
      clear e hpx
      go_wp2_with (first | (refine ld_want (by rfl) 30 (.tmp 11) rfl g1 0 rfl (nums .u8 p) _ B1.all Tryd.underlying30 rfl (sH HP1.out) ?_) | (refine ld_want (by rfl) 30 (.tmp 8) rfl gx 0 rfl (nums .u8 x) _ BX.all Tryd.underlying30 rfl (sH HX.out) ?_) | (refine ld_want (by rfl) 30 (.tmp 12) rfl g2 0 rfl (nums .u8 q) _ B2.all Tryd.underlying30 rfl (sH HP2.out) ?_) | (refine ld_want (by rfl) 30 (.tmp 9) rfl gy 0 rfl (nums .u8 y) _ BY.all Tryd.underlying30 rfl (sH HY.out) ?_))
      go_ret
      exact ⟨rfl, Z⟩
    · have e : ans = false := by rw [← HA.out, decide_eq_false hpx]; rfl
      subst e
      rw [decide_eq_false hpx] at eq1
      clear hpx
      go_wp2_with (first | (refine ld_want (by rfl) 30 (.tmp 11) rfl g1 0 rfl (nums .u8 p) _ B1.all Tryd.underlying30 rfl (sH HP1.out) ?_) | (refine ld_want (by rfl) 30 (.tmp 8) rfl gx 0 rfl (nums .u8 x) _ BX.all Tryd.underlying30 rfl (sH HX.out) ?_))
      go_ret
      exact ⟨rfl, Z⟩
set_option maxHeartbeats 1000000 in
set_option maxRecDepth 8000 in
theorem rvcons_any (m n : Int) (a : Option Addr) (cap : Nat) (L : List (List Nat)) (hL : Hl L) (hlen : L.length ≤ 1000000) (hcap : L.length ≤ cap) (x y : List Nat) (hx : Hh x) (hy : Hh y) (w : World) (hS : ES (nums .u8) 32 w a L) :
    Calls Tryd.prog 21 #[.int .i64 m, .int .i64 n, .agg #[.slice a L.length cap], .agg (nums .u8 x).toArray, .agg (nums .u8 y).toArray] w fun e w' => e = .returned (.bool (vcA m n L x y)) ∧ Below w.heap.size w w' := by
  by_cases hin : 1 ≤ m ∧ m ≤ n ∧ n ≤ 1099511627776
  · have K := rvcons_in m.toNat n.toNat (by omega) (by omega) (by omega) a cap L hL hlen hcap x y hx hy w hS
    rw [Int.toNat_of_nonneg (by omega), Int.toNat_of_nonneg (by omega)] at K
    unfold vcA
    rw [decide_eq_true hin, Bool.true_and]
    exact K
  · have e : vcA m n L x y = false := by unfold vcA; rw [decide_eq_false hin, Bool.false_and]
    rw [e]
    clear e hS
    go_enter Tryd.func21, Tryd.ntmps21
    go_wp2_with (refine al_box rfl 37 (.tmp 2) rfl [.slice a L.length cap] rfl ?_)
    intro gp wp lp BP GP
    have Z := (Below.refl w.heap.size w).grown GP (Nat.le_refl _) (by simp)
    clear GP
    go_wp2_with (refine al_box rfl 30 (.tmp 3) rfl (nums .u8 x) rfl ?_)
    intro gx wx lx BX GX
    have BP := BP.kept GX (by simp)
    have Z := Z.grown GX Z.size (by simp)
    clear GX
    go_wp2_with (refine al_box rfl 30 (.tmp 4) rfl (nums .u8 y) rfl ?_)
    intro gy w0 ly BY GY
    have BP := BP.kept GY (by simp)
    have BX := BX.kept GY (by simp)
    have Z := Z.grown GY Z.size (by simp)
    clear GY
    by_cases c1 : m < 1
    · go_wp2
      go_ret
      exact ⟨rfl, Z⟩
    by_cases c2 : n < m
    · go_wp2
      go_ret
      exact ⟨rfl, Z⟩
    have c3 : (1099511627776 : Int) < n := by omega
    go_wp2
    go_ret
    exact ⟨rfl, Z⟩
#print axioms rvcons_any
end Go.Proofs.YtehkaploinklmaaDoor
