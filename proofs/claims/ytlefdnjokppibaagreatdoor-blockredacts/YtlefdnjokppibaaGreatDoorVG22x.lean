/-
  What an entry may have: the contracts of block's has, isNothing, fits, shapeOf, isEntry, isHead. · What an entry may have: the contracts of block's shapeOf, isEntry, isHead.
-/
import Derived.Test.YtlefdnjokppibaaGreatDoorVG14x
import Derived.Test.YtlefdnjokppibaaGreatDoorVG20x
import Derived.Test.YtlefdnjokppibaaGreatDoorVG15x
namespace Go.Proofs.YtlefdnjokppibaaGreatDoor.Sh
open Go.RowKit Math Mt
set_option linter.unusedVariables false
set_option linter.unusedSimpArgs false
set_option maxHeartbeats 1000000 in
set_option maxRecDepth 8000 in
theorem has_any (lo hi n : Int) (w : World) :
    Calls Tryz.prog 76 #[.agg #[.int .i64 lo, .int .i64 hi], .int .i64 n] w fun e w' => e = .returned (.bool (decide (inP n lo hi))) ∧ Below w.heap.size w w' := by
  obtain ⟨T, HT⟩ : ∃ T, Hid (decide (inP n lo hi) = T) := ⟨_, rfl⟩
  rw [HT.out]
  have Z := (Below.refl w.heap.size w).alloc (Nat.le_refl _) (.cells #[.int .i64 lo, .int .i64 hi] 120)
  by_cases h1 : lo ≤ n
  · by_cases h2 : n ≤ hi
    · obtain rfl : T = true := by rw [← HT.out]; exact decide_eq_true ⟨h1, h2⟩
      clear HT
      go_enter Tryz.func76, Tryz.ntmps76
      go_wp2
      go_ret
      exact ⟨rfl, Z⟩
    · obtain rfl : T = false := by rw [← HT.out]; exact decide_eq_false fun h => h2 h.2
      clear HT
      go_enter Tryz.func76, Tryz.ntmps76
      go_wp2
      go_ret
      exact ⟨rfl, Z⟩
  · obtain rfl : T = false := by rw [← HT.out]; exact decide_eq_false fun h => h1 h.1
    clear HT
    go_enter Tryz.func76, Tryz.ntmps76
    go_wp2
    go_ret
    exact ⟨rfl, Z⟩
theorem t_empty (t : ByteArray) : t.toList.isEmpty = decide (t.size = 0) := by
  by_cases h : t.size = 0
  · rw [decide_eq_true h]
    have e : t.data.toList = [] := List.eq_nil_of_length_eq_zero (by simpa using h)
    have e2 : t.data = #[] := by rw [← Array.toList_inj]; exact e
    have e3 : t = ⟨#[]⟩ := by cases h : t with | mk d => rw [h] at e2; rw [← e2]
    rw [e3, ByteArray.toList_eq]; rfl
  · rw [decide_eq_false h]
    cases hc : t.toList.isEmpty with
    | false => rfl
    | true => have := em_of hc; rw [this] at h; exact absurd rfl h
set_option maxHeartbeats 1000000 in
set_option maxRecDepth 8000 in
theorem noth_raw (k n s : Int) (t : ByteArray) (na : Option Addr) (nl nc : Nat) (ka : Option Addr) (kl kc : Nat) (w : World) :
    Calls Tryz.prog 91 #[.agg #[.int .i64 k, .int .i64 n, .int .i64 s, .string t, .slice na nl nc, .slice ka kl kc]] w fun e w' => e = .returned (.bool (decide (k = 0 ∧ n = 0 ∧ s = 0 ∧ t.size = 0 ∧ nl = 0 ∧ kl = 0))) ∧ Below w.heap.size w w' := by
  obtain ⟨T, HT⟩ : ∃ T, Hid (decide (k = 0 ∧ n = 0 ∧ s = 0 ∧ t.size = 0 ∧ nl = 0 ∧ kl = 0) = T) := ⟨_, rfl⟩
  rw [HT.out]
  have Z := (Below.refl w.heap.size w).alloc (Nat.le_refl _) (.cells #[.int .i64 k, .int .i64 n, .int .i64 s, .string t, .slice na nl nc, .slice ka kl kc] 41)
  by_cases h1 : k = 0
  case neg =>
    obtain rfl : T = false := by rw [← HT.out]; exact decide_eq_false fun h => by exact absurd h.1 h1
    have c1 : (k == 0) = false := beq_eq_false_iff_ne.2 h1
    clear h1
    clear HT
    go_enter Tryz.func91, Tryz.ntmps91
    go_wp2
    go_ret
    exact ⟨rfl, Z⟩
  by_cases h2 : n = 0
  case neg =>
    obtain rfl : T = false := by rw [← HT.out]; exact decide_eq_false fun h => by exact absurd h.2.1 h2
    have c1 : (k == 0) = true := by rw [h1]; rfl
    have c2 : (n == 0) = false := beq_eq_false_iff_ne.2 h2
    clear h1 h2
    clear HT
    go_enter Tryz.func91, Tryz.ntmps91
    go_wp2
    go_ret
    exact ⟨rfl, Z⟩
  by_cases h3 : s = 0
  case neg =>
    obtain rfl : T = false := by rw [← HT.out]; exact decide_eq_false fun h => by exact absurd h.2.2.1 h3
    have c1 : (k == 0) = true := by rw [h1]; rfl
    have c2 : (n == 0) = true := by rw [h2]; rfl
    have c3 : (s == 0) = false := beq_eq_false_iff_ne.2 h3
    clear h1 h2 h3
    clear HT
    go_enter Tryz.func91, Tryz.ntmps91
    go_wp2
    go_ret
    exact ⟨rfl, Z⟩
  by_cases h4 : t.size = 0
  case neg =>
    obtain rfl : T = false := by rw [← HT.out]; exact decide_eq_false fun h => by exact absurd h.2.2.2.1 h4
    have c1 : (k == 0) = true := by rw [h1]; rfl
    have c2 : (n == 0) = true := by rw [h2]; rfl
    have c3 : (s == 0) = true := by rw [h3]; rfl
    have c4 : t.toList.isEmpty = false := by rw [t_empty]; exact decide_eq_false h4
    clear h1 h2 h3 h4
    clear HT
    go_enter Tryz.func91, Tryz.ntmps91
    go_wp2
    go_ret
    exact ⟨rfl, Z⟩
  by_cases h5 : nl = 0
  case neg =>
    obtain rfl : T = false := by rw [← HT.out]; exact decide_eq_false fun h => by exact absurd h.2.2.2.2.1 h5
    have c1 : (k == 0) = true := by rw [h1]; rfl
    have c2 : (n == 0) = true := by rw [h2]; rfl
    have c3 : (s == 0) = true := by rw [h3]; rfl
    have c4 : t.toList.isEmpty = true := by rw [t_empty]; exact decide_eq_true h4
    have c5 : ((nl : Int) == 0) = false := beq_eq_false_iff_ne.2 (by omega)
    clear h1 h2 h3 h4 h5
    clear HT
    go_enter Tryz.func91, Tryz.ntmps91
    go_wp2
    go_ret
    exact ⟨rfl, Z⟩
  by_cases h6 : kl = 0
  case neg =>
    obtain rfl : T = false := by rw [← HT.out]; exact decide_eq_false fun h => by exact absurd h.2.2.2.2.2 h6
    have c1 : (k == 0) = true := by rw [h1]; rfl
    have c2 : (n == 0) = true := by rw [h2]; rfl
    have c3 : (s == 0) = true := by rw [h3]; rfl
    have c4 : t.toList.isEmpty = true := by rw [t_empty]; exact decide_eq_true h4
    have c5 : ((nl : Int) == 0) = true := by rw [h5]; rfl
    have c6 : ((kl : Int) == 0) = false := beq_eq_false_iff_ne.2 (by omega)
    clear h1 h2 h3 h4 h5 h6
    clear HT
    go_enter Tryz.func91, Tryz.ntmps91
    go_wp2
    go_ret
    exact ⟨rfl, Z⟩
  obtain rfl : T = true := by rw [← HT.out]; exact decide_eq_true ⟨h1, h2, h3, h4, h5, h6⟩
  have c1 : (k == 0) = true := by rw [h1]; rfl
  have c2 : (n == 0) = true := by rw [h2]; rfl
  have c3 : (s == 0) = true := by rw [h3]; rfl
  have c4 : t.toList.isEmpty = true := by rw [t_empty]; exact decide_eq_true h4
  have c5 : ((nl : Int) == 0) = true := by rw [h5]; rfl
  have c6 : ((kl : Int) == 0) = true := by rw [h6]; rfl
  clear h1 h2 h3 h4 h5 h6
  clear HT
  go_enter Tryz.func91, Tryz.ntmps91
  go_wp2
  go_ret
  exact ⟨rfl, Z⟩
theorem noth_any (p : Vt) (na : Option Addr) (nc : Nat) (ka : Option Addr) (kc : Nat) (w : World) :
    Calls Tryz.prog 91 #[.agg #[.int .i64 p.1.k, .int .i64 p.1.n, .int .i64 p.1.s, .string p.1.t, .slice na p.1.ns.length nc, .slice ka p.2.list.length kc]] w fun e w' => e = .returned (.bool (nvB p)) ∧ Below w.heap.size w w' := noth_raw _ _ _ _ _ _ _ _ _ _ w
def shC (s : Sp) : List Value := [.int .i64 s.t0, .int .i64 s.t1, .int .i64 s.b0, .int .i64 s.b1, .int .i64 s.d0, .int .i64 s.d1, .int .i64 s.v0, .int .i64 s.v1, .int .i64 s.a0, .int .i64 s.a1]
set_option maxHeartbeats 1000000 in
set_option maxRecDepth 8000 in
theorem fits_any (s : Sp) (e : En) (he : EnW e) (na : Option Addr) (nc : Nat) (ka : Option Addr) (kc : Nat) (w : World) :
    Calls Tryz.prog 90 #[.agg (shC s).toArray, .agg (eC e na nc ka kc).toArray] w fun e' w' => e' = .returned (.bool (fitB s e)) ∧ Below w.heap.size w w' := by
  have HL : Hid (e.h.length = 32) := he.h.1
  obtain ⟨t1, T1⟩ : ∃ T, Hid (decide (inP (e.t.size : Int) s.t0 s.t1) = T) := ⟨_, rfl⟩
  obtain ⟨t2, T2⟩ : ∃ T, Hid (decide (inP e.tb s.b0 s.b1) = T) := ⟨_, rfl⟩
  obtain ⟨t3, T3⟩ : ∃ T, Hid (decide (inP e.dc s.d0 s.d1) = T) := ⟨_, rfl⟩
  obtain ⟨t4, T4⟩ : ∃ T, Hid (decide (inP e.vr s.v0 s.v1) = T) := ⟨_, rfl⟩
  obtain ⟨t5, T5⟩ : ∃ T, Hid (decide (inP e.ab s.a0 s.a1) = T) := ⟨_, rfl⟩
  obtain ⟨t6, T6⟩ : ∃ T, Hid (decide (inP e.ae s.a0 s.a1) = T) := ⟨_, rfl⟩
  have HF : fitB s e = (t1 && t2 && t3 && t4 && t5 && t6) := by unfold fitB; rw [T1.out, T2.out, T3.out, T4.out, T5.out, T6.out]
  rw [HF]
  clear HF he
  go_enter Tryz.func90, Tryz.ntmps90
  go_wp2_with (refine al_box rfl 136 (.tmp 0) rfl (shC s) rfl ?_)
  intro gs w1 l1 BS G0
  have Z := (Below.refl w.heap.size w).grown G0 (Nat.le_refl _) (by simp)
  have hgs : w.heap.size ≤ gs := l1
  clear G0
  go_wp2_with (refine al_box rfl 45 (.tmp 1) rfl (eC e na nc ka kc) rfl ?_)
  intro ge w2 l2 BE G0
  have hge : w.heap.size ≤ ge := Nat.le_trans Z.size l2
  have Z := Z.grown G0 Z.size (by simp)
  have ngsge : gs ≠ ge := by have := BS.lt; omega
  have BS := BS.kept G0 (by simp)
  clear G0
  have EF := enF_of HL.out BE.all
  have ce : w2.cell? ⟨ge, 1, none⟩ = some (.string e.t) := by have := EF.t; simpa using this
  clear EF
  have d0 : w2.cell? ⟨gs, 0, none⟩ = some (.int .i64 s.t0) := BS.cell 0
  have d1 : w2.cell? ⟨gs, 1, none⟩ = some (.int .i64 s.t1) := BS.cell 1
  have KR : Calls Tryz.prog 76 #[.agg #[.int .i64 s.t0, .int .i64 s.t1], .int .i64 (e.t.size : Int)] w2 fun e' w' => e' = .returned (.bool t1) ∧ Below w2.heap.size w2 w' := by have := has_any s.t0 s.t1 (e.t.size : Int) w2; rw [T1.out] at this; exact this
  go_wp2_with fail
  refine KR.mono ?_
  rintro e' w3 ⟨rfl, Z0⟩
  clear KR d0 d1 ce T1
  have BS := BS.below Z0 BS.lt
  have BE := BE.below Z0 BE.lt
  have Z := Z.trans (Z0.mono Z.size)
  clear Z0
  cases t1
  · clear BS BE
    go_wp2
    go_ret
    exact ⟨rfl, Z⟩
  have EF := enF_of HL.out BE.all
  have ce : w3.cell? ⟨ge, 2, none⟩ = some (.int .i64 e.tb) := by have := EF.tb; simpa using this
  clear EF
  have d0 : w3.cell? ⟨gs, 2, none⟩ = some (.int .i64 s.b0) := BS.cell 2
  have d1 : w3.cell? ⟨gs, 3, none⟩ = some (.int .i64 s.b1) := BS.cell 3
  have KR : Calls Tryz.prog 76 #[.agg #[.int .i64 s.b0, .int .i64 s.b1], .int .i64 e.tb] w3 fun e' w' => e' = .returned (.bool t2) ∧ Below w3.heap.size w3 w' := by have := has_any s.b0 s.b1 e.tb w3; rw [T2.out] at this; exact this
  go_wp2_with fail
  refine KR.mono ?_
  rintro e' w4 ⟨rfl, Z0⟩
  clear KR d0 d1 ce T2
  have BS := BS.below Z0 BS.lt
  have BE := BE.below Z0 BE.lt
  have Z := Z.trans (Z0.mono Z.size)
  clear Z0
  cases t2
  · clear BS BE
    go_wp2
    go_ret
    exact ⟨rfl, Z⟩
  have EF := enF_of HL.out BE.all
  have ce : w4.cell? ⟨ge, 3, none⟩ = some (.int .i64 e.dc) := by have := EF.dc; simpa using this
  clear EF
  have d0 : w4.cell? ⟨gs, 4, none⟩ = some (.int .i64 s.d0) := BS.cell 4
  have d1 : w4.cell? ⟨gs, 5, none⟩ = some (.int .i64 s.d1) := BS.cell 5
  have KR : Calls Tryz.prog 76 #[.agg #[.int .i64 s.d0, .int .i64 s.d1], .int .i64 e.dc] w4 fun e' w' => e' = .returned (.bool t3) ∧ Below w4.heap.size w4 w' := by have := has_any s.d0 s.d1 e.dc w4; rw [T3.out] at this; exact this
  go_wp2_with fail
  refine KR.mono ?_
  rintro e' w5 ⟨rfl, Z0⟩
  clear KR d0 d1 ce T3
  have BS := BS.below Z0 BS.lt
  have BE := BE.below Z0 BE.lt
  have Z := Z.trans (Z0.mono Z.size)
  clear Z0
  cases t3
  · clear BS BE
    go_wp2
    go_ret
    exact ⟨rfl, Z⟩
  have EF := enF_of HL.out BE.all
  have ce : w5.cell? ⟨ge, 4, none⟩ = some (.int .i64 e.vr) := by have := EF.vr; simpa using this
  clear EF
  have d0 : w5.cell? ⟨gs, 6, none⟩ = some (.int .i64 s.v0) := BS.cell 6
  have d1 : w5.cell? ⟨gs, 7, none⟩ = some (.int .i64 s.v1) := BS.cell 7
  have KR : Calls Tryz.prog 76 #[.agg #[.int .i64 s.v0, .int .i64 s.v1], .int .i64 e.vr] w5 fun e' w' => e' = .returned (.bool t4) ∧ Below w5.heap.size w5 w' := by have := has_any s.v0 s.v1 e.vr w5; rw [T4.out] at this; exact this
  go_wp2_with fail
  refine KR.mono ?_
  rintro e' w6 ⟨rfl, Z0⟩
  clear KR d0 d1 ce T4
  have BS := BS.below Z0 BS.lt
  have BE := BE.below Z0 BE.lt
  have Z := Z.trans (Z0.mono Z.size)
  clear Z0
  cases t4
  · clear BS BE
    go_wp2
    go_ret
    exact ⟨rfl, Z⟩
  have EF := enF_of HL.out BE.all
  have ce : w6.cell? ⟨ge, 44, none⟩ = some (.int .i64 e.ab) := by have := EF.ab; simpa using this
  clear EF
  have d0 : w6.cell? ⟨gs, 8, none⟩ = some (.int .i64 s.a0) := BS.cell 8
  have d1 : w6.cell? ⟨gs, 9, none⟩ = some (.int .i64 s.a1) := BS.cell 9
  have KR : Calls Tryz.prog 76 #[.agg #[.int .i64 s.a0, .int .i64 s.a1], .int .i64 e.ab] w6 fun e' w' => e' = .returned (.bool t5) ∧ Below w6.heap.size w6 w' := by have := has_any s.a0 s.a1 e.ab w6; rw [T5.out] at this; exact this
  go_wp2_with fail
  refine KR.mono ?_
  rintro e' w7 ⟨rfl, Z0⟩
  clear KR d0 d1 ce T5
  have BS := BS.below Z0 BS.lt
  have BE := BE.below Z0 BE.lt
  have Z := Z.trans (Z0.mono Z.size)
  clear Z0
  cases t5
  · clear BS BE
    go_wp2
    go_ret
    exact ⟨rfl, Z⟩
  have EF := enF_of HL.out BE.all
  have ce : w7.cell? ⟨ge, 45, none⟩ = some (.int .i64 e.ae) := by have := EF.ae; simpa using this
  clear EF
  have d0 : w7.cell? ⟨gs, 8, none⟩ = some (.int .i64 s.a0) := BS.cell 8
  have d1 : w7.cell? ⟨gs, 9, none⟩ = some (.int .i64 s.a1) := BS.cell 9
  have KR : Calls Tryz.prog 76 #[.agg #[.int .i64 s.a0, .int .i64 s.a1], .int .i64 e.ae] w7 fun e' w' => e' = .returned (.bool t6) ∧ Below w7.heap.size w7 w' := by have := has_any s.a0 s.a1 e.ae w7; rw [T6.out] at this; exact this
  go_wp2_with fail
  refine KR.mono ?_
  rintro e' w8 ⟨rfl, Z0⟩
  clear KR d0 d1 ce T6
  have BS := BS.below Z0 BS.lt
  have BE := BE.below Z0 BE.lt
  have Z := Z.trans (Z0.mono Z.size)
  clear Z0
  cases t6
  · clear BS BE
    go_wp2
    go_ret
    exact ⟨rfl, Z⟩
  clear BS BE
  go_wp2
  go_ret
  exact ⟨rfl, Z⟩
end Go.Proofs.YtlefdnjokppibaaGreatDoor.Sh
namespace Go.Proofs.YtlefdnjokppibaaGreatDoor.Sh
open Go.RowKit Math Mt
set_option linter.unusedVariables false
set_option linter.unusedSimpArgs false
theorem zS : (Tryz.prog.info? 136).map (fun i => i.zero.map (·.cells)) = some (some (shC {}).toArray) := by kernel_rfl
theorem zP : (Tryz.prog.info? 120).map (fun i => i.zero.map (·.cells)) = some (some [Value.int .i64 0, .int .i64 0].toArray) := by kernel_rfl
theorem szS (s : Sp) : (Tryz.prog.info? 136).map (·.size) = some (shC s).length := by
  have : (Tryz.prog.info? 136).map (·.size) = some 10 := by kernel_rfl
  rw [this]; rfl
theorem szP (a b : Int) : (Tryz.prog.info? 120).map (·.size) = some [Value.int .i64 a, .int .i64 b].length := by
  have : (Tryz.prog.info? 120).map (·.size) = some 2 := by kernel_rfl
  rw [this]; rfl
theorem shC_one (s : Sp) : ∀ u ∈ shC s, u.oneCell' = true := by
  intro u hu
  unfold shC at hu
  simp only [List.mem_cons, List.not_mem_nil, or_false] at hu
  rcases hu with rfl | rfl | rfl | rfl | rfl | rfl | rfl | rfl | rfl | rfl <;> rfl
theorem pr_one (a b : Int) : ∀ u ∈ [Value.int .i64 a, .int .i64 b], u.oneCell' = true := by
  intro u hu
  simp only [List.mem_cons, List.not_mem_nil, or_false] at hu
  rcases hu with rfl | rfl <;> rfl
/-- What shapeOf answers. -/
def shA (k : Int) : Value := match spn k with
  | none => .tuple #[.agg (shC {}).toArray, .bool false]
  | some s => .tuple #[.agg (shC s).toArray, .bool true]
set_option maxHeartbeats 1000000 in
set_option maxRecDepth 8000 in
theorem shape_any (k : Int) (w : World) : Calls Tryz.prog 89 #[.int .i64 k] w fun e w' => e = .returned (shA k) ∧ Below w.heap.size w w' := by
  have HA : Hid ((k = 1 → shA k = .tuple #[.agg (shC { t0 := 1, t1 := 4096 }).toArray, .bool true]) ∧ (¬ k = 1 → ¬ k = 2 → ¬ k = 3 → ¬ k = 4 → ¬ k = 5 → ¬ k = 6 → ¬ k = 7 → shA k = .tuple #[.agg (shC {}).toArray, .bool false])) := by
    refine ⟨fun h => by subst h; rfl, fun h1 h2 h3 h4 h5 h6 h7 => ?_⟩
    unfold shA spn
    rw [if_neg h1, if_neg h2, if_neg h3, if_neg h4, if_neg (fun h => h.elim h5 h7), if_neg h6]
  go_enter Tryz.func89, Tryz.ntmps89
  go_wp2_with (refine al_zero rfl 136 rfl (shC {}) zS ?_)
  intro g1 w1 l1 B1 G0
  have Z := (Below.refl w.heap.size w).grown G0 (Nat.le_refl _) (by simp)
  have hg1 : w.heap.size ≤ g1 := l1
  clear G0
  go_wp2_with (refine al_zero rfl 120 rfl [.int .i64 0, .int .i64 0] zP ?_)
  intro g2 w2 l2 B2 G0
  have hg2 : w.heap.size ≤ g2 := Nat.le_trans Z.size l2
  have Z := Z.grown G0 Z.size (by simp)
  have ng1g2 : g1 ≠ g2 := by have := B1.lt; omega
  have B1 := B1.kept G0 (by simp)
  clear G0
  go_wp2_with (refine al_zero rfl 120 rfl [.int .i64 0, .int .i64 0] zP ?_)
  intro g3 w3 l3 B3 G0
  have hg3 : w.heap.size ≤ g3 := Nat.le_trans Z.size l3
  have Z := Z.grown G0 Z.size (by simp)
  have ng1g3 : g1 ≠ g3 := by have := B1.lt; omega
  have B1 := B1.kept G0 (by simp)
  have ng2g3 : g2 ≠ g3 := by have := B2.lt; omega
  have B2 := B2.kept G0 (by simp)
  clear G0
  go_wp2_with (refine al_zero rfl 120 rfl [.int .i64 0, .int .i64 0] zP ?_)
  intro g4 w4 l4 B4 G0
  have hg4 : w.heap.size ≤ g4 := Nat.le_trans Z.size l4
  have Z := Z.grown G0 Z.size (by simp)
  have ng1g4 : g1 ≠ g4 := by have := B1.lt; omega
  have B1 := B1.kept G0 (by simp)
  have ng2g4 : g2 ≠ g4 := by have := B2.lt; omega
  have B2 := B2.kept G0 (by simp)
  have ng3g4 : g3 ≠ g4 := by have := B3.lt; omega
  have B3 := B3.kept G0 (by simp)
  clear G0
  go_wp2_with (refine st_all rfl 120 (.tmp 4) (.tmp 7) rfl g2 120 [.int .i64 0, .int .i64 0] [.int .i64 1, .int .i64 64] rfl rfl B2 rfl (szP _ _) (pr_one _ _) ?_)
  intro w5 B2 G0
  have B1 := B1.kept G0 (fun e => ng1g2 (Option.some.inj e))
  have B3 := B3.kept G0 (fun e => ng2g3.symm (Option.some.inj e))
  have B4 := B4.kept G0 (fun e => ng2g4.symm (Option.some.inj e))
  have Z := Sh.grown_below Z G0 Z.size hg2
  clear G0
  go_wp2_with (refine st_all rfl 120 (.tmp 5) (.tmp 8) rfl g3 120 [.int .i64 0, .int .i64 0] [.int .i64 1, .int .i64 65536] rfl rfl B3 rfl (szP _ _) (pr_one _ _) ?_)
  intro w6 B3 G0
  have B1 := B1.kept G0 (fun e => ng1g3 (Option.some.inj e))
  have B2 := B2.kept G0 (fun e => ng2g3 (Option.some.inj e))
  have B4 := B4.kept G0 (fun e => ng3g4.symm (Option.some.inj e))
  have Z := Sh.grown_below Z G0 Z.size hg3
  clear G0
  go_wp2_with (refine st_all rfl 120 (.tmp 6) (.tmp 9) rfl g4 120 [.int .i64 0, .int .i64 0] [.int .i64 1, .int .i64 40] rfl rfl B4 rfl (szP _ _) (pr_one _ _) ?_)
  intro w7 B4 G0
  have B1 := B1.kept G0 (fun e => ng1g4 (Option.some.inj e))
  have B2 := B2.kept G0 (fun e => ng2g4 (Option.some.inj e))
  have B3 := B3.kept G0 (fun e => ng3g4 (Option.some.inj e))
  have Z := Sh.grown_below Z G0 Z.size hg4
  clear G0
  by_cases h1 : k = 1
  · subst h1
    clear HA
    go_wp2_with (first | (refine bd_row rfl 136 #[(0, .tmp 13)] rfl (shC { t0 := 1, t1 := 4096 }) (by kernel_rfl) ?_) | (refine st_all rfl 136 (.tmp 2) (.tmp 14) rfl g1 136 (shC {}) (shC { t0 := 1, t1 := 4096 }) rfl rfl B1 rfl (szS _) (shC_one _) ?_))
    intro w8 B1 G0
    have Z := Sh.grown_below Z G0 Z.size hg1
    clear G0 B2 B3 B4
    go_wp2
    refine bodyPost_ret (Go.Proofs.YtlefdnjokppibaaGreatDoor.res_two rfl _ g1 136 _ _ rfl B1 Tryz.underlying136 rfl (szS _)) rfl ⟨rfl, Z⟩
  by_cases h2 : k = 2
  · subst h2
    clear HA
    go_wp2_with (first | (refine ld_w (by rfl) 120 (.tmp 4) rfl g2 0 rfl [.int .i64 1, .int .i64 64] _ B2.all Tryz.underlying120 rfl (szP _ _) ?_) | (refine ld_w (by rfl) 120 (.tmp 5) rfl g3 0 rfl [.int .i64 1, .int .i64 65536] _ B3.all Tryz.underlying120 rfl (szP _ _) ?_) | (refine bd_row rfl 136 #[(1, .tmp 17), (2, .tmp 18), (3, .tmp 19)] rfl (shC { b0 := 1, b1 := 64, d0 := 1, d1 := 65536, v1 := 2147483648 }) (by kernel_rfl) ?_) | (refine st_all rfl 136 (.tmp 2) (.tmp 20) rfl g1 136 (shC {}) (shC { b0 := 1, b1 := 64, d0 := 1, d1 := 65536, v1 := 2147483648 }) rfl rfl B1 rfl (szS _) (shC_one _) ?_))
    intro w8 B1 G0
    have Z := Sh.grown_below Z G0 Z.size hg1
    clear G0 B2 B3 B4
    go_wp2
    refine bodyPost_ret (Go.Proofs.YtlefdnjokppibaaGreatDoor.res_two rfl _ g1 136 _ _ rfl B1 Tryz.underlying136 rfl (szS _)) rfl ⟨rfl, Z⟩
  by_cases h3 : k = 3
  · subst h3
    clear HA
    go_wp2_with (first | (refine ld_w (by rfl) 120 (.tmp 4) rfl g2 0 rfl [.int .i64 1, .int .i64 64] _ B2.all Tryz.underlying120 rfl (szP _ _) ?_) | (refine ld_w (by rfl) 120 (.tmp 5) rfl g3 0 rfl [.int .i64 1, .int .i64 65536] _ B3.all Tryz.underlying120 rfl (szP _ _) ?_) | (refine bd_row rfl 136 #[(1, .tmp 23), (2, .tmp 24), (3, .tmp 25)] rfl (shC { b0 := 1, b1 := 64, d0 := 1, d1 := 65536, v0 := 1, v1 := 2147483648 }) (by kernel_rfl) ?_) | (refine st_all rfl 136 (.tmp 2) (.tmp 26) rfl g1 136 (shC {}) (shC { b0 := 1, b1 := 64, d0 := 1, d1 := 65536, v0 := 1, v1 := 2147483648 }) rfl rfl B1 rfl (szS _) (shC_one _) ?_))
    intro w8 B1 G0
    have Z := Sh.grown_below Z G0 Z.size hg1
    clear G0 B2 B3 B4
    go_wp2
    refine bodyPost_ret (Go.Proofs.YtlefdnjokppibaaGreatDoor.res_two rfl _ g1 136 _ _ rfl B1 Tryz.underlying136 rfl (szS _)) rfl ⟨rfl, Z⟩
  by_cases h4 : k = 4
  · subst h4
    clear HA
    go_wp2_with (first | (refine bd_row rfl 136 #[(4, .tmp 29)] rfl (shC { a1 := 2147483648 }) (by kernel_rfl) ?_) | (refine st_all rfl 136 (.tmp 2) (.tmp 30) rfl g1 136 (shC {}) (shC { a1 := 2147483648 }) rfl rfl B1 rfl (szS _) (shC_one _) ?_))
    intro w8 B1 G0
    have Z := Sh.grown_below Z G0 Z.size hg1
    clear G0 B2 B3 B4
    go_wp2
    refine bodyPost_ret (Go.Proofs.YtlefdnjokppibaaGreatDoor.res_two rfl _ g1 136 _ _ rfl B1 Tryz.underlying136 rfl (szS _)) rfl ⟨rfl, Z⟩
  by_cases h5 : k = 5
  · subst h5
    clear HA
    go_wp2_with (first | (refine ld_w (by rfl) 120 (.tmp 4) rfl g2 0 rfl [.int .i64 1, .int .i64 64] _ B2.all Tryz.underlying120 rfl (szP _ _) ?_) | (refine ld_w (by rfl) 120 (.tmp 6) rfl g4 0 rfl [.int .i64 1, .int .i64 40] _ B4.all Tryz.underlying120 rfl (szP _ _) ?_) | (refine bd_row rfl 136 #[(1, .tmp 34), (0, .tmp 35)] rfl (shC { t0 := 1, t1 := 40, b0 := 1, b1 := 64 }) (by kernel_rfl) ?_) | (refine st_all rfl 136 (.tmp 2) (.tmp 36) rfl g1 136 (shC {}) (shC { t0 := 1, t1 := 40, b0 := 1, b1 := 64 }) rfl rfl B1 rfl (szS _) (shC_one _) ?_))
    intro w8 B1 G0
    have Z := Sh.grown_below Z G0 Z.size hg1
    clear G0 B2 B3 B4
    go_wp2
    refine bodyPost_ret (Go.Proofs.YtlefdnjokppibaaGreatDoor.res_two rfl _ g1 136 _ _ rfl B1 Tryz.underlying136 rfl (szS _)) rfl ⟨rfl, Z⟩
  by_cases h7 : k = 7
  · subst h7
    clear HA
    go_wp2_with (first | (refine ld_w (by rfl) 120 (.tmp 4) rfl g2 0 rfl [.int .i64 1, .int .i64 64] _ B2.all Tryz.underlying120 rfl (szP _ _) ?_) | (refine ld_w (by rfl) 120 (.tmp 6) rfl g4 0 rfl [.int .i64 1, .int .i64 40] _ B4.all Tryz.underlying120 rfl (szP _ _) ?_) | (refine bd_row rfl 136 #[(1, .tmp 34), (0, .tmp 35)] rfl (shC { t0 := 1, t1 := 40, b0 := 1, b1 := 64 }) (by kernel_rfl) ?_) | (refine st_all rfl 136 (.tmp 2) (.tmp 36) rfl g1 136 (shC {}) (shC { t0 := 1, t1 := 40, b0 := 1, b1 := 64 }) rfl rfl B1 rfl (szS _) (shC_one _) ?_))
    intro w8 B1 G0
    have Z := Sh.grown_below Z G0 Z.size hg1
    clear G0 B2 B3 B4
    go_wp2
    refine bodyPost_ret (Go.Proofs.YtlefdnjokppibaaGreatDoor.res_two rfl _ g1 136 _ _ rfl B1 Tryz.underlying136 rfl (szS _)) rfl ⟨rfl, Z⟩
  by_cases h6 : k = 6
  · subst h6
    clear HA
    go_wp2_with (first | (refine ld_w (by rfl) 120 (.tmp 4) rfl g2 0 rfl [.int .i64 1, .int .i64 64] _ B2.all Tryz.underlying120 rfl (szP _ _) ?_) | (refine bd_row rfl 136 #[(1, .tmp 39)] rfl (shC { b0 := 1, b1 := 64 }) (by kernel_rfl) ?_) | (refine st_all rfl 136 (.tmp 2) (.tmp 40) rfl g1 136 (shC {}) (shC { b0 := 1, b1 := 64 }) rfl rfl B1 rfl (szS _) (shC_one _) ?_))
    intro w8 B1 G0
    have Z := Sh.grown_below Z G0 Z.size hg1
    clear G0 B2 B3 B4
    go_wp2
    refine bodyPost_ret (Go.Proofs.YtlefdnjokppibaaGreatDoor.res_two rfl _ g1 136 _ _ rfl B1 Tryz.underlying136 rfl (szS _)) rfl ⟨rfl, Z⟩
  go_wp2_with (first | (refine bd_row rfl 136 #[] rfl (shC {}) (by kernel_rfl) ?_) | (refine st_all rfl 136 (.tmp 2) (.tmp 41) rfl g1 136 (shC {}) (shC {}) rfl rfl B1 rfl (szS _) (shC_one _) ?_))
  intro w8 B1 G0
  have Z := Sh.grown_below Z G0 Z.size hg1
  clear G0 B2 B3 B4
  go_wp2
  refine bodyPost_ret (Go.Proofs.YtlefdnjokppibaaGreatDoor.res_two rfl _ g1 136 _ _ rfl B1 Tryz.underlying136 rfl (szS _)) rfl ⟨by rw [HA.out.2 h1 h2 h3 h4 h5 h6 h7]; rfl, Z⟩
end Go.Proofs.YtlefdnjokppibaaGreatDoor.Sh
