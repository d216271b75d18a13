/-
  Keys sort as their values do: values, and lists of them.
-/
import Derived.Test.YtoggcabenjmnoaaDoorTa
namespace Go.Proofs.YtoggcabenjmnoaaDoor
open Go.RowKit Math
set_option linter.unusedVariables false
set_option linter.unusedSimpArgs false
theorem sg_below {a b : Int} (h : sg a b < 0) : a < b := by
  unfold sg at h
  split at h
  · assumption
  · split at h <;> omega
theorem posB_head (m : Nat) (s : Int) (hm : m ≠ 0) (hs0 : 0 ≤ s) (hs1 : s ≤ 18) : ∃ x l, posB m s = x :: l ∧ 175 ≤ x ∧ x ≤ 212 := by
  have h1 : 0 < (dgs 20 m).length := dgs_pos 19 m hm
  have h2 := dgs_len 20 m
  exact ⟨_, _, rfl, by omega, by omega⟩
theorem turnB_head (m : Nat) (s : Int) (hm : m ≠ 0) (hs0 : 0 ≤ s) (hs1 : s ≤ 18) : ∃ x l, turnB (posB m s) = x :: l ∧ x ≤ 80 := by
  obtain ⟨x, l, h, h1, h2⟩ := posB_head m s hm hs0 hs1
  exact ⟨255 - x, l.map fun y => 255 - y, by rw [h]; rfl, by omega⟩
theorem lt_num (n m s t : Int) (n0 : -9223372036854775808 ≤ n) (n1 : n < 9223372036854775808) (m0 : -9223372036854775808 ≤ m) (m1 : m < 9223372036854775808) (s0 : 0 ≤ s) (s1 : s ≤ 18) (t0 : 0 ≤ t) (t1 : t ≤ 18)
    (h : n * 10 ^ t.toNat < m * 10 ^ s.toNat) : Lt (numB n s) (numB m t) := by
  obtain ⟨s', rfl⟩ : ∃ k : Nat, s = (k : Int) := ⟨s.toNat, by omega⟩
  obtain ⟨t', rfl⟩ : ∃ k : Nat, t = (k : Int) := ⟨t.toNat, by omega⟩
  simp only [Int.toNat_natCast] at h
  have ps : (0 : Int) < 10 ^ s' := Int.pow_pos (by decide)
  have pt : (0 : Int) < 10 ^ t' := Int.pow_pos (by decide)
  rcases Int.lt_trichotomy n 0 with hn | rfl | hn
  · have e1 : numB n (s' : Int) = turnB (posB n.natAbs (s' : Int)) := by unfold numB; rw [if_neg (by omega), if_pos hn]
    obtain ⟨x, l, hx, hx1⟩ := turnB_head n.natAbs (s' : Int) (by omega) s0 s1
    rcases Int.lt_trichotomy m 0 with hm | rfl | hm
    · have e2 : numB m (t' : Int) = turnB (posB m.natAbs (t' : Int)) := by unfold numB; rw [if_neg (by omega), if_pos hm]
      rw [e1, e2]
      refine (lt_pos m.natAbs n.natAbs t' s' (by omega) (by omega) (by omega) (by omega) (by omega) (by omega) ?_).turn (posB_oct _ _ (by omega) t0 t1) (posB_oct _ _ (by omega) s0 s1)
      have h2 : (m.natAbs : Int) * 10 ^ s' < (n.natAbs : Int) * 10 ^ t' := by
        rw [show (m.natAbs : Int) = -m by omega, show (n.natAbs : Int) = -n by omega, Int.neg_mul, Int.neg_mul]
        omega
      have h3 : ((m.natAbs * 10 ^ s' : Nat) : Int) < ((n.natAbs * 10 ^ t' : Nat) : Int) := by
        rw [Int.natCast_mul, Int.natCast_mul, Int.natCast_pow, Int.natCast_pow]
        exact h2
      omega
    · rw [e1, hx]
      show Lt _ [128]
      exact Lt.head (by omega) _ _
    · obtain ⟨y, l', hy, hy1, _⟩ := posB_head m.natAbs (t' : Int) (by omega) t0 t1
      have e2 : numB m (t' : Int) = posB m.natAbs (t' : Int) := by unfold numB; rw [if_neg (by omega), if_neg (by omega)]
      rw [e1, e2, hx, hy]
      exact Lt.head (by omega) _ _
  · rw [Int.zero_mul] at h
    have hm : 0 < m := by
      rcases Int.lt_or_le 0 m with e | e
      · exact e
      · have := Int.mul_nonneg (show 0 ≤ -m by omega) (Int.le_of_lt ps)
        rw [Int.neg_mul] at this
        omega
    obtain ⟨y, l', hy, hy1, _⟩ := posB_head m.natAbs (t' : Int) (by omega) t0 t1
    have e2 : numB m (t' : Int) = posB m.natAbs (t' : Int) := by unfold numB; rw [if_neg (by omega), if_neg (by omega)]
    rw [e2, hy]
    show Lt [128] _
    exact Lt.head (by omega) _ _
  · have h0 : 0 < n * 10 ^ t' := Int.mul_pos hn pt
    have hm : 0 < m := by
      rcases Int.lt_or_le 0 m with e | e
      · exact e
      · have := Int.mul_nonneg (show 0 ≤ -m by omega) (Int.le_of_lt ps)
        rw [Int.neg_mul] at this
        omega
    have e1 : numB n (s' : Int) = posB n.natAbs (s' : Int) := by unfold numB; rw [if_neg (by omega), if_neg (by omega)]
    have e2 : numB m (t' : Int) = posB m.natAbs (t' : Int) := by unfold numB; rw [if_neg (by omega), if_neg (by omega)]
    rw [e1, e2]
    refine lt_pos n.natAbs m.natAbs s' t' (by omega) (by omega) (by omega) (by omega) (by omega) (by omega) ?_
    have h3 : ((n.natAbs * 10 ^ t' : Nat) : Int) < ((m.natAbs * 10 ^ s' : Nat) : Int) := by
      rw [Int.natCast_mul, Int.natCast_mul, Int.natCast_pow, Int.natCast_pow, show (m.natAbs : Int) = m by omega, show (n.natAbs : Int) = n by omega]
      exact h
    omega
/-! ### values -/
theorem head_cls {h : Hd} (hk : h.k = 1 ∨ h.k = 2 ∨ h.k = 3 ∨ h.k = 4 ∨ h.k = 5 ∨ h.k = 6 ∨ h.k = 7 ∨ h.k = 8 ∨ h.k = 9) : ∃ l, headK h = (16 * cls h.k).toNat :: l := by
  rcases hk with e | e | e | e | e | e | e | e | e <;> exact ⟨_, by unfold headK; simp only [e]; rfl⟩
theorem cls_pos {k : Int} (hk : k = 1 ∨ k = 2 ∨ k = 3 ∨ k = 4 ∨ k = 5 ∨ k = 6 ∨ k = 7 ∨ k = 8 ∨ k = 9) : 1 ≤ cls k := by
  unfold cls; split <;> omega
theorem keyV_head {p : Vt} {d : Int} (h : chkV p d = 0) : ∃ x l, keyV p = x :: l ∧ 16 ≤ x := by
  have g := good_of h
  obtain ⟨l, hl⟩ := head_cls g.k
  have := cls_pos g.k
  refine ⟨(16 * cls p.1.k).toNat, l ++ (if 8 ≤ p.1.k then keyF p.2 (decide (p.1.k = 9)) p.1.ns ++ [0] else []), ?_, by omega⟩
  unfold keyV; rw [hl]; rfl
def LIh (f : Fo) : Prop := ∀ (g : Fo) (st : Bool) (ns ms : List ByteArray) (d d' : Int), Wf f → Wf g → chk f d = 0 → chk g d' = 0 → cmpF f st ns g ms < 0 → Lt (keyF f st ns ++ [0]) (keyF g st ms ++ [0])
theorem lt_keyV (p q : Vt) (d d' : Int) (hwp : WfV p) (hwq : WfV q) (hp : chkV p d = 0) (hq : chkV q d' = 0) (ih : LIh p.2) (h : ordV p q < 0) : Lt (keyV p) (keyV q) := by
  have gp := good_of hp
  have gq := good_of hq
  obtain ⟨l, hl⟩ := head_cls gp.k
  obtain ⟨l', hl'⟩ := head_cls gq.k
  have cp := cls_pos gp.k
  have cq := cls_pos gq.k
  unfold ordV at h
  split at h
  · have := sg_below h
    unfold keyV
    rw [hl, hl']
    exact Lt.head (by omega) _ _
  · next hc =>
    have hc : cls p.1.k = cls q.1.k := Classical.byContradiction hc
    have kp := gp.k
    have kq := gq.k
    have fp := gp.form
    have fq := gq.form
    unfold cls at hc
    split at h
    · next e =>
      have hlt := sg_below h
      rcases e with e | e
      · have e' : q.1.k = 2 := by rw [e] at hc; (repeat' split at hc) <;> omega
        unfold keyV headK
        simp only [e, e']
        unfold formed at fp fq
        simp [e, e'] at fp fq
        show Lt [32, p.1.n.toNat] [32, q.1.n.toNat]
        exact (Lt.head (by omega) _ _).cons 32
      · have e' : q.1.k = 5 := by rw [e] at hc; (repeat' split at hc) <;> omega
        unfold keyV headK
        simp only [e, e']
        unfold formed at fp fq
        simp [e, e'] at fp fq
        show Lt ((64 :: hf p.1.n.toNat 8) ++ []) ((64 :: hf q.1.n.toNat 8) ++ [])
        rw [List.append_nil, List.append_nil]
        exact (lt_hf (by omega) (by omega)).cons 64
    · split at h
      · next e =>
        have e' : q.1.k = 3 ∨ q.1.k = 4 := by (repeat' split at hc) <;> omega
        have hlt := sg_below h
        have A : keyV p = 48 :: numB p.1.n p.1.s := by
          unfold keyV headK
          rcases e with e | e <;> simp [e]
        have B : keyV q = 48 :: numB q.1.n q.1.s := by
          unfold keyV headK
          rcases e' with e | e <;> simp [e]
        rw [A, B]
        exact (lt_num _ _ _ _ hwp.1.n0 hwp.1.n1 hwq.1.n0 hwq.1.n1 gp.s0 gp.s1 gq.s0 gq.s1 hlt).cons 48
      · split at h
        · next e =>
          have hlt := tx_lt h
          rcases e with e | e
          · have e' : q.1.k = 6 := by rw [e] at hc; (repeat' split at hc) <;> omega
            unfold keyV headK
            simp only [e, e']
            show Lt ((80 :: txK p.1.t) ++ []) ((80 :: txK q.1.t) ++ [])
            rw [List.append_nil, List.append_nil]
            exact hlt.cons 80
          · have e' : q.1.k = 7 := by rw [e] at hc; (repeat' split at hc) <;> omega
            unfold keyV headK
            simp only [e, e']
            show Lt ((96 :: txK p.1.t) ++ []) ((96 :: txK q.1.t) ++ [])
            rw [List.append_nil, List.append_nil]
            exact hlt.cons 96
        · split at h
          · next e =>
            have e' : q.1.k = 8 := by rw [e] at hc; (repeat' split at hc) <;> omega
            have hlt := ih q.2 false [] [] (d + 1) (d' + 1) hwp.2.2 hwq.2.2 (chkV_zero hp) (chkV_zero hq) h
            unfold keyV headK
            simp only [e, e']
            show Lt (112 :: (keyF p.2 false p.1.ns ++ [0])) (112 :: (keyF q.2 false q.1.ns ++ [0]))
            rw [keyF_false p.2, keyF_false q.2]
            exact hlt.cons 112
          · split at h
            · next e =>
              have e' : q.1.k = 9 := by rw [e] at hc; (repeat' split at hc) <;> omega
              have hlt := ih q.2 true _ _ (d + 1) (d' + 1) hwp.2.2 hwq.2.2 (chkV_zero hp) (chkV_zero hq) h
              unfold keyV headK
              simp only [e, e']
              show Lt (128 :: (keyF p.2 true p.1.ns ++ [0])) (128 :: (keyF q.2 true q.1.ns ++ [0]))
              exact hlt.cons 128
            · omega
theorem chk_parts {h : Hd} {k r : Fo} {d : Int} (hc : chk (.cons h k r) d = 0) : chkV (h, k) d = 0 ∧ chk r d = 0 := by
  have e : chk (.cons h k r) d = if chkV (h, k) d ≠ 0 then chkV (h, k) d else chk r d := rfl
  rw [e] at hc
  split at hc
  · next x => exact absurd hc x
  · next x => exact ⟨Classical.byContradiction x, hc⟩
theorem lt_keyF (f : Fo) : LIh f := by
  induction f with
  | nil =>
    intro g st ns ms d d' _ _ _ hg h
    cases g with
    | nil => simp [cmpF] at h
    | cons h' k' r' =>
      obtain ⟨c1, c2⟩ := chk_parts hg
      rw [show keyF (.cons h' k' r') st ms = _ from keyF_cons (h', k') r' st ms]
      cases st with
      | true => exact Lt.head (show 0 < 1 by omega) _ _
      | false =>
        obtain ⟨x, l, hx, hx1⟩ := keyV_head c1
        rw [hx]
        exact Lt.head (show 0 < x by omega) _ _
  | cons h k r ihk ihr =>
    intro g st ns ms d d' hw hw' hf hg hlt
    cases g with
    | nil => simp [cmpF] at hlt
    | cons h' k' r' =>
      obtain ⟨a1, a2⟩ := chk_parts hf
      obtain ⟨b1, b2⟩ := chk_parts hg
      rw [show cmpF (.cons h k r) st ns (.cons h' k' r') ms = _ from cmpF_cons (h, k) (h', k') r r' st ns ms] at hlt
      rw [show keyF (.cons h k r) st ns = _ from keyF_cons (h, k) r st ns, show keyF (.cons h' k' r') st ms = _ from keyF_cons (h', k') r' st ms]
      by_cases ht : (if st then tx (nameAt ns) (nameAt ms) else 0) ≠ 0
      · rw [if_pos ht] at hlt
        cases st with
        | false => simp at ht
        | true =>
          have t1 : Lt (1 :: txK (ns.headD ⟨#[]⟩)) (1 :: txK (ms.headD ⟨#[]⟩)) := (tx_lt hlt).cons 1
          simp only [if_true, List.append_assoc]
          exact t1.ext _ _
      · rw [if_neg ht] at hlt
        have hpre : (if st = true then 1 :: txK (ns.headD ⟨#[]⟩) else []) = (if st = true then 1 :: txK (ms.headD ⟨#[]⟩) else []) := by
          cases st with
          | false => rfl
          | true =>
            have h0 : tx (nameAt ns) (nameAt ms) = 0 := Classical.byContradiction fun e => ht (by rw [if_pos rfl]; exact e)
            have h1 := tx_zero h0
            simp only [nameAt] at h1
            rw [h1]
        rw [hpre]
        simp only [List.append_assoc]
        refine Lt.pre _ ?_
        by_cases ho : ordV (h, k) (h', k') ≠ 0
        · rw [if_pos ho] at hlt
          exact (lt_keyV (h, k) (h', k') d d' hw.1 hw'.1 a1 b1 ihk hlt).ext _ _
        · rw [if_neg ho] at hlt
          have e : ((h, k) : Vt) = (h', k') := (ord_zero a1 b1).1 (Classical.byContradiction ho)
          rw [e]
          exact Lt.pre _ (ihr r' st ns.tail ms.tail d d' hw.2 hw'.2 a2 b2 hlt)
/-! ### lists of values -/
theorem top_lt : ∀ (f g : Fo) (d d' : Int), Wf f → Wf g → chk f d = 0 → chk g d' = 0 → cmpF f false [] g [] < 0 → blt (keyF f false []) (keyF g false []) = true
  | .nil, .nil, _, _, _, _, _, _, h => by simp [cmpF] at h
  | .nil, .cons h' k' r', _, _, _, _, _, hg, _ => by
    obtain ⟨c1, c2⟩ := chk_parts hg
    rw [show keyF (.cons h' k' r') false [] = _ from keyF_cons (h', k') r' false []]
    obtain ⟨x, l, hx, hx1⟩ := keyV_head c1
    rw [hx]
    rfl
  | .cons _ _ _, .nil, _, _, _, _, _, _, h => by simp [cmpF] at h
  | .cons h k r, .cons h' k' r', d, d', hw, hw', hf, hg, hlt => by
    obtain ⟨a1, a2⟩ := chk_parts hf
    obtain ⟨b1, b2⟩ := chk_parts hg
    rw [show cmpF (.cons h k r) false [] (.cons h' k' r') [] = _ from cmpF_cons (h, k) (h', k') r r' false [] []] at hlt
    rw [show keyF (.cons h k r) false [] = _ from keyF_cons (h, k) r false [], show keyF (.cons h' k' r') false [] = _ from keyF_cons (h', k') r' false []]
    rw [if_neg (by simp)] at hlt
    by_cases ho : ordV (h, k) (h', k') ≠ 0
    · rw [if_pos ho] at hlt
      exact lt_keyV (h, k) (h', k') d d' hw.1 hw'.1 a1 b1 (lt_keyF k) hlt _ _
    · rw [if_neg ho] at hlt
      have e : ((h, k) : Vt) = (h', k') := (ord_zero a1 b1).1 (Classical.byContradiction ho)
      rw [e, blt_pre]
      exact top_lt r r' d d' hw.2 hw'.2 a2 b2 hlt
theorem blt_self : ∀ l : List Nat, blt l l = false
  | [] => rfl
  | a :: l => by simp [blt, blt_self l]
theorem blt_asym : ∀ l m : List Nat, blt l m = true → blt m l = false
  | _, [], h => by simp [blt] at h
  | [], _ :: _, _ => rfl
  | a :: l, b :: m, h => by
    simp only [blt, Bool.or_eq_true, Bool.and_eq_true, decide_eq_true_eq, beq_iff_eq] at h
    rcases h with h | ⟨rfl, h⟩
    · have h1 : ¬ b < a := by omega
      have h2 : ¬ b = a := by omega
      simp [blt, h1, h2]
    · simp [blt, blt_asym l m h]
/-- The keys of two lists of values, in their order. -/
theorem keys_sort (f g : Fo) (d d' : Int) (hw : Wf f) (hw' : Wf g) (hf : chk f d = 0) (hg : chk g d' = 0) :
    blt (keyF f false []) (keyF g false []) = decide (cmpF f false [] g [] < 0) ∧ ((keyF f false [] = keyF g false []) ↔ cmpF f false [] g [] = 0) := by
  have ht := cmpF_turn f g false [] []
  rcases Int.lt_trichotomy (cmpF f false [] g []) 0 with h | h | h
  · have h1 := top_lt f g d d' hw hw' hf hg h
    refine ⟨by rw [h1]; simp [h], ⟨fun e => ?_, fun e => by omega⟩⟩
    rw [e, blt_self] at h1
    cases h1
  · have e : f = g := cmpF_zero f g false [] [] d d' hf hg (by simp) h |>.1
    subst e
    exact ⟨by rw [blt_self]; simp [h], ⟨fun _ => h, fun _ => rfl⟩⟩
  · have h1 := top_lt g f d' d hw' hw hg hf (by omega)
    refine ⟨by rw [blt_asym _ _ h1]; simp; omega, ⟨fun e => ?_, fun e => by omega⟩⟩
    rw [e, blt_self] at h1
    cases h1
end Go.Proofs.YtoggcabenjmnoaaDoor
