/-
  What the document's both makes, over lists.
-/
import Derived.Test.YtehkaploinklmaaDoorEx
namespace Go.Proofs.YtehkaploinklmaaDoor
open Go Go.RowKit Go.Maps Sh
/-- what both makes where the first m are all. -/
def boS (a : List Nat) (wh : Bool) (L : List (List Nat)) : (List Nat × List Nat) × Bool :=
  if wh = true then ((a, a), L.isEmpty) else match L with
    | [q] => ((q, q), true)
    | _ => ((List.replicate 32 0, List.replicate 32 0), false)
/-- what both makes; false: it has not as many as it must. -/
def boF (a : List Nat) : Nat → Nat → Nat → Bool → List (List Nat) → (List Nat × List Nat) × Bool
  | 0, _, _, wh, L => boS a wh L
  | T + 1, m, n, wh, L =>
    if n ≤ 2 ^ T then boF a T m n wh L
    else if m = n then boS a wh L
    else match L.getLast? with
      | none => ((List.replicate 32 0, List.replicate 32 0), false)
      | some q => if m ≤ 2 ^ T then (((boF a T m (2 ^ T) wh L.dropLast).1.1, nd (boF a T m (2 ^ T) wh L.dropLast).1.2 q), (boF a T m (2 ^ T) wh L.dropLast).2)
        else ((nd q (boF a T (m - 2 ^ T) (n - 2 ^ T) false L.dropLast).1.1, nd q (boF a T (m - 2 ^ T) (n - 2 ^ T) false L.dropLast).1.2), (boF a T (m - 2 ^ T) (n - 2 ^ T) false L.dropLast).2)
theorem boS_hh {a : List Nat} (ha : Hh a) (wh : Bool) {L : List (List Nat)} (hL : Hl L) : Hh (boS a wh L).1.1 ∧ Hh (boS a wh L).1.2 := by
  unfold boS
  split
  · exact ⟨ha, ha⟩
  · split
    · exact ⟨hL _ (by simp), hL _ (by simp)⟩
    · exact ⟨z_hh, z_hh⟩
theorem boF_hh {a : List Nat} (ha : Hh a) : ∀ (T m n : Nat) (wh : Bool) (L : List (List Nat)), Hl L → Hh (boF a T m n wh L).1.1 ∧ Hh (boF a T m n wh L).1.2
  | 0, _, _, wh, L, hL => boS_hh ha wh hL
  | T + 1, m, n, wh, L, hL => by
    have hd : Hl L.dropLast := fun x hx => hL x (List.dropLast_subset L hx)
    rw [boF]
    split
    · exact boF_hh ha T m n wh L hL
    · split
      · exact boS_hh ha wh hL
      · split
        · exact ⟨z_hh, z_hh⟩
        · split
          · exact ⟨(boF_hh ha T m (2 ^ T) wh L.dropLast hd).1, nd_hh _ _⟩
          · exact ⟨nd_hh _ _, nd_hh _ _⟩
/-- what stands at the beginning, and what is used behind it. -/
def boT (a : List Nat) (al : Bool) (os : List (Nat × Nat)) (L : List (List Nat)) (b : (List Nat × List Nat) × Bool) : Prop :=
  if al = true then b.2 = decide (L.length = os.length) ∧ (b.2 = true → b.1 = Mk.fb nd a a os L)
  else match L with
    | [] => b.2 = false
    | s :: r => b.2 = decide (r.length = os.length) ∧ (b.2 = true → b.1 = Mk.fb nd s s os r)
theorem boT.app {a : List Nat} {al : Bool} {os os' : List (Nat × Nat)} {M : List (List Nat)} {b : (List Nat × List Nat) × Bool} {z : Nat × Nat} {q : List Nat} (h : boT a al os M b) (hos : os'.length = os.length) (hfb : ∀ s r, Mk.fb nd s s os' r = Mk.fb nd s s os r) :
    boT a al (os' ++ [z]) (M ++ [q]) ((if z.2 % 2 = 0 then nd q b.1.1 else b.1.1, if z.2 % 2 = 0 then nd q b.1.2 else nd b.1.2 q), b.2) := by
  unfold boT at h ⊢
  by_cases ha : al = true
  · rw [if_pos ha] at h ⊢
    refine ⟨by rw [h.1, List.length_append, List.length_append, hos]; simp, fun e => ?_⟩
    have e2 := h.2 e
    rw [h.1] at e
    rw [Mk.fb_app nd a a _ _ z q (by rw [hos]; exact (of_decide_eq_true e).symm), hfb, ← e2]
  · rw [if_neg ha] at h ⊢
    cases M with
    | nil =>
      simp only at h
      show _ = decide _ ∧ _
      refine ⟨by rw [h, List.length_append]; simp, fun e => ?_⟩
      rw [h] at e; cases e
    | cons s r =>
      simp only at h
      show _ = decide _ ∧ _
      refine ⟨by rw [h.1, List.append_eq, List.length_append, List.length_append, hos]; simp, fun e => ?_⟩
      have e2 := h.2 e
      rw [h.1] at e
      rw [List.append_eq, Mk.fb_app nd s s _ _ z q (by rw [hos]; exact (of_decide_eq_true e).symm), hfb, ← e2]
theorem boS_T (a : List Nat) (wh : Bool) (L : List (List Nat)) : boT a wh [] L (boS a wh L) := by
  unfold boT boS
  by_cases h : wh = true
  · rw [if_pos h, if_pos h]
    refine ⟨by cases L <;> simp, fun _ => ?_⟩
    cases L <;> rfl
  · rw [if_neg h, if_neg h]
    match L with
    | [] => rfl
    | [q] => exact ⟨by simp, fun _ => rfl⟩
    | q :: s :: r => exact ⟨by simp, fun e => by cases e⟩
theorem boT_nil (a : List Nat) (al : Bool) (os : List (Nat × Nat)) (h : al = true → os ≠ []) (x : List Nat × List Nat) : boT a al os [] (x, false) := by
  unfold boT
  by_cases ha : al = true
  · rw [if_pos ha]
    refine ⟨?_, fun e => by cases e⟩
    cases os with
    | nil => exact absurd rfl (h ha)
    | cons z r => simp
  · rw [if_neg ha]
theorem boF_T (a : List Nat) : ∀ (T m n c u : Nat) (wh : Bool) (L : List (List Nat)), m = (2 * u + 1) * 2 ^ c → n ≤ 2 ^ T → (m < n ∨ u = 0 ∧ 2 ^ c = n) →
    boT a (wh && decide (u = 0)) (Mk.wy c (2 * u) n) L (boF a T m n wh L)
  | 0, m, n, c, u, wh, L, hm, hn, h => by
    have hc := Mk.pow_pos2 c
    have h1 : 1 * 1 ≤ (2 * u + 1) * 2 ^ c := Nat.mul_le_mul (by omega) (by omega)
    rw [Nat.pow_zero] at hn
    rcases h with h | ⟨hu, h⟩
    · omega
    · rw [hu, Mk.wy_one (by omega) (by omega), show decide ((0 : Nat) = 0) = true from rfl, Bool.and_true]
      exact boS_T a wh L
  | T + 1, m, n, c, u, wh, L, hm, hn, h => by
    rw [boF]
    by_cases hs : n ≤ 2 ^ T
    · rw [if_pos hs]; exact boF_T a T m n c u wh L hm hs h
    · rw [if_neg hs]
      have h1 : 2 ^ T < n := by omega
      by_cases he : m = n
      · rw [if_pos he]
        rcases h with h | ⟨hu, h⟩
        · omega
        · rw [hu, Mk.wy_one (by omega) (by have := Mk.pow_pos2 c; omega), show decide ((0 : Nat) = 0) = true from rfl, Bool.and_true]
          exact boS_T a wh L
      · rw [if_neg he]
        have hmn : m < n := by
          rcases h with h | ⟨hu, h⟩
          · exact h
          · rw [hu] at hm; simp at hm; omega
        by_cases hi2 : (2 * u + 1) * 2 ^ c ≤ 2 ^ T
        · obtain ⟨hc, hp⟩ := Mk.odd_left hi2
          rw [Mk.wy_left h1 hn hc hp]
          rcases List.eq_nil_or_concat L with rfl | ⟨M, q, rfl⟩
          · exact boT_nil a _ _ (by simp) _
          · rw [List.concat_eq_append, List.getLast?_concat, List.dropLast_concat]
            simp only
            rw [if_pos (by omega)]
            have hd : m < 2 ^ T ∨ u = 0 ∧ 2 ^ c = 2 ^ T := by
              rw [hm]
              rcases Nat.lt_or_eq_of_le hi2 with h3 | h3
              · exact .inl h3
              · have e := Mk.pow_split hc
                rw [e, Nat.mul_comm] at h3
                have h4 := Nat.eq_of_mul_eq_mul_left (Mk.pow_pos2 c) h3
                by_cases hT : T - c = 0
                · rw [hT] at h4
                  exact .inr ⟨by simp at h4; omega, by rw [show T = c by omega]⟩
                · have := Mk.pow_even (k := T - c) (by omega); omega
            have ih := boF_T a T m (2 ^ T) c u wh M hm (Nat.le_refl _) hd
            have := ih.app (z := (T, 1)) (q := q) rfl (fun _ _ => rfl)
            exact this
        · obtain ⟨hc, v, hv, hw, hu⟩ := Mk.odd_right (c := c) (u := u) (T := T) (by omega) (by omega)
          have hq : 2 * v * 2 ^ c < n - 2 ^ T := by
            have := Mk.pow_pos2 c
            rw [Nat.add_mul, Nat.one_mul] at hw
            omega
          have hle : n - 2 ^ T ≤ 2 ^ T := by rw [Nat.pow_succ] at hn; omega
          rw [hv, Mk.wy_right h1 hn (Nat.le_of_lt hc) hq]
          rcases List.eq_nil_or_concat L with rfl | ⟨M, q, rfl⟩
          · exact boT_nil a _ _ (by simp) _
          · rw [List.concat_eq_append, List.getLast?_concat, List.dropLast_concat]
            simp only
            rw [if_neg (by omega)]
            have ih := boF_T a T (m - 2 ^ T) (n - 2 ^ T) c v false M (by rw [hw]; omega) hle (.inl (by omega))
            rw [show (wh && decide (u = 0)) = false by rw [decide_eq_false (by omega), Bool.and_false]]
            rw [Bool.false_and] at ih
            have := ih.app (z := (T, 0)) (q := q) (os' := (Mk.wy c (2 * v) (n - 2 ^ T)).map (Mk.sh T)) (List.length_map ..) (fun s r => Mk.fb_sh nd T _ _ _ _ (Mk.sh_lt hle hc hq))
            exact this
#print axioms boF_T
/-- what the document's VerifyConsist makes of it. -/
theorem bo_vcs (m n c u : Nat) (L : List (List Nat)) (x y : List Nat) (hm : m = (2 * u + 1) * 2 ^ c) (hmn : m ≤ n) (hn : n ≤ 2 ^ 40) :
    vcs m c u n L x y = ((boF x 40 m n true L).2 && (decide ((boF x 40 m n true L).1.1 = x) && decide ((boF x 40 m n true L).1.2 = y))) := by
  by_cases he : m = n
  · have e : ∀ T, n ≤ 2 ^ T → boF x T m n true L = boS x true L := by
      intro T
      induction T with
      | zero => intro _; rfl
      | succ T ih =>
        intro h
        rw [boF]
        by_cases hs : n ≤ 2 ^ T
        · rw [if_pos hs]; exact ih hs
        · rw [if_neg hs, if_pos he]
    rw [e 40 hn]
    unfold vcs boS
    rw [if_pos he, if_pos rfl]
    cases L <;> simp
  · have h := boF_T x 40 m n c u true L hm hn (.inl (by omega))
    obtain ⟨b, hb⟩ : ∃ b, b = boF x 40 m n true L := ⟨_, rfl⟩
    rw [← hb] at h ⊢
    unfold vcs
    rw [if_neg he]
    unfold boT at h
    by_cases hu : u = 0
    · rw [if_pos (by simp [hu])] at h
      rw [if_pos hu]
      unfold mt
      cases hb2 : b.2 with
      | false =>
        rw [hb2] at h
        rw [Bool.false_and]
        exact decide_eq_false (fun e => of_decide_eq_false h.1.symm e.1)
      | true =>
        rw [hb2] at h
        have hl := of_decide_eq_true h.1.symm
        rw [h.2 rfl]
        simp [hl]
    · rw [if_neg (by simp [hu])] at h
      rw [if_neg hu]
      cases L with
      | nil => simp only at h; rw [h]; rfl
      | cons s r =>
        simp only at h
        show mt s _ r x y = _
        unfold mt
        cases hb2 : b.2 with
        | false =>
          rw [hb2] at h
          rw [Bool.false_and]
          exact decide_eq_false (fun e => of_decide_eq_false h.1.symm e.1)
        | true =>
          rw [hb2] at h
          have hl := of_decide_eq_true h.1.symm
          rw [h.2 rfl]
          simp [hl]
#print axioms bo_vcs
theorem lenz {x : List Nat} (h : Hh x) : (nums .u8 x).length = (nums .u8 (List.replicate 32 0)).length := by rw [nums_length, nums_length, h.1, List.length_replicate]
theorem res_three {fn : Func} {p q r : Tmp} {ty : TypeId} {w : World} (h : fn.results = #[.cell p ty, .cell q ty, .tmp r]) (tmps : Array Value) (g g' : Nat) (t t' : TypeId) (cs cs' : List Value) (d : TypeDesc)
    (hp : tmps.getD p undef = .pointer (some ⟨g, 0, none⟩)) (hq : tmps.getD q undef = .pointer (some ⟨g', 0, none⟩)) (hg : Blk w g t cs) (hg' : Blk w g' t' cs') (hu : Tryd.prog.underlying ty = some d) (hd : d.isRow = true) (hi : (Tryd.prog.info? ty).map (·.size) = some cs.length) (hi' : (Tryd.prog.info? ty).map (·.size) = some cs'.length) :
    (results fn tmps).run Tryd.prog w = .ok (.tuple #[.agg cs.toArray, .agg cs'.toArray, tmps.getD r undef]) w := by
  have hp' : tmps[p]?.getD undef = .pointer (some ⟨g, 0, none⟩) := by simpa using hp
  have hq' : tmps[q]?.getD undef = .pointer (some ⟨g', 0, none⟩) := by simpa using hq
  simp [results, h, hp', hq', asAddr, run_loadVar_row w g t ty cs.toArray (0, 0) d hg hu (by cases d <;> simp_all [TypeDesc.isRow]) (by simpa using hi), run_loadVar_row w g' t' ty cs'.toArray (0, 0) d hg' hu (by cases d <;> simp_all [TypeDesc.isRow]) (by simpa using hi')]
set_option maxHeartbeats 2000000 in
set_option maxRecDepth 8000 in
theorem bo_whole (h : List Nat) (hh : Hh h) (m : Nat) (a : Option Addr) (cap : Nat) (L : List (List Nat)) (hlen : L.length ≤ 1000000) (w : World) :
    Calls Tryd.prog 38 #[.int .i64 (m : Int), .int .i64 (m : Int), .bool true, .slice a L.length cap, .agg (nums .u8 h).toArray] w fun e w' => e = .returned (.tuple #[.agg (nums .u8 h).toArray, .agg (nums .u8 h).toArray, .bool L.isEmpty]) ∧ Below w.heap.size w w' := by
  have HH : Hid (Hh h) := hh
  have hok : ((L.length : Int) == 0) = L.isEmpty := by
    cases L with
    | nil => rfl
    | cons x r => rw [List.isEmpty_cons, beq_eq_false_iff_ne]; simp; omega
  clear hh
  go_enter Tryd.func38, Tryd.ntmps38
  go_wp2_with (refine al_box rfl 30 (.tmp 4) rfl (nums .u8 h) rfl ?_)
  intro ga wa la BA GA
  have Z := (Below.refl w.heap.size w).grown GA (Nat.le_refl _) (by simp)
  clear GA
  go_wp2_with (refine al_zero rfl 30 rfl _ z25 ?_)
  intro g1 w0 l1 B1 G1
  have na1 : ga ≠ g1 := by have := BA.lt; omega
  have BA := BA.kept G1 (by simp)
  have hg1 : w.heap.size ≤ g1 := Nat.le_trans Z.size l1
  have Z := Z.grown G1 Z.size (by simp)
  clear G1
  go_wp2_with (refine al_zero rfl 30 rfl _ z25 ?_)
  intro g2 w1 l2 B2 G2
  have na2 : ga ≠ g2 := by have := BA.lt; omega
  have n12 : g1 ≠ g2 := by have := B1.lt; omega
  have BA := BA.kept G2 (by simp)
  have B1 := B1.kept G2 (by simp)
  have hg2 : w.heap.size ≤ g2 := Nat.le_trans Z.size l2
  have Z := Z.grown G2 Z.size (by simp)
  clear G2
  go_wp2_with fail
  obtain ⟨C, hC⟩ : ∃ C : World → Prop, C = fun W => Below w.heap.size w W ∧ Blk W ga 30 (nums .u8 h) := ⟨_, rfl⟩
  have FA : Hid (∀ W, C W → W.rangeAt ga 0 (nums .u8 h)) := fun W hW => by rw [hC] at hW; exact (hW.2).all
  have CK : Hid (∀ W W', C W → Below W.heap.size W W' → C W') := fun W W' hW h2 => by rw [hC] at hW ⊢; exact ⟨hW.1.trans (h2.mono hW.1.size), (hW.2).below h2 (hW.2).lt⟩
  have CS : Hid (∀ W W' g, C W → W.grownBy W' (some g) → w.heap.size ≤ g → ga ≠ g → C W') := fun W W' g hW h2 h3 k1 => by rw [hC] at hW ⊢; exact ⟨grown_below hW.1 h2 hW.1.size h3, (hW.2).kept h2 (fun e => k1 (Option.some.inj e))⟩
  have CE : Hid (∀ W, C W → Below w.heap.size w W) := fun W hW => by rw [hC] at hW; exact hW.1
  have C0 : Hid (C { w1 with drawn := w1.drawn + 1 }) := by rw [hC]; exact ⟨Below.drew Z, BA⟩
  clear hC
  have B1 : Blk { w1 with drawn := w1.drawn + 1 } g1 30 (nums .u8 (List.replicate 32 0)) := B1
  have B2 : Blk { w1 with drawn := w1.drawn + 1 } g2 30 (nums .u8 (List.replicate 32 0)) := B2
  refine region_calm C 7 (by kernel_rfl) ?_
  have hCp : ∀ p : Prop, (∀ W, C W → p) ↔ p := fun p => ⟨fun h => h _ C0.out, fun h _ _ => h⟩
  generalize ({ w1 with drawn := w1.drawn + 1 } : World) = y0 at *
  refine seg 5 [0, 1, 2] rfl (by kernel_rfl) whole_blind (C0.out) (by kernel_rfl) ?_
  change wpQuiet _ _ _ _ (_ :: _ :: _ :: []) _
  repeat (first
    | go_big_quiet_skip
    | (go_big_quiet_want
       first
       | (refine q_load 30 (.tmp 9) rfl ga 0 rfl (nums .u8 h) _ FA.out Tryd.underlying30 rfl (sH HH.out) ?_
          simp only [Act.put, List.setIfInBounds_toArray, List.set_cons_zero, List.set_cons_succ]
          go_big_quiet_on)
       | (go_big_quiet_op
          go_big_quiet_on)))
  refine wpQuiet_nil ?_
  refine len_first (i := 3) 4 rfl (by kernel_rfl) whole_blind (C0.out) (by kernel_rfl) rfl (by rfl) (.tmp 28) 22 rfl 30 Tryd.underlying22 (a) (L.length) cap rfl ?_
  simp only [Act.put, List.setIfInBounds_toArray, List.set_cons_zero, List.set_cons_succ]
  refine seg 3 [4] rfl (by kernel_rfl) whole_blind (C0.out) (by kernel_rfl) ?_
  change wpQuiet _ _ _ _ (_ :: []) _
  repeat (first
    | go_big_quiet_skip
    | (go_big_quiet_want
       first
       | (go_big_quiet_op
          go_big_quiet_on)))
  refine wpQuiet_nil ?_
  refine lone_do (i := 5) 2 rfl (by kernel_rfl) rfl (by rfl) ?_
  intro K hK
  refine oper_all 30 (.tmp 10) (.tmp 26) rfl g1 30 (nums .u8 (List.replicate 32 0)) (nums .u8 h) rfl rfl B1 (lenz HH.out) (sH HH.out) (nums_one _ _) ?_
  intro y1 B1 Gy1
  have B2 := B2.kept Gy1 (fun e => n12.symm (Option.some.inj e))
  have C1 : Hid (C y1) := CS.out _ _ _ C0.out Gy1 hg1 na1
  clear Gy1
  refine hK _ _ C1.out ?_
  clear hK K
  simp only [Act.put]
  refine lone_do (i := 6) 1 rfl (by kernel_rfl) rfl (by rfl) ?_
  intro K hK
  refine oper_all 30 (.tmp 11) (.tmp 27) rfl g2 30 (nums .u8 (List.replicate 32 0)) (nums .u8 h) rfl rfl B2 (lenz HH.out) (sH HH.out) (nums_one _ _) ?_
  intro y2 B2 Gy2
  have B1 := B1.kept Gy2 (fun e => n12 (Option.some.inj e))
  have CF : Hid (C y2) := CS.out _ _ _ C1.out Gy2 hg2 na2
  clear Gy2
  refine hK _ _ CF.out ?_
  clear hK K
  simp only [Act.put]
  refine lone_calm (i := 7) 0 rfl (by kernel_rfl) rfl rfl (CF.out) ?_
  repeat (first
    | go_big_quiet_skip
    | (go_big_quiet_want
       first
       | (go_big_quiet_op
          go_big_quiet_on)))
  refine wpQuiet_nil ?_
  refine anyC_done (by kernel_rfl) ⟨rfl, ?_⟩
  have ZE := CE.out _ CF.out
  clear C0 CK CS CE CF hCp C1 FA
  go_wp2
  refine bodyPost_ret (res_three rfl _ g1 g2 30 30 _ _ _ rfl rfl B1 B2 Tryd.underlying30 rfl (sH HH.out) (sH HH.out)) rfl ⟨rfl, ZE⟩
set_option maxHeartbeats 2000000 in
set_option maxRecDepth 8000 in
theorem bo_many (h : List Nat) (m : Nat) (a : Option Addr) (cap k : Nat) (hk : k ≠ 1) (w : World) :
    Calls Tryd.prog 38 #[.int .i64 (m : Int), .int .i64 (m : Int), .bool false, .slice a k cap, .agg (nums .u8 h).toArray] w fun e w' => e = .returned (.tuple #[.agg (nums .u8 (List.replicate 32 0)).toArray, .agg (nums .u8 (List.replicate 32 0)).toArray, .bool false]) ∧ Below w.heap.size w w' := by
  have hz : Hid ((Tryd.prog.info? 30).map (·.size) = some (nums .u8 (List.replicate 32 0)).length) := by show _ = _; rw [nums_length, List.length_replicate]; exact s25
  have hk1 : ¬ ((k : Int) = 1) := by omega
  go_enter Tryd.func38, Tryd.ntmps38
  go_wp2_with (refine al_box rfl 30 (.tmp 4) rfl (nums .u8 h) rfl ?_)
  intro ga wa la BA GA
  have Z := (Below.refl w.heap.size w).grown GA (Nat.le_refl _) (by simp)
  clear GA
  go_wp2_with (refine al_zero rfl 30 rfl _ z25 ?_)
  intro g1 w0 l1 B1 G1
  have na1 : ga ≠ g1 := by have := BA.lt; omega
  have BA := BA.kept G1 (by simp)
  have hg1 : w.heap.size ≤ g1 := Nat.le_trans Z.size l1
  have Z := Z.grown G1 Z.size (by simp)
  clear G1
  go_wp2_with (refine al_zero rfl 30 rfl _ z25 ?_)
  intro g2 w1 l2 B2 G2
  have na2 : ga ≠ g2 := by have := BA.lt; omega
  have n12 : g1 ≠ g2 := by have := B1.lt; omega
  have BA := BA.kept G2 (by simp)
  have B1 := B1.kept G2 (by simp)
  have hg2 : w.heap.size ≤ g2 := Nat.le_trans Z.size l2
  have Z := Z.grown G2 Z.size (by simp)
  clear G2
  go_wp2_with (first | (refine bd_row rfl 30 #[] rfl (nums .u8 (List.replicate 32 0)) (by kernel_rfl) ?_) | (refine st_all rfl 30 (.tmp 10) (.tmp 34) rfl g1 30 (nums .u8 (List.replicate 32 0)) (nums .u8 (List.replicate 32 0)) rfl rfl B1 rfl hz.out (nums_one _ _) ?_))
  intro w2 B1 G1
  have B2 := B2.kept G1 (fun e => n12.symm (Option.some.inj e))
  have Z := grown_below Z G1 Z.size hg1
  clear G1
  go_wp2_with (refine st_all rfl 30 (.tmp 11) (.tmp 35) rfl g2 30 (nums .u8 (List.replicate 32 0)) (nums .u8 (List.replicate 32 0)) rfl rfl B2 rfl hz.out (nums_one _ _) ?_)
  intro w3 B2 G2
  have B1 := B1.kept G2 (fun e => n12 (Option.some.inj e))
  have Z := grown_below Z G2 Z.size hg2
  clear G2
  go_wp2
  refine bodyPost_ret (res_three rfl _ g1 g2 30 30 _ _ _ rfl rfl B1 B2 Tryd.underlying30 rfl hz.out hz.out) rfl ⟨rfl, Z⟩
set_option maxHeartbeats 2000000 in
set_option maxRecDepth 8000 in
theorem bo_nil (h : List Nat) (m n : Nat) (hmn : m ≠ n) (wh : Bool) (a : Option Addr) (cap : Nat) (w : World) :
    Calls Tryd.prog 38 #[.int .i64 (m : Int), .int .i64 (n : Int), .bool wh, .slice a 0 cap, .agg (nums .u8 h).toArray] w fun e w' => e = .returned (.tuple #[.agg (nums .u8 (List.replicate 32 0)).toArray, .agg (nums .u8 (List.replicate 32 0)).toArray, .bool false]) ∧ Below w.heap.size w w' := by
  have hz : Hid ((Tryd.prog.info? 30).map (·.size) = some (nums .u8 (List.replicate 32 0)).length) := by show _ = _; rw [nums_length, List.length_replicate]; exact s25
  have hk1 : ((m : Int) == (n : Int)) = false := by rw [beq_eq_false_iff_ne]; omega
  clear hmn
  go_enter Tryd.func38, Tryd.ntmps38
  go_wp2_with (refine al_box rfl 30 (.tmp 4) rfl (nums .u8 h) rfl ?_)
  intro ga wa la BA GA
  have Z := (Below.refl w.heap.size w).grown GA (Nat.le_refl _) (by simp)
  clear GA
  go_wp2_with (refine al_zero rfl 30 rfl _ z25 ?_)
  intro g1 w0 l1 B1 G1
  have na1 : ga ≠ g1 := by have := BA.lt; omega
  have BA := BA.kept G1 (by simp)
  have hg1 : w.heap.size ≤ g1 := Nat.le_trans Z.size l1
  have Z := Z.grown G1 Z.size (by simp)
  clear G1
  go_wp2_with (refine al_zero rfl 30 rfl _ z25 ?_)
  intro g2 w1 l2 B2 G2
  have na2 : ga ≠ g2 := by have := BA.lt; omega
  have n12 : g1 ≠ g2 := by have := B1.lt; omega
  have BA := BA.kept G2 (by simp)
  have B1 := B1.kept G2 (by simp)
  have hg2 : w.heap.size ≤ g2 := Nat.le_trans Z.size l2
  have Z := Z.grown G2 Z.size (by simp)
  clear G2
  go_wp2_with (first | (refine bd_row rfl 30 #[] rfl (nums .u8 (List.replicate 32 0)) (by kernel_rfl) ?_) | (refine st_all rfl 30 (.tmp 10) (.tmp 45) rfl g1 30 (nums .u8 (List.replicate 32 0)) (nums .u8 (List.replicate 32 0)) rfl rfl B1 rfl hz.out (nums_one _ _) ?_))
  intro w2 B1 G1
  have B2 := B2.kept G1 (fun e => n12.symm (Option.some.inj e))
  have Z := grown_below Z G1 Z.size hg1
  clear G1
  go_wp2_with (refine st_all rfl 30 (.tmp 11) (.tmp 46) rfl g2 30 (nums .u8 (List.replicate 32 0)) (nums .u8 (List.replicate 32 0)) rfl rfl B2 rfl hz.out (nums_one _ _) ?_)
  intro w3 B2 G2
  have B1 := B1.kept G2 (fun e => n12 (Option.some.inj e))
  have Z := grown_below Z G2 Z.size hg2
  clear G2
  go_wp2
  refine bodyPost_ret (res_three rfl _ g1 g2 30 30 _ _ _ rfl rfl B1 B2 Tryd.underlying30 rfl hz.out hz.out) rfl ⟨rfl, Z⟩
set_option maxHeartbeats 2000000 in
set_option maxRecDepth 8000 in
theorem bo_one (h : List Nat) (m : Nat) (cap : Nat) (b off : Nat) (q : List Nat) (hq : Hh q) (w : World) (RQ : w.rangeAt b off (nums .u8 q)) :
    Calls Tryd.prog 38 #[.int .i64 (m : Int), .int .i64 (m : Int), .bool false, .slice (some ⟨b, off, none⟩) 1 cap, .agg (nums .u8 h).toArray] w fun e w' => e = .returned (.tuple #[.agg (nums .u8 q).toArray, .agg (nums .u8 q).toArray, .bool true]) ∧ Below w.heap.size w w' := by
  have HQ : Hid (Hh q) := hq
  clear hq
  go_enter Tryd.func38, Tryd.ntmps38
  go_wp2_with (refine al_box rfl 30 (.tmp 4) rfl (nums .u8 h) rfl ?_)
  intro ga wa la BA GA
  have Z := (Below.refl w.heap.size w).grown GA (Nat.le_refl _) (by simp)
  clear GA
  go_wp2_with (refine al_zero rfl 30 rfl _ z25 ?_)
  intro g1 w0 l1 B1 G1
  have na1 : ga ≠ g1 := by have := BA.lt; omega
  have BA := BA.kept G1 (by simp)
  have hg1 : w.heap.size ≤ g1 := Nat.le_trans Z.size l1
  have Z := Z.grown G1 Z.size (by simp)
  clear G1
  go_wp2_with (refine al_zero rfl 30 rfl _ z25 ?_)
  intro g2 w1 l2 B2 G2
  have na2 : ga ≠ g2 := by have := BA.lt; omega
  have n12 : g1 ≠ g2 := by have := B1.lt; omega
  have BA := BA.kept G2 (by simp)
  have B1 := B1.kept G2 (by simp)
  have hg2 : w.heap.size ≤ g2 := Nat.le_trans Z.size l2
  have Z := Z.grown G2 Z.size (by simp)
  clear G2
  go_wp2_with fail
  obtain ⟨C, hC⟩ : ∃ C : World → Prop, C = fun W => Below w.heap.size w W := ⟨_, rfl⟩
  have FQ : Hid (∀ W, C W → W.rangeAt b off (nums .u8 q)) := fun W hW => by rw [hC] at hW; exact range_below RQ hW
  have CK : Hid (∀ W W', C W → Below W.heap.size W W' → C W') := fun W W' hW h2 => by rw [hC] at hW ⊢; exact hW.trans (h2.mono hW.size)
  have CS : Hid (∀ W W' g, C W → W.grownBy W' (some g) → w.heap.size ≤ g → C W') := fun W W' g hW h2 h3  => by rw [hC] at hW ⊢; exact grown_below hW h2 hW.size h3
  have CE : Hid (∀ W, C W → Below w.heap.size w W) := fun W hW => by rw [hC] at hW; exact hW
  have C0 : Hid (C { w1 with drawn := w1.drawn + 1 }) := by rw [hC]; exact Below.drew Z
  clear hC
  have B1 : Blk { w1 with drawn := w1.drawn + 1 } g1 30 (nums .u8 (List.replicate 32 0)) := B1
  have B2 : Blk { w1 with drawn := w1.drawn + 1 } g2 30 (nums .u8 (List.replicate 32 0)) := B2
  refine region_calm C 8 (by kernel_rfl) ?_
  have hCp : ∀ p : Prop, (∀ W, C W → p) ↔ p := fun p => ⟨fun h => h _ C0.out, fun h _ _ => h⟩
  generalize ({ w1 with drawn := w1.drawn + 1 } : World) = y0 at *
  refine seg 3 [0, 1, 2, 3, 4, 5] rfl (by kernel_rfl) whole_blind (C0.out) (by kernel_rfl) ?_
  change wpQuiet _ _ _ _ (_ :: _ :: _ :: _ :: _ :: _ :: []) _
  repeat (first
    | go_big_quiet_skip
    | (go_big_quiet_want
       first
       | (refine q_load 30 (.tmp 37) rfl b off rfl (nums .u8 q) _ FQ.out Tryd.underlying30 rfl (sH HQ.out) ?_
          simp only [Act.put, List.setIfInBounds_toArray, List.set_cons_zero, List.set_cons_succ]
          go_big_quiet_on)
       | (refine q_load 30 (.tmp 40) rfl b off rfl (nums .u8 q) _ FQ.out Tryd.underlying30 rfl (sH HQ.out) ?_
          simp only [Act.put, List.setIfInBounds_toArray, List.set_cons_zero, List.set_cons_succ]
          go_big_quiet_on)
       | (go_big_quiet_op
          go_big_quiet_on)))
  refine wpQuiet_nil ?_
  refine lone_do (i := 6) 2 rfl (by kernel_rfl) rfl (by rfl) ?_
  intro K hK
  refine oper_all 30 (.tmp 10) (.tmp 38) rfl g1 30 (nums .u8 (List.replicate 32 0)) (nums .u8 q) rfl rfl B1 (lenz HQ.out) (sH HQ.out) (nums_one _ _) ?_
  intro y1 B1 Gy1
  have B2 := B2.kept Gy1 (fun e => n12.symm (Option.some.inj e))
  have C1 : Hid (C y1) := CS.out _ _ _ C0.out Gy1 hg1 
  clear Gy1
  refine hK _ _ C1.out ?_
  clear hK K
  simp only [Act.put]
  refine lone_do (i := 7) 1 rfl (by kernel_rfl) rfl (by rfl) ?_
  intro K hK
  refine oper_all 30 (.tmp 11) (.tmp 41) rfl g2 30 (nums .u8 (List.replicate 32 0)) (nums .u8 q) rfl rfl B2 (lenz HQ.out) (sH HQ.out) (nums_one _ _) ?_
  intro y2 B2 Gy2
  have B1 := B1.kept Gy2 (fun e => n12 (Option.some.inj e))
  have CF : Hid (C y2) := CS.out _ _ _ C1.out Gy2 hg2 
  clear Gy2
  refine hK _ _ CF.out ?_
  clear hK K
  simp only [Act.put]
  refine lone_calm (i := 8) 0 rfl (by kernel_rfl) rfl rfl (CF.out) ?_
  repeat (first
    | go_big_quiet_skip
    | (go_big_quiet_want
       first
       | (go_big_quiet_op
          go_big_quiet_on)))
  refine wpQuiet_nil ?_
  refine anyC_done (by kernel_rfl) ⟨rfl, ?_⟩
  have ZE := CE.out _ CF.out
  clear C0 CK CS CE CF hCp C1 FQ
  go_wp2
  refine bodyPost_ret (res_three rfl _ g1 g2 30 30 _ _ _ rfl rfl B1 B2 Tryd.underlying30 rfl (sH HQ.out) (sH HQ.out)) rfl ⟨rfl, ZE⟩
/-- both of trees of at most 2^T leaves. -/
def BoC (h : List Nat) (T B : Nat) : Prop := ∀ (m n : Nat) (wh : Bool) (a : Option Addr) (cap : Nat) (L : List (List Nat)) (w : World), 1 ≤ m → m ≤ n → n ≤ B → Hl L → L.length ≤ 1000000 → L.length ≤ cap → ES (nums .u8) 32 w a L →
    Calls Tryd.prog 38 #[.int .i64 (m : Int), .int .i64 (n : Int), .bool wh, .slice a L.length cap, .agg (nums .u8 h).toArray] w fun e w' => e = .returned (.tuple #[.agg (nums .u8 (boF h T m n wh L).1.1).toArray, .agg (nums .u8 (boF h T m n wh L).1.2).toArray, .bool (boF h T m n wh L).2]) ∧ Below w.heap.size w w'
set_option maxHeartbeats 4000000 in
set_option maxRecDepth 8000 in
theorem bo_step (h : List Nat) (hh : Hh h) (T P : Nat) (hP : Hid (P = 2 ^ T)) (ih : BoC h T P) (m n : Nat) (wh : Bool) (hn : n ≤ 1099511627776) (h1 : P < n) (h2 : n ≤ 2 * P) (hm1 : 1 ≤ m) (hmn : m < n) (a : Option Addr) (cap : Nat) (M : List (List Nat)) (q : List Nat) (hq : Hh q) (hM : Hl M) (hlen : M.length ≤ 1000000) (hcap : M.length + 1 ≤ cap) (w : World) (hS : ES (nums .u8) 32 w a (M ++ [q])) :
    Calls Tryd.prog 38 #[.int .i64 (m : Int), .int .i64 (n : Int), .bool wh, .slice a (M.length + 1) cap, .agg (nums .u8 h).toArray] w fun e w' => e = .returned (.tuple #[.agg (nums .u8 (boF h (T + 1) m n wh (M ++ [q])).1.1).toArray, .agg (nums .u8 (boF h (T + 1) m n wh (M ++ [q])).1.2).toArray, .bool (boF h (T + 1) m n wh (M ++ [q])).2]) ∧ Below w.heap.size w w' := by
  have HH : Hid (Hh h) := hh
  have HQ : Hid (Hh q) := hq
  have HMl : Hid (Hl M) := hM
  have IH : Hid (∀ (m n : Nat) (wh : Bool) (a : Option Addr) (cap : Nat) (L : List (List Nat)) (w : World), 1 ≤ m → m ≤ n → n ≤ P → Hl L → L.length ≤ 1000000 → L.length + 1 ≤ cap → ES (nums .u8) 32 w a L →
    Calls Tryd.prog 38 #[.int .i64 (m : Int), .int .i64 (n : Int), .bool wh, .slice a L.length cap, .agg (nums .u8 h).toArray] w fun e w' => e = .returned (.tuple #[.agg (nums .u8 (boF h T m n wh L).1.1).toArray, .agg (nums .u8 (boF h T m n wh L).1.2).toArray, .bool (boF h T m n wh L).2]) ∧ Below w.heap.size w w') := fun m n wh a cap L w h1 h2 h3 h4 h5 h6 h7 => ih m n wh a cap L w h1 h2 h3 h4 h5 (by omega) h7
  obtain ⟨b, off, rfl, RQ⟩ := hS.at (i := M.length) (x := q) (by simp)
  have HM : Hid (ES (nums .u8) 32 w (some ⟨b, off, none⟩) M) := by
    have := hS.take M.length
    rw [List.take_left] at this
    exact this
  have hne : ((m : Int) == (n : Int)) = false := by rw [beq_eq_false_iff_ne]; omega
  have KHH : Hid (∀ W, Calls Tryd.prog 48 #[.int .i64 (n : Int)] W fun e w' => e = .returned (.int .i64 (P : Int)) ∧ w' = W) := fun W => half_any n T P hP (by rw [← hP.out]; exact h1) (by rw [Nat.pow_succ, ← hP.out]; omega) hn W
  obtain ⟨ANS, HANS⟩ : ∃ ANS, Hid (ANS = boF h (T + 1) m n wh (M ++ [q])) := ⟨_, rfl⟩
  rw [← HANS.out]
  have HE : Hid (ANS = if m ≤ P then (((boF h T m P wh M).1.1, nd (boF h T m P wh M).1.2 q), (boF h T m P wh M).2) else ((nd q (boF h T (m - P) (n - P) false M).1.1, nd q (boF h T (m - P) (n - P) false M).1.2), (boF h T (m - P) (n - P) false M).2)) := by
    show _ = _
    rw [HANS.out, boF, if_neg (by rw [← hP.out]; omega), if_neg (by omega), List.getLast?_concat, List.dropLast_concat, ← hP.out]
  clear hh hq hM hS ih HANS
  go_enter Tryd.func38, Tryd.ntmps38
  go_wp2_with (refine al_box rfl 30 (.tmp 4) rfl (nums .u8 h) rfl ?_)
  intro ga wa la BA GA
  have Z := (Below.refl w.heap.size w).grown GA (Nat.le_refl _) (by simp)
  clear GA
  go_wp2_with (refine al_zero rfl 30 rfl _ z25 ?_)
  intro g1 w0 l1 B1 G1
  have na1 : ga ≠ g1 := by have := BA.lt; omega
  have BA := BA.kept G1 (by simp)
  have hg1 : w.heap.size ≤ g1 := Nat.le_trans Z.size l1
  have Z := Z.grown G1 Z.size (by simp)
  clear G1
  go_wp2_with (refine al_zero rfl 30 rfl _ z25 ?_)
  intro g2 w1 l2 B2 G2
  have na2 : ga ≠ g2 := by have := BA.lt; omega
  have n12 : g1 ≠ g2 := by have := B1.lt; omega
  have BA := BA.kept G2 (by simp)
  have B1 := B1.kept G2 (by simp)
  have hg2 : w.heap.size ≤ g2 := Nat.le_trans Z.size l2
  have Z := Z.grown G2 Z.size (by simp)
  clear G2
  have R0 := range_below RQ Z
  go_wp2_with (first | (refine ld_mid rfl 30 (.tmp 51) rfl b (off + M.length * 32) rfl (nums .u8 q) _ R0 Tryd.underlying30 rfl (sH HQ.out) ?_) | (refine al_zero rfl 30 rfl _ z25 ?_))
  intro gq w2 lq BQ GQ
  have ng1q : g1 ≠ gq := by have := B1.lt; omega
  have ng2q : g2 ≠ gq := by have := B2.lt; omega
  have naq : ga ≠ gq := by have := BA.lt; omega
  have BA := BA.kept GQ (by simp)
  have B1 := B1.kept GQ (by simp)
  have B2 := B2.kept GQ (by simp)
  have hgq : w.heap.size ≤ gq := Nat.le_trans Z.size lq
  have Z := Z.grown GQ Z.size (by simp)
  have LQ : Hid ((nums .u8 q).length = (nums .u8 (List.replicate 32 0)).length ∧ (Tryd.prog.info? 30).map (·.size) = some (nums .u8 q).length) := ⟨lenz HQ.out, sH HQ.out⟩
  clear GQ R0
  go_wp2_with (refine st_all rfl 30 (.tmp 13) (.tmp 52) rfl gq 30 (nums .u8 (List.replicate 32 0)) (nums .u8 q) rfl rfl BQ LQ.out.1 LQ.out.2 (nums_one _ _) ?_)
  intro w3 BQ G2
  have BA := BA.kept G2 (fun e => naq (Option.some.inj e))
  have B1 := B1.kept G2 (fun e => ng1q (Option.some.inj e))
  have B2 := B2.kept G2 (fun e => ng2q (Option.some.inj e))
  have Z := grown_below Z G2 Z.size hgq
  clear G2 LQ
  go_wp2_with fail
  refine (KHH.out w3).mono ?_
  rintro e w2' ⟨rfl, hw2⟩
  rw [hw2]
  clear hw2 w2' RQ
  by_cases hlt : m ≤ P
  · have HI : Hid (1 ≤ m ∧ m ≤ P ∧ P ≤ P) := ⟨hm1, hlt, Nat.le_refl _⟩
    have hlt' : (m : Int) ≤ (P : Int) := by omega
    obtain ⟨x, y, ok, HX0⟩ : ∃ x y ok, Hid (boF h T m P wh M = ((x, y), ok)) := ⟨_, _, _, rfl⟩
    have HXY := boF_hh HH.out T m P wh M HMl.out
    rw [HX0.out] at HXY
    have HX : Hid (Hh x) := HXY.1
    have HY : Hid (Hh y) := HXY.2
    have HYQ : Hid (Hh (nd y q)) := nd_hh _ _
    have HR : ANS = ((x, nd y q), ok) := by rw [HE.out, if_pos hlt, HX0.out]
    subst HR
    clear HXY
    have KR := IH.out m P wh (some ⟨b, off, none⟩) cap M w3 HI.out.1 HI.out.2.1 HI.out.2.2 HMl.out hlen hcap (HM.out.below Z)
    rw [HX0.out] at KR
    go_wp2_with (refine ld_mid rfl 30 (.tmp 9) rfl ga 0 rfl (nums .u8 h) _ BA.all Tryd.underlying30 rfl (sH HH.out) ?_)
    refine KR.mono ?_
    rintro e w3' ⟨rfl, Z3⟩
    have B1 := B1.below Z3 B1.lt
    have B2 := B2.below Z3 B2.lt
    have BQ := BQ.below Z3 BQ.lt
    have Z := Z.trans (Z3.mono Z.size)
    clear KR Z3 BA
    go_wp2_with (refine al_zero rfl 30 rfl _ z25 ?_)
    intro gx w4 lx BX GX
    have ng1x : g1 ≠ gx := by have := B1.lt; omega
    have B1 := B1.kept GX (by simp)
    have ng2x : g2 ≠ gx := by have := B2.lt; omega
    have B2 := B2.kept GX (by simp)
    have ngqx : gq ≠ gx := by have := BQ.lt; omega
    have BQ := BQ.kept GX (by simp)
    have hgx : w.heap.size ≤ gx := Nat.le_trans Z.size lx
    have Z := Z.grown GX Z.size (by simp)
    clear GX
    go_wp2_with (refine al_zero rfl 30 rfl _ z25 ?_)
    intro gy w5 ly BY GY
    have nxy : gx ≠ gy := by have := BX.lt; omega
    have ng1y : g1 ≠ gy := by have := B1.lt; omega
    have B1 := B1.kept GY (by simp)
    have ng2y : g2 ≠ gy := by have := B2.lt; omega
    have B2 := B2.kept GY (by simp)
    have ngqy : gq ≠ gy := by have := BQ.lt; omega
    have BQ := BQ.kept GY (by simp)
    have BX := BX.kept GY (by simp)
    have hgy : w.heap.size ≤ gy := Nat.le_trans Z.size ly
    have Z := Z.grown GY Z.size (by simp)
    clear GY
    have LX : Hid ((nums .u8 x).length = (nums .u8 (List.replicate 32 0)).length ∧ (Tryd.prog.info? 30).map (·.size) = some (nums .u8 x).length) := ⟨lenz HX.out, sH HX.out⟩
    have LY : Hid ((nums .u8 y).length = (nums .u8 (List.replicate 32 0)).length ∧ (Tryd.prog.info? 30).map (·.size) = some (nums .u8 y).length) := ⟨lenz HY.out, sH HY.out⟩
    go_wp2_with (refine st_all rfl 30 (.tmp 16) (.tmp 70) rfl gx 30 (nums .u8 (List.replicate 32 0)) (nums .u8 x) rfl rfl BX LX.out.1 LX.out.2 (nums_one _ _) ?_)
    intro w6 BX GX
    have BY := BY.kept GX (fun e => nxy.symm (Option.some.inj e))
    have B1 := B1.kept GX (fun e => ng1x (Option.some.inj e))
    have B2 := B2.kept GX (fun e => ng2x (Option.some.inj e))
    have BQ := BQ.kept GX (fun e => ngqx (Option.some.inj e))
    have Z := grown_below Z GX Z.size hgx
    clear GX
    go_wp2_with (refine st_all rfl 30 (.tmp 17) (.tmp 71) rfl gy 30 (nums .u8 (List.replicate 32 0)) (nums .u8 y) rfl rfl BY LY.out.1 LY.out.2 (nums_one _ _) ?_)
    intro w7 BY GY
    have BX := BX.kept GY (fun e => nxy (Option.some.inj e))
    have B1 := B1.kept GY (fun e => ng1y (Option.some.inj e))
    have B2 := B2.kept GY (fun e => ng2y (Option.some.inj e))
    have BQ := BQ.kept GY (fun e => ngqy (Option.some.inj e))
    have Z := grown_below Z GY Z.size hgy
    clear GY LX LY
    go_wp2_with fail
    obtain ⟨C, hC⟩ : ∃ C : World → Prop, C = fun W => Below w.heap.size w W ∧ Blk W gx 30 (nums .u8 x) ∧ Blk W gy 30 (nums .u8 y) ∧ Blk W gq 30 (nums .u8 q) := ⟨_, rfl⟩
    have FX : Hid (∀ W, C W → W.rangeAt gx 0 (nums .u8 x)) := fun W hW => by rw [hC] at hW; exact (hW.2.1).all
    have FY : Hid (∀ W, C W → W.rangeAt gy 0 (nums .u8 y)) := fun W hW => by rw [hC] at hW; exact (hW.2.2.1).all
    have FQ : Hid (∀ W, C W → W.rangeAt gq 0 (nums .u8 q)) := fun W hW => by rw [hC] at hW; exact (hW.2.2.2).all
    have CK : Hid (∀ W W', C W → Below W.heap.size W W' → C W') := fun W W' hW h2 => by rw [hC] at hW ⊢; exact ⟨hW.1.trans (h2.mono hW.1.size), (hW.2.1).below h2 (hW.2.1).lt, (hW.2.2.1).below h2 (hW.2.2.1).lt, (hW.2.2.2).below h2 (hW.2.2.2).lt⟩
    have CS : Hid (∀ W W' g, C W → W.grownBy W' (some g) → w.heap.size ≤ g → gx ≠ g → gy ≠ g → gq ≠ g → C W') := fun W W' g hW h2 h3 k1 k2 k3 => by rw [hC] at hW ⊢; exact ⟨grown_below hW.1 h2 hW.1.size h3, (hW.2.1).kept h2 (fun e => k1 (Option.some.inj e)), (hW.2.2.1).kept h2 (fun e => k2 (Option.some.inj e)), (hW.2.2.2).kept h2 (fun e => k3 (Option.some.inj e))⟩
    have CE : Hid (∀ W, C W → Below w.heap.size w W) := fun W hW => by rw [hC] at hW; exact hW.1
    have C0 : Hid (C { w7 with drawn := w7.drawn + 1 }) := by rw [hC]; exact ⟨Below.drew Z, BX, BY, BQ⟩
    clear hC
    have B1 : Blk { w7 with drawn := w7.drawn + 1 } g1 30 (nums .u8 (List.replicate 32 0)) := B1
    have B2 : Blk { w7 with drawn := w7.drawn + 1 } g2 30 (nums .u8 (List.replicate 32 0)) := B2
    refine region_calm C 7 (by kernel_rfl) ?_
    have hCp : ∀ p : Prop, (∀ W, C W → p) ↔ p := fun p => ⟨fun h => h _ C0.out, fun h _ _ => h⟩
    generalize ({ w7 with drawn := w7.drawn + 1 } : World) = y0 at *
    refine seg 4 [0, 1, 2, 4] rfl (by kernel_rfl) whole_blind (C0.out) (by kernel_rfl) ?_
    change wpQuiet _ _ _ _ (_ :: _ :: _ :: _ :: []) _
    repeat (first
      | go_big_quiet_skip
      | (go_big_quiet_want
         first
         | (refine q_load 30 (.tmp 16) rfl gx 0 rfl (nums .u8 x) _ FX.out Tryd.underlying30 rfl (sH HX.out) ?_
            simp only [Act.put, List.setIfInBounds_toArray, List.set_cons_zero, List.set_cons_succ]
            go_big_quiet_on)
         | (refine q_load 30 (.tmp 17) rfl gy 0 rfl (nums .u8 y) _ FY.out Tryd.underlying30 rfl (sH HY.out) ?_
            simp only [Act.put, List.setIfInBounds_toArray, List.set_cons_zero, List.set_cons_succ]
            go_big_quiet_on)
         | (refine q_load 30 (.tmp 13) rfl gq 0 rfl (nums .u8 q) _ FQ.out Tryd.underlying30 rfl (sH HQ.out) ?_
            simp only [Act.put, List.setIfInBounds_toArray, List.set_cons_zero, List.set_cons_succ]
            go_big_quiet_on)
         | (go_big_quiet_op
            go_big_quiet_on)))
    refine wpQuiet_nil ?_
    refine lone_do (i := 3) 3 rfl (by kernel_rfl) rfl (by rfl) ?_
    intro K hK
    refine oper_calls 34 _ _ rfl #[.agg (nums .u8 y).toArray, .agg (nums .u8 q).toArray] (by rw [List.map_toArray]; rfl) (enters Tryd.func34 (by kernel_rfl) rfl) (fun v w' => v = .agg (nums .u8 (nd y q)).toArray ∧ Below y0.heap.size y0 w') ((rnode_any y q HY.out.1 HQ.out.1 HY.out.2 HQ.out.2 y0).mono (by rintro e w' ⟨rfl, g⟩; exact ⟨_, rfl, rfl, g⟩)) ?_
    rintro v y1 ⟨rfl, ZN⟩
    have C1 : Hid (C y1) := CK.out _ _ C0.out ZN
    have B1 := B1.below ZN B1.lt
    have B2 := B2.below ZN B2.lt
    clear ZN
    refine hK _ _ (C1.out) ?_
    clear hK K
    simp only [Act.put, List.setIfInBounds_toArray, List.set_cons_zero, List.set_cons_succ]
    refine lone_do (i := 5) 2 rfl (by kernel_rfl) rfl (by rfl) ?_
    intro K hK
    refine oper_all 30 (.tmp 10) (.tmp 73) rfl g1 30 (nums .u8 (List.replicate 32 0)) (nums .u8 x) rfl rfl B1 (lenz HX.out) (sH HX.out) (nums_one _ _) ?_
    intro y2 B1 Gy2
    have B2 := B2.kept Gy2 (fun e => n12.symm (Option.some.inj e))
    have C2 : Hid (C y2) := CS.out _ _ _ C1.out Gy2 hg1 ng1x.symm ng1y.symm ng1q.symm
    clear Gy2
    refine hK _ _ C2.out ?_
    clear hK K
    simp only [Act.put]
    refine lone_do (i := 6) 1 rfl (by kernel_rfl) rfl (by rfl) ?_
    intro K hK
    refine oper_all 30 (.tmp 11) (.tmp 76) rfl g2 30 (nums .u8 (List.replicate 32 0)) (nums .u8 (nd y q)) rfl rfl B2 (lenz HYQ.out) (sH HYQ.out) (nums_one _ _) ?_
    intro y3 B2 Gy3
    have B1 := B1.kept Gy3 (fun e => n12 (Option.some.inj e))
    have CF : Hid (C y3) := CS.out _ _ _ C2.out Gy3 hg2 ng2x.symm ng2y.symm ng2q.symm
    clear Gy3
    refine hK _ _ CF.out ?_
    clear hK K
    simp only [Act.put]
    refine lone_calm (i := 7) 0 rfl (by kernel_rfl) rfl rfl (CF.out) ?_
    repeat (first
      | go_big_quiet_skip
      | (go_big_quiet_want
         first
         | (go_big_quiet_op
            go_big_quiet_on)))
    refine wpQuiet_nil ?_
    refine anyC_done (by kernel_rfl) ⟨rfl, ?_⟩
    have ZE := CE.out _ CF.out
    clear C0 CK CS CE CF hCp C1 C2 FX FY FQ
    go_wp2
    refine bodyPost_ret (res_three rfl _ g1 g2 30 30 _ _ _ rfl rfl B1 B2 Tryd.underlying30 rfl (sH HX.out) (sH HYQ.out)) rfl ⟨rfl, ZE⟩
  · obtain ⟨j, hj⟩ : ∃ j, m = P + j := ⟨m - P, by omega⟩
    obtain ⟨r, hr⟩ : ∃ r, n = P + r := ⟨n - P, by omega⟩
    have hlt' : ¬ ((m : Int) ≤ (P : Int)) := by omega
    have HI : Hid (1 ≤ j ∧ j ≤ r ∧ r ≤ P) := ⟨by omega, by omega, by omega⟩
    obtain ⟨x, y, ok, HX0⟩ : ∃ x y ok, Hid (boF h T j r false M = ((x, y), ok)) := ⟨_, _, _, rfl⟩
    have HXY := boF_hh HH.out T j r false M HMl.out
    rw [HX0.out] at HXY
    have HX : Hid (Hh x) := HXY.1
    have HY : Hid (Hh y) := HXY.2
    have HQX : Hid (Hh (nd q x)) := nd_hh _ _
    have HQY : Hid (Hh (nd q y)) := nd_hh _ _
    have HR : ANS = ((nd q x, nd q y), ok) := by rw [HE.out, if_neg hlt, show m - P = j by omega, show n - P = r by omega, HX0.out]
    subst HR
    have ej : (m : Int) - (P : Int) = (j : Int) := by omega
    have en : (n : Int) - (P : Int) = (r : Int) := by omega
    clear HXY hj hr
    have KR := IH.out j r false (some ⟨b, off, none⟩) cap M w3 HI.out.1 HI.out.2.1 HI.out.2.2 HMl.out hlen hcap (HM.out.below Z)
    rw [HX0.out] at KR
    go_wp2_with (refine ld_mid rfl 30 (.tmp 9) rfl ga 0 rfl (nums .u8 h) _ BA.all Tryd.underlying30 rfl (sH HH.out) ?_)
    refine KR.mono ?_
    rintro e w3' ⟨rfl, Z3⟩
    have B1 := B1.below Z3 B1.lt
    have B2 := B2.below Z3 B2.lt
    have BQ := BQ.below Z3 BQ.lt
    have Z := Z.trans (Z3.mono Z.size)
    clear KR Z3 BA
    go_wp2_with (refine al_zero rfl 30 rfl _ z25 ?_)
    intro gx w4 lx BX GX
    have ng1x : g1 ≠ gx := by have := B1.lt; omega
    have B1 := B1.kept GX (by simp)
    have ng2x : g2 ≠ gx := by have := B2.lt; omega
    have B2 := B2.kept GX (by simp)
    have ngqx : gq ≠ gx := by have := BQ.lt; omega
    have BQ := BQ.kept GX (by simp)
    have hgx : w.heap.size ≤ gx := Nat.le_trans Z.size lx
    have Z := Z.grown GX Z.size (by simp)
    clear GX
    go_wp2_with (refine al_zero rfl 30 rfl _ z25 ?_)
    intro gy w5 ly BY GY
    have nxy : gx ≠ gy := by have := BX.lt; omega
    have ng1y : g1 ≠ gy := by have := B1.lt; omega
    have B1 := B1.kept GY (by simp)
    have ng2y : g2 ≠ gy := by have := B2.lt; omega
    have B2 := B2.kept GY (by simp)
    have ngqy : gq ≠ gy := by have := BQ.lt; omega
    have BQ := BQ.kept GY (by simp)
    have BX := BX.kept GY (by simp)
    have hgy : w.heap.size ≤ gy := Nat.le_trans Z.size ly
    have Z := Z.grown GY Z.size (by simp)
    clear GY
    have LX : Hid ((nums .u8 x).length = (nums .u8 (List.replicate 32 0)).length ∧ (Tryd.prog.info? 30).map (·.size) = some (nums .u8 x).length) := ⟨lenz HX.out, sH HX.out⟩
    have LY : Hid ((nums .u8 y).length = (nums .u8 (List.replicate 32 0)).length ∧ (Tryd.prog.info? 30).map (·.size) = some (nums .u8 y).length) := ⟨lenz HY.out, sH HY.out⟩
    go_wp2_with (refine st_all rfl 30 (.tmp 19) (.tmp 88) rfl gx 30 (nums .u8 (List.replicate 32 0)) (nums .u8 x) rfl rfl BX LX.out.1 LX.out.2 (nums_one _ _) ?_)
    intro w6 BX GX
    have BY := BY.kept GX (fun e => nxy.symm (Option.some.inj e))
    have B1 := B1.kept GX (fun e => ng1x (Option.some.inj e))
    have B2 := B2.kept GX (fun e => ng2x (Option.some.inj e))
    have BQ := BQ.kept GX (fun e => ngqx (Option.some.inj e))
    have Z := grown_below Z GX Z.size hgx
    clear GX
    go_wp2_with (refine st_all rfl 30 (.tmp 20) (.tmp 89) rfl gy 30 (nums .u8 (List.replicate 32 0)) (nums .u8 y) rfl rfl BY LY.out.1 LY.out.2 (nums_one _ _) ?_)
    intro w7 BY GY
    have BX := BX.kept GY (fun e => nxy (Option.some.inj e))
    have B1 := B1.kept GY (fun e => ng1y (Option.some.inj e))
    have B2 := B2.kept GY (fun e => ng2y (Option.some.inj e))
    have BQ := BQ.kept GY (fun e => ngqy (Option.some.inj e))
    have Z := grown_below Z GY Z.size hgy
    clear GY LX LY
    go_wp2_with fail
    obtain ⟨C, hC⟩ : ∃ C : World → Prop, C = fun W => Below w.heap.size w W ∧ Blk W gx 30 (nums .u8 x) ∧ Blk W gy 30 (nums .u8 y) ∧ Blk W gq 30 (nums .u8 q) := ⟨_, rfl⟩
    have FX : Hid (∀ W, C W → W.rangeAt gx 0 (nums .u8 x)) := fun W hW => by rw [hC] at hW; exact (hW.2.1).all
    have FY : Hid (∀ W, C W → W.rangeAt gy 0 (nums .u8 y)) := fun W hW => by rw [hC] at hW; exact (hW.2.2.1).all
    have FQ : Hid (∀ W, C W → W.rangeAt gq 0 (nums .u8 q)) := fun W hW => by rw [hC] at hW; exact (hW.2.2.2).all
    have CK : Hid (∀ W W', C W → Below W.heap.size W W' → C W') := fun W W' hW h2 => by rw [hC] at hW ⊢; exact ⟨hW.1.trans (h2.mono hW.1.size), (hW.2.1).below h2 (hW.2.1).lt, (hW.2.2.1).below h2 (hW.2.2.1).lt, (hW.2.2.2).below h2 (hW.2.2.2).lt⟩
    have CS : Hid (∀ W W' g, C W → W.grownBy W' (some g) → w.heap.size ≤ g → gx ≠ g → gy ≠ g → gq ≠ g → C W') := fun W W' g hW h2 h3 k1 k2 k3 => by rw [hC] at hW ⊢; exact ⟨grown_below hW.1 h2 hW.1.size h3, (hW.2.1).kept h2 (fun e => k1 (Option.some.inj e)), (hW.2.2.1).kept h2 (fun e => k2 (Option.some.inj e)), (hW.2.2.2).kept h2 (fun e => k3 (Option.some.inj e))⟩
    have CE : Hid (∀ W, C W → Below w.heap.size w W) := fun W hW => by rw [hC] at hW; exact hW.1
    have C0 : Hid (C { w7 with drawn := w7.drawn + 1 }) := by rw [hC]; exact ⟨Below.drew Z, BX, BY, BQ⟩
    clear hC
    have B1 : Blk { w7 with drawn := w7.drawn + 1 } g1 30 (nums .u8 (List.replicate 32 0)) := B1
    have B2 : Blk { w7 with drawn := w7.drawn + 1 } g2 30 (nums .u8 (List.replicate 32 0)) := B2
    refine region_calm C 9 (by kernel_rfl) ?_
    have hCp : ∀ p : Prop, (∀ W, C W → p) ↔ p := fun p => ⟨fun h => h _ C0.out, fun h _ _ => h⟩
    generalize ({ w7 with drawn := w7.drawn + 1 } : World) = y0 at *
    refine seg 5 [0, 1, 3, 4, 6] rfl (by kernel_rfl) whole_blind (C0.out) (by kernel_rfl) ?_
    change wpQuiet _ _ _ _ (_ :: _ :: _ :: _ :: _ :: []) _
    repeat (first
      | go_big_quiet_skip
      | (go_big_quiet_want
         first
         | (refine q_load 30 (.tmp 13) rfl gq 0 rfl (nums .u8 q) _ FQ.out Tryd.underlying30 rfl (sH HQ.out) ?_
            simp only [Act.put, List.setIfInBounds_toArray, List.set_cons_zero, List.set_cons_succ]
            go_big_quiet_on)
         | (refine q_load 30 (.tmp 19) rfl gx 0 rfl (nums .u8 x) _ FX.out Tryd.underlying30 rfl (sH HX.out) ?_
            simp only [Act.put, List.setIfInBounds_toArray, List.set_cons_zero, List.set_cons_succ]
            go_big_quiet_on)
         | (refine q_load 30 (.tmp 20) rfl gy 0 rfl (nums .u8 y) _ FY.out Tryd.underlying30 rfl (sH HY.out) ?_
            simp only [Act.put, List.setIfInBounds_toArray, List.set_cons_zero, List.set_cons_succ]
            go_big_quiet_on)
         | (go_big_quiet_op
            go_big_quiet_on)))
    refine wpQuiet_nil ?_
    refine lone_do (i := 2) 4 rfl (by kernel_rfl) rfl (by rfl) ?_
    intro K hK
    refine oper_calls 34 _ _ rfl #[.agg (nums .u8 q).toArray, .agg (nums .u8 x).toArray] (by rw [List.map_toArray]; rfl) (enters Tryd.func34 (by kernel_rfl) rfl) (fun v w' => v = .agg (nums .u8 (nd q x)).toArray ∧ Below y0.heap.size y0 w') ((rnode_any q x HQ.out.1 HX.out.1 HQ.out.2 HX.out.2 y0).mono (by rintro e w' ⟨rfl, g⟩; exact ⟨_, rfl, rfl, g⟩)) ?_
    rintro v y1 ⟨rfl, ZN⟩
    have C1 : Hid (C y1) := CK.out _ _ C0.out ZN
    have B1 := B1.below ZN B1.lt
    have B2 := B2.below ZN B2.lt
    clear ZN
    refine hK _ _ (C1.out) ?_
    clear hK K
    simp only [Act.put, List.setIfInBounds_toArray, List.set_cons_zero, List.set_cons_succ]
    refine lone_do (i := 5) 3 rfl (by kernel_rfl) rfl (by rfl) ?_
    intro K hK
    refine oper_calls 34 _ _ rfl #[.agg (nums .u8 q).toArray, .agg (nums .u8 y).toArray] (by rw [List.map_toArray]; rfl) (enters Tryd.func34 (by kernel_rfl) rfl) (fun v w' => v = .agg (nums .u8 (nd q y)).toArray ∧ Below y1.heap.size y1 w') ((rnode_any q y HQ.out.1 HY.out.1 HQ.out.2 HY.out.2 y1).mono (by rintro e w' ⟨rfl, g⟩; exact ⟨_, rfl, rfl, g⟩)) ?_
    rintro v y2 ⟨rfl, ZN⟩
    have C2 : Hid (C y2) := CK.out _ _ C1.out ZN
    have B1 := B1.below ZN B1.lt
    have B2 := B2.below ZN B2.lt
    clear ZN
    refine hK _ _ (C2.out) ?_
    clear hK K
    simp only [Act.put, List.setIfInBounds_toArray, List.set_cons_zero, List.set_cons_succ]
    refine lone_do (i := 7) 2 rfl (by kernel_rfl) rfl (by rfl) ?_
    intro K hK
    refine oper_all 30 (.tmp 10) (.tmp 93) rfl g1 30 (nums .u8 (List.replicate 32 0)) (nums .u8 (nd q x)) rfl rfl B1 (lenz HQX.out) (sH HQX.out) (nums_one _ _) ?_
    intro y3 B1 Gy3
    have B2 := B2.kept Gy3 (fun e => n12.symm (Option.some.inj e))
    have C3 : Hid (C y3) := CS.out _ _ _ C2.out Gy3 hg1 ng1x.symm ng1y.symm ng1q.symm
    clear Gy3
    refine hK _ _ C3.out ?_
    clear hK K
    simp only [Act.put]
    refine lone_do (i := 8) 1 rfl (by kernel_rfl) rfl (by rfl) ?_
    intro K hK
    refine oper_all 30 (.tmp 11) (.tmp 96) rfl g2 30 (nums .u8 (List.replicate 32 0)) (nums .u8 (nd q y)) rfl rfl B2 (lenz HQY.out) (sH HQY.out) (nums_one _ _) ?_
    intro y4 B2 Gy4
    have B1 := B1.kept Gy4 (fun e => n12 (Option.some.inj e))
    have CF : Hid (C y4) := CS.out _ _ _ C3.out Gy4 hg2 ng2x.symm ng2y.symm ng2q.symm
    clear Gy4
    refine hK _ _ CF.out ?_
    clear hK K
    simp only [Act.put]
    refine lone_calm (i := 9) 0 rfl (by kernel_rfl) rfl rfl (CF.out) ?_
    repeat (first
      | go_big_quiet_skip
      | (go_big_quiet_want
         first
         | (go_big_quiet_op
            go_big_quiet_on)))
    refine wpQuiet_nil ?_
    refine anyC_done (by kernel_rfl) ⟨rfl, ?_⟩
    have ZE := CE.out _ CF.out
    clear C0 CK CS CE CF hCp C1 C2 C3 FX FY FQ
    go_wp2
    refine bodyPost_ret (res_three rfl _ g1 g2 30 30 _ _ _ rfl rfl B1 B2 Tryd.underlying30 rfl (sH HQX.out) (sH HQY.out)) rfl ⟨rfl, ZE⟩
#print axioms bo_step
theorem bo_stop (h : List Nat) (hh : Hh h) (m : Nat) (wh : Bool) (a : Option Addr) (cap : Nat) (L : List (List Nat)) (hL : Hl L) (hlen : L.length ≤ 1000000) (w : World) (hS : ES (nums .u8) 32 w a L) :
    Calls Tryd.prog 38 #[.int .i64 (m : Int), .int .i64 (m : Int), .bool wh, .slice a L.length cap, .agg (nums .u8 h).toArray] w fun e w' => e = .returned (.tuple #[.agg (nums .u8 (boS h wh L).1.1).toArray, .agg (nums .u8 (boS h wh L).1.2).toArray, .bool (boS h wh L).2]) ∧ Below w.heap.size w w' := by
  cases wh with
  | true => exact bo_whole h hh m a cap L hlen w
  | false =>
    match L, hL, hS with
    | [], _, _ => exact bo_many h m a cap 0 (by decide) w
    | [q], hL, hS =>
      obtain ⟨b, off, rfl, r⟩ := hS.at (i := 0) (x := q) rfl
      exact bo_one h m cap b off q (hL q (by simp)) w (by simpa using r)
    | q :: s :: r, _, _ => exact bo_many h m a cap (q :: s :: r).length (by simp) w
theorem bo_all (h : List Nat) (hh : Hh h) : ∀ T, T ≤ 40 → BoC h T (2 ^ T)
  | 0, _ => fun m n wh a cap L w h1 h2 h3 hL hlen hcap hS => by
    have e1 : n = 1 := by simp at h3; omega
    have e0 : m = 1 := by omega
    subst e1 e0
    exact bo_stop h hh 1 wh a cap L hL hlen w hS
  | T + 1, hT => fun m n wh a cap L w h1 h2 h3 hL hlen hcap hS => by
    have ih := bo_all h hh T (by omega)
    by_cases hs : n ≤ 2 ^ T
    · rw [boF, if_pos hs]; exact ih m n wh a cap L w h1 h2 hs hL hlen hcap hS
    · have hb : 2 ^ (T + 1) ≤ 2 ^ 40 := Nat.pow_le_pow_right (by decide) hT
      have e2 : 2 ^ (T + 1) = 2 * 2 ^ T := by rw [Nat.pow_succ, Nat.mul_comm]
      by_cases he : m = n
      · rw [boF, if_neg hs, if_pos he]; subst he; exact bo_stop h hh m wh a cap L hL hlen w hS
      · rcases List.eq_nil_or_concat L with rfl | ⟨M, q, rfl⟩
        · rw [boF, if_neg hs, if_neg he]; exact bo_nil h m n he wh a cap w
        · rw [List.concat_eq_append] at hL hlen hcap hS ⊢
          rw [List.length_append, List.length_singleton] at hlen hcap ⊢
          exact bo_step h hh T (2 ^ T) rfl ih m n wh (by omega) (by omega) (by omega) h1 (by omega) a cap M q (hL q (by simp)) (fun x hx => hL x (by simp [hx])) (by omega) hcap w hS
theorem bo_any (h : List Nat) (hh : Hh h) : BoC h 40 1099511627776 := bo_all h hh 40 (Nat.le_refl _)
#print axioms bo_any
end Go.Proofs.YtehkaploinklmaaDoor
