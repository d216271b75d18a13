/-
  OrderAbove: the mathematics, and the walk.
-/
import Derived.Test.YtoggcabenjmnoaaDoorKm
import Derived.Test.YtoggcabenjmnoaaDoorBl
namespace Go.Proofs.YtoggcabenjmnoaaDoor
open Go.RowKit Math
set_option linter.unusedVariables false
set_option linter.unusedSimpArgs false
theorem blt_mid : ∀ (p u v o : List Nat), blt o (p ++ v) = true → blt o (p ++ u) = false → ∃ o', o = p ++ o' ∧ blt o' v = true ∧ blt o' u = false
  | [], u, v, o, h1, h2 => ⟨o, rfl, h1, h2⟩
  | a :: p, u, v, [], h1, h2 => by simp [blt] at h2
  | a :: p, u, v, b :: o, h1, h2 => by
    simp only [List.cons_append, blt, Bool.or_eq_true, Bool.and_eq_true, decide_eq_true_eq, beq_iff_eq, Bool.or_eq_false_iff, decide_eq_false_iff_not, Bool.and_eq_false_iff] at h1 h2
    have hb : b = a := by
      rcases h1 with h | h
      · exact absurd h h2.1
      · exact h.1
    subst hb
    have h1' : blt o (p ++ v) = true := by
      rcases h1 with h | h
      · exact absurd h h2.1
      · exact h.2
    have h2' : blt o (p ++ u) = false := by
      rcases h2.2 with h | h
      · simp at h
      · exact h
    obtain ⟨o', rfl, h3, h4⟩ := blt_mid p u v o h1' h2'
    exact ⟨o', rfl, h3, h4⟩
theorem blt_ff : ∀ (f o : List Nat), (∀ x ∈ f, x = 255) → (∀ x ∈ o, x < 256) → blt o f = false → ∃ r, o = f ++ r
  | [], o, _, _, _ => ⟨o, rfl⟩
  | a :: f, [], _, _, h => by simp [blt] at h
  | a :: f, b :: o, hf, ho, h => by
    have ha := hf a (by simp)
    have hb := ho b (by simp)
    simp only [blt, Bool.or_eq_false_iff, decide_eq_false_iff_not, Bool.and_eq_false_iff] at h
    have e : b = a := by omega
    subst e
    have h2 : blt o f = false := by
      rcases h.2 with h | h
      · simp at h
      · exact h
    obtain ⟨r, rfl⟩ := blt_ff f o (fun x hx => hf x (by simp [hx])) (fun x hx => ho x (by simp [hx])) h2
    exact ⟨r, rfl⟩
/-- The text's parts: what is ahead of its last byte that is not ff, that byte, and the bytes ff. -/
theorem abv_parts {L : List Nat} {n : Nat} (h : Abv L n) (hn : 0 < n) : ∃ x f, L = L.take (n - 1) ++ x :: f ∧ L.getD (n - 1) 0 = x ∧ ∀ y ∈ f, y = 255 := by
  have hl := h.le
  have hlt : n - 1 < L.length := by omega
  refine ⟨L.getD (n - 1) 0, L.drop n, ?_, rfl, fun y hy => ?_⟩
  · have e : L.getD (n - 1) 0 = L[n - 1] := by rw [List.getD_eq_getElem?_getD, List.getElem?_eq_getElem hlt]; rfl
    have := List.drop_eq_getElem_cons hlt
    rw [Nat.sub_add_cancel hn] at this
    rw [e, ← this, List.take_append_drop]
  · obtain ⟨i, hi, rfl⟩ := List.getElem_of_mem hy
    rw [List.length_drop] at hi
    have := h.ff (n + i) (by omega) (by omega)
    rw [List.getElem_drop]
    rwa [List.getD_eq_getElem?_getD, List.getElem?_eq_getElem (by omega)] at this
theorem abv_less {L : List Nat} {n : Nat} (h : Abv L n) (hn : 0 < n) (M : List Nat) : blt (L ++ M) (abvL L n) = true := by
  obtain ⟨x, f, e1, e2, _⟩ := abv_parts h hn
  unfold abvL
  rw [e2]
  conv => lhs; arg 1; rw [e1]
  rw [List.append_assoc, blt_pre]
  simp [blt]
theorem abv_least {L : List Nat} {n : Nat} (h : Abv L n) (hn : 0 < n) (O : List Nat) (ho : ∀ x ∈ O, x < 256) (h1 : blt O (abvL L n) = true) (h2 : blt O L = false) : ∃ r, O = L ++ r := by
  obtain ⟨x, f, e1, e2, hf⟩ := abv_parts h hn
  unfold abvL at h1
  rw [e2] at h1
  rw [e1] at h2
  obtain ⟨o', e3, h3, h4⟩ := blt_mid _ _ _ _ h1 h2
  cases o' with
  | nil => simp [blt] at h4
  | cons y o' =>
    simp only [blt, Bool.or_eq_true, Bool.and_eq_true, decide_eq_true_eq, beq_iff_eq, Bool.or_eq_false_iff, decide_eq_false_iff_not, Bool.and_eq_false_iff] at h3 h4
    have hy : y = x := by
      rcases h3 with h | h
      · omega
      · exact absurd h.2 (by simp)
    subst hy
    have h5 : blt o' f = false := by
      rcases h4.2 with h | h
      · simp at h
      · exact h
    obtain ⟨r, rfl⟩ := blt_ff f o' hf (fun z hz => ho z (by rw [e3]; simp [hz])) h5
    refine ⟨r, ?_⟩
    rw [e3]
    conv => rhs; rw [e1]
    simp
theorem abvL_oct {s : ByteArray} {n : Nat} (h : Abv (bts s) n) (hn : 0 < n) : ∀ x ∈ abvL (bts s) n, x < 256 := by
  intro y hy
  unfold abvL at hy
  rcases List.mem_append.1 hy with h' | h'
  · exact bts_oct s y (List.mem_of_mem_take h')
  · have h2 := h.nf hn
    have h3 := oct_get (bts_oct s) (n - 1)
    simp at h'
    rw [List.getD_eq_getElem?_getD] at h2 h3
    omega
/-- What stands above a text: s ++ more is below it; whatever is below it and not below s begins with s. -/
theorem above_facts {s more other a : ByteArray} {n : Nat} (h : Abv (bts s) n) (hn : 0 < n) (ha : a = ofB (abvL (bts s) n)) :
    Op.bytesLess (s ++ more).toList a.toList = true ∧ (Op.bytesLess other.toList a.toList = true → Op.bytesLess other.toList s.toList = false → s.size ≤ other.size ∧ other.extract 0 s.size = s) := by
  subst ha
  rw [less_blt, less_blt, less_blt, bts_ofB _ (abvL_oct h hn), bts_app]
  refine ⟨abv_less h hn _, fun h1 h2 => ?_⟩
  obtain ⟨r, hr⟩ := abv_least h hn (bts other) (bts_oct other) h1 h2
  have hl : s.size ≤ other.size := by
    have := congrArg List.length hr
    rw [List.length_append, bts_len, bts_len] at this
    omega
  refine ⟨hl, bts_inj ?_⟩
  rw [bts_take other s.size hl, hr, ← bts_len s, List.take_left]
theorem str_eq {a b : ByteArray} (h : a = b) : (a.toList == b.toList) = true := by rw [h]; simp
set_option maxRecDepth 8000 in
set_option maxHeartbeats 2000000 in
theorem above_walk (s more other : ByteArray) (W : World) (hm : Mx W) (s1 : s.size ≤ 140737488355328) (s2 : more.size ≤ 140737488355328) (s3 : other.size ≤ 140737488355328) :
    Calls Tryd.prog 5 #[.string s, .string more, .string other] W fun e w' => e = .returned (.bool true) ∧ Below W.heap.size W w' := by
  by_cases hbig : 2000 < s.size + more.size + other.size
  · have hb : decide ((2000 : Int) < (s.size : Int) + (more.size : Int) + (other.size : Int)) = true := decide_eq_true (by omega)
    go_enter Tryd.func5, Tryd.ntmps5
    go_wp2
    go_ret
    exact ⟨rfl, Below.refl _ _⟩
  have hb : decide ((2000 : Int) < (s.size : Int) + (more.size : Int) + (other.size : Int)) = false := decide_eq_false (by omega)
  have HM : Hid (Mx W) := hm
  have K := above_any s (by omega) W
  clear hm
  go_enter Tryd.func5, Tryd.ntmps5
  go_wp2_with fail
  refine K.mono ?_
  clear K
  rintro e w1 ⟨n, HA, hr, b1⟩
  have HB1 : Hid (Below W.heap.size W w1) := b1
  have KN := known_any w1 (HM.out.below b1 HM.out.pos)
  clear b1
  rcases hr with ⟨rfl, rfl⟩ | ⟨hn, rfl⟩
  · have HF : Hid (∀ i, i < s.size → (bts s).getD i 0 = 255) := fun i hi => HA.out.ff i (by omega) (by rw [bts_len]; exact hi)
    clear HA
    go_wp2
    go_loop [9] (fun i => ∃ k : Nat, k ≤ s.size ∧ i = .int .i64 (k : Int)) (fun i => s.size - (intOf i).toNat)
    case atStart => exact ⟨0, by omega, rfl⟩
    case round =>
      obtain ⟨k, hk, rfl⟩ := hrel
      by_cases hlt : k < s.size
      · have hx := HF.out k hlt
        rw [bts_get s k hlt] at hx
        have hxi : (((s[k]'hlt).toNat : Int) != 255) = false := by rw [hx]; rfl
        go_wp2
        go_round
        case rel => exact ⟨k + 1, by omega, by go_num⟩
        case measure => simp [intOf]; omega
      · go_wp2_with fail
        refine KN.mono ?_
        rintro e w2 ⟨rfl, b2⟩
        have HB2 : Hid (Below W.heap.size W w2) := HB1.out.trans (b2.mono HB1.out.size)
        clear b2 KN
        go_wp2
        go_ret
        exact ⟨rfl, HB2.out⟩
  · obtain ⟨a, ha⟩ : ∃ a, a = ofB (abvL (bts s) n) := ⟨_, rfl⟩
    obtain ⟨h1, h2⟩ := above_facts (more := more) (other := other) HA.out hn ha
    rw [← ha]
    have H2 : Hid _ := h2
    clear h2 HA ha hn
    obtain ⟨bA, hbA⟩ : ∃ b, Op.bytesLess other.toList a.toList = b := ⟨_, rfl⟩
    obtain ⟨bS, hbS⟩ : ∃ b, Op.bytesLess other.toList s.toList = b := ⟨_, rfl⟩
    rw [hbA, hbS] at H2
    by_cases hl : s.size ≤ other.size
    · have hli : decide ((s.size : Int) ≤ (other.size : Int)) = true := decide_eq_true (by omega)
      obtain ⟨bB, hbB⟩ : ∃ b, ((other.extract 0 s.size).toList == s.toList) = b := ⟨_, rfl⟩
      have H3 : Hid (bA = true → bS = false → bB = true) := fun x y => by rw [← hbB]; exact str_eq (H2.out x y).2
      clear H2
      cases bA <;> cases bS <;> cases bB
      all_goals first
        | (exact (Bool.false_ne_true (H3.out rfl rfl)).elim)
        | skip
      all_goals clear H3
      all_goals go_wp2_with fail
      all_goals refine KN.mono ?_
      all_goals rintro e w2 ⟨rfl, b2⟩
      all_goals have HB2 : Hid (Below W.heap.size W w2) := HB1.out.trans (b2.mono HB1.out.size)
      all_goals clear b2 KN
      all_goals go_wp2
      all_goals go_ret
      all_goals exact ⟨rfl, HB2.out⟩
    · have hli : decide ((s.size : Int) ≤ (other.size : Int)) = false := decide_eq_false (by omega)
      have H3 : Hid (bA = true → bS = false → False) := fun x y => hl (H2.out x y).1
      clear H2
      cases bA <;> cases bS
      all_goals first
        | (exact (H3.out rfl rfl).elim)
        | skip
      all_goals clear H3
      all_goals go_wp2_with fail
      all_goals refine KN.mono ?_
      all_goals rintro e w2 ⟨rfl, b2⟩
      all_goals have HB2 : Hid (Below W.heap.size W w2) := HB1.out.trans (b2.mono HB1.out.size)
      all_goals clear b2 KN
      all_goals go_wp2
      all_goals go_ret
      all_goals exact ⟨rfl, HB2.out⟩
end Go.Proofs.YtoggcabenjmnoaaDoor
