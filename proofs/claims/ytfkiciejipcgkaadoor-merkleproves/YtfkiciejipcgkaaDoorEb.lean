/-
  Consistencies over lists (no program).
-/
import Derived.Test.YtfkiciejipcgkaaDoorEa
namespace Go.Proofs.YtfkiciejipcgkaaDoor
namespace Mk
/-- the first so many, m = (2 u + 1) 2^c, lie in the left part. -/
theorem odd_left {c u T : Nat} (h : (2 * u + 1) * 2 ^ c ≤ 2 ^ T) : c ≤ T ∧ 2 * u * 2 ^ c < 2 ^ T := by
  have h0 := pow_pos2 c
  have h1 : 2 * u * 2 ^ c + 2 ^ c ≤ 2 ^ T := by rw [Nat.add_mul, Nat.one_mul] at h; exact h
  refine ⟨?_, by omega⟩
  refine Nat.le_of_not_lt fun hc => ?_
  have := Nat.pow_lt_pow_right (a := 2) (by decide) hc
  omega
/-- .. or they go over into the right part. -/
theorem odd_right {c u T : Nat} (h1 : 2 ^ T < (2 * u + 1) * 2 ^ c) (h2 : (2 * u + 1) * 2 ^ c < 2 ^ (T + 1)) :
    c < T ∧ ∃ v, 2 * u = 2 ^ (T - c) + 2 * v ∧ (2 * v + 1) * 2 ^ c = (2 * u + 1) * 2 ^ c - 2 ^ T ∧ 0 < u := by
  have h0 := pow_pos2 c
  have hc : c < T := by
    refine Nat.lt_of_not_le fun hc => ?_
    have e := pow_split hc
    have e2 : (2 * u + 1) * 2 ^ c = 2 ^ T * ((2 * u + 1) * 2 ^ (c - T)) := by rw [e]; simp only [Nat.mul_comm, Nat.mul_left_comm]
    rw [e2] at h1 h2
    rw [Nat.pow_succ] at h2
    have a := Nat.lt_of_mul_lt_mul_left h2
    have b : 1 < (2 * u + 1) * 2 ^ (c - T) := by
      refine Nat.lt_of_not_le fun hb => ?_
      have := Nat.mul_le_mul_left (2 ^ T) hb
      omega
    omega
  refine ⟨hc, ?_⟩
  have e := pow_split (Nat.le_of_lt hc)
  have e2 := pow_even (k := T - c) (by omega)
  have h3 : 2 ^ (T - c) < 2 * u + 1 := by
    rw [e, Nat.mul_comm] at h1
    exact Nat.lt_of_mul_lt_mul_right h1
  refine ⟨u - 2 ^ (T - c - 1), by omega, ?_, by have := pow_pos2 (T - c - 1); omega⟩
  have e4 : 2 * u + 1 = 2 ^ (T - c) + (2 * (u - 2 ^ (T - c - 1)) + 1) := by omega
  have e5 : (2 * u + 1) * 2 ^ c = 2 ^ T + (2 * (u - 2 ^ (T - c - 1)) + 1) * 2 ^ c := by
    rw [e, Nat.mul_comm (2 ^ c) (2 ^ (T - c)), ← Nat.add_mul, ← e4]
  omega
section
variable {H : Type} (nd : H → H → H) (em : H)
/-- both roots that a consistency makes. -/
def fb : H → H → List (Nat × Nat) → List H → H × H
  | x, y, z :: os, p :: ps => fb (if z.2 % 2 = 0 then nd p x else x) (if z.2 % 2 = 0 then nd p y else nd y p) os ps
  | x, y, _, _ => (x, y)
theorem fb_app : ∀ (x y : H) (os : List (Nat × Nat)) (ps : List H) (z : Nat × Nat) (q : H), os.length = ps.length →
    fb nd x y (os ++ [z]) (ps ++ [q]) = (if z.2 % 2 = 0 then nd q (fb nd x y os ps).1 else (fb nd x y os ps).1, if z.2 % 2 = 0 then nd q (fb nd x y os ps).2 else nd (fb nd x y os ps).2 q)
  | x, y, [], [], z, q, _ => rfl
  | x, y, a :: os, p :: ps, z, q, e => by
    rw [List.cons_append, List.cons_append, fb, fb_app _ _ os ps z q (by simpa using e), fb]
theorem fb_sh (T : Nat) : ∀ (x y : H) (os : List (Nat × Nat)) (ps : List H), (∀ z ∈ os, z.1 < T) → fb nd x y (os.map (sh T)) ps = fb nd x y os ps
  | x, y, [], ps, _ => by cases ps <;> rfl
  | x, y, a :: os, [], _ => rfl
  | x, y, a :: os, p :: ps, hx => by
    rw [List.map_cons, fb, fb, fb_sh T _ _ os ps (fun x m => hx x (by simp [m]))]
    have e2 := pow_even (k := T - a.1) (by have := hx a (by simp); omega)
    have : (sh T a).2 % 2 = a.2 % 2 := by show (2 ^ (T - a.1) + a.2) % 2 = _; rw [e2]; omega
    rw [this]
theorem sg_last (l : List H) (c : Nat) (h : l.length = 2 ^ c) : sg l (c, 0) = l := by rw [sg_zero, List.take_of_length_le (by omega)]
/-- a consistency that is proved makes both roots. -/
theorem fb_sub : ∀ (T : Nat) (l : List H) (c u : Nat), l.length ≤ 2 ^ T → ((2 * u + 1) * 2 ^ c < l.length ∨ u = 0 ∧ 2 ^ c = l.length) →
    fb nd (R nd em (sg l (c, 2 * u))) (R nd em (sg l (c, 2 * u))) (wy c (2 * u) l.length) (rts nd em l (wy c (2 * u) l.length)) = (R nd em (l.take ((2 * u + 1) * 2 ^ c)), R nd em l)
  | T, l, c, u, h, .inr ⟨hu, hc⟩ => by
    subst hu
    rw [show 2 * 0 = 0 from rfl, wy_one (by omega) (by have := pow_pos2 c; omega), sg_last l c hc.symm]
    show (R nd em l, R nd em l) = _
    rw [List.take_of_length_le (by omega)]
  | 0, l, c, u, h, .inl hm => by
    have := pow_pos2 c
    have : 1 * 1 ≤ (2 * u + 1) * 2 ^ c := Nat.mul_le_mul (by omega) (by omega)
    rw [Nat.pow_zero] at h
    omega
  | T + 1, l, c, u, h, .inl hm => by
    by_cases hs : l.length ≤ 2 ^ T
    · exact fb_sub T l c u hs (.inl hm)
    · have h1 : 2 ^ T < l.length := by omega
      rw [R_split nd em h1 h]
      by_cases hi2 : (2 * u + 1) * 2 ^ c ≤ 2 ^ T
      · obtain ⟨hc, hp⟩ := odd_left hi2
        have hl : (l.take (2 ^ T)).length = 2 ^ T := by rw [List.length_take]; omega
        rw [rts_left nd em h1 h hc hp, wy_left h1 h hc hp, fb_app _ _ _ _ _ _ _ (by unfold rts; rw [List.length_map]), if_neg (by show ¬ (1 % 2 = 0); decide), if_neg (by show ¬ (1 % 2 = 0); decide)]
        have hd : (2 * u + 1) * 2 ^ c < 2 ^ T ∨ u = 0 ∧ 2 ^ c = 2 ^ T := by
          rcases Nat.lt_or_eq_of_le hi2 with h3 | h3
          · exact .inl h3
          · have e := pow_split hc
            rw [e, Nat.mul_comm] at h3
            have h4 := Nat.eq_of_mul_eq_mul_left (pow_pos2 c) h3
            by_cases hT : T - c = 0
            · rw [hT] at h4
              exact .inr ⟨by simp at h4; omega, by rw [show T = c by omega]⟩
            · have := pow_even (k := T - c) (by omega); omega
        have ih := fb_sub T (l.take (2 ^ T)) c u (by omega) (by rw [hl]; exact hd)
        rw [hl, sg_left l T (c, 2 * u) hi2] at ih
        rw [ih, List.take_take, Nat.min_eq_left hi2]
      · obtain ⟨hc, v, hv, hw, hu⟩ := odd_right (c := c) (u := u) (T := T) (by omega) (by omega)
        have hq : 2 * v * 2 ^ c < l.length - 2 ^ T := by
          have := pow_pos2 c
          rw [Nat.add_mul, Nat.one_mul] at hw
          omega
        have hl : (l.drop (2 ^ T)).length = l.length - 2 ^ T := List.length_drop
        have hle : l.length - 2 ^ T ≤ 2 ^ T := by rw [Nat.pow_succ] at h; omega
        have es : sg l (c, 2 * u) = sg (l.drop (2 ^ T)) (c, 2 * v) := by
          have := sg_shift l T (c, 2 * v) (Nat.le_of_lt hc)
          unfold sh at this; rw [← hv] at this; exact this
        rw [es, hv, rts_right nd em h1 h (Nat.le_of_lt hc) hq, wy_right h1 h (Nat.le_of_lt hc) hq, fb_app _ _ _ _ _ _ _ (by unfold rts; rw [List.length_map, List.length_map]), if_pos (by show 0 % 2 = 0; rfl), if_pos (by show 0 % 2 = 0; rfl)]
        have ih := fb_sub T (l.drop (2 ^ T)) c v (by rw [hl]; exact hle) (.inl (by rw [hw, hl]; omega))
        rw [hl] at ih
        rw [fb_sh nd T _ _ _ _ (sh_lt hle hc hq), ih, hw, ← hv]
        have e1 : (l.take ((2 * u + 1) * 2 ^ c)).length = (2 * u + 1) * 2 ^ c := by rw [List.length_take]; omega
        rw [R_split nd em (l := l.take ((2 * u + 1) * 2 ^ c)) (T := T) (by omega) (by omega), List.take_take, Nat.min_eq_left (by omega), List.drop_take]
end
end Mk
end Go.Proofs.YtfkiciejipcgkaaDoor
