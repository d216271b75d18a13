/-
  Parse of a number's Text is the number. · Parse of Text: behind the minus.
-/
import Derived.Test.YtpfiejmhnkcjbaaGreatDoorED6Tq
namespace Go.Proofs.YtpfiejmhnkcjbaaGreatDoor.D6
open Go.RowKit
set_option linter.unusedVariables false
theorem dot_uni : ∀ (a a' c c' : List UInt8), ¬ (46 : UInt8) ∈ a → ¬ (46 : UInt8) ∈ a' → a ++ 46 :: c = a' ++ 46 :: c' → a = a' ∧ c = c'
  | [], [], c, c', _, _, h => ⟨rfl, by injection h⟩
  | [], x :: a', c, c', _, h2, h => by
    injection h with h1
    exact absurd (by rw [h1]; exact List.mem_cons_self ..) h2
  | x :: a, [], c, c', h1, _, h => by
    injection h with h2
    exact absurd (by rw [h2]; exact List.mem_cons_self ..) h1
  | x :: a, y :: a', c, c', h1, h2, h => by
    injection h with e1 e2
    obtain ⟨r1, r2⟩ := dot_uni a a' c c' (fun m => h1 (List.mem_cons_of_mem _ m)) (fun m => h2 (List.mem_cons_of_mem _ m)) e2
    exact ⟨by rw [e1, r1], r2⟩
theorem nought_zero {l : List UInt8} (h1 : ∀ x ∈ l, ([48, 46] : List UInt8).contains x = true) (h2 : l.all dig10 = true) : numL l = 0 := by
  have e : l = List.replicate l.length 48 := by
    apply List.eq_replicate_of_mem
    intro x hx
    have a := h1 x hx
    have b := List.all_eq_true.1 h2 x hx
    have c : x = 48 ∨ x = 46 := by simpa using a
    rcases c with c | c
    · exact c
    · subst c; cases b
  rw [e]
  exact numL_zeros _
theorem all_digL {l : List UInt8} (h0 : l ≠ []) (h : l.all dig10 = true) : allDig l = true := by
  cases l with
  | nil => exact absurd rfl h0
  | cons a r => exact h
theorem parse_body (n : Int) (s : Nat) (hN : Nu n s) (D : ByteArray) (hD : D.data.toList = Lib.decDigits n.natAbs) (R A B : ByteArray) (d : Bool) (hR : R.data.toList = (if s = 0 then D else dotN D s).data.toList) (hc : Cuts R A B d) :
    parseV (decide (n < 0)) d R A B = some (.ok n s) := by
  have hu : n.natAbs ≤ 9223372036854775808 := by have := hN.n0; have := hN.n1; omega
  have hrs : rs (sgn (decide (n < 0)) n.natAbs) s = .ok n s := by
    rw [sgn_abs]
    unfold rs
    rw [hN.res]
  have key : ∃ a c : List UInt8, A.data.toList = a ∧ B.data.toList = c ∧ a.all dig10 = true ∧ c.all dig10 = true ∧ c.length = s ∧ numL a * 10 ^ s + numL c = n.natAbs ∧ a ≠ [] ∧ (¬ a.head? = some 48 ∨ a.length = 1) ∧ a.length ≤ 19 ∧ (d = true → 0 < s) ∧ (∀ x, x ∈ a ∨ x ∈ c → x ∈ R.data.toList) := by
    by_cases s0 : s = 0
    · rw [if_pos s0] at hR
      obtain ⟨d1, d2, d3, d4⟩ := dec_num _ n.natAbs (Nat.le_refl _)
      have d5 := dec_19 _ hu
      have d6 : n.natAbs = 0 → (Lib.decDigits n.natAbs).length = 1 := fun e => by rw [e, Lib.decDigits_one (by omega)]; rfl
      rw [← hD, ← hR] at d1 d2 d3 d4 d5 d6
      cases hc with
      | none h ha hb =>
        subst ha hb
        refine ⟨_, _, rfl, rfl, d2, rfl, s0.symm, ?_, d3, ?_, d5, (fun h => by cases h), ?_⟩
        · rw [d1, s0]
          show n.natAbs * 1 + 0 = n.natAbs
          omega
        · by_cases h0 : n.natAbs = 0
          · exact .inr (d6 h0)
          · exact .inl (d4 (by omega))
        · intro x hx
          rcases hx with hx | hx
          · exact hx
          · cases hx
      | «at» h ha =>
        exfalso
        apply dig_nodot d2
        rw [h]
        simp
    · rw [if_neg s0] at hR
      obtain ⟨a, c, e1, e2, e3, e4, e5, e6, e7, e8⟩ := dot_parts n.natAbs s (by omega) hu D hD
      rw [e1] at hR
      cases hc with
      | none h ha hb =>
        exfalso
        apply h
        rw [hR]
        simp
      | «at» h ha =>
        obtain ⟨r1, r2⟩ := dot_uni _ _ _ _ ha (dig_nodot e2) (h.symm.trans hR)
        refine ⟨a, c, r1, r2, e2, e3, e4, e5, e6, e7, e8, fun _ => by omega, ?_⟩
        intro x hx
        rw [hR]
        rcases hx with hx | hx
        · exact List.mem_append_left _ hx
        · exact List.mem_append_right _ (List.mem_cons_of_mem _ hx)
  obtain ⟨a, c, ea, ec, a1, c1, c2, v, a2, a3, a4, hd, hin⟩ := key
  have sA : A.size = a.length := by rw [size_list, ea]
  have sB : B.size = s := by rw [size_list, ec, c2]
  unfold parseV
  have w : wholeB A = true := by
    unfold wholeB
    rw [ea, all_digL a2 a1, sA]
    rcases a3 with a3 | a3
    · simp [a3]
    · simp [a3]
  have p : d = true → partB B = true := by
    intro h
    unfold partB
    rw [ec, sB, all_digL (by intro e; rw [e] at c2; have := hd h; simp at c2; omega) c1]
    have := hN.t1
    simp [this]
  have q : decide (n < 0) = true → noughtB R.data.toList = false := by
    intro h
    cases hz : noughtB R.data.toList with
    | false => rfl
    | true =>
      exfalso
      have hz' := List.all_eq_true.1 hz
      have z1 := nought_zero (fun x hx => hz' x (hin x (.inl hx))) a1
      have z2 := nought_zero (fun x hx => hz' x (hin x (.inr hx))) c1
      rw [z1, z2] at v
      have : n < 0 := by simpa using h
      omega
  rw [if_pos ⟨w, p, q⟩, if_neg (by omega), ea, ec, sB, v, hrs]
end Go.Proofs.YtpfiejmhnkcjbaaGreatDoor.D6
namespace Go.Proofs.YtpfiejmhnkcjbaaGreatDoor.D6
open Go.RowKit
set_option linter.unusedVariables false
theorem body_head (n : Int) (s : Nat) (hN : Nu n s) (D : ByteArray) (hD : D.data.toList = Lib.decDigits n.natAbs) : ∃ x r, (if s = 0 then D else dotN D s).data.toList = x :: r ∧ dig10 x = true := by
  have hu : n.natAbs ≤ 9223372036854775808 := by have := hN.n0; have := hN.n1; omega
  by_cases s0 : s = 0
  · rw [if_pos s0, hD]
    obtain ⟨d1, d2, d3, d4⟩ := dec_num _ n.natAbs (Nat.le_refl _)
    cases h : Lib.decDigits n.natAbs with
    | nil => exact absurd h d3
    | cons x r =>
      rw [h] at d2
      exact ⟨x, r, rfl, List.all_eq_true.1 d2 x (List.mem_cons_self ..)⟩
  · rw [if_neg s0]
    obtain ⟨a, c, e1, e2, e3, e4, e5, e6, e7, e8⟩ := dot_parts n.natAbs s (by omega) hu D hD
    cases a with
    | nil => exact absurd rfl e6
    | cons x r => exact ⟨x, r ++ 46 :: c, e1, List.all_eq_true.1 e2 x (List.mem_cons_self ..)⟩
theorem parse_txt (n : Int) (s : Nat) (hN : Nu n s) (D : ByteArray) (hD : D.data.toList = Lib.decDigits n.natAbs) (R A B : ByteArray) (b d : Bool) (hm : Minus (txt n s D) R b) (hc : Cuts R A B d) :
    parseV b d R A B = some (.ok n s) := by
  obtain ⟨x, r, hx, hd⟩ := body_head n s hN D hD
  have key : b = decide (n < 0) ∧ R.data.toList = (if s = 0 then D else dotN D s).data.toList := by
    unfold txt at hm
    by_cases hn : n < 0
    · rw [if_pos hn] at hm
      have e : ((⟨#[45]⟩ : ByteArray) ++ (if s = 0 then D else dotN D s)).data.toList = 45 :: (if s = 0 then D else dotN D s).data.toList := by
        rw [app_list]
        rfl
      generalize (⟨#[45]⟩ : ByteArray) ++ (if s = 0 then D else dotN D s) = Y at *
      cases hm with
      | yes h =>
        rw [e] at h
        injection h with _ h
        exact ⟨by simp [hn], h.symm⟩
      | no h hr => exact absurd (by rw [e]; rfl) h
    · rw [if_neg hn] at hm
      generalize (if s = 0 then D else dotN D s) = Y at *
      cases hm with
      | yes h =>
        rw [hx] at h
        injection h with h _
        subst h
        cases hd
      | no h hr => exact ⟨by simp [hn], by rw [hr]⟩
  obtain ⟨rfl, hR⟩ := key
  exact parse_body n s hN D hD R A B d hR hc
end Go.Proofs.YtpfiejmhnkcjbaaGreatDoor.D6
