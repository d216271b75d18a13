import Derived.Test.YtpfiejmhnkcjbaaGreatDoorHG7x
namespace Go.Proofs.YtpfiejmhnkcjbaaGreatDoor
set_option maxHeartbeats 2000000
set_option maxRecDepth 8000
open Go.RowKit Lx
set_option linter.unusedVariables false
set_option linter.unusedSimpArgs false
def IsVL (v : Value) (k : Int) : Prop := ∃ n s t na nl nc ka kl kc, v = .agg #[.int .i64 k, .int .i64 n, .int .i64 s, .string t, .slice na nl nc, .slice ka kl kc]
def NuC (nu : List Nat -> Bool) : Prop := ∀ (x : ByteArray) (W : World), x.size <= 10000 -> Calls Tryz.prog 42 #[.string x] W fun e w' => ∃ v k E, e = .returned (.tuple #[v, .int .i64 E]) /\ IsVL v k /\ (E = 0 ↔ nu (bts x) = true) /\ Hid (Below W.heap.size W w')
theorem tw_at {f : Nat -> Bool} : ∀ (r : List Nat) (k : Nat), k <= (r.takeWhile f).length -> (k < (r.takeWhile f).length ↔ ∃ c, r[k]? = some c /\ f c = true)
 | [], k, h => by simp
 | c :: r, k, h => by
   rw [List.takeWhile_cons] at h ⊢
   split at h
   . rename_i hc
     rw [if_pos hc]
     cases k with
     | zero => simp [hc]
     | succ k =>
       simp only [List.length_cons] at h ⊢
       rw [List.getElem?_cons_succ, <- tw_at r k (by omega)]
       omega
   . rename_i hc
     rw [if_neg hc]
     simp only [List.length_nil] at h
     obtain rfl : k = 0 := by omega
     simp [hc]
theorem dw_drop {f : Nat -> Bool} (r : List Nat) : r.dropWhile f = r.drop (r.takeWhile f).length := by
 have h := List.takeWhile_append_dropWhile (p := f) (l := r)
 conv => rhs; rw [<- h]
 rw [List.takeWhile_append_dropWhile]
 conv => rhs; arg 2; rw [<- h]
 rw [List.drop_left]
theorem nuE_at (r : List Nat) : (r[(r.takeWhile isDg).length]? = some 46 /\ (∃ d, r[(r.takeWhile isDg).length + 1]? = some d /\ isDg d = true) /\ nuE r = ((r.takeWhile isDg).length + 1 + ((r.drop ((r.takeWhile isDg).length + 1)).takeWhile isDg).length, true)) ∨
 (¬ (r[(r.takeWhile isDg).length]? = some 46 /\ ∃ d, r[(r.takeWhile isDg).length + 1]? = some d /\ isDg d = true) /\ nuE r = ((r.takeWhile isDg).length, false)) := by
 have h := dw_drop (f := isDg) r
 unfold nuE
 obtain ⟨A, hA⟩ : ∃ A, (r.takeWhile isDg).length = A := ⟨_, rfl⟩
 rw [hA] at h ⊢
 have e0 : r[A]? = (r.dropWhile isDg)[0]? := by rw [h, List.getElem?_drop, Nat.add_zero]
 have e1 : r[A + 1]? = (r.dropWhile isDg)[1]? := by rw [h, List.getElem?_drop]
 rw [e0, e1]
 have e2 : r.drop (A + 1) = (r.dropWhile isDg).drop 1 := by rw [h, List.drop_drop]
 rw [e2]
 cases hd : r.dropWhile isDg with
 | nil => right; simp
 | cons p q =>
   cases q with
   | nil => right; simp
   | cons d q =>
     by_cases hc : p = 46 /\ isDg d = true
     . left
       refine ⟨by simp [hc.1], ⟨d, rfl, hc.2⟩, ?_⟩
       simp only [if_pos hc]
       rfl
     . right
       refine ⟨fun hh => hc ?_, by simp only [if_neg hc]⟩
       obtain ⟨h1, d', h2, h3⟩ := hh
       simp only [List.getElem?_cons_zero, Option.some.injEq] at h1
       simp only [List.getElem?_cons_succ, List.getElem?_cons_zero, Option.some.injEq] at h2
       subst h2
       exact ⟨h1, h3⟩
theorem at_drop (s : ByteArray) (p k : Nat) : ((bts s).drop p)[k]? = (bts s)[p + k]? := List.getElem?_drop ..
theorem getD_some {L : List Nat} {i c : Nat} (h : L[i]? = some c) : L.getD i 0 = c := by rw [List.getD_eq_getElem?_getD, h]; rfl
theorem lt_some {L : List Nat} {i : Nat} (h : i < L.length) : L[i]? = some (L.getD i 0) := by rw [List.getD_eq_getElem?_getD, List.getElem?_eq_getElem h]; rfl
theorem number_any (nu : List Nat -> Bool) (hnu : NuC nu) (s : ByteArray) (p : Nat) (hp : p < s.size) (hs : s.size <= 10000) (n : Nat) (pt : Bool) (hn : nuE ((bts s).drop p) = (n, pt)) (w : World) :
 Calls Tryz.prog 23 #[.string s, .int .i64 (p : Int)] w fun e w' => e = .returned (if folw ((bts s).drop (p + n)) = true then .tuple #[.int .i64 0, .bool false, .bool false] else .tuple #[.int .i64 ((p + n : Nat) : Int), .bool pt, .bool (nu (((bts s).drop p).take n))]) /\ Hid (Below w.heap.size w w') := by
 obtain ⟨R, hR⟩ : ∃ R, R = (if folw ((bts s).drop (p + n)) = true then Value.tuple #[.int .i64 0, .bool false, .bool false] else .tuple #[.int .i64 ((p + n : Nat) : Int), .bool pt, .bool (nu (((bts s).drop p).take n))]) := ⟨_, rfl⟩
 rw [<- hR]
 have HR : Hid (R = (if folw ((bts s).drop (p + n)) = true then Value.tuple #[.int .i64 0, .bool false, .bool false] else .tuple #[.int .i64 ((p + n : Nat) : Int), .bool pt, .bool (nu (((bts s).drop p).take n))])) := hR
 clear hR
 have HNU : Hid (NuC nu) := hnu
 have HL : Hid ((bts s).length = s.size) := bts_len s
 obtain ⟨A, hA⟩ : ∃ A, (((bts s).drop p).takeWhile isDg).length = A := ⟨_, rfl⟩
 have hAle : p + A <= s.size := by
  have := tw_le isDg ((bts s).drop p)
  rw [List.length_drop, bts_len, hA] at this
  omega
 have hcase := nuE_at ((bts s).drop p)
 rw [hA, hn] at hcase
 have HTA : Hid (∀ k, k <= A -> (k < A ↔ p + k < s.size /\ isDg ((bts s).getD (p + k) 0) = true)) := fun k hk => by
  have := tw_at (f := isDg) ((bts s).drop p) k (by rw [hA]; exact hk)
  rw [hA] at this
  rw [this, at_drop]
  constructor
  . rintro ⟨c, h1, h2⟩
    have := (List.getElem?_eq_some_iff.1 h1).1
    rw [bts_len] at this
    exact ⟨this, by rw [getD_some h1]; exact h2⟩
  . rintro ⟨h1, h2⟩
    exact ⟨_, lt_some (by rw [bts_len]; exact h1), h2⟩
 have HCASE : Hid ((∃ B, n = A + 1 + B /\ pt = true /\ p + A + 1 < s.size /\ (bts s).getD (p + A) 0 = 46 /\ isDg ((bts s).getD (p + A + 1) 0) = true /\ p + A + 1 + B <= s.size /\ ∀ k, k <= B -> (k < B ↔ p + A + 1 + k < s.size /\ isDg ((bts s).getD (p + A + 1 + k) 0) = true)) ∨ (n = A /\ pt = false /\ ¬ (p + A + 1 < s.size /\ (bts s).getD (p + A) 0 = 46 /\ isDg ((bts s).getD (p + A + 1) 0) = true))) := by
  rcases hcase with ⟨h1, ⟨d, h2, h3⟩, h4⟩ | ⟨h1, h4⟩
  . left
    injection h4 with h4 h5
    rw [at_drop] at h1 h2
    have hl := (List.getElem?_eq_some_iff.1 h2).1
    rw [bts_len] at hl
    rw [List.drop_drop] at h4
    have hB := tw_le isDg ((bts s).drop (p + (A + 1)))
    rw [List.length_drop, bts_len] at hB
    refine ⟨_, h4, h5, by omega, getD_some h1, by rw [Nat.add_assoc, getD_some h2]; exact h3, by omega, fun k hk => ?_⟩
    have := tw_at (f := isDg) ((bts s).drop (p + (A + 1))) k hk
    rw [this, at_drop]
    constructor
    . rintro ⟨c, h1, h2⟩
      have := (List.getElem?_eq_some_iff.1 h1).1
      rw [bts_len] at this
      exact ⟨by omega, by rw [Nat.add_assoc p A 1, getD_some h1]; exact h2⟩
    . rintro ⟨h1, h2⟩
      rw [Nat.add_assoc p A 1] at h2
      exact ⟨_, lt_some (by rw [bts_len]; omega), h2⟩
  . right
    injection h4 with h4 h5
    refine ⟨h4, h5, fun h => h1 ?_⟩
    rw [at_drop, at_drop]
    obtain ⟨q1, q2, q3⟩ := h
    refine ⟨?_, _, lt_some (by rw [bts_len]; omega), ?_⟩
    . rw [lt_some (by rw [bts_len]; omega), q2]
    . rw [Nat.add_assoc] at q3; exact q3
 clear hnu hA hcase hn
 go_enter Tryz.func23, Tryz.ntmps23
 go_wp2_with fail
 go_loopw [7] (fun iv wr => ∃ k : Nat, k <= A /\ iv = .int .i64 ((p + k : Nat) : Int) /\ wr = w) (fun iv _ => s.size - (intOf iv).toNat)
 case atStart => exact ⟨0, Nat.zero_le _, by simp, rfl⟩
 case round =>
  obtain ⟨k, hk, rfl, rfl⟩ := hrel
  have hT := HTA.out k hk
  obtain ⟨i, hi⟩ : ∃ i, p + k = i := ⟨_, rfl⟩
  rw [hi] at hT ⊢
  by_cases hlt : k < A
  . obtain ⟨h1, h2⟩ := hT.1 hlt
    have hlt' : (i : Int) < (s.size : Int) := by omega
    have hix := idxL s i h1 wr
    have K := digit_any ((bts s).getD i 0) wr
    rw [h2] at K
    generalize (bts s).getD i 0 = c at *
    clear hT h2
    go_wp2_with fail
    refine K.mono ?_
    clear K
    rintro e w' ⟨rfl, rfl⟩
    clear hix
    go_wp2
    go_roundw
    case rel => exact ⟨k + 1, by omega, by rw [<- hi]; go_num, by first | rfl | trivial⟩
    case measure => simp [intOf]; omega
  . obtain rfl : k = A := by omega
    have hno : ¬ (i < s.size /\ isDg ((bts s).getD i 0) = true) := fun h => hlt (hT.2 h)
    clear hT hlt
    rcases HCASE.out with ⟨B, hnB, hpt, hB1, hB2, hB3, hB4, hB5⟩ | ⟨hnA, hpt, hnB⟩
    . rw [hi] at hB1 hB2 hB3 hB4 hB5
      subst hpt
      have HTB : Hid (∀ k, k <= B -> (k < B ↔ i + 1 + k < s.size /\ isDg ((bts s).getD (i + 1 + k) 0) = true)) := hB5
      have hnn : p + n = i + 1 + B := by omega
      have x1' : (i : Int) < (s.size : Int) := by omega
      have x3' : (i : Int) + 1 < (s.size : Int) := by omega
      have e1 : IntKind.i64.wrap ((i : Int) + 1) = (i : Int) + 1 := by rw [IntKind.wrap_i64]; omega
      have hix := idxL s i (by omega) wr
      rw [hB2] at hix
      have hix3 := idxL s (i + 1) hB1 wr
      rw [show ((i + 1 : Nat) : Int) = (i : Int) + 1 by omega] at hix3
      have D3 := digit_any ((bts s).getD (i + 1) 0) wr
      rw [hB3] at D3
      have D := digit_any 46 wr
      rw [show isDg 46 = false from rfl] at D
      generalize (bts s).getD (i + 1) 0 = c3 at *
      clear hno hB2 hB3 hB5 HTA HCASE hk
      go_wp2_with fail
      refine D.mono ?_
      clear D
      rintro e w' ⟨rfl, hw⟩
      subst w'
      go_wp2_with fail
      refine D3.mono ?_
      clear D3
      rintro e w' ⟨rfl, hw⟩
      subst w'
      clear hix hix3
      go_wp2_with fail
      go_loopw [7] (fun iv w5 => ∃ m : Nat, m <= B /\ iv = .int .i64 ((i + 1 + m : Nat) : Int) /\ w5 = wr) (fun iv _ => s.size - (intOf iv).toNat)
      case atStart => exact ⟨0, Nat.zero_le _, by simp, rfl⟩
      case round =>
       obtain ⟨m, hm, rfl, rfl⟩ := hrel
       have hT := HTB.out m hm
       clear e1 x1' x3'
       obtain ⟨j, hj⟩ : ∃ j, i + 1 + m = j := ⟨_, rfl⟩
       rw [hj] at hT ⊢
       by_cases hlt : m < B
       . obtain ⟨h1, h2⟩ := hT.1 hlt
         have hlt' : (j : Int) < (s.size : Int) := by omega
         have hix := idxL s j h1 wr
         have K := digit_any ((bts s).getD j 0) wr
         rw [h2] at K
         generalize (bts s).getD j 0 = c at *
         clear hT h2
         go_wp2_with fail
         refine K.mono ?_
         clear K
         rintro e w' ⟨rfl, hw⟩
         subst w'
         clear hix
         go_wp2
         go_roundw
         case rel => exact ⟨m + 1, by omega, by rw [<- hj]; go_num, by first | rfl | trivial⟩
         case measure => simp [intOf]; omega
       . obtain rfl : m = B := by omega
         have hno : ¬ (j < s.size /\ isDg ((bts s).getD j 0) = true) := fun h => hlt (hT.2 h)
         have hi2 : p + n = j := by omega
         have hpj : p <= j := by omega
         have hjs : j <= s.size := by omega
         clear hT hlt HTB hnn hj hm hB4 hB1 hAle hi hnB
         by_cases x1 : j < s.size
         . have x1' : (j : Int) < (s.size : Int) := by omega
           have hix := idxL s j x1 wr
           have hfl : folw ((bts s).drop j) = (isLt ((bts s).getD j 0) || (bts s).getD j 0 == 46) := by rw [bts_dropL s j x1]; rfl
           have K := letter_any ((bts s).getD j 0) wr
           have D := digit_any ((bts s).getD j 0) wr
           have hd : isDg ((bts s).getD j 0) = false := by cases hq : isDg ((bts s).getD j 0) with | false => rfl | true => exact absurd ⟨x1, hq⟩ hno
           rw [hd] at D
           clear hd hno
           generalize (bts s).getD j 0 = c2 at *
           cases hl : isLt c2 with
           | true =>
             have HFW : Hid (folw ((bts s).drop j) = true) := by rw [hfl, hl]; rfl
             rw [hl] at K
             have h46' : ¬ (c2 : Int) = 46 := fun h => by
              obtain rfl : c2 = 46 := by omega
              exact absurd hl (by decide)
             clear hfl hl
             go_wp2_with fail
             refine D.mono ?_
             clear D
             rintro e w' ⟨rfl, hw⟩
             subst w'
             go_wp2_with fail
             refine K.mono ?_
             clear K
             rintro e w' ⟨rfl, hw⟩
             subst w'
             have HI2 : Hid (p + n = j) := hi2
             clear hi2
             go_wp2
             go_ret3
             refine ⟨congrArg Ending.returned ?_, Below.refl _ _⟩
             rw [HR.out, HI2.out, HFW.out]
             rfl
           | false =>
             rw [hl] at K
             by_cases h46 : c2 = 46
             . have HFW : Hid (folw ((bts s).drop j) = true) := by rw [hfl, hl, h46]; rfl
               subst h46
               clear hfl hl
               go_wp2_with fail
               refine D.mono ?_
               clear D
               rintro e w' ⟨rfl, hw⟩
               subst w'
               go_wp2_with fail
               refine K.mono ?_
               clear K
               rintro e w' ⟨rfl, hw⟩
               subst w'
               have HI2 : Hid (p + n = j) := hi2
               clear hi2
               go_wp2
               go_ret3
               refine ⟨congrArg Ending.returned ?_, Below.refl _ _⟩
               rw [HR.out, HI2.out, HFW.out]
               rfl
             . have HFW : Hid (folw ((bts s).drop j) = false) := by rw [hfl, hl, Bool.false_or]; exact beq_eq_false_iff_ne.2 h46
               have h46' : ¬ (c2 : Int) = 46 := by omega
               clear hfl hl h46
               go_wp2_with fail
               refine D.mono ?_
               clear D
               rintro e w' ⟨rfl, hw⟩
               subst w'
               go_wp2_with fail
               refine K.mono ?_
               clear K
               rintro e w' ⟨rfl, hw⟩
               subst w'
               go_wp2_with fail
               have hbx : bts (s.extract p j) = ((bts s).drop p).take n := by
                have := bts_midL s p n (by omega)
                rw [hi2] at this
                exact this
               have KP := HNU.out (s.extract p j) wr (by rw [ByteArray.size_extract]; omega)
               rw [hbx] at KP
               refine KP.mono ?_
               clear KP
               rintro e w2 ⟨v, kk, E, rfl, ⟨n1, n2, t1, na, nl, nc, ka, kl, kc, rfl⟩, hE, H⟩
               have hEE : decide (E = 0) = nu (((bts s).drop p).take n) := by
                cases hq : nu (((bts s).drop p).take n) with
                | true => simpa using hE.2 hq
                | false =>
                  have : ¬ E = 0 := fun q => by rw [hE.1 q] at hq; cases hq
                  simpa using this
               have HEE : Hid (decide (E = 0) = nu (((bts s).drop p).take n)) := hEE
               have HB2 : Hid (Below wr.heap.size wr w2) := H
               have HI2 : Hid (p + n = j) := hi2
               clear hE hEE H hi2 hbx
               go_wp2
               go_ret3
               refine ⟨congrArg Ending.returned ?_, HB2.out.alloc HB2.out.size _⟩
               rw [HR.out, HI2.out, HFW.out, <- HEE.out]
               rfl
         . have x1' : ¬ (j : Int) < (s.size : Int) := by omega
           have HFW : Hid (folw ((bts s).drop j) = false) := by rw [List.drop_of_length_le (by rw [bts_len]; omega)]; rfl
           go_wp2_with fail
           have hbx : bts (s.extract p j) = ((bts s).drop p).take n := by
            have := bts_midL s p n (by omega)
            rw [hi2] at this
            exact this
           have KP := HNU.out (s.extract p j) wr (by rw [ByteArray.size_extract]; omega)
           rw [hbx] at KP
           refine KP.mono ?_
           clear KP
           rintro e w2 ⟨v, kk, E, rfl, ⟨n1, n2, t1, na, nl, nc, ka, kl, kc, rfl⟩, hE, H⟩
           have hEE : decide (E = 0) = nu (((bts s).drop p).take n) := by
            cases hq : nu (((bts s).drop p).take n) with
            | true => simpa using hE.2 hq
            | false =>
              have : ¬ E = 0 := fun q => by rw [hE.1 q] at hq; cases hq
              simpa using this
           have HEE : Hid (decide (E = 0) = nu (((bts s).drop p).take n)) := hEE
           have HB2 : Hid (Below wr.heap.size wr w2) := H
           have HI2 : Hid (p + n = j) := hi2
           clear hE hEE H hi2 hbx
           go_wp2
           go_ret3
           refine ⟨congrArg Ending.returned ?_, HB2.out.alloc HB2.out.size _⟩
           rw [HR.out, HI2.out, HFW.out, <- HEE.out]
           rfl
    . rw [hi] at hnB
      have hi2 : p + n = i := by omega
      subst hpt
      have HIS : Hid (∀ j, j < s.size -> True) := fun _ _ => trivial
      have e1 : IntKind.i64.wrap ((i : Int) + 1) = (i : Int) + 1 := by rw [IntKind.wrap_i64]; omega
      clear hnA HTA HCASE HL hk
      by_cases x1 : i < s.size
      . by_cases x3 : i + 1 < s.size
        . have x1' : (i : Int) < (s.size : Int) := by omega
          have x3' : (i : Int) + 1 < (s.size : Int) := by omega
          have hix := idxL s i x1 wr
          have hfl : folw ((bts s).drop i) = (isLt ((bts s).getD i 0) || (bts s).getD i 0 == 46) := by rw [bts_dropL s i x1]; rfl
          have K := letter_any ((bts s).getD i 0) wr
          have D := digit_any ((bts s).getD i 0) wr
          have hd : isDg ((bts s).getD i 0) = false := by cases hq : isDg ((bts s).getD i 0) with | false => rfl | true => exact absurd ⟨x1, hq⟩ hno
          rw [hd] at D
          clear hd hno
          have hix3 := idxL s (i + 1) x3 wr
          rw [show ((i + 1 : Nat) : Int) = (i : Int) + 1 by omega] at hix3
          have D3 := digit_any ((bts s).getD (i + 1) 0) wr
          have hnB' : (bts s).getD i 0 = 46 -> isDg ((bts s).getD (i + 1) 0) = false := fun h => by
           cases hq : isDg ((bts s).getD (i + 1) 0) with
           | false => rfl
           | true => exact absurd ⟨x3, h, hq⟩ hnB
          clear hnB
          generalize (bts s).getD (i + 1) 0 = c3 at *
          generalize (bts s).getD i 0 = c2 at *
          cases hl : isLt c2 with
          | true =>
            have HFW : Hid (folw ((bts s).drop i) = true) := by rw [hfl, hl]; rfl
            rw [hl] at K
            have h46' : ¬ (c2 : Int) = 46 := fun h => by
             obtain rfl : c2 = 46 := by omega
             exact absurd hl (by decide)
            clear hfl hl
            go_wp2_with fail
            refine D.mono ?_
            clear D
            rintro e w' ⟨rfl, hw⟩
            subst w'
            go_wp2_with fail
            refine K.mono ?_
            clear K
            rintro e w' ⟨rfl, hw⟩
            subst w'
            have HI2 : Hid (p + n = i) := hi2
            clear hi2
            go_wp2
            go_ret3
            refine ⟨congrArg Ending.returned ?_, Below.refl _ _⟩
            rw [HR.out, HI2.out, HFW.out]
            rfl
          | false =>
            rw [hl] at K
            by_cases h46 : c2 = 46
            . have HFW : Hid (folw ((bts s).drop i) = true) := by rw [hfl, hl, h46]; rfl
              subst h46
              clear hfl hl
              rw [hnB' rfl] at D3
              clear hnB'
              go_wp2_with fail
              refine D.mono ?_
              clear D
              rintro e w' ⟨rfl, hw⟩
              subst w'
              go_wp2_with fail
              refine D3.mono ?_
              clear D3
              rintro e w' ⟨rfl, hw⟩
              subst w'
              go_wp2_with fail
              refine K.mono ?_
              clear K
              rintro e w' ⟨rfl, hw⟩
              subst w'
              have HI2 : Hid (p + n = i) := hi2
              clear hi2
              go_wp2
              go_ret3
              refine ⟨congrArg Ending.returned ?_, Below.refl _ _⟩
              rw [HR.out, HI2.out, HFW.out]
              rfl
            . have HFW : Hid (folw ((bts s).drop i) = false) := by rw [hfl, hl, Bool.false_or]; exact beq_eq_false_iff_ne.2 h46
              have h46' : ¬ (c2 : Int) = 46 := by omega
              clear hfl hl h46
              go_wp2_with fail
              refine D.mono ?_
              clear D
              rintro e w' ⟨rfl, hw⟩
              subst w'
              go_wp2_with fail
              refine K.mono ?_
              clear K
              rintro e w' ⟨rfl, hw⟩
              subst w'
              go_wp2_with fail
              have hbx : bts (s.extract p i) = ((bts s).drop p).take n := by
               have := bts_midL s p n (by omega)
               rw [hi2] at this
               exact this
              have KP := HNU.out (s.extract p i) wr (by rw [ByteArray.size_extract]; omega)
              rw [hbx] at KP
              refine KP.mono ?_
              clear KP
              rintro e w2 ⟨v, kk, E, rfl, ⟨n1, n2, t1, na, nl, nc, ka, kl, kc, rfl⟩, hE, H⟩
              have hEE : decide (E = 0) = nu (((bts s).drop p).take n) := by
               cases hq : nu (((bts s).drop p).take n) with
               | true => simpa using hE.2 hq
               | false =>
                 have : ¬ E = 0 := fun q => by rw [hE.1 q] at hq; cases hq
                 simpa using this
              have HEE : Hid (decide (E = 0) = nu (((bts s).drop p).take n)) := hEE
              have HB2 : Hid (Below wr.heap.size wr w2) := H
              have HI2 : Hid (p + n = i) := hi2
              clear hE hEE H hi2 hbx
              go_wp2
              go_ret3
              refine ⟨congrArg Ending.returned ?_, HB2.out.alloc HB2.out.size _⟩
              rw [HR.out, HI2.out, HFW.out, <- HEE.out]
              rfl
        . have x1' : (i : Int) < (s.size : Int) := by omega
          have x3' : ¬ (i : Int) + 1 < (s.size : Int) := by omega
          clear hnB x3
          have hix := idxL s i x1 wr
          have hfl : folw ((bts s).drop i) = (isLt ((bts s).getD i 0) || (bts s).getD i 0 == 46) := by rw [bts_dropL s i x1]; rfl
          have K := letter_any ((bts s).getD i 0) wr
          have D := digit_any ((bts s).getD i 0) wr
          have hd : isDg ((bts s).getD i 0) = false := by cases hq : isDg ((bts s).getD i 0) with | false => rfl | true => exact absurd ⟨x1, hq⟩ hno
          rw [hd] at D
          clear hd hno
          generalize (bts s).getD i 0 = c2 at *
          cases hl : isLt c2 with
          | true =>
            have HFW : Hid (folw ((bts s).drop i) = true) := by rw [hfl, hl]; rfl
            rw [hl] at K
            have h46' : ¬ (c2 : Int) = 46 := fun h => by
             obtain rfl : c2 = 46 := by omega
             exact absurd hl (by decide)
            clear hfl hl
            go_wp2_with fail
            refine D.mono ?_
            clear D
            rintro e w' ⟨rfl, hw⟩
            subst w'
            go_wp2_with fail
            refine K.mono ?_
            clear K
            rintro e w' ⟨rfl, hw⟩
            subst w'
            have HI2 : Hid (p + n = i) := hi2
            clear hi2
            go_wp2
            go_ret3
            refine ⟨congrArg Ending.returned ?_, Below.refl _ _⟩
            rw [HR.out, HI2.out, HFW.out]
            rfl
          | false =>
            rw [hl] at K
            by_cases h46 : c2 = 46
            . have HFW : Hid (folw ((bts s).drop i) = true) := by rw [hfl, hl, h46]; rfl
              subst h46
              clear hfl hl
              go_wp2_with fail
              refine D.mono ?_
              clear D
              rintro e w' ⟨rfl, hw⟩
              subst w'
              go_wp2_with fail
              refine K.mono ?_
              clear K
              rintro e w' ⟨rfl, hw⟩
              subst w'
              have HI2 : Hid (p + n = i) := hi2
              clear hi2
              go_wp2
              go_ret3
              refine ⟨congrArg Ending.returned ?_, Below.refl _ _⟩
              rw [HR.out, HI2.out, HFW.out]
              rfl
            . have HFW : Hid (folw ((bts s).drop i) = false) := by rw [hfl, hl, Bool.false_or]; exact beq_eq_false_iff_ne.2 h46
              have h46' : ¬ (c2 : Int) = 46 := by omega
              clear hfl hl h46
              go_wp2_with fail
              refine D.mono ?_
              clear D
              rintro e w' ⟨rfl, hw⟩
              subst w'
              go_wp2_with fail
              refine K.mono ?_
              clear K
              rintro e w' ⟨rfl, hw⟩
              subst w'
              go_wp2_with fail
              have hbx : bts (s.extract p i) = ((bts s).drop p).take n := by
               have := bts_midL s p n (by omega)
               rw [hi2] at this
               exact this
              have KP := HNU.out (s.extract p i) wr (by rw [ByteArray.size_extract]; omega)
              rw [hbx] at KP
              refine KP.mono ?_
              clear KP
              rintro e w2 ⟨v, kk, E, rfl, ⟨n1, n2, t1, na, nl, nc, ka, kl, kc, rfl⟩, hE, H⟩
              have hEE : decide (E = 0) = nu (((bts s).drop p).take n) := by
               cases hq : nu (((bts s).drop p).take n) with
               | true => simpa using hE.2 hq
               | false =>
                 have : ¬ E = 0 := fun q => by rw [hE.1 q] at hq; cases hq
                 simpa using this
              have HEE : Hid (decide (E = 0) = nu (((bts s).drop p).take n)) := hEE
              have HB2 : Hid (Below wr.heap.size wr w2) := H
              have HI2 : Hid (p + n = i) := hi2
              clear hE hEE H hi2 hbx
              go_wp2
              go_ret3
              refine ⟨congrArg Ending.returned ?_, HB2.out.alloc HB2.out.size _⟩
              rw [HR.out, HI2.out, HFW.out, <- HEE.out]
              rfl
      . have x1' : ¬ (i : Int) < (s.size : Int) := by omega
        have x3' : ¬ (i : Int) + 1 < (s.size : Int) := by omega
        clear hnB
        have HFW : Hid (folw ((bts s).drop i) = false) := by rw [List.drop_of_length_le (by rw [bts_len]; omega)]; rfl
        go_wp2_with fail
        have hbx : bts (s.extract p i) = ((bts s).drop p).take n := by
         have := bts_midL s p n (by omega)
         rw [hi2] at this
         exact this
        have KP := HNU.out (s.extract p i) wr (by rw [ByteArray.size_extract]; omega)
        rw [hbx] at KP
        refine KP.mono ?_
        clear KP
        rintro e w2 ⟨v, kk, E, rfl, ⟨n1, n2, t1, na, nl, nc, ka, kl, kc, rfl⟩, hE, H⟩
        have hEE : decide (E = 0) = nu (((bts s).drop p).take n) := by
         cases hq : nu (((bts s).drop p).take n) with
         | true => simpa using hE.2 hq
         | false =>
           have : ¬ E = 0 := fun q => by rw [hE.1 q] at hq; cases hq
           simpa using this
        have HEE : Hid (decide (E = 0) = nu (((bts s).drop p).take n)) := hEE
        have HB2 : Hid (Below wr.heap.size wr w2) := H
        have HI2 : Hid (p + n = i) := hi2
        clear hE hEE H hi2 hbx
        go_wp2
        go_ret3
        refine ⟨congrArg Ending.returned ?_, HB2.out.alloc HB2.out.size _⟩
        rw [HR.out, HI2.out, HFW.out, <- HEE.out]
        rfl
end Go.Proofs.YtpfiejmhnkcjbaaGreatDoor
