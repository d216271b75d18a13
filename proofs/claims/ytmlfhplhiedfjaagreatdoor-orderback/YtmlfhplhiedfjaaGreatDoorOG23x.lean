/-
  order's reader: the number of a row of bytes. · A number's key is read as that number: plain mathematics.
-/
import Derived.Test.YtmlfhplhiedfjaaGreatDoorOG14x
import Derived.Test.YtmlfhplhiedfjaaGreatDoorOKh
import Derived.Test.YtmlfhplhiedfjaaGreatDoorOG22x
namespace Go.Proofs.YtmlfhplhiedfjaaGreatDoor
open Go.RowKit Math
set_option linter.unusedVariables false
set_option linter.unusedSimpArgs false
set_option maxRecDepth 8000 in
set_option maxHeartbeats 1000000 in
theorem trc_any (g c : Nat) (l : List Nat) (W : World) (hcl : Cells W g 0 l) (hfz : ∀ i, i < l.length → W.frozen? ⟨g, i, none⟩ = false) (hoc : Oct l) (hl : l.length ≤ 1000000000) (hc : c ≤ 9223372036854775807) (hlc : l.length ≤ c) :
    Calls Tryz.prog 82 #[.slice (some ⟨g, 0, none⟩) l.length c] W fun e w' => e = .returned (.tuple #[]) ∧ Hid (Cells w' g 0 (turnB l) ∧ W.grownBy w' (some g)) := by
  have HO : Hid (Cells W g 0 (trn l 0 0) ∧ ∀ i, i < l.length → W.frozen? ⟨g, i, none⟩ = false) := by rw [trn_zero]; exact ⟨hcl, hfz⟩
  have HOc : Hid (∀ k, l.getD k 0 < 256) := fun k => oct_get hoc k
  have HE : Hid (trn l 0 l.length = turnB l) := by
    have := trn_end [] l
    show _ = _
    simpa using this
  obtain ⟨n, hn⟩ : ∃ n, n = l.length := ⟨_, rfl⟩
  rw [← hn]
  rw [← hn] at HE
  clear hcl hfz hoc
  go_enter Tryz.func82, Tryz.ntmps82
  go_wp2
  go_loopw [5] (fun i wr => ∃ k : Nat, k ≤ n ∧ i = .int .i64 k ∧ Hid (Cells wr g 0 (trn l 0 k) ∧ ∀ i, i < l.length → wr.frozen? ⟨g, i, none⟩ = false) ∧ Hid (W.grownBy wr (some g))) (fun i _ => n - (intOf i).toNat)
  case atStart => exact ⟨0, by omega, rfl, HO.out, World.grownBy.refl _ _⟩
  case round =>
    obtain ⟨k, hk, rfl, HK, HG⟩ := hrel
    clear HO
    by_cases hlt : k < n
    · have hce := HK.out.1 k (by rw [trn_len]; omega)
      rw [Nat.zero_add] at hce
      have hfz := HK.out.2 k (by omega)
      have hv : (trn l 0 k).getD k 0 = l.getD k 0 := by
        rw [List.getD_eq_getElem?_getD, trn_get l 0 k _ (by omega), if_neg (by omega)]; rfl
      rw [hv] at hce
      have hx := HOc.out k
      have HX := xor_u8 _ hx
      have o4 := cells_set HK.out.1 k (255 - l.getD k 0) (by rw [trn_len]; omega)
      have hts := trn_set l 0 k
      rw [Nat.zero_add] at hts
      rw [hts] at o4
      have HO4 : Hid (Cells (wr.setCell ⟨g, k, none⟩ (.int .u8 ((255 - l.getD k 0 : Nat) : Int))) g 0 (trn l 0 (k + 1)) ∧ ∀ i, i < l.length → (wr.setCell ⟨g, k, none⟩ (.int .u8 ((255 - l.getD k 0 : Nat) : Int))).frozen? ⟨g, i, none⟩ = false) := ⟨o4, fun i hi => by rw [World.frozen?_setCell]; exact HK.out.2 i hi⟩
      have HG4 : Hid (W.grownBy (wr.setCell ⟨g, k, none⟩ (.int .u8 ((255 - l.getD k 0 : Nat) : Int))) (some g)) := by
        have h1 := HG.out
        have h2 := grown_setCell wr ⟨g, k, none⟩ (.int .u8 ((255 - l.getD k 0 : Nat) : Int))
        exact ⟨h2.os.trans h1.os, h2.tape.trans h1.tape, h2.output.trans h1.output, Nat.le_trans h1.size h2.size, fun k hk hne => (h2.block k (Nat.lt_of_lt_of_le hk h1.size) hne).trans (h1.block k hk hne)⟩
      clear o4 hv HK HG hts
      generalize hz : 255 - l.getD k 0 = z at *
      generalize l.getD k 0 = x at *
      go_wp2
      go_roundw
      case rel => exact ⟨k + 1, by omega, by go_num, HO4.out, HG4.out⟩
      case measure => simp [intOf]; omega
    · have hkn : k = n := by omega
      subst hkn
      have HF : Hid (Cells wr g 0 (turnB l)) := by rw [← HE.out]; exact HK.out.1
      go_wp2
      go_end0
      exact ⟨rfl, HF.out, HG.out⟩
/-! ### the number of digits -/
def dgF (D : List Nat) (k : Nat) : Nat := (D.take k).foldl (fun a d => (a * 10 + (d + 255) % 256) % 18446744073709551616) 0
theorem dgF_succ (D : List Nat) (k : Nat) (h : k < D.length) : dgF D (k + 1) = (dgF D k * 10 + (D.getD k 0 + 255) % 256) % 18446744073709551616 := by
  unfold dgF
  rw [take_snoc D k h, List.foldl_append]
  rfl
def tenF : Nat → Nat → Nat
  | 0, a => a
  | c + 1, a => tenF c a * 10 % 18446744073709551616
/-- How many noughts stand behind. -/
def nou (x : Nat) (D : List Nat) : Nat := ((x : Int) - 192 - (D.length : Int)).toNat
def szF (x : Nat) (D : List Nat) : Nat := tenF (nou x D) (dgF D D.length)
def nuF (b : Bool) (sz : Nat) : Int := if b then wrap64 (-(wrap64 (sz : Int))) else wrap64 (sz : Int)
def scF (x : Nat) (D : List Nat) : Int := max ((D.length : Int) - ((x : Int) - 192)) 0
theorem scF_eq (x : Nat) (D : List Nat) : scF x D = max ((D.length : Int) - ((x : Int) - 192)) 0 := by unfold scF; exact Eq.refl _
theorem nuF_true (b : Nat) : nuF true b = wrap64 (-(wrap64 (b : Int))) := by unfold nuF; rw [if_pos rfl]
theorem nuF_false (b : Nat) : nuF false b = wrap64 (b : Int) := by unfold nuF; rw [if_neg (by simp)]
theorem nuF_fit (b : Bool) (sz : Nat) : -9223372036854775808 ≤ nuF b sz ∧ nuF b sz < 9223372036854775808 := by
  unfold nuF
  split <;> unfold wrap64 <;> omega
end Go.Proofs.YtmlfhplhiedfjaaGreatDoor
namespace Go.Proofs.YtmlfhplhiedfjaaGreatDoor
open Go.RowKit Math
set_option linter.unusedVariables false
set_option linter.unusedSimpArgs false
def dvl (D : List Nat) : Nat := D.foldl (fun a x => a * 10 + x) 0
theorem dvl_snoc (D : List Nat) (x : Nat) : dvl (D ++ [x]) = dvl D * 10 + x := by unfold dvl; rw [List.foldl_append]; rfl
theorem dvl_dgs : ∀ (f n : Nat), n < 10 ^ f → dvl (dgs f n) = n
  | 0, n, h => by simp at h; subst h; rfl
  | f + 1, n, h => by
    rw [dgs]
    split
    · next e => subst e; rfl
    · rw [dvl_snoc, dvl_dgs f (n / 10) (by rw [Nat.pow_succ] at h; omega)]
      omega
theorem dvl_zeros (D : List Nat) : ∀ c, dvl (D ++ List.replicate c 0) = dvl D * 10 ^ c
  | 0 => by simp
  | c + 1 => by rw [List.replicate_succ', ← List.append_assoc, dvl_snoc, dvl_zeros D c, Nat.pow_succ, Nat.mul_assoc, Nat.add_zero]
theorem dvl_take (D : List Nat) : ∀ k, dvl (D.take k) ≤ dvl D := fun k => by
  have key : ∀ (E : List Nat) (a b : Nat), a ≤ b → a ≤ E.foldl (fun a x => a * 10 + x) b := by
    intro E
    induction E with
    | nil => intro a b h; exact h
    | cons x E ih => intro a b h; exact ih a (b * 10 + x) (by omega)
  conv => rhs; rw [← List.take_append_drop k D]
  unfold dvl
  rw [List.foldl_append]
  exact key _ _ _ (Nat.le_refl _)
theorem trz_split : ∀ (n : Nat) (l : List Nat), l.length = n → l = trz l ++ List.replicate (l.length - (trz l).length) 0
  | 0, l, h => by
    have : l = [] := List.eq_nil_of_length_eq_zero h
    subst this
    rfl
  | n + 1, l, h => by
    have hne : l ≠ [] := fun e => by subst e; simp at h
    obtain ⟨m, x, rfl⟩ : ∃ m x, l = m ++ [x] := ⟨l.dropLast, l.getLast hne, (List.dropLast_concat_getLast hne).symm⟩
    rw [List.length_append, List.length_singleton] at h
    by_cases hx : x = 0
    · subst hx
      have ih := trz_split n m (by omega)
      have hl := trz_len m
      rw [trz_snoc_z, List.length_append, List.length_singleton, show m.length + 1 - (trz m).length = (m.length - (trz m).length) + 1 by omega, List.replicate_succ', ← List.append_assoc, ← ih]
    · rw [trz_snoc_n m x hx]
      simp
theorem dgF_dvl (D : List Nat) (hD : ∀ x ∈ D, x < 10) (h : dvl D < 18446744073709551616) : ∀ k, k ≤ D.length → dgF (D.map (· + 1)) k = dvl (D.take k)
  | 0, _ => by simp [dgF, dvl]
  | k + 1, hk => by
    have ih := dgF_dvl D hD h k (by omega)
    have hx : D.getD k 0 < 10 := by
      rw [List.getD_eq_getElem?_getD, List.getElem?_eq_getElem (by omega)]
      exact hD _ (List.getElem_mem _)
    have hm : (D.map (· + 1)).getD k 0 = D.getD k 0 + 1 := by
      rw [List.getD_eq_getElem?_getD, List.getD_eq_getElem?_getD, List.getElem?_map, List.getElem?_eq_getElem (show k < D.length by omega)]
      rfl
    have hs : dvl (D.take (k + 1)) = dvl (D.take k) * 10 + D.getD k 0 := by rw [take_snoc D k (by omega), dvl_snoc]
    have hle := dvl_take D (k + 1)
    rw [dgF_succ _ _ (by rw [List.length_map]; omega), ih, hm, hs]
    omega
theorem tenF_pow (a : Nat) : ∀ c, a * 10 ^ c < 18446744073709551616 → tenF c a = a * 10 ^ c
  | 0, _ => by simp [tenF]
  | c + 1, h => by
    rw [Nat.pow_succ, ← Nat.mul_assoc] at h
    rw [tenF, tenF_pow a c (by omega), Nat.pow_succ, ← Nat.mul_assoc, Nat.mod_eq_of_lt h]
/-- The digits that stand in a number's key. -/
def kyD (m : Nat) : List Nat := (trz (dgs 20 m)).map (· + 1)
def kyP (m : Nat) (s : Int) : Nat := (192 + ((dgs 20 m).length : Int) - s).toNat
theorem posB_parts (m : Nat) (s : Int) : posB m s = kyP m s :: (kyD m ++ [0]) := rfl
theorem kyP_in (m : Nat) (s : Int) (hm : m ≠ 0) (hs0 : 0 ≤ s) (hs1 : s ≤ 18) : 175 ≤ kyP m s ∧ kyP m s ≤ 212 := by
  have h1 : 0 < (dgs 20 m).length := dgs_pos 19 m hm
  have h2 := dgs_len 20 m
  unfold kyP
  omega
theorem kyD_in (m : Nat) : ∀ x ∈ kyD m, 1 ≤ x ∧ x ≤ 10 := fun x hx => by
  obtain ⟨y, hy, rfl⟩ := List.mem_map.1 hx
  have := dgs_lt 20 m y (trz_mem hy)
  omega
theorem szF_key (m : Nat) (s : Int) (hm : m < 10000000000000000000) (hm0 : m ≠ 0) (hs0 : 0 ≤ s) (hs1 : s ≤ 18) (hs : s = 0 ∨ m % 10 ≠ 0) : szF (kyP m s) (kyD m) = m ∧ scF (kyP m s) (kyD m) = s := by
  have e1 : dvl (dgs 20 m) = m := dvl_dgs 20 m (by show m < 10 ^ 20; omega)
  have e2 := trz_split _ (dgs 20 m) rfl
  have e3 := trz_len (dgs 20 m)
  have e4 : 0 < (dgs 20 m).length := dgs_pos 19 m hm0
  have e5 := dgs_len 20 m
  have hlt : ∀ x ∈ trz (dgs 20 m), x < 10 := fun x hx => dgs_lt 20 m x (trz_mem hx)
  have e6 : s ≠ 0 → (trz (dgs 20 m)).length = (dgs 20 m).length := fun h => by
    have hx : m % 10 ≠ 0 := by
      rcases hs with e | e
      · exact absurd e h
      · exact e
    rw [show dgs 20 m = dgs 19 (m / 10) ++ [m % 10] by rw [dgs, if_neg hm0], trz_snoc_n _ _ hx]
  obtain ⟨E, hE⟩ : ∃ E, E = trz (dgs 20 m) := ⟨_, rfl⟩
  obtain ⟨N, hN⟩ : ∃ N, N = (dgs 20 m).length := ⟨_, rfl⟩
  have hkD : (kyD m).length = E.length := by unfold kyD; rw [List.length_map, hE]
  rw [← hE, ← hN] at e2 e3 e6
  rw [← hN] at e4 e5
  rw [← hE] at hlt
  have e7 : dvl E * 10 ^ (N - E.length) = m := by rw [← dvl_zeros, ← e2, e1]
  have hkp : kyP m s = (192 + (N : Int) - s).toNat := by unfold kyP; rw [← hN]
  have hEl : dvl E < 18446744073709551616 := by
    have : 1 ≤ 10 ^ (N - E.length) := Nat.one_le_pow _ _ (by decide)
    have := Nat.mul_le_mul_left (dvl E) this
    omega
  have hnou : nou (kyP m s) (kyD m) = N - E.length := by
    unfold nou
    rw [hkD, hkp]
    by_cases h : s = 0
    · omega
    · have := e6 h
      omega
  constructor
  · unfold szF
    rw [hnou, hkD]
    have h1 : dgF (kyD m) E.length = dvl E := by
      unfold kyD
      rw [← hE, dgF_dvl E hlt hEl E.length (Nat.le_refl _), List.take_length]
    rw [h1, tenF_pow _ _ (by rw [e7]; omega), e7]
  · rw [scF_eq, hkD, hkp]
    by_cases h : s = 0
    · omega
    · have := e6 h
      omega
theorem nuF_key (n : Int) (n0 : -9223372036854775808 ≤ n) (n1 : n < 9223372036854775808) : nuF (decide (n < 0)) n.natAbs = n := by
  by_cases h : n < 0
  · rw [decide_eq_true h, nuF_true]
    unfold wrap64
    omega
  · rw [decide_eq_false h, nuF_false]
    unfold wrap64
    omega
/-- What a number that is one has. -/
theorem num_parts {h : Hd} (H : NumOk h) : -9223372036854775808 ≤ h.n ∧ h.n < 9223372036854775808 ∧ 0 ≤ h.s ∧ h.s ≤ 18 ∧ (h.s = 0 ∨ h.n.natAbs % 10 ≠ 0) ∧ h.k = D6.kd h.s.toNat ∧ (h.n = 0 → h.s = 0) := by
  obtain ⟨ok, ho, hk, ht, hn⟩ := H
  have hf := (own_fine ho).1
  refine ⟨ok.n0, ok.n1, ?_⟩
  unfold formed at hf
  rcases hk with e | e
  · simp [e, only] at hf
    have h0 : h.s = 0 := by omega
    refine ⟨by omega, by omega, .inl h0, ?_, fun _ => h0⟩
    rw [e, h0]; rfl
  · simp [e] at hf
    obtain ⟨⟨⟨_, h1⟩, h2⟩, h3⟩ := hf
    refine ⟨by omega, by omega, .inr fun hc => h3 ?_, ?_, fun h0 => absurd (by rw [h0]; rfl) h3⟩
    · have : (h.n.tmod 10).natAbs = 0 := by rw [Int.natAbs_tmod]; exact hc
      omega
    · rw [e, D6.kd, if_neg (by omega)]
/-- Make of a number that is one. -/
theorem mkR_key {h : Hd} (H : NumOk h) : D6.mkR h.n h.s = .ok h.n h.s.toNat := by
  obtain ⟨n0, n1, s0, s1, hr, hk, _⟩ := num_parts H
  have hN : D6.res h.n h.s.toNat = some (h.n, h.s.toNat) := by
    unfold D6.res
    have hd : D6.dn h.n h.s.toNat = (h.n, h.s.toNat) := D6.dn_of (by
      rcases hr with e | e
      · left; omega
      · right; omega)
    rw [hd, if_pos]
    simp only [D6.fits, Bool.and_eq_true, decide_eq_true_eq]
    omega
  unfold D6.mkR
  rw [if_neg (by omega)]
  unfold D6.rs
  rw [hN]
theorem res_fits {z : Int} {s : Nat} {y : Int} {t : Nat} (h : D6.res z s = some (y, t)) : t ≤ 18 ∧ -9223372036854775808 ≤ y ∧ y < 9223372036854775808 := by
  unfold D6.res at h
  split at h
  · next hf =>
    injection h with h
    rw [h] at hf
    simp only [D6.fits, Bool.and_eq_true, decide_eq_true_eq] at hf
    omega
  · cases h
/-- What Make answers. -/
theorem mkR_out (n s : Int) : ((D6.mkR n s).e = 0 ∧ ((D6.mkR n s).k = 3 ∨ (D6.mkR n s).k = 4) ∧ -9223372036854775808 ≤ (D6.mkR n s).n ∧ (D6.mkR n s).n < 9223372036854775808 ∧ 0 ≤ (D6.mkR n s).s ∧ (D6.mkR n s).s ≤ 18) ∨ ((D6.mkR n s).e ≠ 0 ∧ (D6.mkR n s).k = 0 ∧ (D6.mkR n s).n = 0 ∧ (D6.mkR n s).s = 0) := by
  cases hR : D6.mkR n s with
  | ty => right; exact ⟨by decide, rfl, rfl, rfl⟩
  | rg => right; exact ⟨by decide, rfl, rfl, rfl⟩
  | ok y t =>
    left
    have h1 : D6.res n s.toNat = some (y, t) := by
      unfold D6.mkR at hR
      split at hR
      · cases hR
      · unfold D6.rs at hR
        split at hR
        · next y' t' e => injection hR with h1 h2; subst h1; subst h2; exact e
        · cases hR
    obtain ⟨h2, h3, h4⟩ := res_fits h1
    refine ⟨rfl, ?_, h3, h4, ?_, ?_⟩
    · show D6.kd t = 3 ∨ D6.kd t = 4
      unfold D6.kd
      split
      · exact .inl rfl
      · exact .inr rfl
    · show (0 : Int) ≤ (t : Int); omega
    · show (t : Int) ≤ 18; omega
/-- A number's key, but for nought: its first byte, its digits, its end. -/
theorem numB_shape {h : Hd} (H : NumOk h) (hn : h.n ≠ 0) : ∃ x D, numB h.n h.s = x :: (D ++ [if h.n < 0 then 255 else 0]) ∧ x ≠ 128 ∧ (x < 128 ↔ h.n < 0) ∧ (∀ d ∈ D, d ≠ (if h.n < 0 then 255 else 0)) ∧
    (if h.n < 0 then turnB (numB h.n h.s) else numB h.n h.s) = kyP h.n.natAbs h.s :: (kyD h.n.natAbs ++ [0]) := by
  obtain ⟨n0, n1, s0, s1, hr, hk, _⟩ := num_parts H
  obtain ⟨p1, p2⟩ := kyP_in h.n.natAbs h.s (by omega) s0 s1
  have hd := kyD_in h.n.natAbs
  by_cases hneg : h.n < 0
  · simp only [if_pos hneg]
    have e : numB h.n h.s = turnB (kyP h.n.natAbs h.s :: (kyD h.n.natAbs ++ [0])) := by unfold numB; rw [if_neg hn, if_pos hneg, posB_parts]
    refine ⟨255 - kyP h.n.natAbs h.s, turnB (kyD h.n.natAbs), by rw [e]; simp [turnB], by omega, by omega, fun d hx => ?_, ?_⟩
    · obtain ⟨y, hy, rfl⟩ := List.mem_map.1 hx
      have := hd y hy
      omega
    · rw [e]
      have t2 : ∀ l : List Nat, (∀ x ∈ l, x < 256) → turnB (turnB l) = l := fun l hl => by
        unfold turnB
        rw [List.map_map]
        conv => rhs; rw [← List.map_id l]
        apply List.map_congr_left
        intro y hy
        have := hl y hy
        simp
        omega
      refine t2 _ fun y hy => ?_
      rcases List.mem_cons.1 hy with rfl | hy
      · omega
      · rcases List.mem_append.1 hy with hy | hy
        · have := hd y hy; omega
        · simp at hy; omega
  · simp only [if_neg hneg]
    have e : numB h.n h.s = kyP h.n.natAbs h.s :: (kyD h.n.natAbs ++ [0]) := by unfold numB; rw [if_neg hn, if_neg hneg, posB_parts]
    exact ⟨kyP h.n.natAbs h.s, kyD h.n.natAbs, e, by omega, by omega, fun d hx => by have := hd d hx; omega, e⟩
/-- Make of what is read of a number's key. -/
theorem mkR_read {h : Hd} (H : NumOk h) (hn : h.n ≠ 0) : D6.mkR (nuF (decide (h.n < 0)) (szF (kyP h.n.natAbs h.s) (kyD h.n.natAbs))) (scF (kyP h.n.natAbs h.s) (kyD h.n.natAbs)) = .ok h.n h.s.toNat := by
  obtain ⟨n0, n1, s0, s1, hr, hk, _⟩ := num_parts H
  obtain ⟨e1, e2⟩ := szF_key h.n.natAbs h.s (by omega) (by omega) s0 s1 hr
  rw [e1, e2, nuF_key h.n n0 n1]
  exact mkR_key H
theorem ok_hd {h : Hd} (H : NumOk h) : (⟨(D6.Rs.ok h.n h.s.toNat).k, (D6.Rs.ok h.n h.s.toNat).n, (D6.Rs.ok h.n h.s.toNat).s, ⟨#[]⟩, []⟩ : Hd) = h := by
  obtain ⟨n0, n1, s0, s1, hr, hk, _⟩ := num_parts H
  refine hd_eq ?_ rfl ?_ H.2.2.2.1.symm H.2.2.2.2.symm
  · exact hk.symm
  · show ((h.s.toNat : Nat) : Int) = h.s; omega
end Go.Proofs.YtmlfhplhiedfjaaGreatDoor
