/-
  order's numbers: bytes.TrimRight of one byte; turnRound; appendAbove; appendNumber.
-/
import Derived.Test.YtoggcabenjmnoaaDoorKb
namespace Go.Proofs.YtoggcabenjmnoaaDoor
open Go.RowKit Math
set_option linter.unusedVariables false
set_option linter.unusedSimpArgs false
set_option maxRecDepth 8000 in
set_option maxHeartbeats 1000000 in
theorem trimB_any {W : World} (b off cap c : Nat) (l : List Nat) (hc : Cells W b off l) (hl : l.length ≤ cap) (hcap : cap ≤ 1000000) (ho : Oct l) (hcc : c < 256) (h0 : 0 < l.length) (h00 : l.getD 0 0 ≠ c) :
    Calls Tryd.prog 45 #[.slice (some ⟨b, off, none⟩) l.length cap, .int .u8 (c : Int)] W fun e w' => ∃ k, e = .returned (.slice (some ⟨b, off, none⟩) k cap) ∧ w' = W ∧ Hid (k ≤ l.length ∧ 0 < k ∧ (∀ j, k ≤ j → j < l.length → l.getD j 0 = c) ∧ l.getD (k - 1) 0 ≠ c) := by
  have HC : Hid (Cells W b off l) := hc
  have HO : Hid (Oct l) := ho
  clear hc ho
  go_enter Tryd.func45, Tryd.ntmps45
  go_wp2
  go_loop [0] (fun s => ∃ k : Nat, s = .slice (some ⟨b, off, none⟩) k cap ∧ k ≤ l.length ∧ 0 < k ∧ Hid (∀ j, k ≤ j → j < l.length → l.getD j 0 = c)) (fun s => match s with | .slice _ k _ => k | _ => 0)
  case atStart => exact ⟨l.length, rfl, Nat.le_refl _, h0, fun j h1 h2 => absurd h2 (by omega)⟩
  case round =>
    obtain ⟨k, rfl, hk, hk0, HK⟩ := hrel
    obtain ⟨k, rfl⟩ : ∃ j, k = j + 1 := ⟨k - 1, by omega⟩
    have hcell : W.cell? ⟨b, off + k, none⟩ = some (.int .u8 ((l.getD k 0 : Nat) : Int)) := HC.out k (by omega)
    have hx := oct_get HO.out k
    by_cases he : l.getD k 0 = c
    · have hk1 : 0 < k := by
        rcases Nat.eq_zero_or_pos k with rfl | h
        · exact absurd he h00
        · exact h
      rw [he] at hcell
      go_wp2
      go_round
      case rel =>
        refine ⟨k, by simp, by omega, hk1, fun j h1 h2 => ?_⟩
        rcases Nat.lt_or_ge j (k + 1) with h | h
        · rw [show j = k by omega]; exact he
        · exact HK.out j h h2
      case measure => simp
    · have hne : (((l.getD k 0 : Nat) : Int) == (c : Int)) = false := beq_eq_false_iff_ne.2 (by omega)
      have HN : Hid (l.getD k 0 ≠ c) := he
      generalize hg : l.getD k 0 = x at hcell hx hne
      go_wp2
      go_ret
      exact ⟨k + 1, rfl, rfl, by omega, by omega, HK.out, by simpa using HN.out⟩
set_option maxRecDepth 8000 in
theorem trim_any {W : World} (b off cap : Nat) (l : List Nat) (hc : Cells W b off l) (hl : l.length ≤ cap) (hcap : cap ≤ 1000000) (ho : Oct l) (h0 : 0 < l.length) (h00 : l.getD 0 0 ≠ 1) :
    Calls Tryd.prog 41 #[.slice (some ⟨b, off, none⟩) l.length cap, .string ⟨#[1]⟩] W fun e w' => ∃ k, e = .returned (.slice (some ⟨b, off, none⟩) k cap) ∧ w' = W ∧ Hid (k ≤ l.length ∧ 0 < k ∧ (∀ j, k ≤ j → j < l.length → l.getD j 0 = 1) ∧ l.getD (k - 1) 0 ≠ 1) := by
  have K := trimB_any (W := W) b off cap 1 l hc hl hcap ho (by omega) h0 h00
  have hne : ((l.length : Int) == 0) = false := beq_eq_false_iff_ne.2 (by omega)
  clear hc ho h00
  go_enter Tryd.func41, Tryd.ntmps41
  go_wp2_with fail
  refine K.mono ?_
  rintro e w1 ⟨k, rfl, hw, hk⟩
  have hw' := hw.symm
  subst hw'
  clear K hw
  have HK : Hid _ := hk
  clear hk
  go_wp2
  go_ret
  exact ⟨k, rfl, rfl, HK.out⟩
/-! ### turned round -/
def trn (l : List Nat) (fr k : Nat) : List Nat := (List.range l.length).map fun i => if fr ≤ i ∧ i < fr + k then 255 - l.getD i 0 else l.getD i 0
theorem trn_len (l : List Nat) (fr k : Nat) : (trn l fr k).length = l.length := by simp [trn]
theorem trn_get (l : List Nat) (fr k i : Nat) (h : i < l.length) : (trn l fr k)[i]? = some (if fr ≤ i ∧ i < fr + k then 255 - l.getD i 0 else l.getD i 0) := by simp [trn, h]
theorem trn_zero (l : List Nat) (fr : Nat) : trn l fr 0 = l := by
  apply List.ext_getElem?
  intro i
  by_cases h : i < l.length
  · rw [trn_get l fr 0 i h, if_neg (by omega), List.getD_eq_getElem?_getD, List.getElem?_eq_getElem h]; rfl
  · rw [List.getElem?_eq_none (by rw [trn_len]; omega), List.getElem?_eq_none (by omega)]
theorem trn_set (l : List Nat) (fr k : Nat) : (trn l fr k).set (fr + k) (255 - l.getD (fr + k) 0) = trn l fr (k + 1) := by
  apply List.ext_getElem?
  intro i
  by_cases h : i < l.length
  · rw [trn_get l fr (k + 1) i h, List.getElem?_set, trn_len]
    by_cases e : fr + k = i
    · subst e
      rw [if_pos rfl, if_pos h, if_pos (by omega)]
    · rw [if_neg e, trn_get l fr k i h]
      by_cases hh : fr ≤ i ∧ i < fr + k
      · rw [if_pos hh, if_pos (by omega)]
      · rw [if_neg hh, if_neg (by omega)]
  · rw [List.getElem?_eq_none (by rw [List.length_set, trn_len]; omega), List.getElem?_eq_none (by rw [trn_len]; omega)]
theorem trn_end (l m : List Nat) : trn (l ++ m) l.length m.length = l ++ turnB m := by
  apply List.ext_getElem?
  intro i
  by_cases h : i < (l ++ m).length
  · rw [trn_get _ _ _ i h]
    rw [List.length_append] at h
    by_cases hi : i < l.length
    · rw [if_neg (by omega), List.getElem?_append_left hi, List.getD_eq_getElem?_getD, List.getElem?_append_left hi, List.getElem?_eq_getElem hi]; rfl
    · rw [if_pos (by omega), List.getElem?_append_right (by omega), List.getD_eq_getElem?_getD, List.getElem?_append_right (by omega), List.getElem?_eq_getElem (by omega)]
      simp [turnB, List.getElem?_eq_getElem (show i - l.length < m.length by omega)]
  · rw [List.getElem?_eq_none (by rw [trn_len]; omega), List.getElem?_eq_none (by simp [turnB] at h ⊢; omega)]
theorem xor_u8 (x : Nat) (h : x < 256) : bits .xor .u8 (if IntKind.u8.signed = true then -1 else IntKind.u8.max) (x : Int) = ((255 - x : Nat) : Int) := by
  have : ∀ y : Fin 256, bits .xor .u8 (if IntKind.u8.signed = true then -1 else IntKind.u8.max) ((y.val : Nat) : Int) = ((255 - y.val : Nat) : Int) := by decide +kernel
  exact this ⟨x, h⟩
set_option maxRecDepth 8000 in
set_option maxHeartbeats 1000000 in
theorem turn_any (g fr c B : Nat) (l : List Nat) (W : World) (ho : Own W B (.slice (some ⟨g, 0, none⟩) l.length c) l) (hoc : ∀ k, l.getD (fr + k) 0 < 256) (hfr : fr ≤ l.length) (hl : l.length ≤ 1000000000) (hc : c ≤ 9223372036854775807) (hlc : l.length ≤ c) (cap : Nat) :
    Calls Tryd.prog 34 #[.slice (some ⟨g, fr, none⟩) (l.length - fr) cap] W fun e w' => e = .returned (.tuple #[]) ∧ Hid (Own w' B (.slice (some ⟨g, 0, none⟩) l.length c) (trn l fr (l.length - fr)) ∧ W.grownBy w' (some g)) := by
  have HO : Hid (Own W B (.slice (some ⟨g, 0, none⟩) l.length c) (trn l fr 0)) := by rw [trn_zero]; exact ho
  have HOc : Hid (∀ k, l.getD (fr + k) 0 < 256) := hoc
  obtain ⟨n, hn⟩ : ∃ n, n = l.length - fr := ⟨_, rfl⟩
  rw [← hn]
  clear ho hoc
  go_enter Tryd.func34, Tryd.ntmps34
  go_wp2
  go_loopw [5] (fun i wr => ∃ k : Nat, k ≤ n ∧ i = .int .i64 k ∧ Hid (Own wr B (.slice (some ⟨g, 0, none⟩) l.length c) (trn l fr k)) ∧ Hid (W.grownBy wr (some g))) (fun i _ => n - (intOf i).toNat)
  case atStart => exact ⟨0, by omega, rfl, HO.out, World.grownBy.refl _ _⟩
  case round =>
    obtain ⟨k, hk, rfl, HK, HG⟩ := hrel
    clear HO
    by_cases hlt : k < n
    · have o3 := HK.out
      have hce := World.ownsRow.cellAt (by unfold Own at o3; rw [trn_len] at o3; exact o3) (fr + k) (by omega)
      rw [vals_get _ (fr + k) (by rw [trn_len]; omega)] at hce
      have hfz : wr.frozen? ⟨g, fr + k, none⟩ = false := World.ownsRow.frozenAt (by unfold Own at o3; rw [trn_len] at o3; exact o3) (fr + k)
      have hv : (trn l fr k).getD (fr + k) 0 = l.getD (fr + k) 0 := by
        rw [List.getD_eq_getElem?_getD, trn_get l fr k _ (by omega), if_neg (by omega)]; rfl
      rw [hv] at hce
      have hx := HOc.out k
      have HX := xor_u8 _ hx
      have o4 := own_put (trn_len l fr k) o3 (fr + k) (255 - l.getD (fr + k) 0)
      rw [trn_set l fr k] at o4
      have HO4 : Hid _ := o4
      have HG4 : Hid (W.grownBy (wr.setCell ⟨g, fr + k, none⟩ (.int .u8 ((255 - l.getD (fr + k) 0 : Nat) : Int))) (some g)) := by
        have h1 := HG.out
        have h2 := grown_setCell wr ⟨g, fr + k, none⟩ (.int .u8 ((255 - l.getD (fr + k) 0 : Nat) : Int))
        exact ⟨h2.os.trans h1.os, h2.tape.trans h1.tape, h2.output.trans h1.output, Nat.le_trans h1.size h2.size, fun k hk hne => (h2.block k (Nat.lt_of_lt_of_le hk h1.size) hne).trans (h1.block k hk hne)⟩
      clear o3 o4 hv HK HG
      generalize hz : 255 - l.getD (fr + k) 0 = z at *
      generalize l.getD (fr + k) 0 = x at *
      go_wp2
      go_roundw
      case rel => exact ⟨k + 1, by omega, by go_num, HO4.out, HG4.out⟩
      case measure => simp [intOf]; omega
    · have hkn : k = n := by omega
      subst hkn
      go_wp2
      go_end0
      exact ⟨rfl, HK.out, HG.out⟩
end Go.Proofs.YtoggcabenjmnoaaDoor
