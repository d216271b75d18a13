/-
  decimal's looks at a text: isWhole, isPart, isNought; wordOf.
-/
import Derived.Test.YtpfiejmhnkcjbaaGreatDoorEG35x
namespace Go.Proofs.YtpfiejmhnkcjbaaGreatDoor.D6
open Go.RowKit
set_option linter.unusedVariables false
set_option maxRecDepth 8000 in
theorem isPart_any (s : ByteArray) (hs : s.size ≤ 1000000) (w : World) : Calls Tryz.prog 71 #[.string s] w fun e w' => e = .returned (.bool (allDig s.data.toList && decide (s.size ≤ 18))) ∧ Grow w w' := by
  have K := Lib.hid (fun W => isDigits_any s hs W)
  generalize allDig s.data.toList = R at *
  cases R
  · go_enter Tryz.func71, Tryz.ntmps71
    go_wp2_with fail
    refine (K.out _).mono ?_
    rintro e w2 ⟨rfl, g⟩
    have G : Hid (Grow w w2) := g
    clear g
    go_wp2
    go_ret
    exact ⟨rfl, G.out⟩
  · by_cases h : s.size ≤ 18
    all_goals
      have e : decide (s.size ≤ 18) = decide ((s.size : Int) ≤ 18) := by simp; omega
      have HE := Lib.hid e
      clear e
      go_enter Tryz.func71, Tryz.ntmps71
      go_wp2_with fail
      refine (K.out _).mono ?_
      rintro e w2 ⟨rfl, g⟩
      have G : Hid (Grow w w2) := g
      clear g
      go_wp2
      go_ret
      exact ⟨by rw [HE.out]; rfl, G.out⟩
/-- A whole part in its form: digits, no nought ahead of others. -/
def wholeB (s : ByteArray) : Bool := allDig s.data.toList && (decide (¬ s.data.toList.head? = some 48) || decide (s.size = 1))
theorem dig_pos {s : ByteArray} (h : allDig s.data.toList = true) : 0 < s.size := by
  rw [size_list]
  cases hl : s.data.toList with
  | nil => rw [hl] at h; cases h
  | cons a r => simp
theorem byte_at (s : ByteArray) (i : Nat) (h : i < s.size) (h' : i < s.data.toList.length) : s[i] = s.data.toList[i] := by
  rw [Array.getElem_toList]
  rfl
theorem whole_eq (s : ByteArray) (h0 : 0 < s.size) (hd : allDig s.data.toList = true) : wholeB s = (decide (¬ ((s[0]'h0).toNat : Int) = 48) || decide (s.size = 1)) := by
  unfold wholeB
  rw [hd, Bool.true_and]
  congr 1
  apply decide_eq_decide.2
  have hl : 0 < s.data.toList.length := by rw [← size_list]; exact h0
  rw [byte_at s 0 h0 hl, List.head?_eq_getElem?, List.getElem?_eq_getElem hl]
  generalize s.data.toList[0] = a
  constructor
  · intro h e
    apply h
    congr 1
    apply UInt8.toNat_inj.1
    show a.toNat = 48
    omega
  · intro h e
    injection e with e
    apply h
    rw [e]
    rfl
set_option maxRecDepth 8000 in
theorem isWhole_any (s : ByteArray) (hs : s.size ≤ 1000000) (w : World) : Calls Tryz.prog 70 #[.string s] w fun e w' => e = .returned (.bool (wholeB s)) ∧ Grow w w' := by
  have K := Lib.hid (fun W => isDigits_any s hs W)
  cases hd : allDig s.data.toList with
  | false =>
    have e : wholeB s = false := by unfold wholeB; rw [hd]; rfl
    rw [hd] at K
    rw [e]
    clear hd e
    go_enter Tryz.func70, Tryz.ntmps70
    go_wp2_with fail
    refine (K.out _).mono ?_
    rintro e w2 ⟨rfl, g⟩
    have G : Hid (Grow w w2) := g
    clear g
    go_wp2
    go_ret
    exact ⟨rfl, G.out⟩
  | true =>
    have h0 := dig_pos hd
    have HE := Lib.hid (whole_eq s h0 hd)
    rw [hd] at K
    clear hd
    go_enter Tryz.func70, Tryz.ntmps70
    go_wp2_with fail
    refine (K.out _).mono ?_
    rintro e w2 ⟨rfl, g⟩
    have G : Hid (Grow w w2) := g
    clear g
    go_wp2
    · rename_i h
      go_ret
      refine ⟨?_, G.out⟩
      rw [HE.out]
      show Ending.returned (.bool ((s.size : Int) == 1)) = _
      congr 2
      simp only [h, not_true_eq_false, decide_false, Bool.false_or]
      by_cases e : s.size = 1
      · simp [e]
      · have : ¬ (s.size : Int) = 1 := by omega
        simp [e, this]
    · rename_i h
      go_ret
      refine ⟨?_, G.out⟩
      rw [HE.out]
      simp only [h, not_false_eq_true, decide_true, Bool.true_or]
      rfl
/-- Noughts and dots alone. -/
def noughtB (l : List UInt8) : Bool := l.all (([48, 46] : List UInt8).contains ·)
set_option maxRecDepth 8000 in
theorem isNought_any (s : ByteArray) (hs : s.size ≤ 1000000) (w : World) : Calls Tryz.prog 72 #[.string s] w fun e w' => e = .returned (.bool (noughtB s.data.toList)) ∧ Grow w w' := by
  obtain ⟨T, hT⟩ : ∃ T : ByteArray, T = ⟨(Lib.trimS s.data.toList (⟨#[48, 46]⟩ : ByteArray).data.toList).toArray⟩ := ⟨_, rfl⟩
  have K := Lib.hid (fun W => trimZ s ⟨#[48, 46]⟩ W (by omega) (by decide) (by decide))
  rw [← hT] at K
  have HT : Hid ((T.toList == []) = noughtB s.data.toList) := by
    show _ = _
    rw [str_nil, hT]
    have := trim_all s.data.toList [48, 46]
    show decide (Lib.trimS s.data.toList [48, 46] = []) = _
    cases h : noughtB s.data.toList with
    | true => exact decide_eq_true (this.2 h)
    | false => exact decide_eq_false (fun e => by rw [show noughtB s.data.toList = true from this.1 e] at h; cases h)
  generalize noughtB s.data.toList = R at *
  clear hT
  have hr := HT.out
  go_enter Tryz.func72, Tryz.ntmps72
  go_wp2_with fail
  refine (K.out _).mono ?_
  rintro e w2 ⟨rfl, g⟩
  have G : Hid (Grow w w2) := g
  clear g
  go_wp2
  go_ret
  exact ⟨rfl, G.out⟩
end Go.Proofs.YtpfiejmhnkcjbaaGreatDoor.D6
