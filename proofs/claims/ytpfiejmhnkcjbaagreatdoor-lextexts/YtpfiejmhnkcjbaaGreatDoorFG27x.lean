/-
  The document's own Dec. · decimal's looks at a text: isDigits, isWhole, isPart, isNought. · decimal's looks at a text: isWhole, isPart, isNought; wordOf. · decimal.wordOf. · The document's own wide numbers: by, add. · Operations of a region that read no memory: they may be taken first, whatever else is to come. · The document's own least. · The document's own least. · The document's own least of any wide number. · The document's own check of values whose kind is Int or Decimal; Check; Is. · The document's own Equal of two numbers; got. · The law package's got and known. · The document's own sign and Ten. · The document's own sums, differences, products, and turned round: their walks. · The document's own sums, differences, products, and turned round: what they answer.
-/
import Derived.Test.YtpfiejmhnkcjbaaGreatDoorFD6Ty
import Derived.Laws.BytesArg
import Derived.Test.YtpfiejmhnkcjbaaGreatDoorFG25x
import Derived.Test.YtpfiejmhnkcjbaaGreatDoorFG21x
namespace Go.Proofs.YtpfiejmhnkcjbaaGreatDoor.D6
open Go.RowKit Go.Sort
set_option linter.unusedVariables false
theorem dec_step {v : Nat} (h : 10 ≤ v) : Lib.decDigits v = Lib.decDigits (v / 10) ++ [UInt8.ofNat (48 + v % 10)] := by
  rw [Lib.decDigits, dif_neg (by omega)]
theorem app_list (a b : ByteArray) : (a ++ b).data.toList = a.data.toList ++ b.data.toList := by simp [ByteArray.data_append]
theorem of_list {l : List UInt8} {a : ByteArray} (h : l = a.data.toList) : (⟨l.toArray⟩ : ByteArray) = a := by
  subst h
  simp
theorem size_list (a : ByteArray) : a.size = a.data.toList.length := by
  rw [Array.length_toList]
  rfl
end Go.Proofs.YtpfiejmhnkcjbaaGreatDoor.D6
namespace Go.Proofs.YtpfiejmhnkcjbaaGreatDoor.D6
open Go.RowKit
set_option linter.unusedVariables false
theorem trimZ (s c : ByteArray) (w : World) (hs : s.size ≤ 9223372036854775807) (hc : c.size < 4294967281) (ha : c.data.toList.all (fun b => decide (b.toNat < 128)) = true) :
    Calls Tryz.prog 100 #[.string s, .string c] w fun e w' => e = .returned (.string ⟨(Lib.trimS s.data.toList c.data.toList).toArray⟩) ∧ Grow w w' :=
  Any.strings_Trim_laid Tryz.lays160 (by kernel_rfl) s c w hs hc (ascii_of_all ha)
theorem dw_nil {p : UInt8 → Bool} : ∀ m : List UInt8, (∀ x ∈ m.dropWhile p, p x = true) → m.dropWhile p = []
  | [], _ => rfl
  | a :: m, h => by
    rw [List.dropWhile_cons] at h ⊢
    split at h
    · rename_i ha
      rw [if_pos ha]
      exact dw_nil m h
    · rename_i ha
      exact absurd (h a (List.mem_cons_self ..)) ha
theorem dw_iff {p : UInt8 → Bool} : ∀ m : List UInt8, m.dropWhile p = [] ↔ ∀ x ∈ m, p x = true
  | [] => by simp
  | a :: m => by
    rw [List.dropWhile_cons]
    split
    · rename_i ha
      rw [dw_iff m]
      simp [ha]
    · rename_i ha
      simp [ha]
theorem trim_all (l cs : List UInt8) : Lib.trimS l cs = [] ↔ l.all (cs.contains ·) = true := by
  unfold Lib.trimS Lib.trimLeftS Lib.trimRightS
  constructor
  · intro h
    have h1 := (dw_iff _).1 h
    have h2 := dw_nil l.reverse (fun x hx => h1 x (List.mem_reverse.2 hx))
    have h3 := (dw_iff _).1 h2
    exact List.all_eq_true.2 fun x hx => h3 x (List.mem_reverse.2 hx)
  · intro h
    have h3 := List.all_eq_true.1 h
    rw [(dw_iff _).2 (fun x hx => h3 x (List.mem_reverse.1 hx))]
    rfl
/-- Digits alone, at least one. -/
def dig10 (b : UInt8) : Bool := decide (48 ≤ b.toNat ∧ b.toNat ≤ 57)
theorem dig10_set (b : UInt8) : ([48, 49, 50, 51, 52, 53, 54, 55, 56, 57] : List UInt8).contains b = dig10 b := by
  have h : ∀ n : Nat, n < 256 → ([48, 49, 50, 51, 52, 53, 54, 55, 56, 57] : List UInt8).contains (UInt8.ofNat n) = dig10 (UInt8.ofNat n) := by decide +kernel
  have := h b.toNat b.toNat_lt
  rwa [UInt8.ofNat_toNat] at this
def allDig (l : List UInt8) : Bool := !l.isEmpty && l.all dig10
theorem str_nil (a : ByteArray) : (a.toList == []) = decide (a.data.toList = []) := by
  rw [Lib.toList_data]
  cases a.data.toList <;> rfl
set_option maxRecDepth 8000 in
theorem isDigits_any (s : ByteArray) (hs : s.size ≤ 1000000) (w : World) : Calls Tryz.prog 99 #[.string s] w fun e w' => e = .returned (.bool (allDig s.data.toList)) ∧ Grow w w' := by
  obtain ⟨T, hT⟩ : ∃ T : ByteArray, T = ⟨(Lib.trimS s.data.toList (⟨#[48, 49, 50, 51, 52, 53, 54, 55, 56, 57]⟩ : ByteArray).data.toList).toArray⟩ := ⟨_, rfl⟩
  have K := Lib.hid (fun W => trimZ s ⟨#[48, 49, 50, 51, 52, 53, 54, 55, 56, 57]⟩ W (by omega) (by decide) (by decide))
  rw [← hT] at K
  have HT : Hid ((T.toList == []) = s.data.toList.all dig10) := by
    show _ = _
    rw [str_nil, hT]
    have := trim_all s.data.toList [48, 49, 50, 51, 52, 53, 54, 55, 56, 57]
    rw [show (fun x => ([48, 49, 50, 51, 52, 53, 54, 55, 56, 57] : List UInt8).contains x) = dig10 from funext dig10_set] at this
    show decide (Lib.trimS s.data.toList [48, 49, 50, 51, 52, 53, 54, 55, 56, 57] = []) = _
    cases h : s.data.toList.all dig10 with
    | true => exact decide_eq_true (this.2 h)
    | false => exact decide_eq_false (fun e => by rw [this.1 e] at h; cases h)
  by_cases h0 : (s.toList == []) = true
  · have e : allDig s.data.toList = false := by
      rw [str_nil, decide_eq_true_eq] at h0
      rw [h0]; rfl
    rw [e]
    clear HT hT e
    go_enter Tryz.func99, Tryz.ntmps99
    go_wp2
    go_ret
    exact ⟨rfl, Grow.refl _⟩
  · have h0' : (s.toList == []) = false := by simpa using h0
    have e : Hid (allDig s.data.toList = s.data.toList.all dig10) := by
      show _ = _
      rw [str_nil, decide_eq_false_iff_not] at h0'
      cases hl : s.data.toList with
      | nil => exact absurd hl h0'
      | cons a b => rfl
    have HR : Hid ((T.toList == []) = allDig s.data.toList) := by show _ = _; rw [HT.out, e.out]
    generalize allDig s.data.toList = R at *
    clear HT e h0 hT
    have hr := HR.out
    go_enter Tryz.func99, Tryz.ntmps99
    go_wp2_with fail
    refine (K.out _).mono ?_
    rintro e w2 ⟨rfl, g⟩
    have G : Hid (Grow w w2) := g
    clear g
    go_wp2
    go_ret
    exact ⟨rfl, G.out⟩
end Go.Proofs.YtpfiejmhnkcjbaaGreatDoor.D6
namespace Go.Proofs.YtpfiejmhnkcjbaaGreatDoor.D6
open Go.RowKit
set_option linter.unusedVariables false
set_option maxRecDepth 8000 in
theorem isPart_any (s : ByteArray) (hs : s.size ≤ 1000000) (w : World) : Calls Tryz.prog 71 #[.string s] w fun e w' => e = .returned (.bool (allDig s.data.toList && decide (s.size ≤ 18))) ∧ Grow w w' := by
  have K := Lib.hid (fun W => isDigits_any s hs W)
  generalize allDig s.data.toList = R at *
  cases R
  · go_enter Tryz.func71, Tryz.ntmps71
    go_wp2_with fail
    refine (K.out _).mono ?_
    rintro e w2 ⟨rfl, g⟩
    have G : Hid (Grow w w2) := g
    clear g
    go_wp2
    go_ret
    exact ⟨rfl, G.out⟩
  · by_cases h : s.size ≤ 18
    all_goals
      have e : decide (s.size ≤ 18) = decide ((s.size : Int) ≤ 18) := by simp; omega
      have HE := Lib.hid e
      clear e
      go_enter Tryz.func71, Tryz.ntmps71
      go_wp2_with fail
      refine (K.out _).mono ?_
      rintro e w2 ⟨rfl, g⟩
      have G : Hid (Grow w w2) := g
      clear g
      go_wp2
      go_ret
      exact ⟨by rw [HE.out]; rfl, G.out⟩
/-- A whole part in its form: digits, no nought ahead of others. -/
def wholeB (s : ByteArray) : Bool := allDig s.data.toList && (decide (¬ s.data.toList.head? = some 48) || decide (s.size = 1))
theorem dig_pos {s : ByteArray} (h : allDig s.data.toList = true) : 0 < s.size := by
  rw [size_list]
  cases hl : s.data.toList with
  | nil => rw [hl] at h; cases h
  | cons a r => simp
theorem byte_at (s : ByteArray) (i : Nat) (h : i < s.size) (h' : i < s.data.toList.length) : s[i] = s.data.toList[i] := by
  rw [Array.getElem_toList]
  rfl
theorem whole_eq (s : ByteArray) (h0 : 0 < s.size) (hd : allDig s.data.toList = true) : wholeB s = (decide (¬ ((s[0]'h0).toNat : Int) = 48) || decide (s.size = 1)) := by
  unfold wholeB
  rw [hd, Bool.true_and]
  congr 1
  apply decide_eq_decide.2
  have hl : 0 < s.data.toList.length := by rw [← size_list]; exact h0
  rw [byte_at s 0 h0 hl, List.head?_eq_getElem?, List.getElem?_eq_getElem hl]
  generalize s.data.toList[0] = a
  constructor
  · intro h e
    apply h
    congr 1
    apply UInt8.toNat_inj.1
    show a.toNat = 48
    omega
  · intro h e
    injection e with e
    apply h
    rw [e]
    rfl
set_option maxRecDepth 8000 in
theorem isWhole_any (s : ByteArray) (hs : s.size ≤ 1000000) (w : World) : Calls Tryz.prog 70 #[.string s] w fun e w' => e = .returned (.bool (wholeB s)) ∧ Grow w w' := by
  have K := Lib.hid (fun W => isDigits_any s hs W)
  cases hd : allDig s.data.toList with
  | false =>
    have e : wholeB s = false := by unfold wholeB; rw [hd]; rfl
    rw [hd] at K
    rw [e]
    clear hd e
    go_enter Tryz.func70, Tryz.ntmps70
    go_wp2_with fail
    refine (K.out _).mono ?_
    rintro e w2 ⟨rfl, g⟩
    have G : Hid (Grow w w2) := g
    clear g
    go_wp2
    go_ret
    exact ⟨rfl, G.out⟩
  | true =>
    have h0 := dig_pos hd
    have HE := Lib.hid (whole_eq s h0 hd)
    rw [hd] at K
    clear hd
    go_enter Tryz.func70, Tryz.ntmps70
    go_wp2_with fail
    refine (K.out _).mono ?_
    rintro e w2 ⟨rfl, g⟩
    have G : Hid (Grow w w2) := g
    clear g
    go_wp2
    · rename_i h
      go_ret
      refine ⟨?_, G.out⟩
      rw [HE.out]
      show Ending.returned (.bool ((s.size : Int) == 1)) = _
      congr 2
      simp only [h, not_true_eq_false, decide_false, Bool.false_or]
      by_cases e : s.size = 1
      · simp [e]
      · have : ¬ (s.size : Int) = 1 := by omega
        simp [e, this]
    · rename_i h
      go_ret
      refine ⟨?_, G.out⟩
      rw [HE.out]
      simp only [h, not_false_eq_true, decide_true, Bool.true_or]
      rfl
/-- Noughts and dots alone. -/
def noughtB (l : List UInt8) : Bool := l.all (([48, 46] : List UInt8).contains ·)
set_option maxRecDepth 8000 in
theorem isNought_any (s : ByteArray) (hs : s.size ≤ 1000000) (w : World) : Calls Tryz.prog 72 #[.string s] w fun e w' => e = .returned (.bool (noughtB s.data.toList)) ∧ Grow w w' := by
  obtain ⟨T, hT⟩ : ∃ T : ByteArray, T = ⟨(Lib.trimS s.data.toList (⟨#[48, 46]⟩ : ByteArray).data.toList).toArray⟩ := ⟨_, rfl⟩
  have K := Lib.hid (fun W => trimZ s ⟨#[48, 46]⟩ W (by omega) (by decide) (by decide))
  rw [← hT] at K
  have HT : Hid ((T.toList == []) = noughtB s.data.toList) := by
    show _ = _
    rw [str_nil, hT]
    have := trim_all s.data.toList [48, 46]
    show decide (Lib.trimS s.data.toList [48, 46] = []) = _
    cases h : noughtB s.data.toList with
    | true => exact decide_eq_true (this.2 h)
    | false => exact decide_eq_false (fun e => by rw [show noughtB s.data.toList = true from this.1 e] at h; cases h)
  generalize noughtB s.data.toList = R at *
  clear hT
  have hr := HT.out
  go_enter Tryz.func72, Tryz.ntmps72
  go_wp2_with fail
  refine (K.out _).mono ?_
  rintro e w2 ⟨rfl, g⟩
  have G : Hid (Grow w w2) := g
  clear g
  go_wp2
  go_ret
  exact ⟨rfl, G.out⟩
end Go.Proofs.YtpfiejmhnkcjbaaGreatDoor.D6
namespace Go.Proofs.YtpfiejmhnkcjbaaGreatDoor.D6
open Go.RowKit
set_option linter.unusedVariables false
/-- The number that digits are. -/
def numL (l : List UInt8) : Nat := l.foldl (fun n b => n * 10 + (b.toNat - 48)) 0
theorem numL_snoc (l : List UInt8) (b : UInt8) : numL (l ++ [b]) = numL l * 10 + (b.toNat - 48) := by simp [numL, List.foldl_append]
theorem numL_lt : ∀ (n : Nat) (l : List UInt8), l.length = n → l.all dig10 = true → numL l < 10 ^ n
  | 0, l, h, _ => by
    obtain rfl := List.eq_nil_of_length_eq_zero h
    decide
  | n + 1, l, h, ha => by
    obtain ⟨r, b, rfl⟩ : ∃ r b, l = r ++ [b] := ⟨l.dropLast, l.getLast (by intro e; rw [e] at h; cases h), (List.dropLast_concat_getLast _).symm⟩
    rw [List.length_append] at h
    rw [List.all_append, Bool.and_eq_true] at ha
    have h1 := numL_lt n r (by simpa using h) ha.1
    have h2 : dig10 b = true := by simpa using ha.2
    unfold dig10 at h2
    rw [decide_eq_true_eq] at h2
    rw [numL_snoc, Nat.pow_succ]
    omega
set_option maxRecDepth 8000 in
theorem wordOf_any (s : ByteArray) (hs : s.size ≤ 19) (hd : s.data.toList.all dig10 = true) (w : World) : Calls Tryz.prog 74 #[.string s] w fun e w' => e = .returned (.int .u64 (numL s.data.toList : Int)) ∧ w' = w := by
  have HD := Lib.hid hd
  clear hd
  go_enter Tryz.func74, Tryz.ntmps74
  go_wp2
  go_loopw [3, 7] (fun p q wr => ∃ i v : Nat, i ≤ s.size ∧ p = .int .u64 (v : Int) ∧ q = .int .i64 (i : Int) ∧ wr = w ∧ Hid (numL (s.data.toList.take i) = v)) (fun _ q _ => s.size - (intOf q).toNat)
  case atStart => exact ⟨0, 0, Nat.zero_le _, rfl, rfl, rfl, rfl⟩
  case round =>
    obtain ⟨i, v, hi, rfl, rfl, rfl, HV⟩ := hrel
    by_cases hlt : i < s.size
    case neg =>
      go_wp2
      go_ret
      have e : i = s.size := by omega
      subst e
      refine ⟨?_, rfl⟩
      have h := HV.out
      rw [size_list, List.take_length] at h
      rw [h]
      rfl
    have hl : i < s.data.toList.length := by rw [← size_list]; exact hlt
    have eb : (s[i]'hlt) = s.data.toList[i] := byte_at s i hlt hl
    have hb : 48 ≤ (s[i]'hlt).toNat ∧ (s[i]'hlt).toNat ≤ 57 := by
      rw [eb]
      have := List.all_eq_true.1 HD.out _ (List.getElem_mem hl)
      unfold dig10 at this
      rwa [decide_eq_true_eq] at this
    have hn : numL (s.data.toList.take (i + 1)) = v * 10 + ((s[i]'hlt).toNat - 48) := by
      rw [List.take_add_one, List.getElem?_eq_getElem hl, Option.toList_some, numL_snoc, HV.out, eb]
    have hm : v * 10 + ((s[i]'hlt).toNat - 48) < 18446744073709551616 := by
      rw [← hn]
      have h1 := numL_lt (s.data.toList.take (i + 1)).length _ rfl (List.all_eq_true.2 fun x hx => List.all_eq_true.1 HD.out x (List.mem_of_mem_take hx))
      have h2 : (s.data.toList.take (i + 1)).length ≤ 19 := by
        rw [List.length_take, ← size_list]
        omega
      exact Nat.lt_of_lt_of_le h1 (Nat.le_trans (pow_le h2) (by decide))
    have HN := Lib.hid hn
    clear hn eb hl
    obtain ⟨b0, b1⟩ := hb
    go_wp2
    go_roundw
    case rel => exact ⟨i + 1, v * 10 + ((s[i]'hlt).toNat - 48), by omega, by go_num, by go_num, trivial, HN.out⟩
    case measure => simp [intOf]; omega
end Go.Proofs.YtpfiejmhnkcjbaaGreatDoor.D6
namespace Go.Proofs.YtpfiejmhnkcjbaaGreatDoor.D6
open Go.RowKit
set_option linter.unusedVariables false
end Go.Proofs.YtpfiejmhnkcjbaaGreatDoor.D6
namespace Go.Proofs.YtpfiejmhnkcjbaaGreatDoor.D6
open Go.RowKit
set_option linter.unusedVariables false
section
variable {P : Program} {ops : Array Oper} {Z : List Nat} {Q : Exit → Act → World → Prop}
end
end Go.Proofs.YtpfiejmhnkcjbaaGreatDoor.D6
namespace Go.Proofs.YtpfiejmhnkcjbaaGreatDoor.D6
open Go.RowKit
set_option linter.unusedVariables false
end Go.Proofs.YtpfiejmhnkcjbaaGreatDoor.D6
namespace Go.Proofs.YtpfiejmhnkcjbaaGreatDoor.D6
open Go.RowKit
set_option linter.unusedVariables false
end Go.Proofs.YtpfiejmhnkcjbaaGreatDoor.D6
namespace Go.Proofs.YtpfiejmhnkcjbaaGreatDoor.D6
open Go.RowKit
set_option linter.unusedVariables false
end Go.Proofs.YtpfiejmhnkcjbaaGreatDoor.D6
namespace Go.Proofs.YtpfiejmhnkcjbaaGreatDoor.D6
open Go.RowKit
set_option linter.unusedVariables false
end Go.Proofs.YtpfiejmhnkcjbaaGreatDoor.D6
namespace Go.Proofs.YtpfiejmhnkcjbaaGreatDoor.D6
open Go.RowKit
set_option linter.unusedVariables false
end Go.Proofs.YtpfiejmhnkcjbaaGreatDoor.D6
namespace Go.Proofs.YtpfiejmhnkcjbaaGreatDoor.D6
open Go.RowKit
set_option linter.unusedVariables false
end Go.Proofs.YtpfiejmhnkcjbaaGreatDoor.D6
namespace Go.Proofs.YtpfiejmhnkcjbaaGreatDoor.D6
open Go.RowKit
set_option linter.unusedVariables false
end Go.Proofs.YtpfiejmhnkcjbaaGreatDoor.D6
namespace Go.Proofs.YtpfiejmhnkcjbaaGreatDoor.D6
open Go.RowKit
set_option linter.unusedVariables false
theorem sB : (Tryz.prog.info? 4).map (·.size) = some 1 := by kernel_rfl
end Go.Proofs.YtpfiejmhnkcjbaaGreatDoor.D6
namespace Go.Proofs.YtpfiejmhnkcjbaaGreatDoor.D6
open Go.RowKit
set_option linter.unusedVariables false
section
variable (k1 n1 : Int) (s1 : Nat) (na1 : Option Addr) (nc1 : Nat) (ka1 : Option Addr) (kc1 : Nat) (k2 n2 : Int) (s2 : Nat) (na2 : Option Addr) (nc2 : Nat) (ka2 : Option Addr) (kc2 : Nat)
  (i1 : isNum k1 n1 s1 ⟨#[]⟩ 0 0 = true) (i2 : isNum k2 n2 s2 ⟨#[]⟩ 0 0 = true) (f1 : -9223372036854775808 ≤ n1 ∧ n1 < 9223372036854775808) (f2 : -9223372036854775808 ≤ n2 ∧ n2 < 9223372036854775808) (q1 : s1 ≤ 18) (q2 : s2 ≤ 18)
include i1 in
include i1 i2 f1 f2 q1 q2
omit i2 f2 q2 in
end
end Go.Proofs.YtpfiejmhnkcjbaaGreatDoor.D6
