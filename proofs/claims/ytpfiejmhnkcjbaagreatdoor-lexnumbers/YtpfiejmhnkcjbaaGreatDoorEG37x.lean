/-
  decimal.wordOf. · The document's own wide numbers: by, add. · Operations of a region that read no memory: they may be taken first, whatever else is to come. · The document's own least. · The document's own least. · The document's own least of any wide number.
-/
import Derived.Test.YtpfiejmhnkcjbaaGreatDoorED6Pw
import Derived.Test.YtpfiejmhnkcjbaaGreatDoorEG34x
namespace Go.Proofs.YtpfiejmhnkcjbaaGreatDoor.D6
open Go.RowKit
set_option linter.unusedVariables false
/-- The number that digits are. -/
def numL (l : List UInt8) : Nat := l.foldl (fun n b => n * 10 + (b.toNat - 48)) 0
theorem numL_snoc (l : List UInt8) (b : UInt8) : numL (l ++ [b]) = numL l * 10 + (b.toNat - 48) := by simp [numL, List.foldl_append]
theorem numL_lt : ∀ (n : Nat) (l : List UInt8), l.length = n → l.all dig10 = true → numL l < 10 ^ n
  | 0, l, h, _ => by
    obtain rfl := List.eq_nil_of_length_eq_zero h
    decide
  | n + 1, l, h, ha => by
    obtain ⟨r, b, rfl⟩ : ∃ r b, l = r ++ [b] := ⟨l.dropLast, l.getLast (by intro e; rw [e] at h; cases h), (List.dropLast_concat_getLast _).symm⟩
    rw [List.length_append] at h
    rw [List.all_append, Bool.and_eq_true] at ha
    have h1 := numL_lt n r (by simpa using h) ha.1
    have h2 : dig10 b = true := by simpa using ha.2
    unfold dig10 at h2
    rw [decide_eq_true_eq] at h2
    rw [numL_snoc, Nat.pow_succ]
    omega
set_option maxRecDepth 8000 in
theorem wordOf_any (s : ByteArray) (hs : s.size ≤ 19) (hd : s.data.toList.all dig10 = true) (w : World) : Calls Tryz.prog 74 #[.string s] w fun e w' => e = .returned (.int .u64 (numL s.data.toList : Int)) ∧ w' = w := by
  have HD := Lib.hid hd
  clear hd
  go_enter Tryz.func74, Tryz.ntmps74
  go_wp2
  go_loopw [3, 7] (fun p q wr => ∃ i v : Nat, i ≤ s.size ∧ p = .int .u64 (v : Int) ∧ q = .int .i64 (i : Int) ∧ wr = w ∧ Hid (numL (s.data.toList.take i) = v)) (fun _ q _ => s.size - (intOf q).toNat)
  case atStart => exact ⟨0, 0, Nat.zero_le _, rfl, rfl, rfl, rfl⟩
  case round =>
    obtain ⟨i, v, hi, rfl, rfl, rfl, HV⟩ := hrel
    by_cases hlt : i < s.size
    case neg =>
      go_wp2
      go_ret
      have e : i = s.size := by omega
      subst e
      refine ⟨?_, rfl⟩
      have h := HV.out
      rw [size_list, List.take_length] at h
      rw [h]
      rfl
    have hl : i < s.data.toList.length := by rw [← size_list]; exact hlt
    have eb : (s[i]'hlt) = s.data.toList[i] := byte_at s i hlt hl
    have hb : 48 ≤ (s[i]'hlt).toNat ∧ (s[i]'hlt).toNat ≤ 57 := by
      rw [eb]
      have := List.all_eq_true.1 HD.out _ (List.getElem_mem hl)
      unfold dig10 at this
      rwa [decide_eq_true_eq] at this
    have hn : numL (s.data.toList.take (i + 1)) = v * 10 + ((s[i]'hlt).toNat - 48) := by
      rw [List.take_add_one, List.getElem?_eq_getElem hl, Option.toList_some, numL_snoc, HV.out, eb]
    have hm : v * 10 + ((s[i]'hlt).toNat - 48) < 18446744073709551616 := by
      rw [← hn]
      have h1 := numL_lt (s.data.toList.take (i + 1)).length _ rfl (List.all_eq_true.2 fun x hx => List.all_eq_true.1 HD.out x (List.mem_of_mem_take hx))
      have h2 : (s.data.toList.take (i + 1)).length ≤ 19 := by
        rw [List.length_take, ← size_list]
        omega
      exact Nat.lt_of_lt_of_le h1 (Nat.le_trans (pow_le h2) (by decide))
    have HN := Lib.hid hn
    clear hn eb hl
    obtain ⟨b0, b1⟩ := hb
    go_wp2
    go_roundw
    case rel => exact ⟨i + 1, v * 10 + ((s[i]'hlt).toNat - 48), by omega, by go_num, by go_num, trivial, HN.out⟩
    case measure => simp [intOf]; omega
end Go.Proofs.YtpfiejmhnkcjbaaGreatDoor.D6
namespace Go.Proofs.YtpfiejmhnkcjbaaGreatDoor.D6
open Go.RowKit
set_option linter.unusedVariables false
end Go.Proofs.YtpfiejmhnkcjbaaGreatDoor.D6
namespace Go.Proofs.YtpfiejmhnkcjbaaGreatDoor.D6
open Go.RowKit
set_option linter.unusedVariables false
section
variable {P : Program} {ops : Array Oper} {Z : List Nat} {Q : Exit → Act → World → Prop}
end
end Go.Proofs.YtpfiejmhnkcjbaaGreatDoor.D6
namespace Go.Proofs.YtpfiejmhnkcjbaaGreatDoor.D6
open Go.RowKit
set_option linter.unusedVariables false
end Go.Proofs.YtpfiejmhnkcjbaaGreatDoor.D6
namespace Go.Proofs.YtpfiejmhnkcjbaaGreatDoor.D6
open Go.RowKit
set_option linter.unusedVariables false
end Go.Proofs.YtpfiejmhnkcjbaaGreatDoor.D6
namespace Go.Proofs.YtpfiejmhnkcjbaaGreatDoor.D6
open Go.RowKit
set_option linter.unusedVariables false
end Go.Proofs.YtpfiejmhnkcjbaaGreatDoor.D6
