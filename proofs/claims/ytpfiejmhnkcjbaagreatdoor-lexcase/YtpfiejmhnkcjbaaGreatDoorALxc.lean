/-
  The document's lex: classes of bytes.
-/
import Derived.Test.YtpfiejmhnkcjbaaGreatDoorALxb
import Derived.Test.YtpfiejmhnkcjbaaGreatDoorACm
import Derived.Laws.BytesArg
namespace Go.Proofs.YtpfiejmhnkcjbaaGreatDoor
open Go.RowKit Lx
set_option linter.unusedVariables false
set_option linter.unusedSimpArgs false
theorem bgetL (s : ByteArray) (k : Nat) (h : k < s.size) : (bts s).getD k 0 = (s[k]'h).toNat := by
  unfold bts
  rw [List.getD_eq_getElem?_getD, List.getElem?_map]
  have : s.data.toList[k]? = some (s[k]'h) := by
    rw [Array.getElem?_toList, Array.getElem?_eq_getElem (by exact h)]
    rfl
  rw [this]
  rfl
theorem idxL (s : ByteArray) (k : Nat) (h : k < s.size) (w : World) : (Instr.index 9 (.string s) (.int .i64 (k : Int))).run Tryz.prog w = .ok (.int .u8 (((bts s).getD k 0 : Nat) : Int)) w := by
  have e3 : s[k]? = some (s[k]'h) := by simp [h]
  rw [bgetL s k h]
  simp [Instr.index, asIntOf, run_underlying Tryz.underlying9, e3]
theorem oct_getD (s : ByteArray) (k : Nat) : (bts s).getD k 0 < 256 := by
  rw [List.getD_eq_getElem?_getD]
  cases h : (bts s)[k]? with
  | none => simp
  | some x => exact bts_oct s x (List.mem_of_getElem? h)
theorem bts_midL (s : ByteArray) (i n : Nat) (h : i + n ≤ s.size) : bts (s.extract i (i + n)) = ((bts s).drop i).take n := by
  unfold bts
  rw [ByteArray.data_extract, Array.toList_extract, List.extract_eq_take_drop, List.map_take, List.map_drop, show i + n - i = n by omega]
theorem bts_dropL (s : ByteArray) (i : Nat) (h : i < s.size) : (bts s).drop i = (bts s).getD i 0 :: (bts s).drop (i + 1) := by
  rw [List.drop_eq_getElem_cons (by rw [bts_len]; exact h)]
  congr 1
  rw [List.getD_eq_getElem?_getD, List.getElem?_eq_getElem (by rw [bts_len]; exact h)]
  rfl
end Go.Proofs.YtpfiejmhnkcjbaaGreatDoor
