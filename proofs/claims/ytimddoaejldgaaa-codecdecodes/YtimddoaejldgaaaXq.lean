/-
  codec's reader: value, at any depth; what Decode and Read answer of any bytes that end early enough.
-/
import Derived.Test.YtimddoaejldgaaaXp
import Derived.Test.YtimddoaejldgaaaXl
namespace Go.Proofs.Ytimddoaejldgaaa
open Go.RowKit Math
set_option linter.unusedVariables false
theorem value_any : ∀ (d : Nat), d ≤ 16 → ∀ dp : Int, dp = 17 - (d : Int) → ValC 45 (rdV d) (fun r => #[.pointer (some ⟨r, 0, none⟩), .int .i64 dp])
  | 0, _, dp, h => val_deep dp (by omega)
  | d + 1, hd, dp, h => by
    have VC := value_any d (by omega) (dp + 1) (by omega)
    exact val_step d dp (by omega) (nest8 d dp (by omega) (by omega) VC) (nest9 d dp (by omega) (by omega) VC)
theorem valL_any {L : List Nat} (h : Sm (rdV 16) L 0) : ValL L := fun w0 W r ab cb hE hb => value_any 16 (Nat.le_refl _) 1 (by omega) w0 W r ab cb L 0 0 hE hb (by omega) (fun _ => h)
theorem sm_short {L : List Nat} (h : L.length ≤ 65536) : Sm (rdV 16) L 0 := .inl h
theorem sm_enc {p : Vt} (hp : WfV p) (hc : chkV p 1 = 0) (hl : (encV p).length ≤ 65536) (m : List Nat) : Sm (rdV 16) (encV p ++ m) 0 := .inr ⟨p, m, by rw [List.drop_zero]; exact enc_back p hp hc m, by rw [List.length_append]; omega⟩
end Go.Proofs.Ytimddoaejldgaaa
