/-
  The program's lex: which texts are words.
-/
import Derived.Test.YtpfiejmhnkcjbaaGreatDoorALye
namespace Go.Proofs.YtpfiejmhnkcjbaaGreatDoor
open Go.RowKit Lx
set_option linter.unusedVariables false
set_option linter.unusedSimpArgs false
theorem tl_nat (s : ByteArray) (L : List UInt8) : (s.toList == L) = (bts s == L.map UInt8.toNat) := by
  rw [ByteArray.toList_eq, Bool.eq_iff_iff, beq_iff_eq, beq_iff_eq]
  unfold bts
  exact ⟨fun h => by rw [h], fun h => (List.map_inj_right (fun _ _ => UInt8.toNat_inj.1)).1 h⟩
theorem isW_yes {s : ByteArray} {L : List UInt8} (h : (s.toList == L) = true) (hL : isW (L.map UInt8.toNat) = true) : isW (bts s) = true := by
  rw [tl_nat] at h
  rw [eq_of_beq h, hL]
set_option maxRecDepth 8000 in
set_option maxHeartbeats 2000000 in
theorem isWord_any (s : ByteArray) (w : World) : Calls Tryz.prog 49 #[.string s] w fun e w' => e = .returned (.bool (isW (bts s))) ∧ w' = w := by
  go_enter Tryz.func49, Tryz.ntmps49
  go_wp2
  all_goals first
    | (exfalso
       rename_i h1 h2
       rw [h1] at h2
       cases h2
       done)
    | (rename_i h
       go_ret
       rw [isW_yes h rfl]
       exact ⟨rfl, rfl⟩)
    | skip
  have hn : isW (bts s) = false := by
    simp only [tl_nat] at *
    rw [Bool.eq_false_iff]
    intro h
    have hm : bts s ∈ words := List.contains_iff_mem.1 h
    unfold words at hm
    simp only [List.mem_cons, List.not_mem_nil, or_false] at hm
    simp_all
  rw [hn]
  go_ret
  exact ⟨rfl, rfl⟩
end Go.Proofs.YtpfiejmhnkcjbaaGreatDoor
