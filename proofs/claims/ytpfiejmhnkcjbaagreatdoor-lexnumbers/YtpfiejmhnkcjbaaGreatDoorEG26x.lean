/-
  LexPlaces: places rise, within the text. · LexBlanks: blanks and remarks between words change no word.
-/
import Derived.Test.YtpfiejmhnkcjbaaGreatDoorELyn
namespace Go.Proofs.YtpfiejmhnkcjbaaGreatDoor
open Go.RowKit Lx
set_option linter.unusedVariables false
set_option linter.unusedSimpArgs false
theorem range_belowP {w w' : World} {b o : Nat} {cs : List Value} (h : w.rangeAt b o cs) (hb : b < w.heap.size) (g : Below w.heap.size w w') : w'.rangeAt b o cs := fun j u hj => by
  have := h j u hj
  unfold World.cell? at this ⊢
  simp only at this ⊢
  rw [g.block b hb]
  exact this
end Go.Proofs.YtpfiejmhnkcjbaaGreatDoor
namespace Go.Proofs.YtpfiejmhnkcjbaaGreatDoor
open Go.RowKit Lx
set_option linter.unusedVariables false
set_option linter.unusedSimpArgs false
theorem NuP.mono {nu : List Nat → Bool} {w0 w : World} (h : NuP nu w0) (g : Below w0.heap.size w0 w) : NuP nu w := fun x hx W hW => h x hx W (g.trans (hW.mono g.size))
theorem bts_appL (s t : ByteArray) : bts (s ++ t) = bts s ++ bts t := by
  unfold bts
  rw [ByteArray.data_append, Array.toList_append, List.map_append]
theorem lexA_bad {w : World} {tx nu : List Nat → Bool} {r : List Nat} {e : Ending} {w' : World} (h : LexA w tx nu r e w') {p : Nat} (hp : (lexR tx nu r 0).2 = some p) : e = .returned (.tuple #[.slice none 0 0, .int .i64 (p : Int), .int .i64 12]) := by
  unfold LexA at h
  rw [hp] at h
  exact h
theorem lexA_ok {w : World} {tx nu : List Nat → Bool} {r : List Nat} {e : Ending} {w' : World} (h : LexA w tx nu r e w') (hp : (lexR tx nu r 0).2 = none) : ∃ v, e = .returned (.tuple #[v, .int .i64 0, .int .i64 0]) ∧ TkS w' v (lexR tx nu r 0).1 := by
  unfold LexA at h
  rw [hp] at h
  obtain ⟨v, e, hR⟩ := h
  exact ⟨v, e, TkR.tks hR⟩
/-- A row that is not empty. -/
theorem TkS.row {w : World} {v : Value} {L : List Tk} (h : TkS w v L) (hne : L ≠ []) : ∃ b c, v = .slice (some ⟨b, 0, none⟩) L.length c ∧ b < w.heap.size ∧ w.rangeAt b 0 (tkC L) := by
  obtain ⟨a, c, e, h | ⟨b, e2, hb, hr⟩⟩ := h
  · exact absurd h hne
  · exact ⟨b, c, by rw [e, e2], hb, hr⟩
end Go.Proofs.YtpfiejmhnkcjbaaGreatDoor
