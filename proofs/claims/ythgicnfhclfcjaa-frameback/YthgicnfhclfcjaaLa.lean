/-
  The walks of FrameEncodes, FrameBack and FrameSees, over slices that came in.
-/
import Derived.Test.YthgicnfhclfcjaaSw
import Derived.Test.YthgicnfhclfcjaaRowz
namespace Go.Proofs.Ythgicnfhclfcjaa
open Go.RowKit Math
theorem row_len {w : World} {a : Option Addr} {len cap : Nat} {zs : List Int} (h : IsRow .u8 w a len cap zs) : len ≤ cap := by
  rcases h with ⟨rfl, rfl, rfl, rfl⟩ | ⟨x, rfl, hlc, hm, hz, hc, hwf⟩
  · exact Nat.le_refl _
  · exact hlc
theorem encodes_row {w : World} {a : Option Addr} {len cap : Nat} {zs : List Int} (h : IsRow .u8 w a len cap zs) (sz : cap ≤ 140737488351232) :
    Calls Try.prog 3 #[.slice a len cap] w fun e w' => e = .returned (.bool true) ∧ Below w.heap.size w w' := by
  have hl := row_len h
  obtain ⟨l, rfl, hc, hb, hnil, _⟩ := row_byt h
  exact encodes_walk a cap l w hc hb hnil (by omega)
theorem back_row {w : World} {a : Option Addr} {len cap : Nat} {zs : List Int} (h : IsRow .u8 w a len cap zs) (sz : cap ≤ 140737488351232) {a' : Option Addr} {len' cap' : Nat} {zs' : List Int} (h' : IsRow .u8 w a' len' cap' zs') (sz' : cap' ≤ 140737488351232) :
    Calls Try.prog 5 #[.slice a len cap, .slice a' len' cap'] w fun e w' => e = .returned (.bool true) ∧ Below w.heap.size w w' := by
  have hl := row_len h
  have hl' := row_len h'
  obtain ⟨l, rfl, hc, hb, hnil, _⟩ := row_byt h
  obtain ⟨l', rfl, hc', hb', hnil', _⟩ := row_byt h'
  exact back_walk a a' cap cap' l l' w hc hb hnil (by omega) hc' hb' hnil' (by omega)
theorem sees_row {w : World} {a : Option Addr} {len cap : Nat} {zs : List Int} (h : IsRow .u8 w a len cap zs) (sz : cap ≤ 140737488351232) {a' : Option Addr} {len' cap' : Nat} {zs' : List Int} (h' : IsRow .u8 w a' len' cap' zs') (sz' : cap' ≤ 140737488351232) (a2 a3 : Int) (w3 : (Lit.int .u8 a3).wf = true) :
    Calls Try.prog 6 #[.slice a len cap, .slice a' len' cap', .int .i64 a2, .int .u8 a3] w fun e w' => e = .returned (.bool true) ∧ Below w.heap.size w w' := by
  have hl := row_len h
  have hl' := row_len h'
  obtain ⟨l, rfl, hc, hb, hnil, _⟩ := row_byt h
  obtain ⟨l', rfl, hc', hb', hnil', _⟩ := row_byt h'
  exact sees_walk a a' cap cap' l l' a2 a3 w3 w hc hb hnil (by omega) hc' hb' hnil' (by omega)
end Go.Proofs.Ythgicnfhclfcjaa
