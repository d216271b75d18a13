/-
  The walk of FrameDecodes, over a slice that came in.
-/
import Derived.Test.YthgicnfhclfcjaaDw
namespace Go.Proofs.Ythgicnfhclfcjaa
open Go.RowKit Math
theorem row_len' {w : World} {a : Option Addr} {len cap : Nat} {zs : List Int} (h : IsRow .u8 w a len cap zs) : len ≤ cap := by
  rcases h with ⟨rfl, rfl, rfl, rfl⟩ | ⟨x, rfl, hlc, hm, hz, hc, hwf⟩
  · exact Nat.le_refl _
  · exact hlc
theorem decodes_row {w : World} {a : Option Addr} {len cap : Nat} {zs : List Int} (h : IsRow .u8 w a len cap zs) (sz : cap ≤ 140737488351232) :
    Calls Try.prog 4 #[.slice a len cap] w fun e w' => e = .returned (.bool true) ∧ Below w.heap.size w w' := by
  have hl := row_len' h
  obtain ⟨l, rfl, hc, hb, hnil, _⟩ := row_byt h
  exact decodes_walk a cap l w hc hb hnil hl sz
end Go.Proofs.Ythgicnfhclfcjaa
