/-
  The walk of FrameRows, over slices that came in.
-/
import Derived.Test.YthgicnfhclfcjaaRw
namespace Go.Proofs.Ythgicnfhclfcjaa
open Go.RowKit Math
theorem row_len2 {w : World} {a : Option Addr} {len cap : Nat} {zs : List Int} (h : IsRow .u8 w a len cap zs) : len ≤ cap := by
  rcases h with ⟨rfl, rfl, rfl, rfl⟩ | ⟨x, rfl, hlc, hm, hz, hc, hwf⟩
  · exact Nat.le_refl _
  · exact hlc
theorem rows_row {w : World} {a0 : Option Addr} {cap0 : Nat} {rs : List Rw} (hrs : Rws w a0 rs) (hlen : rs.length * 24 ≤ 140737488351232) {a : Option Addr} {len cap : Nat} {zs : List Int} (h : IsRow .u8 w a len cap zs) (sz : cap ≤ 140737488351232) :
    Calls Try.prog 8 #[.slice a0 rs.length cap0, .slice a len cap] w fun e w' => e = .returned (.bool true) ∧ Below w.heap.size w w' := by
  have hl := row_len2 h
  obtain ⟨l, rfl, hc, hb, hnil, _⟩ := row_byt h
  exact rows_walk a0 cap0 rs a cap l w hrs hlen hc hb hnil (by omega)
end Go.Proofs.Ythgicnfhclfcjaa
