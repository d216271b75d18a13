/-
  The law package's texts: two lists of texts that are the same.
-/
import Derived.Test.YtmpnceicodfifaaGreatRnm
namespace Go.Proofs.YtmpnceicodfifaaGreat
open Go.RowKit Go.Maps
def Tx (w : World) (a : Option Addr) (ns : List ByteArray) : Prop := ns = [] ∨ ∃ b off, a = some ⟨b, off, none⟩ ∧ ∀ i s, ns[i]? = some s → w.cell? ⟨b, off + i, none⟩ = some (.string s)
theorem Tx.below {w w' : World} {a : Option Addr} {ns : List ByteArray} (h : Tx w a ns) (hb : Below w.heap.size w w') : Tx w' a ns := by
  rcases h with h | ⟨b, off, rfl, hc⟩
  · exact .inl h
  · exact .inr ⟨b, off, rfl, fun i s hs => (hb.cell (p := ⟨b, off + i, none⟩) (cell_lt (hc i s hs))).trans (hc i s hs)⟩
set_option maxHeartbeats 1000000 in
theorem texts_any (a1 a2 : Option Addr) (c1 c2 : Nat) (ns : List ByteArray) (hn : ns.length ≤ 1000000) (w : World) (h1 : Tx w a1 ns) (h2 : Tx w a2 ns) :
    Calls Tryz.prog 42 #[.slice a1 ns.length c1, .slice a2 ns.length c2] w fun e w' => e = .returned (.bool true) ∧ ∃ q, w' = w.drewN q := by
  go_enter Tryz.func42, Tryz.ntmps42
  go_wp2
  go_loopw [5] (fun i wr => ∃ k q : Nat, k ≤ ns.length ∧ i = .int .i64 k ∧ wr = w.drewN q) (fun i _ => ns.length - (intOf i).toNat)
  case atStart => exact ⟨0, 0, by omega, rfl, rfl⟩
  case round =>
    obtain ⟨k, q, hk, rfl, rfl⟩ := hrel
    by_cases hlt : k < ns.length
    · rcases h1 with rfl | ⟨b1, o1, rfl, h1⟩
      · simp at hlt
      rcases h2 with rfl | ⟨b2, o2, rfl, h2⟩
      · simp at hlt
      have hc1 := h1 k _ (List.getElem?_eq_getElem hlt)
      have hc2 := h2 k _ (List.getElem?_eq_getElem hlt)
      generalize ns[k] = x at hc1 hc2
      have hxx : (x.toList == x.toList) = true := by simp
      clear h1 h2
      go_wp2
      go_quiet (fail)
      go_wp2
      go_roundw
      case rel => exact ⟨k + 1, _, by omega, by go_num, rfl⟩
      case measure => simp [intOf]; omega
    · go_wp2
      go_ret
      exact ⟨rfl, q, rfl⟩
#print axioms texts_any
end Go.Proofs.YtmpnceicodfifaaGreat
