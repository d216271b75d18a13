/-
  slices.BinarySearch at names.
-/
import Derived.Test.YtiddlpjnfophhaaCop
import Derived.Test.YtiddlpjnfophhaaCmc
namespace Go.Proofs.Ytiddlpjnfophhaa
open Go.RowKit
set_option linter.unusedVariables false
theorem nan67 (x : ByteArray) (w : World) : Calls Try.prog 67 #[.string x] w fun e w' => e = .returned (.bool false) ∧ w' = w := by
  go_enter Try.func67, Try.ntmps67
  go_wp2
  go_ret
  exact ⟨by simp, rfl⟩
theorem nan51 (x : ByteArray) (w : World) : Calls Try.prog 51 #[.string x] w fun e w' => e = .returned (.bool false) ∧ w' = w := by
  go_enter Try.func51, Try.ntmps51
  go_wp2
  go_ret
  exact ⟨by simp, rfl⟩
theorem less50 (x y : ByteArray) (w : World) : Calls Try.prog 50 #[.string x, .string y] w fun e w' => e = .returned (.bool (Op.bytesLess x.toList y.toList)) ∧ w' = w := by
  go_enter Try.func50, Try.ntmps50
  go_wp2_with (go_at_call 67; refine (nan67 _ _).mono ?_; rintro e w' ⟨rfl, rfl⟩)
  go_ret
  exact ⟨rfl, rfl⟩
set_option maxRecDepth 8000 in
set_option maxHeartbeats 1000000 in
theorem bsearch (na : Option Addr) (nc : Nat) (ns : List ByteArray) (hn : ns.length ≤ 100000) (w : World) (hs : Nms w na ns) (name : ByteArray) (K : Nat) (hK : K ≤ ns.length)
    (hlo : ∀ (i : Nat) (x : ByteArray), ns[i]? = some x → i < K → Op.bytesLess x.toList name.toList = true) (hhi : ∀ (i : Nat) (x : ByteArray), ns[i]? = some x → K ≤ i → Op.bytesLess x.toList name.toList = false) :
    Calls Try.prog 32 #[.slice na ns.length nc, .string name] w fun e w' => ∃ t, e = .returned (.tuple #[.int .i64 (K : Int), .bool t]) ∧ w' = w ∧ Hid (t = true ↔ ns[K]? = some name) := by
  have HS : Hid (Nms w na ns) := hs
  have HL : Hid (∀ (i : Nat) (x : ByteArray), ns[i]? = some x → i < K → Op.bytesLess x.toList name.toList = true) := hlo
  have HH : Hid (∀ (i : Nat) (x : ByteArray), ns[i]? = some x → K ≤ i → Op.bytesLess x.toList name.toList = false) := hhi
  clear hs hlo hhi
  go_enter Try.func32, Try.ntmps32
  go_wp2
  go_loopw [7, 8, 9] (fun i j _ wr => ∃ a b : Nat, i = .int .i64 (a : Int) ∧ j = .int .i64 (b : Int) ∧ a ≤ K ∧ K ≤ b ∧ b ≤ ns.length ∧ wr = w) (fun i j _ _ => (intOf j).toNat - (intOf i).toNat)
  case atStart => exact ⟨0, ns.length, rfl, rfl, by omega, hK, by omega, rfl⟩
  case round =>
    obtain ⟨a, b, rfl, rfl, ha, hb, hbn, rfl⟩ := hrel
    by_cases hlt : a < b
    case neg =>
      obtain rfl : a = K := by omega
      by_cases hin : a < ns.length
      · obtain ⟨x, hx⟩ : ∃ x, ns[a]? = some x := ⟨_, List.getElem?_eq_getElem hin⟩
        obtain ⟨bk, o, rfl, hc⟩ : ∃ b o, na = some ⟨b, o, none⟩ ∧ wr.cell? ⟨b, o + a, none⟩ = some (.string x) := by
          rcases HS.out with e | ⟨b, o, e, hc⟩
          · rw [e] at hx; simp at hx
          · exact ⟨b, o, e, hc a x hx⟩
        have HX : Hid (ns[a]? = some x) := hx
        clear hx
        by_cases he : x.toList == name.toList
        · go_wp2
          go_ret2
          refine ⟨true, rfl, rfl, ?_⟩
          show _ ↔ _
          simp only [true_iff]
          rw [HX.out, show x = name from bytes_ext (by simpa using he)]
        · have he2 : (x.toList == name.toList) = false := by simpa using he
          clear he
          go_wp2_with (go_at_call 51; refine (nan51 _ _).mono ?_; rintro e w' ⟨rfl, rfl⟩)
          go_ret2
          refine ⟨false, rfl, rfl, ?_⟩
          show _ ↔ _
          rw [HX.out]
          constructor
          · intro h; cases h
          · intro h; injection h with h; rw [h] at he2; simp at he2
      · go_wp2
        go_ret2
        refine ⟨false, rfl, rfl, ?_⟩
        show _ ↔ _
        rw [List.getElem?_eq_none (by omega)]
        simp
    have hm : (a + b) / 2 < ns.length := by omega
    obtain ⟨x, hx⟩ : ∃ x, ns[(a + b) / 2]? = some x := ⟨_, List.getElem?_eq_getElem hm⟩
    obtain ⟨bk, o, rfl, hc⟩ : ∃ bk o, na = some ⟨bk, o, none⟩ ∧ wr.cell? ⟨bk, o + (a + b) / 2, none⟩ = some (.string x) := by
      rcases HS.out with e | ⟨bk, o, e, hc⟩
      · rw [e] at hx; simp at hx
      · exact ⟨bk, o, e, hc _ x hx⟩
    have HX : Hid (ns[(a + b) / 2]? = some x) := hx
    clear hx
    go_wp2_with fail
    refine (less50 _ _ _).mono ?_
    rintro e w' ⟨rfl, rfl⟩
    by_cases hm2 : (a + b) / 2 < K
    · rw [HL.out _ _ HX.out hm2]
      go_wp2
      go_roundw
      case rel => exact ⟨(a + b) / 2 + 1, b, by go_num, rfl, by omega, hb, hbn, trivial⟩
      case measure => simp [intOf]; omega
    · rw [HH.out _ _ HX.out (by omega)]
      go_wp2
      go_roundw
      case rel => exact ⟨a, (a + b) / 2, rfl, by go_num, ha, by omega, by omega, trivial⟩
      case measure => simp [intOf]; omega
end Go.Proofs.Ytiddlpjnfophhaa
