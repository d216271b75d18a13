/-
  The document's tree: spot.
-/
import Derived.Test.YteokjfpppmnebaaQc
import Derived.BigQuiet
namespace Go.Proofs.Yteokjfpppmnebaa
open Go.RowKit
set_option linter.unusedVariables false
set_option linter.unusedSimpArgs false
theorem bel_drew {B : Nat} {w w' : World} (h : Below B w w') (q : Nat) : Below B w (w'.drewN q) := ⟨h.os, h.tape, h.output, h.size, h.block⟩
set_option maxRecDepth 8000 in
set_option maxHeartbeats 1000000 in
theorem spot_any (a b c : Nat) (ks : List ByteArray) (key : ByteArray) (w : World) (ha : a < w.heap.size) (hb : ks = [] ∨ b < w.heap.size) (hK : w.cell? ⟨a, 0, none⟩ = some (.slice (some ⟨b, 0, none⟩) ks.length c)) (hS : ∀ i t, ks[i]? = some t → w.cell? ⟨b, i, none⟩ = some (.string t)) (hs : Srt ks) (hn : ks.length < 1000000000) (T : Bool) (hT : T = true ↔ key ∈ ks) :
    Calls Try.prog 49 #[.pointer (some ⟨a, 0, none⟩), .string key] w fun e w' => e = .returned (.tuple #[.int .i64 (lb ks key : Int), .bool T]) ∧ Hid (Below w.heap.size w w') := by
  have HK : Hid (∀ wr, Below w.heap.size w wr → wr.cell? ⟨a, 0, none⟩ = some (.slice (some ⟨b, 0, none⟩) ks.length c)) := fun wr z => (z.cell (p := ⟨a, 0, none⟩) ha).trans hK
  have HS : Hid (∀ wr, Below w.heap.size w wr → ∀ i t, ks[i]? = some t → wr.cell? ⟨b, i, none⟩ = some (.string t)) := fun wr z i t h => by
    rcases hb with rfl | hb
    · cases h
    · exact (z.cell (p := ⟨b, i, none⟩) hb).trans (hS i t h)
  have HL : Hid (∀ i t, ks[i]? = some t → (blt t key = true ↔ i < lb ks key)) := fun i t h => srt_lb hs key i t h
  have HM : Hid (key ∈ ks ↔ ks[lb ks key]? = some key) := ⟨mem_lb hs, fun h => List.mem_of_getElem? h⟩
  have hle := lb_le ks key
  obtain ⟨L, HR⟩ : ∃ L, Hid (lb ks key = L) := ⟨_, rfl⟩
  rw [HR.out] at HL HM hle ⊢
  have HT2 : Hid (T = true ↔ ks[L]? = some key) := hT.trans HM.out
  clear hS hs HR hT HM ha hb
  go_enter Try.func49, Try.ntmps49
  go_wp2
  go_quiet (fail)
  obtain ⟨w1, HW, Z1⟩ : ∃ w1, w.drewN nq = w1 ∧ Hid (Below w.heap.size w w1) := ⟨_, rfl, bel_drew (Below.refl _ _) nq⟩
  rw [HW]
  clear HW hK
  go_wp2
  go_loopw [6, 7, 8] (fun i j _ wr => ∃ p q : Nat, i = .int .i64 (p : Int) ∧ j = .int .i64 (q : Int) ∧ p ≤ L ∧ L ≤ q ∧ q ≤ ks.length ∧ Hid (Below w.heap.size w wr)) (fun i j _ _ => (intOf j).toNat - (intOf i).toNat)
  case atStart => exact ⟨0, ks.length, rfl, rfl, by omega, by omega, by omega, Z1⟩
  case round =>
    obtain ⟨p, q, rfl, rfl, hp, hq, hl, HZ⟩ := hrel
    clear Z1
    have hK := HK.out wr HZ.out
    by_cases hlt : p < q
    case neg =>
      obtain rfl : p = L := by omega
      by_cases hin : p < ks.length
      · obtain ⟨x, hx⟩ : ∃ x, ks[p]? = some x := ⟨_, List.getElem?_eq_getElem hin⟩
        have hc := HS.out wr HZ.out p x hx
        have HX : Hid (T = (x.toList == key.toList)) := by
          show T = _
          have h := HT2.out
          rw [hx] at h
          rw [Bool.eq_iff_iff, h, beq_iff_eq]
          exact ⟨fun h => by rw [Option.some.inj h], fun h => by rw [ba_eq h]⟩
        clear hx HT2 HS HL
        go_wp2
        go_quiet (fail)
        go_wp2
        go_ret2
        rw [HX.out]
        exact ⟨rfl, bel_drew HZ.out _⟩
      · have HF : Hid (T = false) := by show T = false; have h := HT2.out; rw [List.getElem?_eq_none (by omega)] at h; simpa using h
        clear HT2 HS HL
        go_wp2
        go_quiet (fail)
        go_wp2
        go_ret2
        rw [HF.out]
        exact ⟨rfl, bel_drew HZ.out _⟩
    have hm : (p + q) / 2 < ks.length := by omega
    obtain ⟨x, hx⟩ : ∃ x, ks[(p + q) / 2]? = some x := ⟨_, List.getElem?_eq_getElem hm⟩
    have hc := HS.out wr HZ.out _ x hx
    have hL := HL.out _ x hx
    unfold blt at hL
    clear hx
    by_cases hb : Op.bytesLess x.toList key.toList = true
    · have h2 := hL.1 hb
      clear hL
      go_wp2
      go_roundw
      case rel => exact ⟨(p + q) / 2 + 1, q, by go_num, rfl, by omega, hq, hl, HZ⟩
      case measure => simp [intOf]; omega
    · have h2 : ¬ (p + q) / 2 < L := fun h => hb (hL.2 h)
      have hb' : Op.bytesLess x.toList key.toList = false := by simpa using hb
      clear hL hb
      go_wp2
      go_roundw
      case rel => exact ⟨p, (p + q) / 2, rfl, by go_num, hp, by omega, by omega, HZ⟩
      case measure => simp [intOf]; omega
#print axioms spot_any
end Go.Proofs.Yteokjfpppmnebaa
