/-
  The document's tree in memory; spot with no text; Get.
-/
import Derived.Test.YteokjfpppmnebaaQd
namespace Go.Proofs.Yteokjfpppmnebaa
open Go.RowKit
set_option linter.unusedVariables false
set_option linter.unusedSimpArgs false
/-- The document's tree in memory: two rows, each maybe nil while there is no text. -/
structure RT (w : World) (a : Nat) (kb nb : Option Nat) (ck cn : Nat) (es : List E) : Prop where
  ha : a < w.heap.size
  key : w.cell? ⟨a, 0, none⟩ = some (.slice (kb.map fun b => ⟨b, 0, none⟩) es.length ck)
  num : w.cell? ⟨a, 1, none⟩ = some (.slice (nb.map fun b => ⟨b, 0, none⟩) es.length cn)
  kc : ∀ i e, es[i]? = some e → ∃ b, kb = some b ∧ b < w.heap.size ∧ w.cell? ⟨b, i, none⟩ = some (.string e.1)
  nc : ∀ i e, es[i]? = some e → ∃ b, nb = some b ∧ b < w.heap.size ∧ w.cell? ⟨b, i, none⟩ = some (.int .i64 e.2)
theorem RT.below {w w' : World} {a : Nat} {kb nb : Option Nat} {ck cn : Nat} {es : List E} (h : RT w a kb nb ck cn es) (z : Below w.heap.size w w') : RT w' a kb nb ck cn es where
  ha := Nat.lt_of_lt_of_le h.ha z.size
  key := (z.cell (p := ⟨a, 0, none⟩) h.ha).trans h.key
  num := (z.cell (p := ⟨a, 1, none⟩) h.ha).trans h.num
  kc := fun i e he => by
    obtain ⟨b, h1, h2, h3⟩ := h.kc i e he
    exact ⟨b, h1, Nat.lt_of_lt_of_le h2 z.size, (z.cell (p := ⟨b, i, none⟩) h2).trans h3⟩
  nc := fun i e he => by
    obtain ⟨b, h1, h2, h3⟩ := h.nc i e he
    exact ⟨b, h1, Nat.lt_of_lt_of_le h2 z.size, (z.cell (p := ⟨b, i, none⟩) h2).trans h3⟩
set_option maxRecDepth 8000 in
set_option maxHeartbeats 1000000 in
theorem spot_nil (a c : Nat) (key : ByteArray) (w : World) (hK : w.cell? ⟨a, 0, none⟩ = some (.slice none 0 c)) (ha : a < w.heap.size) :
    Calls Try.prog 49 #[.pointer (some ⟨a, 0, none⟩), .string key] w fun e w' => e = .returned (.tuple #[.int .i64 0, .bool false]) ∧ Hid (Below w.heap.size w w') := by
  have HK : Hid (∀ wr, Below w.heap.size w wr → wr.cell? ⟨a, 0, none⟩ = some (.slice none 0 c)) := fun wr z => (z.cell (p := ⟨a, 0, none⟩) ha).trans hK
  clear ha
  go_enter Try.func49, Try.ntmps49
  go_wp2
  go_quiet (fail)
  obtain ⟨w1, HW, Z1⟩ : ∃ w1, w.drewN nq = w1 ∧ Hid (Below w.heap.size w w1) := ⟨_, rfl, bel_drew (Below.refl _ _) nq⟩
  rw [HW]
  clear HW hK
  go_wp2
  go_loopw [6, 7, 8] (fun i j _ wr => i = .int .i64 0 ∧ j = .int .i64 0 ∧ Hid (Below w.heap.size w wr)) (fun i j _ _ => (intOf j).toNat - (intOf i).toNat)
  case atStart => exact ⟨rfl, rfl, Z1⟩
  case round =>
    obtain ⟨rfl, rfl, HZ⟩ := hrel
    clear Z1
    have hK := HK.out wr HZ.out
    go_wp2
    go_quiet (fail)
    go_wp2
    go_ret2
    exact ⟨rfl, bel_drew HZ.out _⟩
theorem rspot_any {a : Nat} {kb nb : Option Nat} {ck cn : Nat} {es : List E} (key : ByteArray) (w : World) (h : RT w a kb nb ck cn es) (hs : Srt (es.map (·.1))) (hn : es.length < 1000000000) (T : Bool) (hT : T = true ↔ key ∈ es.map (·.1)) :
    Calls Try.prog 49 #[.pointer (some ⟨a, 0, none⟩), .string key] w fun e w' => e = .returned (.tuple #[.int .i64 (lb (es.map (·.1)) key : Int), .bool T]) ∧ Hid (Below w.heap.size w w') := by
  cases kb with
  | none =>
    have he : es = [] := by
      cases es with
      | nil => rfl
      | cons e r => obtain ⟨b, q, _⟩ := h.kc 0 e rfl; cases q
    subst he
    obtain rfl : T = false := by simpa using hT
    exact spot_nil a ck key w h.key h.ha
  | some b =>
    have hl : (es.map (·.1)).length = es.length := by simp
    refine spot_any a b ck (es.map (·.1)) key w h.ha ?_ (by rw [hl]; exact h.key) ?_ hs (by rw [hl]; exact hn) T hT
    · cases es with
      | nil => exact .inl rfl
      | cons e r =>
        obtain ⟨b', q, q2, _⟩ := h.kc 0 e rfl
        injection q with q; subst q
        exact .inr q2
    · intro i t ht
      rw [List.getElem?_map] at ht
      obtain ⟨e, h1, rfl⟩ := Option.map_eq_some_iff.1 ht
      obtain ⟨b', q, _, q3⟩ := h.kc i e h1
      injection q with q; subst q
      exact q3
theorem rget_miss {a : Nat} {kb nb : Option Nat} {ck cn : Nat} {es : List E} (key : ByteArray) (w : World) (h : RT w a kb nb ck cn es) (hs : Srt (es.map (·.1))) (hn : es.length < 1000000000) (hm : key ∉ es.map (·.1)) :
    Calls Try.prog 31 #[.pointer (some ⟨a, 0, none⟩), .string key] w fun e w' => e = .returned (.tuple #[.int .i64 0, .bool false]) ∧ Hid (Below w.heap.size w w') := by
  have K := rspot_any key w h hs hn false ⟨fun q => (by cases q), fun q => absurd q hm⟩
  clear h hs hn hm
  go_enter Try.func31, Try.ntmps31
  go_wp2_with fail
  refine K.mono ?_
  clear K
  rintro e w1 ⟨rfl, H⟩
  go_wp2
  go_ret2
  exact ⟨rfl, H.out⟩
theorem rget_hit {a : Nat} {kb nb : Option Nat} {ck cn : Nat} {es : List E} (key : ByteArray) (w : World) (h : RT w a kb nb ck cn es) (hs : Srt (es.map (·.1))) (hn : es.length < 1000000000) (x : E) (hx : es[lb (es.map (·.1)) key]? = some x) (hk : x.1 = key) :
    Calls Try.prog 31 #[.pointer (some ⟨a, 0, none⟩), .string key] w fun e w' => e = .returned (.tuple #[.int .i64 x.2, .bool true]) ∧ Hid (Below w.heap.size w w') := by
  have K := rspot_any key w h hs hn true ⟨fun _ => List.mem_map.2 ⟨x, List.mem_of_getElem? hx, hk⟩, fun _ => rfl⟩
  have HT : Hid (∀ w', Below w.heap.size w w' → RT w' a kb nb ck cn es) := fun w' z => h.below z
  have hi : lb (es.map (·.1)) key < es.length := (List.getElem?_eq_some_iff.1 hx).1
  have HX : Hid (es[lb (es.map (·.1)) key]? = some x) := hx
  generalize lb (es.map (·.1)) key = i at *
  clear h hs hx hk
  go_enter Try.func31, Try.ntmps31
  go_wp2_with fail
  refine K.mono ?_
  clear K
  rintro e w1 ⟨rfl, H⟩
  obtain ⟨b, rfl, hb, hc⟩ := (HT.out w1 H.out).nc i x HX.out
  have hN : w1.cell? ⟨a, 1, none⟩ = some (.slice (some ⟨b, 0, none⟩) es.length cn) := (HT.out w1 H.out).num
  clear HT HX
  go_wp2
  go_ret2
  exact ⟨rfl, H.out⟩
#print axioms rspot_any
#print axioms rget_miss
#print axioms rget_hit
end Go.Proofs.Yteokjfpppmnebaa
