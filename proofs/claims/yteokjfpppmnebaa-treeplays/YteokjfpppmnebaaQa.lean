/-
  The order of texts; where a text belongs in a sorted row, and in a tree whose texts are sorted.
-/
import Derived.Test.YteokjfpppmnebaaPm
namespace Go.Proofs.Yteokjfpppmnebaa
open Go.RowKit
set_option linter.unusedVariables false
set_option linter.unusedSimpArgs false
def blt (a b : ByteArray) : Bool := Op.bytesLess a.toList b.toList
theorem bl_irr : ∀ l : List UInt8, Op.bytesLess l l = false
  | [] => by simp [Op.bytesLess]
  | x :: r => by simp [Op.bytesLess, UInt8.lt_irrefl, bl_irr r]
theorem bl_cons (x y : UInt8) (r q : List UInt8) : Op.bytesLess (x :: r) (y :: q) = true ↔ x < y ∨ (x = y ∧ Op.bytesLess r q = true) := by
  rw [Op.bytesLess]
  simp
theorem bl_trans : ∀ a b c : List UInt8, Op.bytesLess a b = true → Op.bytesLess b c = true → Op.bytesLess a c = true
  | [], [], _, h, _ => by simp [Op.bytesLess] at h
  | [], _ :: _, [], _, h => by simp [Op.bytesLess] at h
  | [], _ :: _, _ :: _, _, _ => by simp [Op.bytesLess]
  | _ :: _, [], _, h, _ => by simp [Op.bytesLess] at h
  | _ :: _, _ :: _, [], _, h => by simp [Op.bytesLess] at h
  | x :: r, y :: q, z :: s, h1, h2 => by
    rw [bl_cons] at h1 h2 ⊢
    rcases h1 with h1 | ⟨rfl, h1⟩
    · rcases h2 with h2 | ⟨rfl, h2⟩
      · exact .inl (UInt8.lt_trans h1 h2)
      · exact .inl h1
    · rcases h2 with h2 | ⟨rfl, h2⟩
      · exact .inl h2
      · exact .inr ⟨rfl, bl_trans r q s h1 h2⟩
theorem bl_tot : ∀ a b : List UInt8, Op.bytesLess a b = true ∨ a = b ∨ Op.bytesLess b a = true
  | [], [] => .inr (.inl rfl)
  | [], _ :: _ => .inl (by simp [Op.bytesLess])
  | _ :: _, [] => .inr (.inr (by simp [Op.bytesLess]))
  | x :: r, y :: q => by
    rw [bl_cons, bl_cons]
    by_cases h1 : x < y
    · exact .inl (.inl h1)
    · by_cases h2 : y < x
      · exact .inr (.inr (.inl h2))
      · have h3 : x = y := UInt8.le_antisymm (UInt8.not_lt.1 h2) (UInt8.not_lt.1 h1)
        subst h3
        rcases bl_tot r q with h | h | h
        · exact .inl (.inr ⟨rfl, h⟩)
        · exact .inr (.inl (by rw [h]))
        · exact .inr (.inr (.inr ⟨rfl, h⟩))
theorem ba_eq {a b : ByteArray} (h : a.toList = b.toList) : a = b := by
  rw [ByteArray.toList_eq, ByteArray.toList_eq] at h
  exact ByteArray.ext (Array.ext' h)
theorem blt_irr (a : ByteArray) : blt a a = false := bl_irr _
theorem blt_trans {a b c : ByteArray} (h : blt a b = true) (k : blt b c = true) : blt a c = true := bl_trans _ _ _ h k
theorem blt_tot (a b : ByteArray) : blt a b = true ∨ a = b ∨ blt b a = true := by
  rcases bl_tot a.toList b.toList with h | h | h
  · exact .inl h
  · exact .inr (.inl (ba_eq h))
  · exact .inr (.inr h)
theorem blt_asym {a b : ByteArray} (h : blt a b = true) : blt b a = false := by
  cases e : blt b a with
  | false => rfl
  | true => have := blt_trans h e; rw [blt_irr] at this; cases this
theorem tx_neg (a b : ByteArray) : tx a b < 0 ↔ blt a b = true := by
  unfold tx blt
  by_cases h : Op.bytesLess a.toList b.toList = true
  · simp [h]
  · rw [if_neg h]
    by_cases e : (a.toList == b.toList) = true
    · rw [if_pos e]; simp [h]
    · rw [if_neg e]; simp [h]
theorem tx_zero (a b : ByteArray) : tx a b = 0 ↔ a = b := by
  unfold tx
  by_cases h : Op.bytesLess a.toList b.toList = true
  · rw [if_pos h]
    constructor
    · intro q; cases q
    · rintro rfl; rw [bl_irr] at h; cases h
  · rw [if_neg h]
    by_cases e : (a.toList == b.toList) = true
    · rw [if_pos e]; exact ⟨fun _ => ba_eq (beq_iff_eq.1 e), fun _ => rfl⟩
    · rw [if_neg e]
      constructor
      · intro q; cases q
      · rintro rfl; exact absurd (beq_self_eq_true _) e
/-! ### rows -/
/-- Texts that rise. -/
def Srt (ks : List ByteArray) : Prop := ks.Pairwise (fun a b => blt a b = true)
/-- How many are below. -/
def lb (ks : List ByteArray) (k : ByteArray) : Nat := (ks.filter (fun a => blt a k)).length
theorem lb_le (ks : List ByteArray) (k : ByteArray) : lb ks k ≤ ks.length := List.length_filter_le _ _
theorem lb_none {ks : List ByteArray} {k : ByteArray} (h : ∀ a ∈ ks, blt a k = false) : lb ks k = 0 := by
  unfold lb
  rw [List.filter_eq_nil_iff.2 (fun a ha => by rw [h a ha]; decide)]
  rfl
theorem lb_app (a b : List ByteArray) (k : ByteArray) : lb (a ++ b) k = lb a k + lb b k := by unfold lb; rw [List.filter_append, List.length_append]
theorem lb_all {ks : List ByteArray} {k : ByteArray} (h : ∀ a ∈ ks, blt a k = true) : lb ks k = ks.length := by
  unfold lb
  rw [List.filter_eq_self.2 h]
theorem srt_lb : ∀ {ks : List ByteArray}, Srt ks → ∀ (k : ByteArray) (i : Nat) (a : ByteArray), ks[i]? = some a → (blt a k = true ↔ i < lb ks k)
  | [], _, _, i, a, h => by cases h
  | x :: r, hs, k, i, a, h => by
    unfold Srt at hs
    rw [List.pairwise_cons] at hs
    obtain ⟨h1, h2⟩ := hs
    cases hx : blt x k with
    | true =>
      have e : lb (x :: r) k = lb r k + 1 := by unfold lb; rw [List.filter_cons_of_pos (by rw [hx]), List.length_cons]
      rw [e]
      cases i with
      | zero =>
        simp only [List.getElem?_cons_zero, Option.some.injEq] at h
        subst h
        rw [hx]; simp
      | succ i =>
        rw [List.getElem?_cons_succ] at h
        rw [srt_lb h2 k i a h]; omega
    | false =>
      have hall : ∀ y ∈ x :: r, blt y k = false := fun y hy => by
        rcases List.mem_cons.1 hy with rfl | hy
        · exact hx
        · cases hyk : blt y k with
          | false => rfl
          | true => have := blt_trans (h1 y hy) hyk; rw [hx] at this; cases this
      rw [lb_none hall, hall a (List.mem_of_getElem? h)]
      simp
theorem bsL_spec (f : Nat → Bool) : ∀ (m i j : Nat), j - i ≤ m → i ≤ j → (∀ a b, i ≤ a → a ≤ b → b < j → f b = true → f a = true) → (∀ h, i ≤ h → h < bsL f m i j → f h = true) ∧ (∀ h, bsL f m i j ≤ h → h < j → f h = false)
  | 0, i, j, hm, hij, _ => ⟨fun h h1 h2 => by simp only [bsL] at h2; omega, fun h h1 h2 => by simp only [bsL] at h1; omega⟩
  | m + 1, i, j, hm, hij, hf => by
    unfold bsL
    by_cases hlt : i < j
    · rw [if_pos hlt]
      by_cases hmid : f ((i + j) / 2) = true
      · rw [if_pos hmid]
        obtain ⟨h1, h2⟩ := bsL_spec f m ((i + j) / 2 + 1) j (by omega) (by omega) (fun a b ha hab hb hfb => hf a b (by omega) hab hb hfb)
        refine ⟨fun h ha hb => ?_, h2⟩
        by_cases hle : h ≤ (i + j) / 2
        · exact hf h ((i + j) / 2) ha hle (by omega) hmid
        · exact h1 h (by omega) hb
      · rw [if_neg hmid]
        obtain ⟨h1, h2⟩ := bsL_spec f m i ((i + j) / 2) (by omega) (by omega) (fun a b ha hab hb hfb => hf a b ha hab (by omega) hfb)
        refine ⟨h1, fun h ha hb => ?_⟩
        by_cases hle : h < (i + j) / 2
        · exact h2 h ha hle
        · cases e : f h with
          | false => rfl
          | true => exact absurd (hf ((i + j) / 2) h (by omega) (by omega) hb e) hmid
    · rw [if_neg hlt]
      exact ⟨fun h h1 h2 => by omega, fun h h1 h2 => by omega⟩
/-- The search finds how many are below. -/
theorem sk_lb {ss : List Sl} (hs : Srt (ss.map (·.t))) (k : ByteArray) : sk ss k = lb (ss.map (·.t)) k := by
  have key : ∀ h, h < ss.length → (lessAt ss k h = true ↔ h < lb (ss.map (·.t)) k) := fun h hh => by
    have e : (ss.map (·.t))[h]? = some (ss.getD h z0).t := by
      rw [List.getElem?_map, List.getD_eq_getElem?_getD, List.getElem?_eq_getElem hh]
      rfl
    rw [← srt_lb hs k h _ e]
    unfold lessAt
    rw [decide_eq_true_eq, tx_neg]
  obtain ⟨h1, h2⟩ := bsL_spec (lessAt ss k) ss.length 0 ss.length (by omega) (by omega) (fun a b _ hab hb hfb => by
    rw [key a (by omega)]
    rw [key b hb] at hfb
    omega)
  have hle := sk_le ss k
  have hlb : lb (ss.map (·.t)) k ≤ ss.length := by have := lb_le (ss.map (·.t)) k; simpa using this
  unfold sk at hle ⊢
  generalize bsL (lessAt ss k) ss.length 0 ss.length = r at *
  rcases Nat.lt_trichotomy r (lb (ss.map (·.t)) k) with h | h | h
  · have := h2 r (Nat.le_refl _) (by omega)
    have h3 := (key r (by omega)).2 h
    rw [this] at h3; cases h3
  · exact h
  · have := h1 (lb (ss.map (·.t)) k) (Nat.zero_le _) h
    have h3 := (key _ (by omega)).1 this
    omega
#print axioms sk_lb
end Go.Proofs.Yteokjfpppmnebaa
