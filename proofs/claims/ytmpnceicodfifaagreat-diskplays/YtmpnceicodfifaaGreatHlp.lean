/-
  The law package's helpers, for longer rows: same, roomy, stands, spoil.
-/
import Derived.Test.YtmpnceicodfifaaGreatCpy
namespace Go.Proofs.YtmpnceicodfifaaGreat
open Go.RowKit Go.Maps
set_option linter.unusedVariables false
theorem vals_set (l : List Nat) (i x : Nat) : vals (l.set i x) = (vals l).set i (.int .u8 (x : Int)) := by
  unfold vals
  rw [List.map_set]
theorem own_cells {W : World} {base g c n : Nat} {l : List Nat} (h : Own W base (.slice (some ⟨g, 0, none⟩) n c) l) (hl : 0 < l.length) : Cells W g 0 l := by
  obtain ⟨g', c', he, _, _, _, _, hc⟩ := h.form hl
  simp only [Value.slice.injEq, Option.some.injEq, Addr.mk.injEq, and_true] at he
  obtain ⟨rfl, _, _⟩ := he
  exact hc
theorem own_put {w : World} {base g c n : Nat} {l : List Nat} (hl : l.length = n) (h : Own w base (.slice (some ⟨g, 0, none⟩) n c) l) (j z : Nat) :
    Own (w.setCell ⟨g, j, none⟩ (.int .u8 (z : Int))) base (.slice (some ⟨g, 0, none⟩) n c) (l.set j z) := by
  subst hl
  have o2 := (World.ownsRow.stored h j (.int .u8 (z : Int))).1
  rw [← vals_set l _ z] at o2
  unfold Own
  rw [List.length_set]
  exact o2
set_option maxHeartbeats 400000 in
theorem same_big (a1 a2 : Option Addr) (c1 c2 : Nat) (l : List Nat) (hn : l.length ≤ 4294967296) (w : World) (h1 : Byt w a1 l) (h2 : Byt w a2 l) (hb : Oct l) :
    Calls Tryz.prog 16 #[.slice a1 l.length c1, .slice a2 l.length c2] w fun e w' => e = .returned (.bool true) ∧ ∃ q, w' = w.drewN q := by
  go_enter Tryz.func16, Tryz.ntmps16
  go_wp2
  go_loopw [5] (fun i wr => ∃ k q : Nat, k ≤ l.length ∧ i = .int .i64 k ∧ wr = w.drewN q) (fun i _ => l.length - (intOf i).toNat)
  case atStart => exact ⟨0, 0, by omega, rfl, rfl⟩
  case round =>
    obtain ⟨k, q, hk, rfl, rfl⟩ := hrel
    by_cases hlt : k < l.length
    · rcases h1 with rfl | ⟨b1, o1, rfl, h1⟩
      · simp at hlt
      rcases h2 with rfl | ⟨b2, o2, rfl, h2⟩
      · simp at hlt
      have hc1 := h1 k hlt
      have hc2 := h2 k hlt
      have hx := oct_get hb k
      generalize l.getD k 0 = x at hx hc1 hc2
      clear h1 h2 hb
      go_wp2
      go_quiet (fail)
      go_wp2
      go_roundw
      case rel => exact ⟨k + 1, _, by omega, by go_num, rfl⟩
      case measure => simp [intOf]; omega
    · go_wp2
      go_ret
      exact ⟨rfl, q, rfl⟩

set_option maxHeartbeats 400000 in
theorem roomy_o (a0 : Option Addr) (cap : Nat) (l : List Nat) (hn : l.length ≤ 100000) (w : World) (hc : Byt w a0 l) (hnil : a0 = none → cap = 0) :
    Calls Tryz.prog 26 #[.slice a0 l.length cap] w fun e w' => ∃ g c, e = .returned (.slice (some ⟨g, 0, none⟩) (l.length + 1) c) ∧ Hid (Own w' w.heap.size (.slice (some ⟨g, 0, none⟩) (l.length + 1) c) (l ++ [171]) ∧ Below w.heap.size w w' ∧ l.length + 1 ≤ c ∧ c ≤ 9223372036854775807) := by
  have b0 : Below w.heap.size w (w.alloc (.cells #[] 5)) := (Below.refl _ _).alloc (Nat.le_refl _) _
  have hc0 := hc.below b0
  have oe := own_empty w _ (Nat.le_refl _)
  clear hc
  go_enter Tryz.func26, Tryz.ntmps26
  go_wp2_with (at_builtin; go_must (refine app_bytes rfl (.tmp 3) (.tmp 4) rfl w.heap.size _ [] rfl oe a0 _ cap l rfl rfl hc0 hnil (by simp; omega) (by simp) ?_))
  intro v1 w1 o1 g1
  have b1 := below_app b0 (by simp) oe g1
  have s1 := b1.size
  clear g1 b0 oe hc0
  go_wp2_with (at_builtin; go_must (refine app_bytes rfl (.tmp 5) (.tmp 6) rfl w.heap.size _ l rfl (o1.alloc _) _ _ _ [171] rfl rfl (byt_lit w1 [171]) (by simp) (by simp; omega) (by simp; omega) ?_))
  intro v2 w2 o2 g2
  have b2 := below_app (b1.alloc s1 _) (by simp; omega) (o1.alloc _) g2
  have s2 := b2.size
  clear g2 b1 s1 o1
  go_wp2_with (at_builtin; go_must (refine app_bytes rfl (.tmp 7) (.tmp 8) rfl w.heap.size _ (l ++ [171]) rfl (o2.alloc _) _ _ _ [171] rfl rfl (byt_lit w2 [171]) (by simp) (by simp; omega) (by simp; omega) ?_))
  intro v3 w3 o3 g3
  have b3 := below_app (b2.alloc s2 _) (by simp; omega) (o2.alloc _) g3
  clear g3 b2 s2 o2
  obtain ⟨g, c, rfl, hg, _, hlc, hcm, hcell⟩ := o3.form (by simp)
  have hle : l.length + 1 ≤ c := by simp at hlc; omega
  have hle' : (l.length : Int) + 1 ≤ (c : Int) := by omega
  unfold maxLen at hcm
  have HC : Hid (Own w3 w.heap.size (.slice (some ⟨g, 0, none⟩) (l.length + 1) c) (l ++ [171])) := by
    have h1 := Own.cut (m := l.length + 1) o3 (by simp)
    have h2 : (l ++ [171, 171]).take (l.length + 1) = l ++ [171] := by rw [show l ++ [171, 171] = (l ++ [171]) ++ [171] by simp, List.take_append_of_le_length (by simp), List.take_of_length_le (by simp)]
    rw [h2] at h1
    exact h1
  clear hcell o3 hlc
  go_wp2
  go_ret
  exact ⟨g, c, rfl, HC.out, b3, hle, by omega⟩
set_option maxHeartbeats 400000 in
theorem stands_any (g c : Nat) (a0 : Option Addr) (cap : Nat) (l : List Nat) (hn : l.length ≤ 100000) (hb : Oct l) (w : World) (hlc : l.length + 1 ≤ c) (hg : Cells w g 0 (l ++ [171])) (hc : Byt w a0 l) :
    Calls Tryz.prog 28 #[.slice (some ⟨g, 0, none⟩) (l.length + 1) c, .slice a0 l.length cap] w fun e w' => e = .returned (.bool true) ∧ ∃ q, w' = w.drewN q := by
  have hl : (l.length : Int) ≤ (c : Int) := by omega
  have hat : w.cell? ⟨g, l.length, none⟩ = some (.int .u8 171) := by simpa using Cells.at hg
  have hgl := Cells.left hg
  clear hg
  go_enter Tryz.func28, Tryz.ntmps28
  go_wp2_with (go_at_call 16; go_must (refine (same_any _ _ _ _ l (by omega) _ (.inr ⟨g, 0, rfl, hgl⟩) hc hb).mono ?_; rintro e w' ⟨rfl, q, rfl⟩))
  go_ret
  exact ⟨rfl, q, rfl⟩
set_option maxHeartbeats 1000000 in
theorem spoil_any (v : Value) (l : List Nat) (base : Nat) (w : World) (h : Own w base v l) (hl : l.length ≤ 1073741900) (hbase : base ≤ w.heap.size) :
    Calls Tryz.prog 29 #[v] w fun e w' => e = .returned (.tuple #[]) ∧ Below base w w' := by
  have HO : Hid (Own (w.alloc (.cells #[.int .u8 99] 5)) base v l) := h.alloc _
  have HB : Hid (Below base w (w.alloc (.cells #[.int .u8 99] 5))) := (Below.refl _ _).alloc hbase _
  obtain ⟨a, c, rfl, _⟩ := h.shape
  clear h
  go_enter Tryz.func29, Tryz.ntmps29
  go_wp2_with (at_builtin; go_must (refine app_at rfl (.tmp 4) (.tmp 5) rfl base _ l rfl HO.out _ _ _ [99] rfl rfl (byt_lit w [99]) (by simp) (by simp; omega) (by simp; omega) ?_))
  intro v2 w2 o2 g2 _
  have b2 : Below base w w2 := below_app HB.out (by simp; omega) HO.out g2
  clear g2 HO HB
  obtain ⟨g, cap, rfl, hg, _, _, _, _⟩ := o2.form (by simp)
  have hlen : (l ++ [99]).length = l.length + 1 := by simp
  generalize l ++ [99] = m at *
  rw [hlen] at o2 ⊢
  have HI : Hid (Own w2 base (.slice (some ⟨g, 0, none⟩) (l.length + 1) cap) m ∧ Below base w w2 ∧ m.length = l.length + 1) := ⟨o2, b2, hlen⟩
  clear o2 b2 hlen
  go_wp2
  go_loopw [3] (fun i wr => ∃ k : Nat, k ≤ l.length + 1 ∧ i = .int .i64 k ∧ ∃ m, Hid (Own wr base (.slice (some ⟨g, 0, none⟩) (l.length + 1) cap) m ∧ Below base w wr ∧ m.length = l.length + 1)) (fun i _ => l.length + 1 - (intOf i).toNat)
  case atStart => exact ⟨0, by omega, rfl, m, HI.out⟩
  case round =>
    obtain ⟨k, hk, rfl, m, HJ⟩ := hrel
    clear HI
    by_cases hlt : k < l.length + 1
    · obtain ⟨o3, b3, h3⟩ := HJ.out
      have hfr : wr.frozen? ⟨g, k, none⟩ = false := World.ownsRow.frozenAt (by unfold Own at o3; rw [h3] at o3; exact o3) k
      have hce := own_cells o3 (by omega) k (by omega)
      rw [Nat.zero_add] at hce
      generalize m.getD k 0 = x at hce
      have o4 := own_put h3 o3 k 98
      have b4 := b3.setCell (p := ⟨g, k, none⟩) hg (.int .u8 98)
      have HK : Hid (Own (wr.setCell ⟨g, k, none⟩ (.int .u8 98)) base (.slice (some ⟨g, 0, none⟩) (l.length + 1) cap) (m.set k 98) ∧ Below base w (wr.setCell ⟨g, k, none⟩ (.int .u8 98)) ∧ (m.set k 98).length = l.length + 1) := ⟨o4, b4, by simpa using h3⟩
      clear o3 b3 o4 b4 HJ
      go_wp2
      go_roundw
      case rel => exact ⟨k + 1, by omega, by go_num, _, HK.out⟩
      case measure => simp [intOf]; omega
    · have HB := HJ.out.2.1
      clear HJ
      go_wp2
      go_end0
      exact ⟨rfl, HB⟩
end Go.Proofs.YtmpnceicodfifaaGreat
