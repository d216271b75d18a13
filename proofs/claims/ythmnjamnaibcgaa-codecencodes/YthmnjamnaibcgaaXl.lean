/-
  The law package's same, at any two rows, and known.
-/
import Derived.Test.YthmnjamnaibcgaaXk
import Derived.Test.YthmnjamnaibcgaaWh
import Derived.Test.YthmnjamnaibcgaaOsame
namespace Go.Proofs.Ythmnjamnaibcgaa
open Go.RowKit Go.ChangeShapes Go.WideShapes Math
set_option linter.unusedVariables false
set_option linter.unusedSimpArgs false
theorem below_drewN {B : Nat} {a w : World} (h : Below B a w) (q : Nat) : Below B a (w.drewN q) := ⟨h.os, h.tape, h.output, h.size, h.block⟩
set_option maxHeartbeats 400000 in
theorem same_two (a1 a2 : Option Addr) (c1 c2 : Nat) (l m : List Nat) (hn : l.length ≤ 1000000) (hm : m.length ≤ 1000000) (w : World) (h1 : Byt w a1 l) (h2 : Byt w a2 m) (hb : Oct l) (hb2 : Oct m) :
    Calls Try.prog 10 #[.slice a1 l.length c1, .slice a2 m.length c2] w fun e w' => ∃ t, e = .returned (.bool t) ∧ Hid ((t = true ↔ l = m) ∧ ∃ q, w' = w.drewN q) := by
  by_cases heq : l = m
  · subst heq
    exact (same_any a1 a2 c1 c2 l hn w h1 h2 hb).mono fun e w' ⟨h, k⟩ => ⟨true, h, by simp, k⟩
  have HNE : Hid (l ≠ m) := heq
  clear heq
  by_cases hl : l.length = m.length
  case neg =>
    have hlb : ((l.length : Int) != (m.length : Int)) = true := by simp; omega
    go_enter Try.func10, Try.ntmps10
    go_wp2
    go_ret
    exact ⟨false, rfl, by simp [HNE.out], 0, rfl⟩
  have hlb : ((l.length : Int) != (m.length : Int)) = false := by simp; omega
  go_enter Try.func10, Try.ntmps10
  go_wp2
  go_loopw [5] (fun i wr => ∃ k q : Nat, k ≤ l.length ∧ i = .int .i64 k ∧ wr = w.drewN q ∧ Hid (l.take k = m.take k)) (fun i _ => l.length - (intOf i).toNat)
  case atStart => exact ⟨0, 0, by omega, rfl, rfl, rfl⟩
  case round =>
    obtain ⟨k, q, hk, rfl, rfl, HT⟩ := hrel
    by_cases hlt : k < l.length
    · have hlt2 : k < m.length := by omega
      rcases h1 with rfl | ⟨b1, o1, rfl, h1⟩
      · simp at hlt
      rcases h2 with rfl | ⟨b2, o2, rfl, h2⟩
      · simp at hlt2
      have hc1 := h1 k hlt
      have hc2 := h2 k hlt2
      have hx := oct_get hb k
      have hy := oct_get hb2 k
      have HX : Hid (l.getD k 0 = m.getD k 0 → l.take (k + 1) = m.take (k + 1)) := fun h => by
        rw [List.take_add_one, List.take_add_one, HT.out, List.getElem?_eq_getElem hlt, List.getElem?_eq_getElem hlt2]
        rw [List.getD_eq_getElem?_getD, List.getD_eq_getElem?_getD, List.getElem?_eq_getElem hlt, List.getElem?_eq_getElem hlt2] at h
        simp only [Option.getD_some] at h
        rw [h]
      generalize l.getD k 0 = x at hx hc1 HX
      generalize m.getD k 0 = y at hy hc2 HX
      clear h1 h2 hb hb2
      by_cases hxy : x = y
      · have HX2 : Hid (l.take (k + 1) = m.take (k + 1)) := HX.out hxy
        clear HX
        subst hxy
        go_wp2
        go_quiet (fail)
        go_wp2
        go_roundw
        case rel =>
          exact ⟨k + 1, _, by omega, by go_num, rfl, HX2.out⟩
        case measure => simp [intOf]; omega
      · have hne : ((x : Int) != (y : Int)) = true := by simp; omega
        go_wp2
        go_quiet (fail)
        go_wp2
        go_ret
        exact ⟨false, rfl, by simp [HNE.out], _, World.drewN_drewN _ _ _⟩
    · exfalso
      refine HNE.out ?_
      have := HT.out
      rw [List.take_of_length_le (by omega), List.take_of_length_le (by omega)] at this
      exact this
theorem knE : encE (lf 3 (-1) 0 em) = 0 := by kernel_rfl
theorem knB : encB (lf 3 (-1) 0 em) = [3, 1] := by kernel_rfl
theorem knD : decE [6, 2, 97, 98] = 0 := by kernel_rfl
theorem knP : decP [6, 2, 97, 98] = lf 6 0 0 ⟨#[97, 98]⟩ := by kernel_rfl
theorem knV : ValL [6, 2, 97, 98] := fun w0 W r ab cb hE hb => val_six 15 1 (by decide) w0 W r ab cb _ 0 0 hE hb (by simp) (fun _ => .inl (by simp)) ⟨rfl, [2, 97, 98], rfl⟩
set_option maxRecDepth 8000 in
set_option maxHeartbeats 1000000 in
theorem known_any (W : World) : Calls Try.prog 12 #[] W fun e w' => e = .returned (.bool true) ∧ Hid (Below W.heap.size W w') := by
  have K1 := encode_any (lf 3 (-1) 0 em) (wf_lf 3 (-1) 0 em (by omega) (by omega) (by omega) (by decide)) (by decide) none 0 none 0 W (vl_lf W 3 (-1) 0 em).vl
  rw [knE, knB] at K1
  replace K1 : Calls Try.prog 6 #[.agg #[.int .i64 3, .int .i64 (-1), .int .i64 0, .string ⟨#[]⟩, .slice none 0 0, .slice none 0 0]] W fun e w' => ∃ v', e = .returned (.tuple #[v', .int .i64 0]) ∧ Hid (Own w' W.heap.size v' [3, 1] ∧ Below W.heap.size W w') := K1
  go_enter Try.func12, Try.ntmps12
  go_wp2_with fail
  refine K1.mono ?_
  clear K1
  rintro e w1 ⟨v1, rfl, H1⟩
  obtain ⟨a1, c1, rfl, hB1, hn1, hlc, hcm⟩ := H1.out.1.byt
  have HB1 : Hid (Byt w1 a1 [3, 1]) := hB1
  have HG1 : Hid (Below W.heap.size W w1) := H1.out.2
  clear H1 hB1 hn1
  obtain ⟨w2, HW2⟩ : ∃ w2, Hid (w1.alloc (.cells #[.int .u8 6, .int .u8 2, .int .u8 97, .int .u8 98] 5) = w2) := ⟨_, rfl⟩
  have HB2 : Hid (Byt w2 (some ⟨w1.heap.size, 0, none⟩) [6, 2, 97, 98]) := by rw [← HW2.out]; exact byt_lit w1 [6, 2, 97, 98]
  have G2 : Hid (Below w1.heap.size w1 w2) := by rw [← HW2.out]; exact (Below.refl _ _).alloc (Nat.le_refl _) _
  have K2 := decode_any [6, 2, 97, 98] knV (some ⟨w1.heap.size, 0, none⟩) 4 w2 HB2.out (by intro x hx; simp at hx; omega) (by simp) (by simp) (by omega) (by intro h; cases h)
  rw [knD, knP] at K2
  replace K2 : Calls Try.prog 20 #[.slice (some ⟨w1.heap.size, 0, none⟩) 4 4] w2 fun e w' => ∃ na nc ka kc, e = .returned (.tuple #[.agg #[.int .i64 6, .int .i64 0, .int .i64 0, .string ⟨#[97, 98]⟩, .slice na 0 nc, .slice ka 0 kc], .int .i64 0]) ∧ Hid (New1 w2 w' (lf 6 0 0 ⟨#[97, 98]⟩) na nc ka kc) := K2
  go_wp2_with fail
  generalize hWW : World.alloc w1 _ = W9
  obtain rfl : w2 = W9 := by rw [← hWW, ← HW2.out]
  clear hWW HW2
  refine K2.mono ?_
  clear K2 HB2
  rintro e w3 ⟨na, nc, ka, kc, rfl, H3⟩
  go_wp2_with (refine al_zero rfl 25 rfl zer z25 ?_)
  intro g3 w4 hg3 B3 gr3
  go_wp2_with (refine st_all rfl 25 (.tmp 3) (.tmp 13) rfl g3 25 zer [.int .i64 6, .int .i64 0, .int .i64 0, .string ⟨#[97, 98]⟩, .slice na 0 nc, .slice ka 0 kc] rfl rfl B3 rfl s25 (by simp [Value.oneCell']) ?_)
  intro w5 B5 gr5
  have G5 : Hid (Below w3.heap.size w3 w5) := below_new gr3 hg3 gr5
  have HG5 : Hid (Below W.heap.size W w5) := by
    have h2 := HG1.out.trans (G2.out.mono HG1.out.size)
    have h3 := h2.trans (H3.out.bl.mono h2.size)
    exact h3.trans (G5.out.mono h3.size)
  have HB15 : Hid (Byt w5 a1 [3, 1]) := ((HB1.out.below G2.out).below H3.out.bl).below G5.out
  have HB5 : Hid (Blk w5 g3 25 [.int .i64 6, .int .i64 0, .int .i64 0, .string ⟨#[97, 98]⟩, .slice na 0 nc, .slice ka 0 kc]) := B5
  clear B3 gr3 gr5 B5 G5 H3 HB1 G2 HG1
  obtain ⟨w6, HW6⟩ : ∃ w6, Hid (w5.alloc (.cells #[.int .u8 3, .int .u8 1] 5) = w6) := ⟨_, rfl⟩
  have G6 : Hid (Below w5.heap.size w5 w6) := by rw [← HW6.out]; exact (Below.refl _ _).alloc (Nat.le_refl _) _
  have K3 := same_any a1 (some ⟨w5.heap.size, 0, none⟩) c1 2 [3, 1] (by simp) w6 (HB15.out.below G6.out) (by rw [← HW6.out]; exact byt_lit w5 [3, 1]) (by intro x hx; simp at hx; omega)
  replace K3 : Calls Try.prog 10 #[.slice a1 2 c1, .slice (some ⟨w5.heap.size, 0, none⟩) 2 2] w6 fun e w' => e = .returned (.bool true) ∧ ∃ q, w' = w6.drewN q := K3
  go_wp2_with fail
  generalize hWW : World.alloc w5 _ = W9
  obtain rfl : w6 = W9 := by rw [← hWW, ← HW6.out]
  clear hWW HW6
  refine K3.mono ?_
  clear K3
  rintro e w7 ⟨rfl, q, hq⟩
  have G7 : Hid (Below w5.heap.size w5 w7) := by rw [hq]; exact below_drewN G6.out q
  have B7 : Blk w7 g3 25 [.int .i64 6, .int .i64 0, .int .i64 0, .string ⟨#[97, 98]⟩, .slice na 0 nc, .slice ka 0 kc] := HB5.out.below G7.out HB5.out.lt
  have c0 : w7.cell? ⟨g3, 0, none⟩ = some (.int .i64 6) := B7.cell 0
  have c3 : w7.cell? ⟨g3, 3, none⟩ = some (.string ⟨#[97, 98]⟩) := B7.cell 3
  have HG7 : Hid (Below W.heap.size W w7) := HG5.out.trans (G7.out.mono HG5.out.size)
  clear B7 hq
  go_wp2
  go_ret
  exact ⟨rfl, HG7.out⟩
end Go.Proofs.Ythmnjamnaibcgaa
