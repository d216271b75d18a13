/-
  The contract of frame.Decode.
-/
import Derived.Test.YthgicnfhclfcjaaHead
namespace Go.Proofs.Ythgicnfhclfcjaa
open Go.RowKit Math
set_option linter.unusedVariables false
theorem rh_bad {l : List Nat} (h : ¬ (rh l).2 = 0) : dec l = ([], 0, (rh l).2) ∧ (rh l).2 < 6 := by
  by_cases h1 : l.length < 8
  · have e : rh l = (0, 2) := by unfold rh; rw [if_pos h1]
    rw [e]; exact ⟨dec_e1 h1, by decide⟩
  by_cases h2 : num ((l.drop 4).take 4) = sm (l.take 4)
  case neg =>
    have e : rh l = (0, 4) := by unfold rh; rw [if_neg h1, if_pos h2]
    rw [e]; exact ⟨dec_e2 h1 h2, by decide⟩
  by_cases h3 : 524288 < num (l.take 4)
  · have e : rh l = (0, 5) := by unfold rh; rw [if_neg h1, if_neg (by simpa using h2), if_pos h3]
    rw [e]; exact ⟨dec_e3 h1 h2 h3, by decide⟩
  · have e : rh l = (num (l.take 4), 0) := by unfold rh; rw [if_neg h1, if_neg (by simpa using h2), if_neg h3]
    rw [e] at h; simp at h
theorem rh_good {l : List Nat} (h : (rh l).2 = 0) : ¬ l.length < 8 ∧ num ((l.drop 4).take 4) = sm (l.take 4) ∧ ¬ 524288 < num (l.take 4) ∧ rh l = (num (l.take 4), 0) := by
  by_cases h1 : l.length < 8
  · have e : rh l = (0, 2) := by unfold rh; rw [if_pos h1]
    rw [e] at h; simp at h
  by_cases h2 : num ((l.drop 4).take 4) = sm (l.take 4)
  case neg =>
    have e : rh l = (0, 4) := by unfold rh; rw [if_neg h1, if_pos h2]
    rw [e] at h; simp at h
  by_cases h3 : 524288 < num (l.take 4)
  · have e : rh l = (0, 5) := by unfold rh; rw [if_neg h1, if_neg (by simpa using h2), if_pos h3]
    rw [e] at h; simp at h
  · exact ⟨h1, h2, h3, by unfold rh; rw [if_neg h1, if_neg (by simpa using h2), if_neg h3]⟩
theorem tri {l : List Nat} {p : List Nat} {n e : Nat} (h : dec l = (p, n, e)) (v : Value) {x y : Int} (hx : x = n) (hy : y = e) : Ending.returned (.tuple #[v, .int .i64 x, .int .i64 y]) = Ending.returned (.tuple #[v, .int .i64 (dec l).2.1, .int .i64 (dec l).2.2]) := by
  rw [h, hx, hy]
theorem run_min {P : Program} (ats : Array TypeId) (ty : TypeId) (x y : Int) (W : World) : (Builtin.min_ ats ty #[.int .i64 x, .int .i64 y]).run P W = .ok (.int .i64 (if y < x then y else x)) W := by
  simp [Builtin.min_, Builtin.min2]
theorem Byt.take {w : World} {a : Option Addr} {l : List Nat} (h : Byt w a l) (k : Nat) : Byt w a (l.take k) := by
  rcases h with rfl | ⟨b, off, rfl, h⟩
  · left; simp
  · exact .inr ⟨b, off, rfl, h.take k⟩
/-- Decode's answer. -/
def DecA (l : List Nat) (w : World) (e : Ending) (w' : World) : Prop := ∃ v, e = .returned (.tuple #[v, .int .i64 (dec l).2.1, .int .i64 (dec l).2.2]) ∧ Own w' w.heap.size v (dec l).1 ∧ Below w.heap.size w w'
set_option maxRecDepth 8000 in
set_option maxHeartbeats 1000000 in
theorem dec_bad (a : Option Addr) (cap : Nat) (l : List Nat) (w : World) (HR : Hid (Calls Try.prog 27 #[.slice a l.length cap] w fun e w' => e = .returned (.tuple #[.int .i64 (rh l).1, .int .i64 (rh l).2]) ∧ Below w.heap.size w w')) (h : ¬ (rh l).2 = 0) (hn : l.length ≤ 1000000) :
    Calls Try.prog 15 #[.slice a l.length cap] w (DecA l w) := by
  obtain ⟨hd, h6⟩ := rh_bad h
  have HD : Hid _ := hd
  clear hd
  generalize (rh l).1 = x at *
  generalize (rh l).2 = y at *
  have hy : ((y : Int) != 0) = true := by simp; omega
  go_enter Try.func15, Try.ntmps15
  go_wp2_with fail
  refine HR.out.mono ?_
  rintro e w1 ⟨rfl, b1⟩
  clear HR
  go_wp2
  go_ret3
  refine ⟨_, tri HD.out _ rfl rfl, ?_, b1⟩
  rw [HD.out]
  exact own_nil _ _
set_option maxRecDepth 8000 in
set_option maxHeartbeats 1000000 in
theorem dec_short (b off : Nat) (cap : Nat) (l : List Nat) (w : World) (N : Nat) (HR : Hid (Calls Try.prog 27 #[.slice (some ⟨b, off, none⟩) l.length cap] w fun e w' => e = .returned (.tuple #[.int .i64 N, .int .i64 0]) ∧ Below w.heap.size w w')) (h3 : ¬ 524288 < N) (h4 : l.length < N + 12) (hn : l.length ≤ 1000000) (hlc : l.length ≤ cap)
    (hc : Cells w b off l) (hb : Oct l) (HD : Hid (dec l = ([], 0, 2))) : Calls Try.prog 15 #[.slice (some ⟨b, off, none⟩) l.length cap] w (DecA l w) := by
  have hmin := @run_min Try.prog
  obtain ⟨m, hm, hml, hm4⟩ : ∃ m : Nat, (if (l.length : Int) < 8 + (N : Int) then (l.length : Int) else 8 + (N : Int)) = (m : Int) ∧ m ≤ l.length ∧ l.length < m + 4 := by
    by_cases h : l.length < 8 + N
    · exact ⟨l.length, by rw [if_pos (by omega)], by omega, by omega⟩
    · exact ⟨8 + N, by rw [if_neg (by omega)]; omega, by omega, by omega⟩
  have HS : Hid (∀ A W, (m < l.length → A = some ⟨b, off + m, none⟩) → Cells W b off l → Calls Try.prog 28 #[.slice A (l.length - m) (cap - m)] W fun e w' => e = .returned (.tuple #[.int .u32 0, .int .i64 2]) ∧ w' = W) := fun A W hA hW => by
    have := rs_any A (cap - m) (l.drop m) (by simp; omega) (by simp; omega) W (by
      by_cases hlt : m < l.length
      · rw [hA hlt]; exact .inr ⟨b, off + m, rfl, hW.drop m⟩
      · left; exact List.eq_nil_of_length_eq_zero (by simp; omega)) (oct_drop hb m)
    rw [show rsh (l.drop m) = (0, 2) by unfold rsh; rw [if_pos (by simp; omega)], List.length_drop] at this
    exact this
  have HC : Hid (Cells w b off l) := hc
  clear hb hc h4 hm4
  have hm' := hm
  go_enter Try.func15, Try.ntmps15
  go_wp2_with fail
  refine HR.out.mono ?_
  rintro e w1 ⟨rfl, b1⟩
  clear HR
  have HC1 : Hid (Cells w1 b off l) := HC.out.below b1
  clear HC
  go_wp2_with (refine sl_from rfl 22 (.tmp 20) (.tmp 24) rfl 5 Try.underlying22 Try.sizeOf5 b off l.length cap m rfl rfl hml hlc ?_)
  intro A hA _
  have HA : Hid (m < l.length → A = some ⟨b, off + m, none⟩) := hA
  clear hA
  go_wp2_with fail
  refine (HS.out A w1 HA.out HC1.out).mono ?_
  rintro e wx ⟨rfl, hw⟩
  rw [hw]
  clear hw wx HS HC1
  go_wp2
  go_ret3
  refine ⟨_, tri HD.out _ rfl rfl, ?_, b1⟩
  rw [HD.out]
  exact own_nil _ _
set_option maxRecDepth 8000 in
set_option maxHeartbeats 1000000 in
theorem dec_rest (b off : Nat) (cap : Nat) (l : List Nat) (w : World) (N : Nat) (HR : Hid (Calls Try.prog 27 #[.slice (some ⟨b, off, none⟩) l.length cap] w fun e w' => e = .returned (.tuple #[.int .i64 N, .int .i64 0]) ∧ Below w.heap.size w w')) (h3 : ¬ 524288 < N) (h4 : ¬ l.length < N + 12) (hn : l.length ≤ 1000000) (hlc : l.length ≤ cap) (hcm : cap ≤ 9223372036854775807)
    (hc : Cells w b off l) (hb : Oct l) (HD : Hid (dec l = if num ((l.drop (8 + N)).take 4) = sm (l.take (8 + N)) then ((l.drop 8).take N, N + 12, 0) else ([], 0, 4))) : Calls Try.prog 15 #[.slice (some ⟨b, off, none⟩) l.length cap] w (DecA l w) := by
  have hmin := @run_min Try.prog
  have hm : (if (l.length : Int) < 8 + (N : Int) then (l.length : Int) else 8 + (N : Int)) = ((8 + N : Nat) : Int) := by rw [if_neg (by omega)]; omega
  have HS : Hid (∀ W, Cells W b off l → Calls Try.prog 28 #[.slice (some ⟨b, off + (8 + N), none⟩) (l.length - (8 + N)) (cap - (8 + N))] W fun e w' => e = .returned (.tuple #[.int .u32 ((num ((l.drop (8 + N)).take 4) : Nat) : Int), .int .i64 0]) ∧ w' = W) := fun W hW => by
    have := rs_any (some ⟨b, off + (8 + N), none⟩) (cap - (8 + N)) (l.drop (8 + N)) (by simp; omega) (by simp; omega) W (.inr ⟨b, off + (8 + N), rfl, hW.drop (8 + N)⟩) (oct_drop hb (8 + N))
    rw [show rsh (l.drop (8 + N)) = (num ((l.drop (8 + N)).take 4), 0) by unfold rsh; rw [if_neg (by simp; omega)], List.length_drop] at this
    exact this
  have HU : Hid (∀ W, Cells W b off l → Calls Try.prog 24 #[.slice (some ⟨b, off, none⟩) (8 + N) cap] W fun e w' => e = .returned (.int .u32 ((sm (l.take (8 + N)) : Nat) : Int)) ∧ w' = tabW W) := fun W hW =>
    sum_n _ (8 + N) cap (l.take (8 + N)) (by simp; omega) (by simp; omega) W (.inr ⟨b, off, rfl, hW.take (8 + N)⟩) (oct_take hb _)
  have HL : Hid (∀ W, Cells W b off l → Calls Try.prog 29 #[.slice (some ⟨b, off + 8, none⟩) N (cap - 8)] W fun e w' => ∃ v, e = .returned v ∧ Own w' W.heap.size v ((l.drop 8).take N) ∧ Below W.heap.size W w') := fun W hW => by
    have := bclone_any (some ⟨b, off + 8, none⟩) (cap - 8) ((l.drop 8).take N) W (.inr ⟨b, off + 8, rfl, (hW.drop 8).take N⟩) (fun e => by cases e) (by simp; omega)
    rw [show ((l.drop 8).take N).length = N by simp; omega] at this
    exact this
  have hs := sm_lt (l.take (8 + N))
  generalize (l.drop 8).take N = P at HD HL
  generalize num ((l.drop (8 + N)).take 4) = x at HD HS
  generalize sm (l.take (8 + N)) = s at HD HU hs
  have HC : Hid (Cells w b off l) := hc
  have hN8 : 8 + N ≤ l.length := by omega
  have hN8c : (8 : Int) + N ≤ cap := by omega
  have hc8 : ¬ cap = 8 := by omega
  clear hb hc
  by_cases hx : x = s
  · have hne : ((x : Int) != (s : Int)) = false := by simp; omega
    have HD2 : Hid (dec l = (P, N + 12, 0)) := by show _ = _; rw [HD.out, if_pos hx]
    clear HD hx
    go_enter Try.func15, Try.ntmps15
    go_wp2_with fail
    refine HR.out.mono ?_
    rintro e w1 ⟨rfl, b1⟩
    clear HR
    have HC1 : Hid (Cells w1 b off l) := HC.out.below b1
    clear HC
    go_wp2_with (refine sl_from rfl 22 (.tmp 20) (.tmp 24) rfl 5 Try.underlying22 Try.sizeOf5 b off l.length cap (8 + N) rfl rfl hN8 hlc ?_)
    intro A hA _
    obtain rfl := hA (by omega)
    go_wp2_with fail
    refine (HS.out w1 HC1.out).mono ?_
    rintro e wx ⟨rfl, hw⟩
    rw [hw]
    clear hw wx HS
    go_wp2_with fail
    refine (HU.out w1 HC1.out).mono ?_
    rintro e w2 ⟨rfl, rfl⟩
    clear HU
    have HC2 : Hid (Cells (tabW w1) b off l) := HC1.out.below (below_tab w1)
    have b2 := b1.trans ((below_tab w1).mono b1.size)
    clear HC1
    go_wp2_with fail
    refine (HL.out (tabW w1) HC2.out).mono ?_
    rintro e w3 ⟨v, rfl, o3, d3⟩
    clear HL
    have b3 := b2.trans (d3.mono b2.size)
    have o3' := own_mono o3 b2.size
    obtain ⟨av, cv, rfl, _⟩ := o3.shape
    clear o3 d3
    go_wp2
    go_ret3
    refine ⟨_, tri HD2.out _ (by omega) rfl, ?_, b3⟩
    rw [HD2.out]
    exact o3'
  · have hne : ((x : Int) != (s : Int)) = true := by simp; omega
    have HD2 : Hid (dec l = ([], 0, 4)) := by show _ = _; rw [HD.out, if_neg hx]
    clear HD hx HL
    go_enter Try.func15, Try.ntmps15
    go_wp2_with fail
    refine HR.out.mono ?_
    rintro e w1 ⟨rfl, b1⟩
    clear HR
    have HC1 : Hid (Cells w1 b off l) := HC.out.below b1
    clear HC
    go_wp2_with (refine sl_from rfl 22 (.tmp 20) (.tmp 24) rfl 5 Try.underlying22 Try.sizeOf5 b off l.length cap (8 + N) rfl rfl hN8 hlc ?_)
    intro A hA _
    obtain rfl := hA (by omega)
    go_wp2_with fail
    refine (HS.out w1 HC1.out).mono ?_
    rintro e wx ⟨rfl, hw⟩
    rw [hw]
    clear hw wx HS
    go_wp2_with fail
    refine (HU.out w1 HC1.out).mono ?_
    rintro e w2 ⟨rfl, rfl⟩
    clear HU
    have b2 := b1.trans ((below_tab w1).mono b1.size)
    clear HC1
    go_wp2
    go_ret3
    refine ⟨_, tri HD2.out _ rfl rfl, ?_, b2⟩
    rw [HD2.out]
    exact own_nil _ _
theorem dec_any (a : Option Addr) (cap : Nat) (l : List Nat) (hn : l.length ≤ 1000000) (hlc : l.length ≤ cap) (hcm : cap ≤ 9223372036854775807) (w : World) (hc : Byt w a l) (hb : Oct l) :
    Calls Try.prog 15 #[.slice a l.length cap] w (DecA l w) := by
  have HR : Calls Try.prog 27 #[.slice a l.length cap] w fun e w' => e = .returned (.tuple #[.int .i64 (rh l).1, .int .i64 (rh l).2]) ∧ Below w.heap.size w w' := rh_any a cap l hn hlc w hc hb
  by_cases h : (rh l).2 = 0
  case neg => exact dec_bad a cap l w HR h hn
  obtain ⟨h1, h2, h3, h5⟩ := rh_good h
  rcases hc with rfl | ⟨b, off, rfl, hc⟩
  · simp at h1
  rw [h5] at HR
  by_cases h4 : l.length < num (l.take 4) + 12
  · exact dec_short b off cap l w (num (l.take 4)) HR h3 h4 hn hlc hc hb (dec_e4 h1 h2 h3 h4)
  · refine dec_rest b off cap l w (num (l.take 4)) HR h3 h4 hn hlc hcm hc hb ?_
    show _ = _
    by_cases h6 : num ((l.drop (8 + num (l.take 4))).take 4) = sm (l.take (8 + num (l.take 4)))
    · rw [if_pos h6]; exact dec_ok h1 h2 h3 h4 h6
    · rw [if_neg h6]; exact dec_e5 h1 h2 h3 h4 h6
#print axioms dec_any
end Go.Proofs.Ythgicnfhclfcjaa
