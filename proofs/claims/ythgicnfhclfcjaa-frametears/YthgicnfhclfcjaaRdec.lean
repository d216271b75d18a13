/-
  The contract of the document's own Decode.
-/
import Derived.Test.YthgicnfhclfcjaaDec
namespace Go.Proofs.Ythgicnfhclfcjaa
open Go.RowKit Math
set_option linter.unusedVariables false
theorem below_drew (w : World) (q : Nat) : Below w.heap.size w (w.drewN q) := ⟨rfl, rfl, rfl, Nat.le_refl _, fun _ _ => rfl⟩
theorem rsr_b (b off cap : Nat) (l : List Nat) (hn : l.length ≤ 1000000) (h4 : 4 ≤ l.length) (n : Nat) (hl : l.length = n) (w : World) (hc : Cells w b off l) (hb : Oct l) :
    Calls Try.prog 30 #[.slice (some ⟨b, off, none⟩) n cap] w fun e w' => e = .returned (.tuple #[.int .u32 ((num (l.take 4) : Nat) : Int), .int .i64 0]) ∧ Below w.heap.size w w' := by
  subst hl
  have h := rsr_any (some ⟨b, off, none⟩) cap l hn w (.inr ⟨b, off, rfl, hc⟩) hb
  rw [show rsh l = (num (l.take 4), 0) by unfold rsh; rw [if_neg (by omega)]] at h
  refine h.mono ?_
  rintro e w' ⟨rfl, q, rfl⟩
  exact ⟨rfl, below_drew w q⟩
set_option maxRecDepth 8000 in
set_option maxHeartbeats 2000000 in
theorem decr_long (b off : Nat) (cap : Nat) (l : List Nat) (hn : l.length ≤ 1000000) (hlc : l.length ≤ cap) (hcm : cap ≤ 9223372036854775807) (w : World) (hc : Cells w b off l) (hb : Oct l) (h8 : ¬ l.length < 8) :
    Calls Try.prog 16 #[.slice (some ⟨b, off, none⟩) l.length cap] w (DecA l w) := by
  have oA : Oct (l.take 4) := oct_take hb 4
  have lA : (l.take 4).length = 4 := by rw [List.length_take]; omega
  have H1 : Hid (∀ W, Cells W b off l → Calls Try.prog 30 #[.slice (some ⟨b, off, none⟩) l.length cap] W fun e w' => e = .returned (.tuple #[.int .u32 ((num (l.take 4) : Nat) : Int), .int .i64 0]) ∧ Below W.heap.size W w') :=
    fun W h => rsr_b b off cap l hn (by omega) l.length rfl W h hb
  have H2 : Hid (∀ W, Cells W b off l → Calls Try.prog 30 #[.slice (some ⟨b, off + 4, none⟩) (l.length - 4) (cap - 4)] W fun e w' => e = .returned (.tuple #[.int .u32 ((num ((l.drop 4).take 4) : Nat) : Int), .int .i64 0]) ∧ Below W.heap.size W w') :=
    fun W h => rsr_b b (off + 4) (cap - 4) (l.drop 4) (by simp; omega) (by simp; omega) (l.length - 4) (by simp) W (h.drop 4) (oct_drop hb 4)
  have H3 : Hid (∀ W, Cells W b off l → Calls Try.prog 26 #[.slice (some ⟨b, off, none⟩) 4 cap] W fun e w' => e = .returned (.int .u32 ((sm (l.take 4) : Nat) : Int)) ∧ w' = W) :=
    fun W h => sumr_n _ 4 cap (l.take 4) lA (by omega) W (.inr ⟨b, off, rfl, h.take 4⟩) oA
  have hA := num_lt4 lA oA
  have hc4 : ¬ cap = 4 := by omega
  have hc4' : (4 : Int) ≤ cap := by omega
  have hl4' : (4 : Int) ≤ l.length := by omega
  have hl8 : (8 : Int) ≤ l.length := by omega
  have HC : Hid (Cells w b off l) := hc
  by_cases h2 : num ((l.drop 4).take 4) = sm (l.take 4)
  case neg =>
    have HD : Hid (dec l = ([], 0, 4)) := dec_e2 h8 h2
    generalize num (l.take 4) = A at *
    generalize num ((l.drop 4).take 4) = B at *
    generalize sm (l.take 4) = S at *
    have hne : ((B : Int) != (S : Int)) = true := by simp; omega
    clear hc hb oA lA h2
    go_enter Try.func16, Try.ntmps16
    go_wp2_with fail
    refine (H1.out w HC.out).mono ?_
    rintro e w1 ⟨rfl, d1⟩
    have HC1 : Hid (Cells w1 b off l) := HC.out.below d1
    go_wp2_with fail
    refine (H2.out w1 HC1.out).mono ?_
    rintro e w2 ⟨rfl, d2⟩
    have HC2 : Hid (Cells w2 b off l) := HC1.out.below d2
    have b2 := d1.trans (d2.mono d1.size)
    go_wp2_with fail
    refine (H3.out w2 HC2.out).mono ?_
    rintro e wx ⟨rfl, hw⟩
    rw [hw]
    clear hw wx
    go_wp2
    go_ret3
    refine ⟨_, tri HD.out _ rfl rfl, ?_, b2⟩
    rw [HD.out]
    exact own_nil _ _
  have hS : Hid (sm (l.take 4) < 4294967296) := sm_lt _
  by_cases h3 : 524288 < num (l.take 4)
  · have HD : Hid (dec l = ([], 0, 5)) := dec_e3 h8 h2 h3
    generalize num (l.take 4) = A at *
    generalize num ((l.drop 4).take 4) = B at *
    generalize sm (l.take 4) = S at *
    have hne : ((B : Int) != (S : Int)) = false := by simp; omega
    clear hc hb oA lA h2
    go_enter Try.func16, Try.ntmps16
    go_wp2_with fail
    refine (H1.out w HC.out).mono ?_
    rintro e w1 ⟨rfl, d1⟩
    have HC1 : Hid (Cells w1 b off l) := HC.out.below d1
    go_wp2_with fail
    refine (H2.out w1 HC1.out).mono ?_
    rintro e w2 ⟨rfl, d2⟩
    have HC2 : Hid (Cells w2 b off l) := HC1.out.below d2
    have b2 := d1.trans (d2.mono d1.size)
    go_wp2_with fail
    refine (H3.out w2 HC2.out).mono ?_
    rintro e wx ⟨rfl, hw⟩
    rw [hw]
    clear hw wx
    go_wp2
    go_ret3
    refine ⟨_, tri HD.out _ rfl rfl, ?_, b2⟩
    rw [HD.out]
    exact own_nil _ _
  by_cases h4 : l.length < num (l.take 4) + 12
  · have HD : Hid (dec l = ([], 0, 2)) := dec_e4 h8 h2 h3 h4
    generalize num (l.take 4) = A at *
    generalize num ((l.drop 4).take 4) = B at *
    generalize sm (l.take 4) = S at *
    have hne : ((B : Int) != (S : Int)) = false := by simp; omega
    have h4' : (l.length : Int) < 8 + (A : Int) + 4 := by omega
    clear hc hb oA lA h2
    go_enter Try.func16, Try.ntmps16
    go_wp2_with fail
    refine (H1.out w HC.out).mono ?_
    rintro e w1 ⟨rfl, d1⟩
    have HC1 : Hid (Cells w1 b off l) := HC.out.below d1
    go_wp2_with fail
    refine (H2.out w1 HC1.out).mono ?_
    rintro e w2 ⟨rfl, d2⟩
    have HC2 : Hid (Cells w2 b off l) := HC1.out.below d2
    have b2 := d1.trans (d2.mono d1.size)
    go_wp2_with fail
    refine (H3.out w2 HC2.out).mono ?_
    rintro e wx ⟨rfl, hw⟩
    rw [hw]
    clear hw wx
    go_wp2
    go_ret3
    refine ⟨_, tri HD.out _ rfl rfl, ?_, b2⟩
    rw [HD.out]
    exact own_nil _ _
  have HD : Hid (dec l = if num ((l.drop (8 + num (l.take 4))).take 4) = sm (l.take (8 + num (l.take 4))) then ((l.drop 8).take (num (l.take 4)), num (l.take 4) + 12, 0) else ([], 0, 4)) := by
    show _ = _
    by_cases h6 : num ((l.drop (8 + num (l.take 4))).take 4) = sm (l.take (8 + num (l.take 4)))
    · rw [if_pos h6]; exact dec_ok h8 h2 h3 h4 h6
    · rw [if_neg h6]; exact dec_e5 h8 h2 h3 h4 h6
  generalize num (l.take 4) = N at *
  generalize num ((l.drop 4).take 4) = B at *
  generalize sm (l.take 4) = S at *
  have hne : ((B : Int) != (S : Int)) = false := by simp; omega
  have H4 : Hid (∀ W, Cells W b off l → Calls Try.prog 30 #[.slice (some ⟨b, off + (8 + N), none⟩) (l.length - (8 + N)) (cap - (8 + N))] W fun e w' => e = .returned (.tuple #[.int .u32 ((num ((l.drop (8 + N)).take 4) : Nat) : Int), .int .i64 0]) ∧ Below W.heap.size W w') :=
    fun W h => rsr_b b (off + (8 + N)) (cap - (8 + N)) (l.drop (8 + N)) (by simp; omega) (by simp; omega) (l.length - (8 + N)) (by simp) W (h.drop (8 + N)) (oct_drop hb _)
  have H5 : Hid (∀ W, Cells W b off l → Calls Try.prog 26 #[.slice (some ⟨b, off, none⟩) (8 + N) cap] W fun e w' => e = .returned (.int .u32 ((sm (l.take (8 + N)) : Nat) : Int)) ∧ w' = W) :=
    fun W h => sumr_n _ (8 + N) cap (l.take (8 + N)) (by simp; omega) (by simp; omega) W (.inr ⟨b, off, rfl, h.take (8 + N)⟩) (oct_take hb _)
  have hs := sm_lt (l.take (8 + N))
  have HP : Hid (∀ W, Cells W b off l → Byt W (some ⟨b, off + 8, none⟩) ((l.drop 8).take N)) := fun W h => .inr ⟨b, off + 8, rfl, (h.drop 8).take N⟩
  have hPl : ((l.drop 8).take N).length = N := by simp; omega
  generalize (l.drop 8).take N = P at HD HP hPl
  generalize num ((l.drop (8 + N)).take 4) = x at HD H4
  generalize sm (l.take (8 + N)) = s at HD H5 hs
  have hN8 : 8 + N ≤ l.length := by omega
  have hN8c : (8 : Int) + N ≤ cap := by omega
  have hc8 : ¬ cap = 8 := by omega
  have h4' : ¬ (l.length : Int) < 8 + (N : Int) + 4 := by omega
  clear hc hb oA lA h2
  by_cases hx : x = s
  · have hxs : ((x : Int) != (s : Int)) = false := by simp; omega
    have HD2 : Hid (dec l = (P, N + 12, 0)) := by show _ = _; rw [HD.out, if_pos hx]
    clear HD hx
    go_enter Try.func16, Try.ntmps16
    go_wp2_with fail
    refine (H1.out w HC.out).mono ?_
    rintro e w1 ⟨rfl, d1⟩
    have HC1 : Hid (Cells w1 b off l) := HC.out.below d1
    go_wp2_with fail
    refine (H2.out w1 HC1.out).mono ?_
    rintro e w2 ⟨rfl, d2⟩
    have HC2 : Hid (Cells w2 b off l) := HC1.out.below d2
    have b2 := d1.trans (d2.mono d1.size)
    go_wp2_with fail
    refine (H3.out w2 HC2.out).mono ?_
    rintro e wx ⟨rfl, hw⟩
    rw [hw]
    clear hw wx H1 H2 H3
    go_wp2_with (refine sl_from rfl 22 (.tmp 40) (.tmp 41) rfl 5 Try.underlying22 Try.sizeOf5 b off l.length cap (8 + N) rfl rfl hN8 hlc ?_)
    intro A hA _
    obtain rfl := hA (by omega)
    go_wp2_with fail
    refine (H4.out w2 HC2.out).mono ?_
    rintro e w3 ⟨rfl, d3⟩
    have HC3 : Hid (Cells w3 b off l) := HC2.out.below d3
    have b3 := b2.trans (d3.mono b2.size)
    go_wp2_with fail
    refine (H5.out w3 HC3.out).mono ?_
    rintro e wx ⟨rfl, hw⟩
    rw [hw]
    clear hw wx H4 H5
    have s3 := b3.size
    have oe : Hid (Own (w3.alloc (.cells #[] 5)) w.heap.size (.slice (some ⟨w3.heap.size, 0, none⟩) 0 0) []) := own_empty w3 _ s3
    have b3' : Below w.heap.size w (w3.alloc (.cells #[] 5)) := b3.alloc s3 _
    have HP3 : Hid (Byt (w3.alloc (.cells #[] 5)) (some ⟨b, off + 8, none⟩) P) := HP.out _ (HC3.out.below ((Below.refl _ _).alloc (Nat.le_refl _) _))
    clear HP HC HC1 HC2 HC3 d1 d2 d3 b2
    go_wp2_with (at_builtin; go_must (refine app_bytes rfl (.tmp 52) (.tmp 55) rfl w.heap.size _ [] rfl oe.out _ _ _ P (by omega) rfl HP3.out (by simp) (by simp; omega) (by simp; omega) ?_))
    intro v4 w4 o4 g4
    have b4 := below_app b3' b3'.size oe.out g4
    clear g4 b3' oe HP3 b3 s3
    obtain ⟨av, cv, rfl, _⟩ := o4.shape
    go_wp2
    go_ret3
    refine ⟨_, tri HD2.out _ (by omega) rfl, ?_, b4⟩
    rw [HD2.out]
    exact o4
  · have hxs : ((x : Int) != (s : Int)) = true := by simp; omega
    have HD2 : Hid (dec l = ([], 0, 4)) := by show _ = _; rw [HD.out, if_neg hx]
    clear HD hx HP
    go_enter Try.func16, Try.ntmps16
    go_wp2_with fail
    refine (H1.out w HC.out).mono ?_
    rintro e w1 ⟨rfl, d1⟩
    have HC1 : Hid (Cells w1 b off l) := HC.out.below d1
    go_wp2_with fail
    refine (H2.out w1 HC1.out).mono ?_
    rintro e w2 ⟨rfl, d2⟩
    have HC2 : Hid (Cells w2 b off l) := HC1.out.below d2
    have b2 := d1.trans (d2.mono d1.size)
    go_wp2_with fail
    refine (H3.out w2 HC2.out).mono ?_
    rintro e wx ⟨rfl, hw⟩
    rw [hw]
    clear hw wx H1 H2 H3
    go_wp2_with (refine sl_from rfl 22 (.tmp 40) (.tmp 41) rfl 5 Try.underlying22 Try.sizeOf5 b off l.length cap (8 + N) rfl rfl hN8 hlc ?_)
    intro A hA _
    obtain rfl := hA (by omega)
    go_wp2_with fail
    refine (H4.out w2 HC2.out).mono ?_
    rintro e w3 ⟨rfl, d3⟩
    have HC3 : Hid (Cells w3 b off l) := HC2.out.below d3
    have b3 := b2.trans (d3.mono b2.size)
    go_wp2_with fail
    refine (H5.out w3 HC3.out).mono ?_
    rintro e wx ⟨rfl, hw⟩
    rw [hw]
    clear hw wx H4 H5
    go_wp2
    go_ret3
    refine ⟨_, tri HD2.out _ rfl rfl, ?_, b3⟩
    rw [HD2.out]
    exact own_nil _ _
set_option maxHeartbeats 400000 in
theorem decr_any (a : Option Addr) (cap : Nat) (l : List Nat) (hn : l.length ≤ 1000000) (hlc : l.length ≤ cap) (hcm : cap ≤ 9223372036854775807) (w : World) (hc : Byt w a l) (hb : Oct l) :
    Calls Try.prog 16 #[.slice a l.length cap] w (DecA l w) := by
  by_cases h8 : l.length < 8
  · have HD : Hid (dec l = ([], 0, 2)) := dec_e1 h8
    clear hc hb
    go_enter Try.func16, Try.ntmps16
    go_wp2
    go_ret3
    refine ⟨_, tri HD.out _ rfl rfl, ?_, Below.refl _ _⟩
    rw [HD.out]
    exact own_nil _ _
  · rcases hc with rfl | ⟨b, off, rfl, hc⟩
    · simp at h8
    exact decr_long b off cap l hn hlc hcm w hc hb h8
#print axioms decr_any
end Go.Proofs.Ythgicnfhclfcjaa
