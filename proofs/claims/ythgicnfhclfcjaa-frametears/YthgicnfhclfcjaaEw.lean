/-
  The walks of FrameEncodes, FrameBack and FrameSees.
-/
import Derived.Test.YthgicnfhclfcjaaKnown
namespace Go.Proofs.Ythgicnfhclfcjaa
open Go.RowKit Math
set_option linter.unusedVariables false
theorem same_n (a1 a2 : Option Addr) (n c1 c2 : Nat) (l : List Nat) (hl : l.length = n) (hn : n ≤ 1000000) (W : World) (h1 : Byt W a1 l) (h2 : Byt W a2 l) (hb : Oct l) :
    Calls Try.prog 12 #[.slice a1 n c1, .slice a2 n c2] W fun e w' => e = .returned (.bool true) ∧ Below W.heap.size W w' := by
  subst hl
  refine (same_any a1 a2 c1 c2 l hn W h1 h2 hb).mono ?_
  rintro e w' ⟨rfl, q, rfl⟩
  exact ⟨rfl, ⟨rfl, rfl, rfl, Nat.le_refl _, fun _ _ => rfl⟩⟩
theorem stands_b (g c : Nat) (a0 : Option Addr) (cap : Nat) (l : List Nat) (hn : l.length ≤ 4000) (hb : Oct l) (w : World) (hlc : l.length + 1 ≤ c) (hg : Cells w g 0 (l ++ [171])) (hc : Byt w a0 l) :
    Calls Try.prog 13 #[.slice (some ⟨g, 0, none⟩) (l.length + 1) c, .slice a0 l.length cap] w fun e w' => e = .returned (.bool true) ∧ Below w.heap.size w w' := by
  refine (stands_any g c a0 cap l hn hb w hlc hg hc).mono ?_
  rintro e w' ⟨rfl, q, rfl⟩
  exact ⟨rfl, ⟨rfl, rfl, rfl, Nat.le_refl _, fun _ _ => rfl⟩⟩
set_option maxHeartbeats 1000000 in
theorem encodes_walk (a0 : Option Addr) (cap : Nat) (l : List Nat) (w : World) (hc : Byt w a0 l) (hb : Oct l) (hnil : a0 = none → cap = 0) (hmax : l.length ≤ 140737488351232) :
    Calls Try.prog 3 #[.slice a0 l.length cap] w fun e w' => e = .returned (.bool true) ∧ Below w.heap.size w w' := by
  by_cases hbig : 4000 < l.length
  · clear hc hb
    go_enter Try.func3, Try.ntmps3
    go_wp2
    go_ret
    exact ⟨rfl, Below.refl _ _⟩
  have hn : l.length ≤ 4000 := by omega
  have HR : Hid (Calls Try.prog 9 #[.slice a0 l.length cap] w fun e w' => ∃ g c, e = .returned (.slice (some ⟨g, 0, none⟩) (l.length + 1) c) ∧ w.heap.size ≤ g ∧ l.length + 1 ≤ c ∧ Cells w' g 0 (l ++ [171]) ∧ Below w.heap.size w w') := roomy_any a0 cap l hn w hc hnil
  have HE : Hid (∀ g c W, Cells W g 0 (l ++ [171]) → Calls Try.prog 10 #[.slice (some ⟨g, 0, none⟩) l.length c] W fun e w' => ∃ g c, e = .returned (.tuple #[.slice (some ⟨g, 0, none⟩) (l.length + 12) c, .int .i64 0]) ∧ Own w' W.heap.size (.slice (some ⟨g, 0, none⟩) (l.length + 12) c) (rcd l) ∧ Below W.heap.size W w') :=
    fun g c W h => enc_any (some ⟨g, 0, none⟩) c l (by omega) W (.inr ⟨g, 0, rfl, h.left⟩) hb (fun e => by cases e)
  have HF : Hid (∀ W, Byt W a0 l → Calls Try.prog 11 #[.slice a0 l.length cap] W fun e w' => ∃ g c, e = .returned (.tuple #[.slice (some ⟨g, 0, none⟩) (l.length + 12) c, .int .i64 0]) ∧ Own w' W.heap.size (.slice (some ⟨g, 0, none⟩) (l.length + 12) c) (rcd l) ∧ Below W.heap.size W w') :=
    fun W h => encr_any a0 cap l (by omega) W h hb hnil
  have HS : Hid (∀ a1 a2 c1 c2 W, Byt W a1 (rcd l) → Byt W a2 (rcd l) → Calls Try.prog 12 #[.slice a1 (l.length + 12) c1, .slice a2 (l.length + 12) c2] W fun e w' => e = .returned (.bool true) ∧ Below W.heap.size W w') :=
    fun a1 a2 c1 c2 W h1 h2 => same_n a1 a2 (l.length + 12) c1 c2 (rcd l) (rcd_length l) (by omega) W h1 h2 (rcd_oct hb)
  have HT : Hid (∀ g c W, l.length + 1 ≤ c → Cells W g 0 (l ++ [171]) → Byt W a0 l → Calls Try.prog 13 #[.slice (some ⟨g, 0, none⟩) (l.length + 1) c, .slice a0 l.length cap] W fun e w' => e = .returned (.bool true) ∧ Below W.heap.size W w') :=
    fun g c W h1 h2 h3 => stands_b g c a0 cap l hn hb W h1 h2 h3
  have HC : Hid (Byt w a0 l) := hc
  have hrl : 0 < (rcd l).length := by rw [rcd_length]; omega
  generalize rcd l = R at *
  clear hc hb hmax hbig
  go_enter Try.func3, Try.ntmps3
  go_wp2_with fail
  refine HR.out.mono ?_
  rintro e w1 ⟨g, c, rfl, hg, hgc, hcell, b1⟩
  clear HR
  have hgc' : (l.length : Int) ≤ (c : Int) := by omega
  go_wp2_with fail
  refine (HE.out g c w1 hcell).mono ?_
  rintro e w2 ⟨g2, c2, rfl, o2, d2⟩
  clear HE
  have b2 := b1.trans (d2.mono b1.size)
  have hcell := hcell.below d2
  have x2 := own_cells o2 hrl
  clear o2 d2
  go_wp2_with fail
  refine (HF.out w2 (HC.out.below b2)).mono ?_
  rintro e w3 ⟨g3, c3, rfl, o3, d3⟩
  clear HF
  have b3 := b2.trans (d3.mono b2.size)
  have hcell := hcell.below d3
  have x2 := x2.below d3
  have x3 := own_cells o3 hrl
  clear o3 d3
  go_wp2_with fail
  refine (HS.out _ _ _ _ w3 (.inr ⟨_, _, rfl, x2⟩) (.inr ⟨_, _, rfl, x3⟩)).mono ?_
  rintro e w4 ⟨rfl, d4⟩
  clear HS x2 x3
  have b4 := b3.trans (d4.mono b3.size)
  have hcell := hcell.below d4
  go_wp2_with fail
  refine (HT.out g c w4 hgc hcell (HC.out.below b4)).mono ?_
  rintro e w5 ⟨rfl, d5⟩
  clear HT
  have b5 := b4.trans (d5.mono b4.size)
  go_wp2_with fail
  refine (known_any w5).mono ?_
  rintro e w6 ⟨rfl, d6⟩
  go_wp2
  go_ret
  exact ⟨rfl, b5.trans (d6.mono b5.size)⟩
set_option maxHeartbeats 1000000 in
theorem back_walk (a0 a1 : Option Addr) (cap cap1 : Nat) (l m : List Nat) (w : World) (hc : Byt w a0 l) (hb : Oct l) (hnil : a0 = none → cap = 0) (hmax : l.length ≤ 140737488351232) (hc1 : Byt w a1 m) (hb1 : Oct m) (hnil1 : a1 = none → cap1 = 0) (hmax1 : m.length ≤ 140737488351232) :
    Calls Try.prog 5 #[.slice a0 l.length cap, .slice a1 m.length cap1] w fun e w' => e = .returned (.bool true) ∧ Below w.heap.size w w' := by
  by_cases hbig : (4000 : Int) < (l.length : Int) + (m.length : Int)
  · clear hc hb hc1 hb1
    go_enter Try.func5, Try.ntmps5
    go_wp2
    go_ret
    exact ⟨rfl, Below.refl _ _⟩
  have HE : Hid (Calls Try.prog 10 #[.slice a0 l.length cap] w fun e w' => ∃ g c, e = .returned (.tuple #[.slice (some ⟨g, 0, none⟩) (l.length + 12) c, .int .i64 0]) ∧ Own w' w.heap.size (.slice (some ⟨g, 0, none⟩) (l.length + 12) c) (rcd l) ∧ Below w.heap.size w w') :=
    enc_any a0 cap l (by omega) w hc hb hnil
  have HS : Hid (∀ a2 c2 W, Byt W a2 l → Byt W a0 l → Calls Try.prog 12 #[.slice a2 l.length c2, .slice a0 l.length cap] W fun e w' => e = .returned (.bool true) ∧ Below W.heap.size W w') :=
    fun a2 c2 W h1 h2 => same_n a2 a0 l.length c2 cap l rfl (by omega) W h1 h2 hb
  have HD : Hid (dec (rcd l ++ m) = (l, l.length + 12, 0)) := dec_rcd l m (by omega)
  have HO : Hid (Oct (rcd l ++ m)) := oct_app (rcd_oct hb) hb1
  have hrl : (rcd l).length = l.length + 12 := rcd_length l
  generalize rcd l = R at *
  have HC : Hid (Byt w a0 l) := hc
  have HC1 : Hid (Byt w a1 m) := hc1
  have HN : Hid ((R ++ m).length ≤ 1000000) := by show _ ≤ _; simp; omega
  have hsum : (l.length : Int) + (m.length : Int) ≤ 4000 := by omega
  clear hc hc1 hb hb1 hbig
  go_enter Try.func5, Try.ntmps5
  go_wp2_with fail
  refine HE.out.mono ?_
  rintro e w1 ⟨g, c, rfl, o1, b1⟩
  clear HE
  have s1 := b1.size
  have x1 : Hid (Byt (w1.alloc (.cells #[] 5)) (some ⟨g, 0, none⟩) R) := .inr ⟨g, 0, rfl, (own_cells o1 (by omega)).below ((Below.refl _ _).alloc (Nat.le_refl _) _)⟩
  have oe : Hid (Own (w1.alloc (.cells #[] 5)) w.heap.size (.slice (some ⟨w1.heap.size, 0, none⟩) 0 0) []) := own_empty w1 _ s1
  have b1' : Below w.heap.size w (w1.alloc (.cells #[] 5)) := b1.alloc s1 _
  clear o1 b1
  go_wp2_with (at_builtin; go_must (refine app_bytes rfl (.tmp 25) (.tmp 26) rfl w.heap.size _ [] rfl oe.out _ _ _ R hrl.symm rfl x1.out (by simp) (by simp; omega) (by simp; omega) ?_))
  intro v2 w2 o2 g2
  have b2 := below_app b1' b1'.size oe.out g2
  have s2 := b2.size
  have HC2 : Hid (Byt w2 a1 m) := HC1.out.below b2
  clear g2 b1' oe x1 HC1
  go_wp2_with (at_builtin; go_must (refine app_bytes rfl (.tmp 27) (.tmp 28) rfl w.heap.size _ R rfl o2 a1 _ cap1 m rfl rfl HC2.out hnil1 (by omega) s2 ?_))
  intro v3 w3 o3 g3
  have b3 := below_app b2 s2 o2 g3
  clear g3 b2 s2 o2 HC2
  go_wp2_with fail
  refine (dec_v o3 HN.out HO.out).mono ?_
  rintro e w4 ⟨v4, rfl, o4, d4⟩
  have b4 := b3.trans (d4.mono b3.size)
  rw [HD.out] at o4 ⊢
  obtain ⟨a4, c4, rfl, _, _, _, y4, _⟩ := o4.shape
  clear o3 d4 o4
  go_wp2_with fail
  refine (HS.out a4 c4 w4 y4 (HC.out.below b4)).mono ?_
  rintro e w5 ⟨rfl, d5⟩
  clear HS
  have b5 := b4.trans (d5.mono b4.size)
  go_wp2_with fail
  refine (known_any w5).mono ?_
  rintro e w6 ⟨rfl, d6⟩
  go_wp2
  go_ret
  exact ⟨rfl, b5.trans (d6.mono b5.size)⟩
end Go.Proofs.Ythgicnfhclfcjaa
