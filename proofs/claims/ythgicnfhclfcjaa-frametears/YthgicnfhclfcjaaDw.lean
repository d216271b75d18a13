/-
  The walk of FrameDecodes.
-/
import Derived.Test.YthgicnfhclfcjaaRscan
import Derived.Test.YthgicnfhclfcjaaEw
namespace Go.Proofs.Ythgicnfhclfcjaa
open Go.RowKit Math
set_option linter.unusedVariables false
theorem Rws.len {w : World} {a : Option Addr} {rs : List Rw} {ls : List (List Nat)} (e : rs.map (·.2.2) = ls) (m : Nat) (h : ∀ l ∈ ls, l.length ≤ m) : ∀ r ∈ rs, r.2.2.length ≤ m := fun r hr => h _ (by rw [← e]; exact List.mem_map.2 ⟨r, hr, rfl⟩)
theorem scan_len (l : List Nat) : (scan l).1.length ≤ l.length ∧ ∀ p ∈ (scan l).1, p.length ≤ l.length := by
  generalize hn : l.length = n
  induction n using Nat.strongRecOn generalizing l with
  | _ n ih =>
    by_cases h0 : l.length = 0
    · rw [scan_nil h0]; simp
    by_cases hd : (dec l).2.2 = 0
    · have hp := dec_pos hd
      have := ih (l.drop (dec l).2.1).length (by rw [List.length_drop]; omega) (l.drop (dec l).2.1) rfl
      rw [List.length_drop] at this
      rw [scan_ok h0 hd]
      refine ⟨by simp; omega, fun p hp' => ?_⟩
      rcases List.mem_cons.1 hp' with rfl | h
      · have := dec_len l; omega
      · have := this.2 p h; omega
    · rw [scan_err h0 hd]; simp
theorem dec_nat (l : List Nat) : (dec l).2.1 ≤ l.length ∧ (dec l).2.2 < 6 := by
  rcases dec_cases l with ⟨e, he, h2⟩ | ⟨n, h1, _, he⟩
  · rw [he]; simp; omega
  · rw [he]; simp; omega
theorem below_drewq {w w' : World} (h : ∃ q, w' = w.drewN q) : Below w.heap.size w w' := by
  obtain ⟨q, rfl⟩ := h
  exact below_drew w q
set_option maxHeartbeats 400000 in
theorem roomy_c (a0 : Option Addr) (cap : Nat) (l : List Nat) (hn : l.length ≤ 4000) (w : World) (hc : Byt w a0 l) (hnil : a0 = none → cap = 0) :
    Calls Try.prog 9 #[.slice a0 l.length cap] w fun e w' => ∃ g c, e = .returned (.slice (some ⟨g, 0, none⟩) (l.length + 1) c) ∧ w.heap.size ≤ g ∧ l.length + 1 ≤ c ∧ c ≤ 9223372036854775807 ∧ Cells w' g 0 (l ++ [171]) ∧ Below w.heap.size w w' := by
  have b0 : Below w.heap.size w (w.alloc (.cells #[] 5)) := (Below.refl _ _).alloc (Nat.le_refl _) _
  have hc0 := hc.below b0
  have oe := own_empty w _ (Nat.le_refl _)
  clear hc
  go_enter Try.func9, Try.ntmps9
  go_wp2_with (at_builtin; go_must (refine app_bytes rfl (.tmp 3) (.tmp 4) rfl w.heap.size _ [] rfl oe a0 _ cap l rfl rfl hc0 hnil (by simp; omega) (by simp) ?_))
  intro v1 w1 o1 g1
  have b1 := below_app b0 (by simp) oe g1
  have s1 := b1.size
  clear g1 b0 oe hc0
  go_wp2_with (at_builtin; go_must (refine app_bytes rfl (.tmp 5) (.tmp 6) rfl w.heap.size _ l rfl (o1.alloc _) _ _ _ [171] rfl rfl (byt_lit w1 [171]) (by simp) (by simp; omega) (by simp; omega) ?_))
  intro v2 w2 o2 g2
  have b2 := below_app (b1.alloc s1 _) (by simp; omega) (o1.alloc _) g2
  have s2 := b2.size
  clear g2 b1 s1 o1
  go_wp2_with (at_builtin; go_must (refine app_bytes rfl (.tmp 7) (.tmp 8) rfl w.heap.size _ (l ++ [171]) rfl (o2.alloc _) _ _ _ [171] rfl rfl (byt_lit w2 [171]) (by simp) (by simp; omega) (by simp; omega) ?_))
  intro v3 w3 o3 g3
  have b3 := below_app (b2.alloc s2 _) (by simp; omega) (o2.alloc _) g3
  clear g3 b2 s2 o2
  obtain ⟨g, c, rfl, hg, _, hlc, hcm, hcell⟩ := o3.form (by simp)
  have hle : l.length + 1 ≤ c := by simp at hlc; omega
  have hle' : (l.length : Int) + 1 ≤ (c : Int) := by omega
  unfold maxLen at hcm
  have HC : Hid (Cells w3 g 0 (l ++ [171])) := Cells.left (m := [171]) (by simpa using hcell)
  clear hcell o3 hlc
  go_wp2
  go_ret
  exact ⟨g, c, rfl, hg, hle, by omega, HC.out, b3⟩
set_option maxHeartbeats 2000000 in
theorem decodes_walk (a0 : Option Addr) (cap : Nat) (l : List Nat) (w : World) (hc : Byt w a0 l) (hb : Oct l) (hnil : a0 = none → cap = 0) (hlc : l.length ≤ cap) (hmax : cap ≤ 140737488351232) :
    Calls Try.prog 4 #[.slice a0 l.length cap] w fun e w' => e = .returned (.bool true) ∧ Below w.heap.size w w' := by
  by_cases hbig : 4000 < l.length
  · clear hc hb
    go_enter Try.func4, Try.ntmps4
    go_wp2
    go_ret
    exact ⟨rfl, Below.refl _ _⟩
  have hn : l.length ≤ 4000 := by omega
  have HR : Hid (Calls Try.prog 9 #[.slice a0 l.length cap] w fun e w' => ∃ g c, e = .returned (.slice (some ⟨g, 0, none⟩) (l.length + 1) c) ∧ w.heap.size ≤ g ∧ l.length + 1 ≤ c ∧ c ≤ 9223372036854775807 ∧ Cells w' g 0 (l ++ [171]) ∧ Below w.heap.size w w') := roomy_c a0 cap l hn w hc hnil
  have H1 : Hid (∀ g c W, l.length + 1 ≤ c → c ≤ 9223372036854775807 → Cells W g 0 (l ++ [171]) → Calls Try.prog 15 #[.slice (some ⟨g, 0, none⟩) l.length c] W (DecA l W)) :=
    fun g c W h1 h2 h => dec_any (some ⟨g, 0, none⟩) c l (by omega) (by omega) h2 W (.inr ⟨g, 0, rfl, h.left⟩) hb
  have H2 : Hid (∀ W, Byt W a0 l → Calls Try.prog 16 #[.slice a0 l.length cap] W (DecA l W)) :=
    fun W h => decr_any a0 cap l (by omega) hlc (by omega) W h hb
  have H3 : Hid (∀ g c W, l.length + 1 ≤ c → c ≤ 9223372036854775807 → Cells W g 0 (l ++ [171]) → Calls Try.prog 17 #[.slice (some ⟨g, 0, none⟩) l.length c] W (ScanA l W)) :=
    fun g c W h1 h2 h => scan_any (some ⟨g, 0, none⟩) c l (by omega) (by omega) h2 W (.inr ⟨g, 0, rfl, h.left⟩) hb
  have H4 : Hid (∀ W, Byt W a0 l → Calls Try.prog 18 #[.slice a0 l.length cap] W (ScanA l W)) :=
    fun W h => scanr_any a0 cap l (by omega) hlc (by omega) W h hb
  have hdl := dec_len l
  have H5 : Hid (∀ a1 a2 c1 c2 W, Byt W a1 (dec l).1 → Byt W a2 (dec l).1 → Calls Try.prog 12 #[.slice a1 (dec l).1.length c1, .slice a2 (dec l).1.length c2] W fun e w' => e = .returned (.bool true) ∧ Below W.heap.size W w') :=
    fun a1 a2 c1 c2 W h1 h2 => same_n a1 a2 _ c1 c2 (dec l).1 rfl (by omega) W h1 h2 (dec_oct hb)
  have HT : Hid (∀ g c W, l.length + 1 ≤ c → Cells W g 0 (l ++ [171]) → Byt W a0 l → Calls Try.prog 13 #[.slice (some ⟨g, 0, none⟩) (l.length + 1) c, .slice a0 l.length cap] W fun e w' => e = .returned (.bool true) ∧ Below W.heap.size W w') :=
    fun g c W h1 h2 h3 => stands_b g c a0 cap l hn hb W h1 h2 h3
  obtain ⟨hsl, hsp⟩ := scan_len l
  have H6 : Hid (∀ (rs rt : List Rw) (a1 a2 : Option Addr) (c1 c2 : Nat) (W : World), rs.map (·.2.2) = (scan l).1 → rt.map (·.2.2) = (scan l).1 → Rws W a1 rs → Rws W a2 rt → Calls Try.prog 19 #[.slice a1 rs.length c1, .slice a2 rt.length c2] W fun e w' => e = .returned (.bool true) ∧ Below W.heap.size W w') :=
    fun rs rt a1 a2 c1 c2 W e1 e2 h1 h2 => by
      have hl1 : rs.length = (scan l).1.length := by rw [← e1]; simp
      have hl2 : rt.length = rs.length := by rw [hl1, ← e2]; simp
      rw [hl2]
      refine (rows_any a1 a2 c1 c2 rs rt (by rw [e1, e2]) (fun r hr => ?_) rs.length rfl (by omega) W h1 h2).mono ?_
      · have := hsp r.2.2 (by rw [← e1]; exact List.mem_map.2 ⟨r, hr, rfl⟩)
        omega
      · rintro e w' ⟨rfl, hq⟩
        exact ⟨rfl, below_drewq hq⟩
  have HC : Hid (Byt w a0 l) := hc
  obtain ⟨hdn, hde⟩ := dec_nat l
  unfold DecA at H1 H2
  unfold ScanA at H3 H4
  generalize dec l = D at *
  obtain ⟨p, n, er⟩ := D
  generalize scan l = E at *
  obtain ⟨ps, m, es⟩ := E
  simp only at *
  clear hc hb hbig hsl hsp
  have hmx := hmax
  go_enter Try.func4, Try.ntmps4
  go_wp2_with fail
  refine HR.out.mono ?_
  rintro e w1 ⟨g, c, rfl, hg, hgc, hgm, hcell, b1⟩
  clear HR
  have b1s := b1.size
  have hgc' : (l.length : Int) ≤ (c : Int) := by omega
  go_wp2_with fail
  refine (H1.out g c w1 hgc hgm hcell).mono ?_
  rintro e w2 ⟨v2, rfl, o2, d2⟩
  clear H1
  have b2 := b1.trans (d2.mono b1.size)
  have hcell2 := hcell.below d2
  have HG : Hid (g < w1.heap.size) := cell_lt (hcell 0 (by simp))
  clear hcell
  go_wp2_with fail
  refine (H2.out w2 (HC.out.below b2)).mono ?_
  rintro e w3 ⟨v3, rfl, o3, d3⟩
  clear H2
  have b3 := b2.trans (d3.mono b2.size)
  have hcell3 := hcell2.below d3
  have o2 := o2.below d3
  clear hcell2
  go_wp2_with fail
  refine (H3.out g c w3 hgc hgm hcell3).mono ?_
  rintro e w4 ⟨v4, rfl, o4, d4⟩
  clear H3
  have b4 := b3.trans (d4.mono b3.size)
  have hcell4 := hcell3.below d4
  have o2 := o2.below d4
  have o3 := o3.below d4
  clear hcell3
  go_wp2_with fail
  refine (H4.out w4 (HC.out.below b4)).mono ?_
  rintro e w5 ⟨v5, rfl, o5, d5⟩
  clear H4
  have b5 := b4.trans (d5.mono b4.size)
  have hcell5 := hcell4.below d5
  have o2 := o2.below d5
  have o3 := o3.below d5
  have o4 := o4.below d5
  clear hcell4
  have y2 := o2.shape
  have y3 := o3.shape
  obtain ⟨x2, c2, rfl, _, _, _, z2, _⟩ := y2
  obtain ⟨x3, c3, rfl, _, _, _, z3, _⟩ := y3
  obtain ⟨r4, x4, c4, e4, rfl, _, _, z4⟩ := o4.shape
  obtain ⟨r5, x5, c5, e5, rfl, _, _, z5⟩ := o5.shape
  clear o3 o4 o5
  go_wp2_with fail
  refine (H5.out x2 x3 c2 c3 w5 z2 z3).mono ?_
  rintro e w6 ⟨rfl, d6⟩
  clear H5 z2 z3
  have b6 := b5.trans (d6.mono b5.size)
  have hcell6 := hcell5.below d6
  have o2 := o2.below d6
  have z4 := z4.below d6
  have z5 := z5.below d6
  clear hcell5
  go_wp2_with fail
  refine (H6.out r4 r5 x4 x5 c4 c5 w6 e4 e5 z4 z5).mono ?_
  rintro e w7 ⟨rfl, d7⟩
  clear H6 z4 z5
  have b7 := b6.trans (d7.mono b6.size)
  have hcell7 := hcell6.below d7
  have o2 := o2.below d7
  clear hcell6
  have s17 : w1.heap.size ≤ w7.heap.size := by
    have := d2.size; have := d3.size; have := d4.size; have := d5.size; have := d6.size; have := d7.size
    omega
  clear d2 d3 d4 d5 d6 d7 b1 b2 b3 b4 b5 b6
  go_wp2_with fail
  refine (spoil_any _ p w1.heap.size w7 o2 (by omega) s17).mono ?_
  rintro e w8 ⟨rfl, d8⟩
  have b8 : Below w.heap.size w w8 := b7.trans (d8.mono (by have := b1s; omega))
  have hcell8 : Cells w8 g 0 (l ++ [171]) := fun i hi => (d8.cell (p := ⟨g, 0 + i, none⟩) HG.out).trans (hcell7 i hi)
  clear hcell7 o2 d8
  go_wp2_with fail
  refine (HT.out g c w8 hgc hcell8 (HC.out.below b8)).mono ?_
  rintro e w9 ⟨rfl, d9⟩
  have b9 := b8.trans (d9.mono b8.size)
  clear HT d9
  go_wp2_with fail
  refine (known_any w9).mono ?_
  rintro e w10 ⟨rfl, d10⟩
  go_wp2
  go_ret
  exact ⟨rfl, b9.trans (d10.mono b9.size)⟩
end Go.Proofs.Ythgicnfhclfcjaa
