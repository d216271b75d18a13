/-
  The contracts of digest.Sum and digest.Leaf. · The contract of digest.Leaf. · The contract of the document's own Leaf. · An array of bytes is held against itself: the answer is true.
-/
import Derived.Test.YthmnjamnaibcgaaSEnd
import Derived.Test.YthmnjamnaibcgaaSRsum
import Derived.Test.YthmnjamnaibcgaaSa
import Derived.ChangeKeysEq
namespace Go.Proofs.Ythmnjamnaibcgaa.Sh
open Go.RowKit Mt
theorem sm_of {w : World} {g : Nat} {bl L : List Nat} (h : Smok bl L) (B : Blk w g 63 (smc (blk L (L.length / 64)) bl L.length)) : Sm w g L := ⟨bl, h.1, h.2.1, h.2.2, B⟩
theorem begin_c (L : List Nat) (a0 : Option Addr) (cap : Nat) (w : World) (hsrc : Byt w a0 L) (hcap : L.length ≤ cap) (ho : Oct L) (hn : L.length ≤ 100000) :
    Calls Try.prog 30 #[.slice a0 L.length cap] w fun e w' => ∃ c, Hid ((∀ (W : World) g, Blk W g 63 c → Sm W g L) ∧ c.length = 73 ∧ ∀ v ∈ c, v.oneCell' = true) ∧ e = .returned (.agg c.toArray) ∧ Below w.heap.size w w' :=
  (begin_any L a0 cap w hsrc hcap ho hn).mono fun _ _ ⟨_, hk, he, hz⟩ => ⟨_, ⟨fun _ _ B => sm_of hk B, smc_len _ _ _ hk.1, smc_one _ _ _⟩, he, hz⟩
theorem byt_src {w w' : World} {a0 : Option Addr} {l : List Nat} {g : Nat} (h : Byt w a0 l) (z : Below w.heap.size w w') (hg : w.heap.size ≤ g) : l = [] ∨ ∃ pb off, pb ≠ g ∧ a0 = some ⟨pb, off, none⟩ ∧ Cells w' pb off l := by
  by_cases hl : l = []
  · exact .inl hl
  rcases h with h' | ⟨b, off, rfl, h'⟩
  · exact absurd h' hl
  · have hb : b < w.heap.size := cell_lt (h' 0 (List.length_pos_iff.2 hl))
    exact .inr ⟨b, off, by omega, rfl, h'.below z⟩
theorem grown_below {B : Nat} {w w' w'' : World} {g : Nat} (z : Below B w w') (h : w'.grownBy w'' (some g)) (hB : B ≤ w'.heap.size) (hg : B ≤ g) : Below B w w'' := z.grown h hB (fun r e => by obtain rfl := Option.some.inj e; exact hg)
end Go.Proofs.Ythmnjamnaibcgaa.Sh
namespace Go.Proofs.Ythmnjamnaibcgaa.Sh
open Go.RowKit Mt
set_option maxHeartbeats 1000000 in
set_option maxRecDepth 8000 in
theorem leaf_any (a0 : Option Addr) (cap : Nat) (l : List Nat) (hn : l.length ≤ 100000) (w : World) (hc : Hid (Byt w a0 l)) (hcap : l.length ≤ cap) (ho : Hid (Oct l)) :
    Calls Try.prog 18 #[.slice a0 l.length cap] w fun e w' => e = .returned (.agg (nums .u8 (D (0 :: l))).toArray) ∧ Below w.heap.size w w' := by
  go_enter Try.func18, Try.ntmps18
  go_wp2_with (refine al_zero rfl 36 rfl _ z25 ?_)
  intro g1 w1 l1 B1 G1
  have Z := (Below.refl w.heap.size w).grown G1 (Nat.le_refl _) (by simp)
  clear G1
  go_wp2_with fail
  refine (begin_c [0] (some ⟨w1.heap.size, 0, none⟩) 1 (w1.alloc (.cells #[.int .u8 0] 5)) (byt_lit w1 [0]) (Nat.le_refl _) (fun x hx => by obtain rfl := List.mem_singleton.1 hx; decide) (by simp)).mono ?_; rintro e w2 ⟨c, HK, rfl, Z2⟩
  have B1 := (B1.alloc _).below Z2 (B1.alloc _).lt
  have Z := Z.alloc Z.size (.cells #[.int .u8 0] 5)
  have Z := Z.trans (Z2.mono Z.size)
  clear Z2
  go_wp2_with (refine al_zero rfl 63 rfl _ z45' ?_)
  intro g2 w3 l2 B2 G2
  have n12 : g1 ≠ g2 := by have := B1.lt; omega
  have hg2 : w.heap.size ≤ g2 := Nat.le_trans Z.size l2
  have B1 := B1.kept G2 (by simp)
  have Z := Z.grown G2 Z.size (by simp)
  have I1 : Hid ((Try.prog.info? 63).map (·.size) = some c.length) := by show _ = _; rw [HK.out.2.1]; exact s45
  have N1 : Hid (c.length = (smc ⟨0, 0, 0, 0, 0, 0, 0, 0⟩ (List.replicate 64 0) 0).length) := by show _ = _; rw [HK.out.2.1, smc_len _ _ _ (by simp)]
  clear G2
  go_wp2_with (refine st_all rfl 63 (.tmp 3) (.tmp 5) rfl g2 63 _ c rfl rfl B2 N1.out I1.out HK.out.2.2 ?_)
  intro w4 B2 G3
  have B1 := B1.kept G3 (fun e => n12 (Option.some.inj e))
  have Z := grown_below Z G3 Z.size hg2
  have HS : Hid (Sm w4 g2 [0]) := HK.out.1 _ _ B2
  have HA : Hid (Calls Try.prog 31 #[.pointer (some ⟨g2, 0, none⟩), .slice a0 l.length cap] w4 fun e w' => e = .returned (.tuple #[]) ∧ Sm w' g2 (0 :: l) ∧ w4.grownBy w' (some g2)) := by
    have := add_any g2 [0] l a0 cap w4 HS.out (byt_src hc.out Z hg2) hcap ho.out (by simp; omega)
    exact this
  clear B2 G3 I1 N1 HS HK hc ho
  go_wp2_with fail
  refine HA.out.mono ?_; rintro e w5 ⟨rfl, hs, G5⟩
  have HS : Hid _ := hs
  have B1 := B1.kept G5 (fun e => n12 (Option.some.inj e))
  have Z := grown_below Z G5 Z.size hg2
  clear hs G5 HA
  go_wp2_with fail
  refine (end_any g2 (0 :: l) _ HS.out (by simp; omega)).mono ?_; rintro e w6 ⟨rfl, G6⟩
  have B1 := B1.kept G6 (fun e => n12 (Option.some.inj e))
  have Z := grown_below Z G6 Z.size hg2
  have ID : Hid ((Try.prog.info? 36).map (·.size) = some (nums .u8 (D (0 :: l))).length) := by show _ = _; rw [nums_length, D_len]; exact s25
  have ND : Hid ((nums .u8 (D (0 :: l))).length = (nums .u8 (List.replicate 32 0)).length) := by show _ = _; rw [nums_length, nums_length, D_len, List.length_replicate]
  clear G6 HS
  go_wp2_with (refine st_all rfl 36 (.tmp 2) (.tmp 8) rfl g1 36 (nums .u8 (List.replicate 32 0)) (nums .u8 (D (0 :: l))) rfl rfl B1 ND.out ID.out (nums_one _ _) ?_)
  intro we BE GE
  go_wp2
  (try simp only [Exit.inBlock, Exit.then])
  refine bodyPost_ret (res_row rfl _ g1 36 _ _ rfl BE Try.underlying36 rfl ID.out) rfl ⟨rfl, grown_below Z GE Z.size l1⟩
#print axioms leaf_any
end Go.Proofs.Ythmnjamnaibcgaa.Sh
namespace Go.Proofs.Ythmnjamnaibcgaa.Sh
open Go.RowKit Mt
/-- The document's Sum, over a slice that the call made. -/
theorem rsum_own {w : World} {base : Nat} {v : Value} {l : List Nat} (h : Own w base v l) (hl : 0 < l.length) (hn : l.length ≤ 100000) (ho : Oct l) :
    Calls Try.prog 33 #[v] w fun e w' => e = .returned (.agg (nums .u8 (D l)).toArray) ∧ Below w.heap.size w w' := by
  obtain ⟨g, cap, rfl, _, _, _, _, hc⟩ := h.form hl
  exact rsum_any (some ⟨g, 0, none⟩) cap l hn w (.inr ⟨g, 0, rfl, hc⟩) (fun e => by cases e) ho
set_option maxHeartbeats 1000000 in
set_option maxRecDepth 8000 in
theorem rleaf_any (a0 : Option Addr) (cap : Nat) (l : List Nat) (hn : l.length ≤ 90000) (w : World) (hc : Hid (Byt w a0 l)) (hnil : a0 = none → cap = 0) (ho : Hid (Oct l)) :
    Calls Try.prog 19 #[.slice a0 l.length cap] w fun e w' => e = .returned (.agg (nums .u8 (D (0 :: l))).toArray) ∧ Below w.heap.size w w' := by
  go_enter Try.func19, Try.ntmps19
  go_wp2_with (refine al_zero rfl 36 rfl _ z25 ?_)
  intro g1 w1 l1 B1 G1
  have Z := (Below.refl w.heap.size w).grown G1 (Nat.le_refl _) (by simp)
  have hc1 := (hc.out.below Z).below ((Below.refl w1.heap.size w1).alloc (Nat.le_refl _) (.cells #[.int .u8 ((0 : Nat) : Int)] 5))
  have oe := own_one w1 0 w1.heap.size (Nat.le_refl _)
  clear G1
  go_wp2_with (at_builtin; go_must (refine app_bytes rfl (.tmp 3) (.tmp 4) rfl w1.heap.size _ [0] rfl oe a0 _ cap l rfl rfl hc1 hnil (by simp; omega) (by simp) ?_))
  intro v1 w2 o1 g2
  have b2 := below_app ((Below.refl w1.heap.size w1).alloc (Nat.le_refl _) (.cells #[.int .u8 ((0 : Nat) : Int)] 5)) (by simp) oe g2
  have B1 := B1.below b2 B1.lt
  have Z := Z.trans (b2.mono Z.size)
  have HC : Hid (Calls Try.prog 33 #[v1] w2 fun e w' => e = .returned (.agg (nums .u8 (D (0 :: l))).toArray) ∧ Below w2.heap.size w2 w') :=
    rsum_own (l := 0 :: l) o1 (by simp) (by simp; omega) (fun x hx => by
      rcases List.mem_cons.1 hx with rfl | hx
      · decide
      · exact ho.out x hx)
  clear g2 oe hc1 b2 o1
  go_wp2_with fail
  refine HC.out.mono ?_; rintro e w3 ⟨rfl, Z3⟩
  have B1 := B1.below Z3 B1.lt
  have Z := Z.trans (Z3.mono Z.size)
  have ID : Hid ((Try.prog.info? 36).map (·.size) = some (nums .u8 (D (0 :: l))).length) := by show _ = _; rw [nums_length, D_len]; exact s25
  have ND : Hid ((nums .u8 (D (0 :: l))).length = (nums .u8 (List.replicate 32 0)).length) := by show _ = _; rw [nums_length, nums_length, D_len, List.length_replicate]
  clear Z3 HC
  go_wp2_with (refine st_all rfl 36 (.tmp 2) (.tmp 6) rfl g1 36 (nums .u8 (List.replicate 32 0)) (nums .u8 (D (0 :: l))) rfl rfl B1 ND.out ID.out (nums_one _ _) ?_)
  intro we BE GE
  go_wp2
  (try simp only [Exit.inBlock, Exit.then])
  refine bodyPost_ret (res_row rfl _ g1 36 _ _ rfl BE Try.underlying36 rfl ID.out) rfl ⟨rfl, grown_below Z GE Z.size l1⟩
#print axioms rleaf_any
end Go.Proofs.Ythmnjamnaibcgaa.Sh
namespace Go.Proofs.Ythmnjamnaibcgaa.Sh
open Go.RowKit Mt
theorem cells5 : Try.prog.cellsOf 5 = 1 := by kernel_rfl
theorem items_same (d : Nat) (l : List Nat) (w : World) : ∀ is : List Nat, (∀ i ∈ is, i < l.length) → (Op.eqItems (d + 1) 5 1 (nums .u8 l).toArray (nums .u8 l).toArray is).run Try.prog w = .ok true w
  | [], _ => by simp [Op.eqItems]
  | i :: is, h => by
    have hi := h i (by simp)
    have hp : (part 5 (nums .u8 l).toArray (i * 1)).run Try.prog w = .ok (.int .u8 ((l.getD i 0 : Nat) : Int)) w := by
      have hv : (nums .u8 l).toArray[i]? = some (.int .u8 ((l.getD i 0 : Nat) : Int)) := by rw [List.getElem?_toArray, nums_get .u8 l i hi]
      simp only [part, Sem.run_bind, Try.isAgg5, Result.andThen_ok, Bool.false_eq_true, if_false, Nat.mul_one, hv, Sem.run_pure]
    simp only [Op.eqItems, Sem.run_bind, hp, Result.andThen_ok, run_equalIn_int w d 5 .u8 .u8 _ _ Try.underlying5, beq_self_eq_true, Bool.not_true, Bool.false_eq_true, if_false]
    exact items_same d l w is fun j hj => h j (by simp [hj])
theorem eql_same (l : List Nat) (hl : l.length = 32) (w : World) : (Op.equalIn 10000 36 (.agg (nums .u8 l).toArray) (.agg (nums .u8 l).toArray)).run Try.prog w = .ok true w := by
  obtain ⟨i, hi⟩ : ∃ i, Try.prog.info? 5 = some i := by
    cases h : Try.prog.info? 5 with
    | none => have := s5; rw [h] at this; cases this
    | some i => exact ⟨i, rfl⟩
  rw [run_equalIn_array w 9999 _ _ Try.underlying36 hi, cells5]
  exact items_same 9998 l w _ fun i hi => by rw [hl]; exact List.mem_range.1 hi
#print axioms eql_same
end Go.Proofs.Ythmnjamnaibcgaa.Sh
