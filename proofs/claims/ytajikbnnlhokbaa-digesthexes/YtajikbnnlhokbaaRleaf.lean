/-
  The contract of the document's own Leaf.
-/
import Derived.Test.YtajikbnnlhokbaaRsum
import Derived.Test.YtajikbnnlhokbaaSum
namespace Go.Proofs.Ytajikbnnlhokbaa
open Go.RowKit Math
/-- The document's Sum, over a slice that the call made. -/
theorem rsum_own {w : World} {base : Nat} {v : Value} {l : List Nat} (h : Own w base v l) (hl : 0 < l.length) (hn : l.length ≤ 100000) (ho : Oct l) :
    Calls Try.prog 8 #[v] w fun e w' => e = .returned (.agg (nums .u8 (D l)).toArray) ∧ Below w.heap.size w w' := by
  obtain ⟨g, cap, rfl, _, _, _, _, hc⟩ := h.form hl
  exact rsum_any (some ⟨g, 0, none⟩) cap l hn w (.inr ⟨g, 0, rfl, hc⟩) (fun e => by cases e) ho
set_option maxHeartbeats 1000000 in
set_option maxRecDepth 8000 in
theorem rleaf_any (a0 : Option Addr) (cap : Nat) (l : List Nat) (hn : l.length ≤ 90000) (w : World) (hc : Hid (Byt w a0 l)) (hnil : a0 = none → cap = 0) (ho : Hid (Oct l)) :
    Calls Try.prog 12 #[.slice a0 l.length cap] w fun e w' => e = .returned (.agg (nums .u8 (D (0 :: l))).toArray) ∧ Below w.heap.size w w' := by
  go_enter Try.func12, Try.ntmps12
  go_wp2_with (refine al_zero rfl 25 rfl _ z25 ?_)
  intro g1 w1 l1 B1 G1
  have Z := (Below.refl w.heap.size w).grown G1 (Nat.le_refl _) (by simp)
  have hc1 := (hc.out.below Z).below ((Below.refl w1.heap.size w1).alloc (Nat.le_refl _) (.cells #[.int .u8 ((0 : Nat) : Int)] 5))
  have oe := own_one w1 0 w1.heap.size (Nat.le_refl _)
  clear G1
  go_wp2_with (at_builtin; go_must (refine app_bytes rfl (.tmp 3) (.tmp 4) rfl w1.heap.size _ [0] rfl oe a0 _ cap l rfl rfl hc1 hnil (by simp; omega) (by simp) ?_))
  intro v1 w2 o1 g2
  have b2 := below_app ((Below.refl w1.heap.size w1).alloc (Nat.le_refl _) (.cells #[.int .u8 ((0 : Nat) : Int)] 5)) (by simp) oe g2
  have B1 := B1.below b2 B1.lt
  have Z := Z.trans (b2.mono Z.size)
  have HC : Hid (Calls Try.prog 8 #[v1] w2 fun e w' => e = .returned (.agg (nums .u8 (D (0 :: l))).toArray) ∧ Below w2.heap.size w2 w') :=
    rsum_own (l := 0 :: l) o1 (by simp) (by simp; omega) (fun x hx => by
      rcases List.mem_cons.1 hx with rfl | hx
      · decide
      · exact ho.out x hx)
  clear g2 oe hc1 b2 o1
  go_wp2_with fail
  refine HC.out.mono ?_; rintro e w3 ⟨rfl, Z3⟩
  have B1 := B1.below Z3 B1.lt
  have Z := Z.trans (Z3.mono Z.size)
  have ID : Hid ((Try.prog.info? 25).map (·.size) = some (nums .u8 (D (0 :: l))).length) := by show _ = _; rw [nums_length, D_len]; exact s25
  have ND : Hid ((nums .u8 (D (0 :: l))).length = (nums .u8 (List.replicate 32 0)).length) := by show _ = _; rw [nums_length, nums_length, D_len, List.length_replicate]
  clear Z3 HC
  go_wp2_with (refine st_all rfl 25 (.tmp 2) (.tmp 6) rfl g1 25 (nums .u8 (List.replicate 32 0)) (nums .u8 (D (0 :: l))) rfl rfl B1 ND.out ID.out (nums_one _ _) ?_)
  intro we BE GE
  go_wp2
  (try simp only [Exit.inBlock, Exit.then])
  refine bodyPost_ret (res_row rfl _ g1 25 _ _ rfl BE Try.underlying25 rfl ID.out) rfl ⟨rfl, grown_below Z GE Z.size l1⟩
#print axioms rleaf_any
end Go.Proofs.Ytajikbnnlhokbaa
