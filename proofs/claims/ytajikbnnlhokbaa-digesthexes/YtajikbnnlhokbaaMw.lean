/-
  The walk of DigestMarks.
-/
import Derived.Test.YtajikbnnlhokbaaKnown
import Derived.Test.YtajikbnnlhokbaaChain
import Derived.Test.YtajikbnnlhokbaaRnode
import Derived.Test.YtajikbnnlhokbaaOpn
import Derived.BigQuiet
import Derived.Deep.MidRow
namespace Go.Proofs.Ytajikbnnlhokbaa
open Go.RowKit Math
/-- A load of a whole array, in a class of worlds that gives its cells. -/
theorem q_load {P : Program} {C : World → Prop} {a : Act} {o : Oper} {K : Act → Prop} (ty : TypeId) (x : Operand) (ho : o.op = .load ty x) (b k : Nat) (hx : a.eval x = .pointer (some ⟨b, k, none⟩)) (cs : List Value) (d : TypeDesc) (hS : ∀ w, C w → w.rangeAt b k cs)
    (hu : P.underlying ty = some d) (hd : d.isRow = true) (hi : (P.info? ty).map (·.size) = some cs.length) (hk : K (a.put o.dst (.agg cs.toArray))) : o.quiet P a C K :=
  ⟨_, fun w hw => by
    unfold Oper.quietAt execOp
    simp only [ho, hx, Instr.loadAt, Instr.sureAddr, Sem.run_bind, Sem.run_pure, Result.andThen_ok, run_loadVar_mid w b k ty cs d (hS w hw) hu hd hi]
    exact ⟨rfl, rfl⟩, hk⟩
/-- A region that draws its order, walked once, in whatever class of worlds its operations keep. -/
theorem q_region {P : Program} {C : World → Prop} {id : Nat} {Q : Exit → Act → World → Prop} {a : Act} {w : World} {l : List Oper} (hm : P.follows .mixedOrders = true) (hB : Region.lexB .any l.toArray = true) (hC : C { w with drawn := w.drawn + 1 })
    (h : wpQuiet P l.toArray C (fun a' => ∀ w', C w' → Q .normal a' w') l a) : (Code.region id l.toArray true).wp P Q a w :=
  wp_region_quiet hm hB hC (by simpa using h)
set_option maxHeartbeats 1000000 in
set_option maxRecDepth 8000 in
theorem marks_walk (a0 : Option Addr) (len0 cap0 : Nat) (z0 : List Int) (lh rh : List Nat) (hl : lh.length = 32) (hr : rh.length = 32) (hol : Hid (Oct lh)) (hor : Hid (Oct rh)) (w : World) (w0 : IsRow .u8 w a0 len0 cap0 z0) :
    Calls Try.prog 4 #[.slice a0 len0 cap0, .agg (nums .u8 lh).toArray, .agg (nums .u8 rh).toArray] w fun e w' => e = .returned (.bool true) ∧ Below w.heap.size w w' := by
  obtain ⟨l, rfl, hc, hb, hnil, hmax⟩ := row_byt w0
  unfold maxLen at hmax
  clear w0
  have HB : Hid (Oct l) := hb
  have HC : Hid (Byt w a0 l) := hc
  clear hb hc
  go_enter Try.func4, Try.ntmps4
  go_wp2_with (refine al_box rfl 25 (.tmp 1) rfl (nums .u8 lh) rfl ?_)
  intro ga wa la BA GA
  have Z := (Below.refl w.heap.size w).grown GA (Nat.le_refl _) (by simp)
  clear GA
  go_wp2_with (refine al_box rfl 25 (.tmp 2) rfl (nums .u8 rh) rfl ?_)
  intro gb wb lb BB GB
  have BA := BA.kept GB (by simp)
  have Z := Z.grown GB Z.size (by simp)
  clear GB
  by_cases hbig : 2000 < l.length
  · go_wp2
    go_ret
    exact ⟨rfl, Z⟩
  · have hc0 := HC.out.below Z
    go_wp2_with (go_at_call 6; go_must (refine (roomy_any a0 cap0 l (by omega) wb hc0 hnil).mono ?_; rintro e w1 ⟨g, c, rfl, hg, hlc, hcell, b1⟩))
    have HCE : Hid (Cells w1 g 0 (l ++ [171])) := hcell
    have BA := BA.below b1 BA.lt
    have BB := BB.below b1 BB.lt
    have Z := Z.trans (b1.mono Z.size)
    have HC1 : Hid (Byt w1 a0 l) := HC.out.below Z
    clear hcell hc0 b1 HC
    have hu25 := Try.underlying25
    have hsl : (Try.prog.info? 25).map (·.size) = some (nums .u8 lh).length := by rw [nums_length, hl]; exact s25
    have hsr : (Try.prog.info? 25).map (·.size) = some (nums .u8 rh).length := by rw [nums_length, hr]; exact s25
    have HK : Hid (∀ W, Below w1.heap.size w1 W → W.rangeAt ga 0 (nums .u8 lh) ∧ W.rangeAt gb 0 (nums .u8 rh) ∧ Below w1.heap.size w1 W) := fun W z => ⟨(BA.below z BA.lt).all, (BB.below z BB.lt).all, z⟩
    have k3 : Hid (∀ W, Below w1.heap.size w1 W → Calls Try.prog 13 #[.agg (nums .u8 lh).toArray, .agg (nums .u8 rh).toArray] W fun e w' => e = .returned (.agg (nums .u8 (D (1 :: (lh ++ rh)))).toArray) ∧ Below w1.heap.size w1 w') := fun W z => (node_any lh rh hl hr hol hor W).mono fun _ _ ⟨e, b⟩ => ⟨e, z.trans (b.mono z.size)⟩
    have k4 : Hid (∀ W, Below w1.heap.size w1 W → Calls Try.prog 14 #[.agg (nums .u8 lh).toArray, .agg (nums .u8 rh).toArray] W fun e w' => e = .returned (.agg (nums .u8 (D (1 :: (lh ++ rh)))).toArray) ∧ Below w1.heap.size w1 w') := fun W z => (rnode_any lh rh hl hr hol hor W).mono fun _ _ ⟨e, b⟩ => ⟨e, z.trans (b.mono z.size)⟩
    have k5 : Hid (∀ W, Below w1.heap.size w1 W → Calls Try.prog 15 #[.agg (nums .u8 lh).toArray, .slice (some ⟨g, 0, none⟩) l.length c] W fun e w' => e = .returned (.agg (nums .u8 (D (2 :: (lh ++ l)))).toArray) ∧ Below w1.heap.size w1 w') := fun W z => (chain_any lh l hl (some ⟨g, 0, none⟩) c (by omega) hol HB W (.inr ⟨g, 0, rfl, Cells.left (HCE.out.below z)⟩) (by omega)).mono fun _ _ ⟨e, b⟩ => ⟨e, z.trans (b.mono z.size)⟩
    have k6 : Hid (∀ W, Below w1.heap.size w1 W → Calls Try.prog 16 #[.agg (nums .u8 lh).toArray, .slice a0 l.length cap0] W fun e w' => e = .returned (.agg (nums .u8 (D (2 :: (lh ++ l)))).toArray) ∧ Below w1.heap.size w1 w') := fun W z => (rchain_any lh l hl a0 cap0 (by omega) hol HB W (HC1.out.below z) hnil).mono fun _ _ ⟨e, b⟩ => ⟨e, z.trans (b.mono z.size)⟩
    have k7 : Hid (∀ W, Below w1.heap.size w1 W → Calls Try.prog 9 #[.slice (some ⟨g, 0, none⟩) (l.length + 1) c, .slice a0 l.length cap0] W fun e w' => e = .returned (.bool true) ∧ Below w1.heap.size w1 w') := fun W z => (stands_any g c a0 cap0 l (by omega) HB.out W hlc (HCE.out.below z) (HC1.out.below z)).mono fun _ _ ⟨e, q, b⟩ => ⟨e, by rw [b]; exact below_drewN z q⟩
    have k8 : Hid (∀ W, Below w1.heap.size w1 W → Calls Try.prog 10 #[] W fun e w' => e = .returned (.bool true) ∧ Below w1.heap.size w1 w') := fun W z => (known_any W).mono fun _ _ ⟨e, b⟩ => ⟨e, z.trans (b.mono z.size)⟩
    have hlc' : l.length ≤ c := by omega
    have heqL := eql_same (D (0 :: l)) (D_len _)
    have heqN := eql_same (D (1 :: (lh ++ rh))) (D_len _)
    have heqC := eql_same (D (2 :: (lh ++ l))) (D_len _)
    have k1 : Hid (∀ W, Below w1.heap.size w1 W → Calls Try.prog 11 #[.slice (some ⟨g, 0, none⟩) l.length c] W fun e w' => e = .returned (.agg (nums .u8 (D (0 :: l))).toArray) ∧ Below w1.heap.size w1 w') := fun W z => (leaf_any _ c l (by omega) W (.inr ⟨g, 0, rfl, Cells.left (HCE.out.below z)⟩) hlc' HB.out).mono fun _ _ ⟨e, b⟩ => ⟨e, z.trans (b.mono z.size)⟩
    have k2 : Hid (∀ W, Below w1.heap.size w1 W → Calls Try.prog 12 #[.slice a0 l.length cap0] W fun e w' => e = .returned (.agg (nums .u8 (D (0 :: l))).toArray) ∧ Below w1.heap.size w1 w') := fun W z => (rleaf_any a0 cap0 l (by omega) W (HC1.out.below z) hnil HB.out).mono fun _ _ ⟨e, b⟩ => ⟨e, z.trans (b.mono z.size)⟩
    generalize D (0 :: l) = dL at heqL k1 k2
    generalize D (1 :: (lh ++ rh)) = dN at heqN k3 k4
    generalize D (2 :: (lh ++ l)) = dC at heqC k5 k6
    clear BA BB hol hor HC1 HCE HB
    have HA : Hid (∀ W, Below w1.heap.size w1 W → W.rangeAt ga 0 (nums .u8 lh)) := fun W z => (HK.out W z).1
    have HBB : Hid (∀ W, Below w1.heap.size w1 W → W.rangeAt gb 0 (nums .u8 rh)) := fun W z => (HK.out W z).2.1
    have hsl' : Hid ((Try.prog.info? 25).map (·.size) = some (nums .u8 lh).length) := hsl
    have hsr' : Hid ((Try.prog.info? 25).map (·.size) = some (nums .u8 rh).length) := hsr
    have hu25' : Hid (Try.prog.underlying 25 = some (.array 32 5)) := hu25
    have z0 : Hid (Below w1.heap.size w1 { w1 with drawn := w1.drawn + 1 }) := (Below.refl _ _).drew
    have ZZ : Hid (∀ W, Below w1.heap.size w1 W → Below w.heap.size w W) := fun W b => Z.trans (b.mono Z.size)
    clear HK hsl hsr hu25 hl hr hnil Z
    generalize hC : (fun W => Below w1.heap.size w1 W) = C
    have hCC : ∀ W, Below w1.heap.size w1 W = C W := fun W => by rw [← hC]
    clear hC
    simp only [hCC] at HA HBB z0 ZZ k1 k2 k3 k4 k5 k6 k7 k8
    clear hCC
    have hCp : ∀ p : Prop, (∀ W, C W → p) ↔ p := fun p => ⟨fun h => h _ z0.out, fun h _ _ => h⟩
    refine q_region (C := C) (by kernel_rfl) (by kernel_rfl) z0.out ?_
    repeat (first
      | go_big_quiet_skip
      | (go_big_quiet_want
         first
         | (refine q_load 25 (.tmp 4) rfl ga 0 rfl _ _ HA.out hu25'.out rfl hsl'.out ?_
            simp only [Act.put, List.setIfInBounds_toArray, List.set_cons_zero, List.set_cons_succ]
            go_big_quiet_on)
         | (refine q_load 25 (.tmp 5) rfl gb 0 rfl _ _ HBB.out hu25'.out rfl hsr'.out ?_
            simp only [Act.put, List.setIfInBounds_toArray, List.set_cons_zero, List.set_cons_succ]
            go_big_quiet_on)
         | (go_big_quiet_op
            first
            | go_big_quiet_on
            | (apply Exists.intro
               refine ⟨?_, ?_⟩
               · first
                 | exact k1.out
                 | exact k2.out
                 | exact k3.out
                 | exact k4.out
                 | exact k5.out
                 | exact k6.out
                 | exact k7.out
                 | exact k8.out
               go_big_quiet_on))))
    refine wpQuiet_nil ?_
    intro W hW
    have zz := ZZ.out W hW
    clear k1 k2 k3 k4 k5 k6 k7 k8 HA HBB z0 ZZ
    go_wp2
    go_ret
    exact ⟨rfl, zz⟩
end Go.Proofs.Ytajikbnnlhokbaa
