/-
  The walk of DigestHexes.
-/
import Derived.Test.YtajikbnnlhokbaaRfrom
import Derived.Test.YtajikbnnlhokbaaRhex
import Derived.Test.YtajikbnnlhokbaaMw
namespace Go.Proofs.Ytajikbnnlhokbaa
open Go.RowKit Math
theorem hexL_oct (h : List Nat) (k : Nat) (hk : k ≤ 32) : Oct (hexL h k) := by
  rw [hexL_dl h k hk]
  intro x hx
  rcases List.mem_append.1 hx with hx | hx
  · exact dl_oct h k x hx
  · have := List.eq_of_mem_replicate hx
    omega
set_option maxHeartbeats 1000000 in
set_option maxRecDepth 8000 in
theorem hexes_walk (h : List Nat) (hl : h.length = 32) (hol : Hid (Oct h)) (s : ByteArray) (w : World) :
    Calls Try.prog 5 #[.agg (nums .u8 h).toArray, .string s] w fun e w' => e = .returned (.bool true) ∧ Below w.heap.size w w' := by
  obtain ⟨M, hM⟩ : ∃ M : Nat, Hid (M = 32) := ⟨32, rfl⟩
  have IH : Hid ((Try.prog.info? 25).map (·.size) = some (nums .u8 h).length) := by show _ = _; rw [nums_length, hl]; exact s25
  have NH : Hid ((nums .u8 h).length = (nums .u8 zr).length) := by show _ = _; rw [nums_length, nums_length, hl, zr_len]
  have KH : Hid (∀ W, Calls Try.prog 18 #[.agg (nums .u8 h).toArray] W fun e w' => e = .returned (.string (strOfNums ((hexL h M).map fun n : Nat => (n : Int)))) ∧ Below W.heap.size W w') := fun W => hex_any h hl hol M hM W
  have KR : Hid (∀ W, Calls Try.prog 20 #[.agg (nums .u8 h).toArray] W fun e w' => e = .returned (.string (strOfNums ((hexL h M).map fun n : Nat => (n : Int)))) ∧ Below W.heap.size W w') := fun W => rhex_any h hl hol M hM W
  have KF : Hid (∀ W, Calls Try.prog 17 #[.string (strOfNums ((hexL h M).map fun n : Nat => (n : Int)))] W fun e w' => e = .returned (.tuple #[.agg (nums .u8 h).toArray, .int .i64 0]) ∧ Below W.heap.size W w') := fun W => by
    have hu := unh_hex h hl hol M hM.out
    have hb := bn_nums (hexL h M) (hexL_oct h M (by have := hM.out; omega))
    have := from_any _ _ (Eq.symm hb) W
    rw [hu] at this
    exact this
  generalize strOfNums ((hexL h M).map fun n : Nat => (n : Int)) = S at KH KR KF
  have hyl := unh_len (bn s)
  have KG : Hid (∀ W, Calls Try.prog 17 #[.string s] W fun e w' => e = .returned (.tuple #[.agg (nums .u8 (unh (bn s)).1).toArray, .int .i64 (((unh (bn s)).2 : Nat) : Int)]) ∧ Below W.heap.size W w') := fun W => from_any s _ rfl W
  have KI : Hid (∀ W, Calls Try.prog 19 #[.string s] W fun e w' => e = .returned (.tuple #[.agg (nums .u8 (unh (bn s)).1).toArray, .int .i64 (((unh (bn s)).2 : Nat) : Int)]) ∧ Below W.heap.size W w') := fun W => rfrom_any s _ rfl W
  generalize (unh (bn s)).1 = Y at hyl KG KI
  generalize (unh (bn s)).2 = E at KG KI
  have IY : Hid ((Try.prog.info? 25).map (·.size) = some (nums .u8 Y).length) := by show _ = _; rw [nums_length, hyl]; exact s25
  have NY : Hid ((nums .u8 Y).length = (nums .u8 zr).length) := by show _ = _; rw [nums_length, nums_length, hyl, zr_len]
  have heqH := eql_same h hl
  have heqY := eql_same Y hyl
  clear hM hl hol hyl
  go_enter Try.func5, Try.ntmps5
  go_wp2_with (refine al_box rfl 25 (.tmp 0) rfl (nums .u8 h) rfl ?_)
  intro g2 w1 l1 B2 G1
  have Z := (Below.refl w.heap.size w).grown G1 (Nat.le_refl _) (by simp)
  clear G1
  by_cases hbig : 2000 < s.size
  · go_wp2
    go_ret
    exact ⟨rfl, Z⟩
  · go_wp2_with (first
      | (refine ld_all rfl 25 (.tmp 2) rfl g2 25 (nums .u8 h) 32 5 rfl B2 Try.underlying25 IH.out ?_))
    refine (KH.out _).mono ?_
    rintro e w2 ⟨rfl, b2⟩
    have B2 := B2.below b2 B2.lt
    have Z := Z.trans (b2.mono Z.size)
    clear b2
    go_wp2_with fail
    refine (KF.out _).mono ?_
    rintro e w2 ⟨rfl, b2⟩
    have B2 := B2.below b2 B2.lt
    have Z := Z.trans (b2.mono Z.size)
    clear b2
    go_wp2_with (refine al_zero rfl 25 rfl (nums .u8 zr) z25 ?_)
    intro g5 w3 l5 B5 G3
    have n2_5 : g2 ≠ g5 := fun e => by have := B2.lt; omega
    have B2 := B2.kept G3 (by simp)
    have hg5 : w.heap.size ≤ g5 := Nat.le_trans Z.size l5
    have Z := Z.grown G3 Z.size (by simp)
    clear G3
    go_wp2_with (refine st_all rfl 25 (.tmp 5) (.tmp 18) rfl g5 25 (nums .u8 zr) (nums .u8 h) rfl rfl B5 NH.out IH.out (nums_one _ _) ?_)
    intro w4 B5 G4
    have B2 := B2.kept G4 (fun e => n2_5 (Option.some.inj e))
    have Z := Z.grown G4 Z.size (fun r e => by obtain rfl := Option.some.inj e; exact hg5)
    clear G4
    go_wp2_with fail
    refine (KG.out _).mono ?_
    rintro e w2 ⟨rfl, b2⟩
    have B2 := B2.below b2 B2.lt
    have B5 := B5.below b2 B5.lt
    have Z := Z.trans (b2.mono Z.size)
    clear b2
    go_wp2_with (refine al_zero rfl 25 rfl (nums .u8 zr) z25 ?_)
    intro g7 w3 l7 B7 G3
    have n2_7 : g2 ≠ g7 := fun e => by have := B2.lt; omega
    have n5_7 : g5 ≠ g7 := fun e => by have := B5.lt; omega
    have B2 := B2.kept G3 (by simp)
    have B5 := B5.kept G3 (by simp)
    have hg7 : w.heap.size ≤ g7 := Nat.le_trans Z.size l7
    have Z := Z.grown G3 Z.size (by simp)
    clear G3
    go_wp2_with (refine st_all rfl 25 (.tmp 7) (.tmp 23) rfl g7 25 (nums .u8 zr) (nums .u8 Y) rfl rfl B7 NY.out IY.out (nums_one _ _) ?_)
    intro w4 B7 G4
    have B2 := B2.kept G4 (fun e => n2_7 (Option.some.inj e))
    have B5 := B5.kept G4 (fun e => n5_7 (Option.some.inj e))
    have Z := Z.grown G4 Z.size (fun r e => by obtain rfl := Option.some.inj e; exact hg7)
    clear G4
    go_wp2_with fail
    refine (KI.out _).mono ?_
    rintro e w2 ⟨rfl, b2⟩
    have B2 := B2.below b2 B2.lt
    have B5 := B5.below b2 B5.lt
    have B7 := B7.below b2 B7.lt
    have Z := Z.trans (b2.mono Z.size)
    clear b2
    go_wp2_with (refine al_zero rfl 25 rfl (nums .u8 zr) z25 ?_)
    intro g9 w3 l9 B9 G3
    have n2_9 : g2 ≠ g9 := fun e => by have := B2.lt; omega
    have n5_9 : g5 ≠ g9 := fun e => by have := B5.lt; omega
    have n7_9 : g7 ≠ g9 := fun e => by have := B7.lt; omega
    have B2 := B2.kept G3 (by simp)
    have B5 := B5.kept G3 (by simp)
    have B7 := B7.kept G3 (by simp)
    have hg9 : w.heap.size ≤ g9 := Nat.le_trans Z.size l9
    have Z := Z.grown G3 Z.size (by simp)
    clear G3
    go_wp2_with (refine st_all rfl 25 (.tmp 9) (.tmp 28) rfl g9 25 (nums .u8 zr) (nums .u8 Y) rfl rfl B9 NY.out IY.out (nums_one _ _) ?_)
    intro w4 B9 G4
    have B2 := B2.kept G4 (fun e => n2_9 (Option.some.inj e))
    have B5 := B5.kept G4 (fun e => n5_9 (Option.some.inj e))
    have B7 := B7.kept G4 (fun e => n7_9 (Option.some.inj e))
    have Z := Z.grown G4 Z.size (fun r e => by obtain rfl := Option.some.inj e; exact hg9)
    clear G4
    have HA2 : Hid (∀ W, Below w4.heap.size w4 W → W.rangeAt g2 0 (nums .u8 h)) := fun W z => (B2.below z B2.lt).all
    have HA5 : Hid (∀ W, Below w4.heap.size w4 W → W.rangeAt g5 0 (nums .u8 h)) := fun W z => (B5.below z B5.lt).all
    have HA7 : Hid (∀ W, Below w4.heap.size w4 W → W.rangeAt g7 0 (nums .u8 Y)) := fun W z => (B7.below z B7.lt).all
    have HA9 : Hid (∀ W, Below w4.heap.size w4 W → W.rangeAt g9 0 (nums .u8 Y)) := fun W z => (B9.below z B9.lt).all
    have k1 : Hid (∀ W, Below w4.heap.size w4 W → Calls Try.prog 18 #[.agg (nums .u8 h).toArray] W fun e w' => e = .returned (.string S) ∧ Below w4.heap.size w4 w') := fun W z => (KH.out W).mono fun _ _ ⟨e, b⟩ => ⟨e, z.trans (b.mono z.size)⟩
    have k2 : Hid (∀ W, Below w4.heap.size w4 W → Calls Try.prog 20 #[.agg (nums .u8 h).toArray] W fun e w' => e = .returned (.string S) ∧ Below w4.heap.size w4 w') := fun W z => (KR.out W).mono fun _ _ ⟨e, b⟩ => ⟨e, z.trans (b.mono z.size)⟩
    have k3 : Hid (∀ W, Below w4.heap.size w4 W → Calls Try.prog 10 #[] W fun e w' => e = .returned (.bool true) ∧ Below w4.heap.size w4 w') := fun W z => (known_any W).mono fun _ _ ⟨e, b⟩ => ⟨e, z.trans (b.mono z.size)⟩
    have hu25' : Hid (Try.prog.underlying 25 = some (.array 32 5)) := Try.underlying25
    have z0 : Hid (Below w4.heap.size w4 { w4 with drawn := w4.drawn + 1 }) := (Below.refl _ _).drew
    have ZZ : Hid (∀ W, Below w4.heap.size w4 W → Below w.heap.size w W) := fun W b => Z.trans (b.mono Z.size)
    clear Z B2 B5 B7 B9 KH KR KF KG KI NH NY
    generalize hC : (fun W => Below w4.heap.size w4 W) = C
    have hCC : ∀ W, Below w4.heap.size w4 W = C W := fun W => by rw [← hC]
    clear hC
    simp only [hCC] at HA2 HA5 HA7 HA9 z0 ZZ k1 k2 k3
    clear hCC
    have hCp : ∀ p : Prop, (∀ W, C W → p) ↔ p := fun p => ⟨fun h => h _ z0.out, fun h _ _ => h⟩
    go_wp2_with fail
    refine q_region (C := C) (by kernel_rfl) (by kernel_rfl) z0.out ?_
    repeat (first
      | go_big_quiet_skip
      | (go_big_quiet_want
         first
         | (refine q_load 25 (.tmp 2) rfl g2 0 rfl _ _ HA2.out hu25'.out rfl IH.out ?_
            simp only [Act.put, List.setIfInBounds_toArray, List.set_cons_zero, List.set_cons_succ]
            go_big_quiet_on)
         | (refine q_load 25 (.tmp 5) rfl g5 0 rfl _ _ HA5.out hu25'.out rfl IH.out ?_
            simp only [Act.put, List.setIfInBounds_toArray, List.set_cons_zero, List.set_cons_succ]
            go_big_quiet_on)
         | (refine q_load 25 (.tmp 7) rfl g7 0 rfl _ _ HA7.out hu25'.out rfl IY.out ?_
            simp only [Act.put, List.setIfInBounds_toArray, List.set_cons_zero, List.set_cons_succ]
            go_big_quiet_on)
         | (refine q_load 25 (.tmp 9) rfl g9 0 rfl _ _ HA9.out hu25'.out rfl IY.out ?_
            simp only [Act.put, List.setIfInBounds_toArray, List.set_cons_zero, List.set_cons_succ]
            go_big_quiet_on)
         | (go_big_quiet_op
            first
            | go_big_quiet_on
            | (apply Exists.intro
               refine ⟨?_, ?_⟩
               · first
                 | exact k1.out
                 | exact k2.out
                 | exact k3.out
               go_big_quiet_on))))
    refine wpQuiet_nil ?_
    intro W hW
    have zz := ZZ.out W hW
    clear k1 k2 k3 HA2 HA5 HA7 HA9 z0 ZZ
    go_wp2
    go_ret
    exact ⟨rfl, zz⟩
#print axioms hexes_walk
end Go.Proofs.Ytajikbnnlhokbaa
