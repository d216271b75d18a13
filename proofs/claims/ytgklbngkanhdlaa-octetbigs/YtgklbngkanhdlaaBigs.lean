/-
  Proved: for every two uint64 the law OctetBigs returns true: octet.Big and octet.Short make the document's own bytes, octet.ReadBig and octet.ReadShort read the numbers back, and the bytes of octet.Big sort as the numbers do. No condition.
-/
import Derived.Test.YtgklbngkanhdlaaKnown
import Derived.Test.YtgklbngkanhdlaaBg
import Derived.WalkKit
import Derived.ProofKit
import Derived.OpenShut
import Derived.ShutString
import Derived.ChangeOld
import Derived.Below
import Derived.Laws.BytesArg
namespace Go.Proofs.Ytgklbngkanhdlaa.octetBigs
open Go.ChangeShapes Go.WideShapes Go.ChangeAt Go.RowKit
open Go.ChangeMaps (open_string shut_string)
open Math
set_option linter.unusedVariables false      -- a walk need not use every 'w<i>' (that an integer argument fits its kind)

theorem own : ownKnob Try.prog.godebug = none := by kernel_rfl

/-- The order of the texts of two rows of bytes of one length is that of the numbers. -/
theorem less_num : ∀ (l m : List Nat), l.length = m.length → Oct l → Oct m → Op.bytesLess (l.map UInt8.ofNat) (m.map UInt8.ofNat) = decide (num l < num m)
  | [], [], _, _, _ => by simp [Op.bytesLess, num]
  | [], _ :: _, h, _, _ => by simp at h
  | _ :: _, [], h, _, _ => by simp at h
  | x :: l, y :: m, h, hl, hm => by
    have hlen : l.length = m.length := by simpa using h
    have ih := less_num l m hlen (fun z hz => hl z (by simp [hz])) (fun z hz => hm z (by simp [hz]))
    have hx : x < 256 := hl x (by simp)
    have hy : y < 256 := hm y (by simp)
    have e1 : num (x :: l) = x * 256 ^ l.length + num l := by
      have := num_app [x] l
      simpa [num] using this
    have e2 : num (y :: m) = y * 256 ^ l.length + num m := by
      have := num_app [y] m
      rw [hlen]; simpa [num] using this
    have n1 := num_lt l (fun z hz => hl z (by simp [hz]))
    have n2 := num_lt m (fun z hz => hm z (by simp [hz]))
    rw [← hlen] at n2
    simp only [List.map_cons, Op.bytesLess, ih, e1, e2]
    have lt8 : (UInt8.ofNat x < UInt8.ofNat y) ↔ x < y := by
      rw [UInt8.lt_iff_toNat_lt, UInt8.toNat_ofNat_of_lt' (by simpa using hx), UInt8.toNat_ofNat_of_lt' (by simpa using hy)]
    have eq8 : (UInt8.ofNat x == UInt8.ofNat y) = decide (x = y) := by
      rw [Bool.eq_iff_iff]; simp only [beq_iff_eq, decide_eq_true_eq]
      constructor
      · intro h
        have := congrArg UInt8.toNat h
        rwa [UInt8.toNat_ofNat_of_lt' (by simpa using hx), UInt8.toNat_ofNat_of_lt' (by simpa using hy)] at this
      · intro h; rw [h]
    rw [eq8]
    generalize 256 ^ l.length = P at n1 n2
    rcases Nat.lt_trichotomy x y with h1 | h1 | h1
    · have h2 : (x + 1) * P ≤ y * P := Nat.mul_le_mul_right _ h1
      rw [Nat.add_mul] at h2
      have : x * P + num l < y * P + num m := by omega
      simp [lt8, h1, this]
    · subst h1
      simp [lt8]
    · have h2 : (y + 1) * P ≤ x * P := Nat.mul_le_mul_right _ h1
      rw [Nat.add_mul] at h2
      have h3 : ¬ (x * P + num l < y * P + num m) := by omega
      have h4 : ¬ x < y := by omega
      have h5 : ¬ x = y := by omega
      simp [lt8, h4, h5, h3]
/-- The text of a row of bytes. -/
def str (l : List Nat) : ByteArray := strOfNums (l.map fun n : Nat => (n : Int))
theorem str_list (l : List Nat) : (str l).toList = l.map UInt8.ofNat := by
  rw [ByteArray.toList_eq]
  unfold str
  rw [strOfNums_data]
  simp
theorem str_conv {W : World} {g : Nat} {l : List Nat} (h : Cells W g 0 l) (n c : Nat) (hn : l.length = n) : (convert 23 9 (.slice (some ⟨g, 0, none⟩) n c)).run Try.prog W = .ok (.string (str l)) W :=
  run_convert_bytes_arg W 23 5 Try.underlying23 Try.underlying5 g 0 n c (l.map fun n : Nat => (n : Int)) (by simpa using hn) (fun i hi => by
    rw [h i (by omega)]
    simp [List.getD_eq_getElem?_getD, List.getElem?_eq_getElem (show i < l.length by omega)]) 9 Try.underlying9
theorem own_cells {W : World} {base g c n : Nat} {l : List Nat} (h : Own W base (.slice (some ⟨g, 0, none⟩) n c) l) (hl : 0 < l.length) : Cells W g 0 l := by
  obtain ⟨g', c', he, _, _, _, _, hc⟩ := h.form hl
  simp only [Value.slice.injEq, Option.some.injEq, Addr.mk.injEq, and_true] at he
  obtain ⟨rfl, _, _⟩ := he
  exact hc
theorem own_cap {W : World} {base g c n : Nat} {l : List Nat} (h : Own W base (.slice (some ⟨g, 0, none⟩) n c) l) (hl : 0 < l.length) : l.length ≤ c := by
  obtain ⟨g', c', he, _, _, hle, _, _⟩ := h.form hl
  simp only [Value.slice.injEq, Option.some.injEq, Addr.mk.injEq, and_true] at he
  obtain ⟨_, _, rfl⟩ := he
  exact hle
theorem same_n (a1 a2 : Option Addr) (n c1 c2 : Nat) (l : List Nat) (hl : l.length = n) (hn : n ≤ 1000000) (W : World) (h1 : Byt W a1 l) (h2 : Byt W a2 l) (hb : Oct l) :
    Calls Try.prog 10 #[.slice a1 n c1, .slice a2 n c2] W fun e w' => e = .returned (.bool true) ∧ ∃ q, w' = W.drewN q := by
  subst hl; exact same_any a1 a2 c1 c2 l hn W h1 h2 hb
set_option maxRecDepth 8000 in
set_option maxHeartbeats 1600000 in
theorem walk (a0 : Int) (a1 : Int) (w0 : (Lit.int .u64 a0).wf = true) (w1 : (Lit.int .u64 a1).wf = true) (w : World) :
    Calls Try.prog 6 #[.int .u64 a0, .int .u64 a1] w fun e w' => e = .returned (.bool true) ∧ Below w.heap.size w w' := by
  obtain ⟨l0, u0⟩ := bounds_u64 w0
  obtain ⟨l1, u1⟩ := bounds_u64 w1
  obtain ⟨p, rfl⟩ := Int.eq_ofNat_of_zero_le l0
  obtain ⟨r, rfl⟩ := Int.eq_ofNat_of_zero_le l1
  have hp : p < 18446744073709551616 := by omega
  have hr : r < 18446744073709551616 := by omega
  clear w0 w1 l0 l1 u0 u1
  have cm : ∀ n : Nat, (n : Int) % 4294967296 = ((n % 4294967296 : Nat) : Int) := fun n => by omega
  have c27 : Hid (∀ (n : Nat) (W : World), Calls Try.prog 27 #[.int .u32 ((n : Int) % 4294967296)] W fun e w' => ∃ g, e = .returned (.slice (some ⟨g, 0, none⟩) 4 4) ∧ Own w' W.heap.size (.slice (some ⟨g, 0, none⟩) 4 4) (hf (n % 4294967296) 4) ∧ Below W.heap.size W w') := fun n W => by
    rw [cm]; exact short_any _ (by omega) W
  have c28 : Hid (∀ (n : Nat) (W : World), Calls Try.prog 28 #[.int .u32 ((n : Int) % 4294967296)] W fun e w' => e = .returned (.slice (some ⟨W.heap.size, 0, none⟩) 4 4) ∧ Own w' W.heap.size (.slice (some ⟨W.heap.size, 0, none⟩) 4 4) (hf (n % 4294967296) 4) ∧ Below W.heap.size W w') := fun n W => by
    rw [cm]; exact shortr_any _ (by omega) W
  have c16 : Hid (∀ (g : Nat) (W : World), Cells W g 0 (hf p 8) → Calls Try.prog 16 #[.slice (some ⟨g, 0, none⟩) 8 8] W fun e w' => e = .returned (.tuple #[.int .u64 p, .int .i64 0]) ∧ w' = W) := fun g W h => by
    have := rb_any (some ⟨g, 0, none⟩) 8 (hf p 8) (by rw [hf_length]; decide) (by rw [hf_length]; decide) W (.inr ⟨_, _, rfl, h⟩) (hf_oct _ _)
    rw [hf_length, show rbg (hf p 8) = (p, 0) by unfold rbg; rw [hf_length, if_neg (by decide), List.take_of_length_le (by rw [hf_length]; decide), num_eight p hp]] at this
    exact this
  have c18 : Hid (∀ (g : Nat) (W : World), Cells W g 0 (hf (r % 4294967296) 4) → Calls Try.prog 18 #[.slice (some ⟨g, 0, none⟩) 4 4] W fun e w' => e = .returned (.tuple #[.int .u32 ((r : Int) % 4294967296), .int .i64 0]) ∧ w' = W) := fun g W h => by
    have := rs_any (some ⟨g, 0, none⟩) 4 (hf (r % 4294967296) 4) (by rw [hf_length]; decide) (by rw [hf_length]; decide) W (.inr ⟨_, _, rfl, h⟩) (hf_oct _ _)
    rw [hf_length, show rsh (hf (r % 4294967296) 4) = (r % 4294967296, 0) by unfold rsh; rw [hf_length, if_neg (by decide), List.take_of_length_le (by rw [hf_length]; decide), num_four _ (by omega)]] at this
    rw [cm]
    exact this
  have hless : Op.bytesLess (str (hf p 8)).toList (str (hf r 8)).toList = decide ((p : Int) < (r : Int)) := by
    rw [str_list, str_list, less_num _ _ (by rw [hf_length, hf_length]) (hf_oct _ _) (hf_oct _ _), num_eight p hp, num_eight r hr]
    simp
  have HL : Hid _ := hless
  clear cm hless
  go_enter Try.func6, Try.ntmps6
  go_wp2_with fail
  refine (big_any p hp w).mono ?_
  rintro e w1 ⟨g1, rfl, o1, b1⟩
  have cA := own_cells o1 (by rw [hf_length]; decide)
  clear o1
  go_wp2_with fail
  refine (big_any r hr w1).mono ?_
  rintro e w2 ⟨g2, rfl, o2, d2⟩
  have cB := own_cells o2 (by rw [hf_length]; decide)
  have cA := cA.below d2
  have b2 := b1.trans (d2.mono b1.size)
  clear o2 d2 b1
  go_wp2_with fail
  refine (bigr_any p hp w2).mono ?_
  rintro e w3 ⟨g3, c3, rfl, o3, d3⟩
  have cC := own_cells o3 (by rw [hf_length]; decide)
  have cA := cA.below d3
  have cB := cB.below d3
  have b3 := b2.trans (d3.mono b2.size)
  clear o3 d3 b2
  go_wp2_with fail
  refine (same_n _ _ 8 _ _ (hf p 8) (hf_length _ _) (by decide) w3 (.inr ⟨_, _, rfl, cA⟩) (.inr ⟨_, _, rfl, cC⟩) (hf_oct _ _)).mono ?_
  rintro e w4 ⟨rfl, q, rfl⟩
  have d4 := below_drewN (Below.refl w3.heap.size w3) q
  have cA := cA.below d4
  have cB := cB.below d4
  have b4 := below_drewN b3 q
  clear cC d4 b3
  generalize w3.drewN q = w4 at cA cB b4
  go_wp2_with fail
  refine (c27.out p w4).mono ?_
  rintro e w5 ⟨g5, rfl, o5, d5⟩
  have cD := own_cells o5 (by rw [hf_length]; decide)
  have cA := cA.below d5
  have cB := cB.below d5
  have b5 := b4.trans (d5.mono b4.size)
  clear o5 d5 b4
  go_wp2_with fail
  refine (c28.out p w5).mono ?_
  rintro e w6 ⟨rfl, o6, d6⟩
  have cE := own_cells o6 (by rw [hf_length]; decide)
  have cA := cA.below d6
  have cB := cB.below d6
  have cD := cD.below d6
  have b6 := b5.trans (d6.mono b5.size)
  clear o6 d6 b5
  go_wp2_with fail
  refine (same_n _ _ 4 _ _ (hf (p % 4294967296) 4) (hf_length _ _) (by decide) w6 (.inr ⟨_, _, rfl, cD⟩) (.inr ⟨_, _, rfl, cE⟩) (hf_oct _ _)).mono ?_
  rintro e w7 ⟨rfl, q2, rfl⟩
  have d7 := below_drewN (Below.refl w6.heap.size w6) q2
  have cA := cA.below d7
  have cB := cB.below d7
  have b7 := below_drewN b6 q2
  clear cD cE d7 b6 c28
  generalize w6.drewN q2 = w7 at cA cB b7
  go_wp2_with fail
  refine (c16.out g1 w7 cA).mono ?_
  rintro e w8 ⟨rfl, rfl⟩
  clear c16
  go_wp2_with fail
  refine (c27.out r _).mono ?_
  rintro e w9 ⟨g9, rfl, o9, d9⟩
  have cF := own_cells o9 (by rw [hf_length]; decide)
  have cA := cA.below d9
  have cB := cB.below d9
  have b9 := b7.trans (d9.mono b7.size)
  clear o9 d9 b7 c27
  go_wp2_with fail
  refine (c18.out g9 w9 cF).mono ?_
  rintro e w10 ⟨rfl, rfl⟩
  clear c18 cF
  have s1 := str_conv cA 8 8 (hf_length _ _)
  have s2 := str_conv cB 8 8 (hf_length _ _)
  have hless := HL.out
  generalize str (hf p 8) = SA at s1 hless
  generalize str (hf r 8) = SB at s2 hless
  clear cA cB HL
  go_wp2_with fail
  refine (known_any _).mono ?_
  rintro e w11 ⟨rfl, hk⟩
  go_wp2
  go_ret
  exact ⟨rfl, b9.trans (hk.mono b9.size)⟩

/-! ### THE ROW's STEP: WRITTEN OUT: LEAVE IT -/
set_option maxRecDepth 100000 in
theorem lifted (os : Os) (started : os.Started) (H : Type) (enc : TypeId × Value → H) :
    ReturnsInHanded {} Try.checked os 6 .any (Rows.octetBigsSpec.pre6 enc Try.prog Try.f6 Rows.octetBigsRow.domain false) (Rows.octetBigsSpec.post enc Try.prog Try.f6 false true false false) := by
  refine returnsInHanded_of_change (C := Try.checked) own started (by kernel_rfl) Try.func6
    (ChangeSpec.witness6 (enc := enc) (C := Try.checked) false ⟨#[], #[.int .u64 0, .int .u64 0], []⟩ 8 (by kernel_rfl) (by kernel_rfl) (by kernel_rfl) (by kernel_rfl)) ?_
  intro W base args ds gs before hval0 hW hcnd _
  have hval : ∀ (j : Nat) t v, Try.f6.params[j]? = some t → args[j]? = some v → Value.okWide Try.prog W .any base t v := hval0
  have hW' := hW
  obtain ⟨p, q, hA0, hV, rfl, hfz, hnd⟩ := hW
  have hA : DataW.TrodAll enc Try.prog W 0 (fun _ => true) true Try.f6.params.toList args.toList ds p := hA0
  rw [Try.params6] at hA hval
  obtain ⟨v0, vs0, d0, ds0, p0, q0, hargs, rfl, rfl, h0, r0⟩ := trodAll_cons hA
  obtain ⟨v1, vs1, d1, ds1, p1, q1, rfl, rfl, rfl, h1, r1⟩ := trodAll_cons r0
  obtain ⟨rfl, rfl, rfl⟩ := trodAll_nil r1
  obtain rfl : args = #[v0, v1] := by cases args; simp_all
  obtain ⟨rfl, rfl⟩ := trodVars_none hV
  obtain ⟨a0, rfl, rfl, rfl, w0⟩ := open_int Try.underlying22 (hval 0 22 v0 rfl rfl) h0
  obtain ⟨a1, rfl, rfl, rfl, w1⟩ := open_int Try.underlying22 (hval 1 22 v1 rfl rfl) h1
  clear hA0 hval0
  simp only [List.append_nil] at hW'
  refine (walk a0 a1 w0 w1 W).mono fun e W' ⟨he, bel⟩ => ?_
  subst he
  exact ⟨_, rfl, _, _, _, [], _, [], hW', trodAll_mk1 (shut_bool Try.underlying4 _), (trodAll_cons_mk (shut_int Try.underlying22 w0) (trodAll_cons_mk (shut_int Try.underlying22 w1) trodAll_mk0)), rfl, bel.frame _, fun h => by cases h⟩

theorem over : Rows.octetBigsRow.holds Try.pinned (OpenSpec.ofChange Rows.octetBigsSpec) :=
  OpenClaim.holds_of_wide 6 Try.f6 rfl rfl rfl rfl rfl rfl rfl ⟨rfl, rfl, rfl, rfl, rfl⟩ rfl rfl rfl rfl rfl (by kernel_rfl) Try.func6 (by kernel_rfl)
    (of_decide_eq_true (by kernel_rfl)) (by unfold Func.isWrapper; first | (rw [if_pos (by decide +kernel)]; kernel_rfl) | (rw [if_neg (by decide +kernel)]; exact ⟨rfl, rfl⟩))
    (fun os started H enc _ => lifted os started H enc)

/-- ████ THE STATEMENT ████ -/
theorem proved : Rows.OctetBigsSaid :=
  over
#print axioms proved
end Go.Proofs.Ytgklbngkanhdlaa.octetBigs
namespace Go.Proofs.Ytgklbngkanhdlaa
/-- The statement, at the seat's own name. -/
theorem octetBigs_holds : Rows.OctetBigsSaid := octetBigs.proved
#print axioms octetBigs_holds
end Go.Proofs.Ytgklbngkanhdlaa
