/-
  Proved: for every slice of bytes, every int and every byte the law OctetSees returns true: of at most 3000 bytes, one of which is another one, octet.Sum is another number. No condition.
-/
import Derived.Test.YtgklbngkanhdlaaKnown
import Derived.Test.YtgklbngkanhdlaaSame
import Derived.WalkKit
import Derived.ProofKit
import Derived.OpenShut
import Derived.ShutString
import Derived.ChangeOld
import Derived.Below
namespace Go.Proofs.Ytgklbngkanhdlaa.octetSees
open Go.ChangeShapes Go.WideShapes Go.ChangeAt Go.RowKit
open Go.ChangeMaps (open_string shut_string)
open Math
set_option linter.unusedVariables false

theorem own : ownKnob Try.prog.godebug = none := by kernel_rfl
theorem laidOut : laidOutB Try.prog = true := by kernel_rfl

theorem vals_set (l : List Nat) (j z : Nat) : vals (l.set j z) = (vals l).set j (.int .u8 (z : Int)) := by simp [vals, List.map_set]
theorem own_stored {w : World} {base g c : Nat} {l : List Nat} (h : Own w base (.slice (some ⟨g, 0, none⟩) l.length c) l) (j z : Nat) :
    Cells (w.setCell ⟨g, j, none⟩ (.int .u8 (z : Int))) g 0 (l.set j z) ∧ w.grownBy (w.setCell ⟨g, j, none⟩ (.int .u8 (z : Int))) (some g) := by
  obtain ⟨o2, g2⟩ := World.ownsRow.stored h j (.int .u8 (z : Int))
  refine ⟨fun i hi => ?_, g2⟩
  rw [← vals_set l _ z] at o2
  rw [Nat.zero_add, World.ownsRow.cellAt o2 i (by simpa using hi), vals_get _ i hi]
theorem oct_set {l : List Nat} (hb : Oct l) (j z : Nat) (hz : z < 256) : Oct (l.set j z) := fun x hx => by
  rcases List.mem_or_eq_of_mem_set hx with h | h
  · exact hb x h
  · omega
theorem xor_ne {x y : Nat} (hy : y ≠ 0) : x ^^^ y ≠ x := by
  intro h
  have h2 : x ^^^ y = x ^^^ 0 := by rw [Nat.xor_zero]; exact h
  exact hy (xor_lc h2)
theorem sees (l : List Nat) (j z : Nat) (hj : j < l.length) (hb : Oct l) (hz : z < 256) (hne : z ≠ l.getD j 0) : 4294967295 - crcT 4294967295 l ≠ 4294967295 - crcT 4294967295 (l.set j z) := by
  have e1 : l = l.take j ++ l.getD j 0 :: l.drop (j + 1) := by rw [← drop_get l j hj, List.take_append_drop]
  have e2 : l.set j z = l.take j ++ z :: l.drop (j + 1) := by
    rw [List.set_eq_take_append_cons_drop, if_pos hj]
  have h1 : ∀ x ∈ l.take j, x < 256 := fun x hx => hb x (List.mem_of_mem_take hx)
  have h2 : ∀ x ∈ l.drop (j + 1), x < 256 := fun x hx => hb x (List.mem_of_mem_drop hx)
  have h3 := crcB_sees 4294967295 (l.take j) (l.drop (j + 1)) (l.getD j 0) z (by decide) h1 h2 (oct_get hb j) hz (Ne.symm hne)
  rw [← e1, ← e2] at h3
  have h4 := crcB_lt 4294967295 l (by decide) hb
  have h5 := crcB_lt 4294967295 (l.set j z) (by decide) (fun x hx => by
    rcases List.mem_or_eq_of_mem_set hx with h | h
    · exact hb x h
    · omega)
  rw [crc_eq, crc_eq]
  omega
theorem and30 (n : Int) : bits .and .i64 n 1073741823 = n % 1073741824 := by
  have h127 : (BitVec.ofInt 64 1073741823).toNat = 2 ^ 30 - 1 := by decide
  have key : (BitVec.ofInt 64 n &&& BitVec.ofInt 64 1073741823).toNat = (n % ((2 ^ 64 : Nat) : Int)).toNat % 2 ^ 30 := by
    rw [BitVec.toNat_and, BitVec.toNat_ofInt, h127, Nat.and_two_pow_sub_one_eq_mod]
  show IntKind.i64.wrap ((BitVec.ofInt 64 n &&& BitVec.ofInt 64 1073741823).toNat : Nat) = n % 1073741824
  rw [key, IntKind.wrap_i64]
  omega

set_option maxHeartbeats 800000 in
theorem walk (a0 : Option Addr) (len0 cap0 : Nat) (z0 : List Int) (a1 : Int) (a2 : Int) (w : World) (w0 : IsRow .u8 w a0 len0 cap0 z0) (w1 : (Lit.int .i64 a1).wf = true) (w2 : (Lit.int .u8 a2).wf = true) :
    Calls Try.prog 8 #[.slice a0 len0 cap0, .int .i64 a1, .int .u8 a2] w fun e w' => e = .returned (.bool true) ∧ Below w.heap.size w w' := by
  obtain ⟨l, rfl, hc, hb, hnil, hmax⟩ := row_byt w0
  obtain ⟨l2, u2⟩ := bounds_u8 w2
  unfold maxLen at hmax
  clear w0 w1 w2
  by_cases hbig : 3000 < l.length
  · clear hc hb
    go_enter Try.func8, Try.ntmps8
    go_wp2
    go_ret
    exact ⟨rfl, Below.refl _ _⟩
  by_cases h0 : ((l.length : Int) == 0) = true
  · clear hc hb
    go_enter Try.func8, Try.ntmps8
    go_wp2
    go_ret
    exact ⟨rfl, Below.refl _ _⟩
  have h0 : ((l.length : Int) == 0) = false := by simpa using h0
  have hpos : 0 < l.length := by
    rcases Nat.eq_zero_or_pos l.length with h | h
    · simp [h] at h0
    · exact h
  by_cases hby : (a2 == 0) = true
  · clear hc hb
    go_enter Try.func8, Try.ntmps8
    go_wp2
    go_ret
    exact ⟨rfl, Below.refl _ _⟩
  have hby : (a2 == 0) = false := by simpa using hby
  obtain ⟨y, rfl⟩ := Int.eq_ofNat_of_zero_le l2
  obtain ⟨m, hm, hm30⟩ : ∃ m : Nat, bits .and .i64 a1 1073741823 = (m : Int) ∧ m < 1073741824 :=
    ⟨(a1 % 1073741824).toNat, by rw [and30]; omega, by omega⟩
  have b0 : Below w.heap.size w (w.alloc (.cells #[] 5)) := (Below.refl _ _).alloc (Nat.le_refl _) _
  have hc0 := hc.below b0
  have oe := own_empty w _ (Nat.le_refl _)
  go_enter Try.func8, Try.ntmps8
  go_wp2_with (at_builtin; refine app_bytes rfl (.tmp 20) (.tmp 21) rfl w.heap.size _ [] rfl oe a0 _ cap0 l rfl rfl hc0 hnil (by simp; omega) (by simp) ?_)
  intro v1 w1 o1 g1
  have b1 := below_app b0 (by simp) oe g1
  have s1 := b1.size
  clear g1 b0 oe hc0
  obtain ⟨g, c, rfl, hg, hgs, hlc, hcm, hcell⟩ := o1.form hpos
  have hlt : m % l.length < l.length := Nat.mod_lt _ hpos
  have hlt' : (m : Int) % (l.length : Int) < (l.length : Int) := by omega
  have hfr := World.ownsRow.frozenAt o1 (m % l.length)
  have hce := hcell _ hlt
  rw [Nat.zero_add] at hce
  have hx := oct_get hb (m % l.length)
  obtain ⟨z, hz, hz256, HZ⟩ : ∃ z : Nat, bits .xor .u8 ((l.getD (m % l.length) 0 : Nat) : Int) (y : Int) = (z : Int) ∧ z < 256 ∧ Hid (z = l.getD (m % l.length) 0 ^^^ y) :=
    ⟨_, u8_xor_nat _ y hx (by omega), Nat.xor_lt_two_pow (n := 8) (by omega) (by omega), rfl⟩
  have hne := sees l (m % l.length) z hlt hb hz256 (by rw [HZ.out]; exact xor_ne (by intro h; subst h; simp at hby))
  obtain ⟨hcell', g2⟩ := own_stored o1 (m % l.length) z
  have b2 := b1.grown g2 s1 (fun k hk => by cases hk; exact hg)
  have hob := oct_set hb (m % l.length) z hz256
  have hby2 := hc.below b2
  have hS2 := fun W hW => sum_any (some ⟨g, 0, none⟩) c (l.set (m % l.length) z) (by simp; omega) W hW hob
  rw [List.length_set] at hS2
  have hgs' : Below (w1.setCell ⟨g, m % l.length, none⟩ (.int .u8 (z : Int))).heap.size (w1.setCell ⟨g, m % l.length, none⟩ (.int .u8 (z : Int))) (tabW (w1.setCell ⟨g, m % l.length, none⟩ (.int .u8 (z : Int)))) := (Below.refl _ _).alloc (Nat.le_refl _) _
  have b3 := b2.trans (hgs'.mono b2.size)
  have hcell2 := hcell'.below hgs'
  have HS2 : Hid (∀ W, Byt W (some ⟨g, 0, none⟩) (l.set (m % l.length) z) → Calls Try.prog 29 #[.slice (some ⟨g, 0, none⟩) l.length c] W fun e w' => e = .returned (.int .u32 ((4294967295 - crcT 4294967295 (l.set (m % l.length) z) : Nat) : Int)) ∧ w' = tabW W) := hS2
  have HC2 : Hid (Byt (tabW (w1.setCell ⟨g, m % l.length, none⟩ (.int .u8 (z : Int)))) (some ⟨g, 0, none⟩) (l.set (m % l.length) z)) := .inr ⟨g, 0, rfl, hcell2⟩
  clear hS2 hcell' hcell2 g2 hgs' o1 hcell b1 hob hc HZ
  generalize hl' : l.set (m % l.length) z = l' at HS2 HC2 hne
  clear hl'
  generalize l.getD (m % l.length) 0 = x at hx hz hce
  go_wp2_with fail
  refine (sum_any a0 cap0 l (by omega) _ hby2 hb).mono ?_
  rintro e w2 ⟨rfl, rfl⟩
  clear hby2 hb
  go_wp2_with fail
  refine (HS2.out _ HC2.out).mono ?_
  rintro e w2 ⟨rfl, rfl⟩
  clear HS2 HC2
  generalize 4294967295 - crcT 4294967295 l = s1, 4294967295 - crcT 4294967295 l' = s2 at hne
  have hne : ((s1 : Int) != (s2 : Int)) = true := by simp; omega
  have b4 : Below w.heap.size w (tabW (tabW (w1.setCell ⟨g, m % l.length, none⟩ (.int .u8 (z : Int))))) := b3.alloc b3.size _
  go_wp2_with fail
  refine (known_any _).mono ?_
  rintro e w2 ⟨rfl, hk⟩
  go_wp2
  go_ret
  exact ⟨rfl, b4.trans (hk.mono b4.size)⟩

/-! ### THE ROW's STEP: WRITTEN OUT: LEAVE IT -/
set_option maxRecDepth 100000 in
theorem lifted (os : Os) (started : os.Started) (H : Type) (enc : TypeId × Value → H) :
    ReturnsInHanded {} Try.checked os 8 .any (Rows.octetSeesSpec.pre6 enc Try.prog Try.f8 Rows.octetSeesRow.domain false) (Rows.octetSeesSpec.post enc Try.prog Try.f8 false true false false) := by
  refine returnsInHanded_of_change (C := Try.checked) own started (by kernel_rfl) Try.func8
    (ChangeSpec.witness6 (enc := enc) (C := Try.checked) false ⟨#[], #[.slice none 0 0, .int .i64 0, .int .u8 0], []⟩ 8 (by kernel_rfl) (by kernel_rfl) (by kernel_rfl) (by kernel_rfl)) ?_
  intro W base args ds gs before hval0 hW hcnd _
  have hval : ∀ (j : Nat) t v, Try.f8.params[j]? = some t → args[j]? = some v → Value.okWide Try.prog W .any base t v := hval0
  have hW' := hW
  obtain ⟨p, q, hA0, hV, rfl, hfz, hnd⟩ := hW
  have hA : DataW.TrodAll enc Try.prog W 0 (fun _ => true) true Try.f8.params.toList args.toList ds p := hA0
  rw [Try.params8] at hA hval
  obtain ⟨v0, vs0, d0, ds0, p0, q0, hargs, rfl, rfl, h0, r0⟩ := trodAll_cons hA
  obtain ⟨v1, vs1, d1, ds1, p1, q1, rfl, rfl, rfl, h1, r1⟩ := trodAll_cons r0
  obtain ⟨v2, vs2, d2, ds2, p2, q2, rfl, rfl, rfl, h2, r2⟩ := trodAll_cons r1
  obtain ⟨rfl, rfl, rfl⟩ := trodAll_nil r2
  obtain rfl : args = #[v0, v1, v2] := by cases args; simp_all
  obtain ⟨rfl, rfl⟩ := trodVars_none hV
  obtain ⟨a0, len0, cap0, rfl⟩ := okWide_slice Try.underlying23 (hval 0 23 v0 rfl rfl)
  have k0 := h0
  have lt0 : ∀ x ∈ p0, x.block < W.heap.size := by obtain ⟨m, hm⟩ := k0; exact DataW.trod_lt m _ _ _ hm
  obtain ⟨z0, w0⟩ : ∃ zs, IsRow .u8 W a0 len0 cap0 zs := by
    obtain ⟨fuel, hf⟩ := h0
    rcases open_ints Try.underlying23 Try.underlying5 (by kernel_rfl) hf with ⟨hcs, _⟩ | ⟨x, l, c, zs, hcs, _, hl, hm, hz, _, hcell, hwz⟩
    · simp [Value.cells] at hcs
      obtain ⟨rfl, rfl, rfl⟩ := hcs
      exact ⟨[], .inl ⟨rfl, rfl, rfl, rfl⟩⟩
    · simp [Value.cells] at hcs
      obtain ⟨rfl, rfl, rfl⟩ := hcs
      exact ⟨zs, .inr ⟨_, rfl, hl, hm, by simpa using hz, hcell, hwz⟩⟩
  obtain ⟨a1, rfl, rfl, rfl, w1⟩ := open_int Try.underlying3 (hval 1 3 v1 rfl rfl) h1
  obtain ⟨a2, rfl, rfl, rfl, w2⟩ := open_int Try.underlying5 (hval 2 5 v2 rfl rfl) h2
  clear hA0 hval0
  refine (walk a0 len0 cap0 z0 a1 a2 W w0 w1 w2).mono fun e W' ⟨he, bel⟩ => ?_
  subst he
  exact ⟨_, rfl, _, _, _, [], _, [], hW', trodAll_mk1 (shut_bool Try.underlying4 _), (trodAll_cons_mk (Below.trod laidOut (by kernel_rfl) (of_decide_eq_true (by kernel_rfl)) k0 bel lt0) (trodAll_cons_mk (shut_int Try.underlying3 w1) (trodAll_cons_mk (shut_int Try.underlying5 w2) trodAll_mk0))), rfl, bel.frame _, fun h => by cases h⟩

theorem over : Rows.octetSeesRow.holds Try.pinned (OpenSpec.ofChange Rows.octetSeesSpec) :=
  OpenClaim.holds_of_wide 8 Try.f8 rfl rfl rfl rfl rfl rfl rfl ⟨rfl, rfl, rfl, rfl, rfl⟩ rfl rfl rfl rfl rfl (by kernel_rfl) Try.func8 (by kernel_rfl)
    (of_decide_eq_true (by kernel_rfl)) (by unfold Func.isWrapper; first | (rw [if_pos (by decide +kernel)]; kernel_rfl) | (rw [if_neg (by decide +kernel)]; exact ⟨rfl, rfl⟩))
    (fun os started H enc _ => lifted os started H enc)

/-- ████ THE STATEMENT ████ -/
theorem proved : Rows.OctetSeesSaid := over
#print axioms proved
end Go.Proofs.Ytgklbngkanhdlaa.octetSees
namespace Go.Proofs.Ytgklbngkanhdlaa
/-- The statement, at the seat's own name. -/
theorem octetSees_holds : Rows.OctetSeesSaid := octetSees.proved
#print axioms octetSees_holds
end Go.Proofs.Ytgklbngkanhdlaa
