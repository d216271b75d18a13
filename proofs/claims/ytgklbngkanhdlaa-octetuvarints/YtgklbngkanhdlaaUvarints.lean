/-
  Proved: for every uint64 and every slice of bytes behind it the law OctetUvarints returns true: octet.Uvarint makes the document's own bytes, at least one and at most ten, and octet.ReadUvarint reads the number out of them, whatever (at most 3000 bytes) stands behind. No condition.
-/
import Derived.Test.YtgklbngkanhdlaaKnown
import Derived.Test.YtgklbngkanhdlaaUv
import Derived.WalkKit
import Derived.ProofKit
import Derived.OpenShut
import Derived.ShutString
import Derived.ChangeOld
import Derived.Below
namespace Go.Proofs.Ytgklbngkanhdlaa.octetUvarints
open Go.ChangeShapes Go.WideShapes Go.ChangeAt Go.RowKit
open Go.ChangeMaps (open_string shut_string)
open Math
set_option linter.unusedVariables false

theorem own : ownKnob Try.prog.godebug = none := by kernel_rfl
theorem laidOut : laidOutB Try.prog = true := by kernel_rfl

set_option maxRecDepth 8000 in
set_option maxHeartbeats 800000 in
theorem walk (a0 : Int) (a1 : Option Addr) (len1 cap1 : Nat) (z1 : List Int) (w : World) (w0 : (Lit.int .u64 a0).wf = true) (w1 : IsRow .u8 w a1 len1 cap1 z1) :
    Calls Try.prog 3 #[.int .u64 a0, .slice a1 len1 cap1] w fun e w' => e = .returned (.bool true) ∧ Below w.heap.size w w' := by
  obtain ⟨l, rfl, hc, hb, hnil, hmax⟩ := row_byt w1
  obtain ⟨l0, u0⟩ := bounds_u64 w0
  obtain ⟨n, rfl⟩ := Int.eq_ofNat_of_zero_le l0
  have hn : n < 18446744073709551616 := by omega
  unfold maxLen at hmax
  clear w0 w1 u0 l0
  by_cases hbig : 3000 < l.length
  · clear hc hb hn
    go_enter Try.func3, Try.ntmps3
    go_wp2
    go_ret
    exact ⟨rfl, Below.refl _ _⟩
  have hU1 : Hid (∀ W, Calls Try.prog 9 #[.int .u64 n] W fun e w' => ∃ r, e = .returned r ∧ Own w' W.heap.size r (uv n) ∧ Below W.heap.size W w') := uv_any n hn
  have hU2 : Hid (∀ W, Calls Try.prog 11 #[.int .u64 n] W fun e w' => ∃ r, e = .returned r ∧ Own w' W.heap.size r (uv n) ∧ Below W.heap.size W w') := uvr_any n hn
  have hL1 := uv_pos n
  have hL10 := uv_ten n hn
  have hLo : Oct (uv n) := uv_oct n
  have HR : Hid (ruv (uv n ++ l) 0 0 = (n, (uv n).length, 0)) := ruv_back n l hn
  have hLb : Oct (uv n ++ l) := fun x hx => by
    rcases List.mem_append.1 hx with h | h
    · exact hLo x h
    · exact hb x h
  have HRS : Hid (∀ a c W, Byt W a (uv n ++ l) → Calls Try.prog 12 #[.slice a ((uv n).length + l.length) c] W fun e w' => e = .returned (tri (ruv (uv n ++ l) 0 0)) ∧ w' = W) := fun a c W h => by
    rw [← List.length_append]; exact ruv_any a c _ (by simp; omega) W h hLb
  generalize uv n = L at hU1 hU2 hL1 hL10 hLo HR HRS hLb
  go_enter Try.func3, Try.ntmps3
  go_wp2_with fail
  refine (hU1.out w).mono ?_
  rintro e w1 ⟨r, rfl, o1, b1⟩
  obtain ⟨g, c, rfl, hg, hgs, hlc, hcm, hcell⟩ := o1.form hL1
  have s1 := b1.size
  go_wp2_with fail
  refine (hU2.out w1).mono ?_
  rintro e w2 ⟨r, rfl, o2, b2⟩
  obtain ⟨g2, c2, rfl, hg2, hgs2, hlc2, hcm2, hcell2⟩ := o2.form hL1
  have b12 := b1.trans (b2.mono s1)
  have hcb := hcell.below b2
  clear o1 o2 hU1 hU2 b1 hcell
  go_wp2_with fail
  refine (same_any _ _ _ _ L (by omega) _ (.inr ⟨g, 0, rfl, hcb⟩) (.inr ⟨g2, 0, rfl, hcell2⟩) hLo).mono ?_
  rintro e w3 ⟨rfl, q, rfl⟩
  have b3 := below_drewN b12 q
  have d3 := below_drewN (Below.refl w2.heap.size w2) q
  have hcb3 := hcb.below d3
  clear hcb hcell2 b2 d3 b12 hgs hgs2 hlc2 hcm2 hg2 s1
  generalize w2.drewN q = W at b3 hcb3
  have b4 : Below w.heap.size w (W.alloc (.cells #[] 5)) := b3.alloc b3.size _
  have d4 : Below W.heap.size W (W.alloc (.cells #[] 5)) := (Below.refl _ _).alloc (Nat.le_refl _) _
  have hcb4 : Byt (W.alloc (.cells #[] 5)) (some ⟨g, 0, none⟩) L := .inr ⟨g, 0, rfl, hcb3.below d4⟩
  have oe := own_empty W _ (Nat.le_refl _)
  have hL1' : (1 : Int) ≤ (L.length : Int) := by omega
  have hL10' : (L.length : Int) ≤ 10 := by omega
  clear hcb3
  go_wp2_with (at_builtin; go_must (refine app_bytes rfl (.tmp 30) (.tmp 31) rfl W.heap.size _ [] rfl oe _ _ c L rfl rfl hcb4 (by simp) (by simp; omega) (by simp) ?_))
  intro v5 w5 o5 g5
  have b5 := below_app d4 (by simp) oe g5
  have bw5 := b3.trans (b5.mono b3.size)
  have hc5 := hc.below bw5
  have s5 := b5.size
  clear g5 hcb4 oe d4 b4
  go_wp2_with (at_builtin; go_must (refine app_bytes rfl (.tmp 32) (.tmp 33) rfl W.heap.size _ L rfl o5 _ _ cap1 l rfl rfl hc5 hnil (by omega) (by omega) ?_))
  intro v6 w6 o6 g6
  have b6 := below_app b5 s5 o5 g6
  have bw6 := b3.trans (b6.mono b3.size)
  obtain ⟨g7, c7, rfl, hg7, hgs7, hlc7, hcm7, hcell7⟩ := o6.form (by simp; omega)
  clear g6 o5 o6 hc5 b5 b6 bw5
  go_wp2_with fail
  refine (HRS.out _ _ _ (.inr ⟨g7, 0, rfl, hcell7⟩)).mono ?_
  rintro e w7 ⟨rfl, rfl⟩
  rw [HR.out]
  unfold tri
  go_wp2_with fail
  refine (known_any _).mono ?_
  rintro e w8 ⟨rfl, hk⟩
  go_wp2
  go_ret
  exact ⟨rfl, bw6.trans (hk.mono bw6.size)⟩

/-! ### THE ROW's STEP: WRITTEN OUT: LEAVE IT -/
set_option maxRecDepth 100000 in
theorem lifted (os : Os) (started : os.Started) (H : Type) (enc : TypeId × Value → H) :
    ReturnsInHanded {} Try.checked os 3 .any (Rows.octetUvarintsSpec.pre6 enc Try.prog Try.f3 Rows.octetUvarintsRow.domain false) (Rows.octetUvarintsSpec.post enc Try.prog Try.f3 false true false false) := by
  refine returnsInHanded_of_change (C := Try.checked) own started (by kernel_rfl) Try.func3
    (ChangeSpec.witness6 (enc := enc) (C := Try.checked) false ⟨#[], #[.int .u64 0, .slice none 0 0], []⟩ 8 (by kernel_rfl) (by kernel_rfl) (by kernel_rfl) (by kernel_rfl)) ?_
  intro W base args ds gs before hval0 hW hcnd _
  have hval : ∀ (j : Nat) t v, Try.f3.params[j]? = some t → args[j]? = some v → Value.okWide Try.prog W .any base t v := hval0
  have hW' := hW
  obtain ⟨p, q, hA0, hV, rfl, hfz, hnd⟩ := hW
  have hA : DataW.TrodAll enc Try.prog W 0 (fun _ => true) true Try.f3.params.toList args.toList ds p := hA0
  rw [Try.params3] at hA hval
  obtain ⟨v0, vs0, d0, ds0, p0, q0, hargs, rfl, rfl, h0, r0⟩ := trodAll_cons hA
  obtain ⟨v1, vs1, d1, ds1, p1, q1, rfl, rfl, rfl, h1, r1⟩ := trodAll_cons r0
  obtain ⟨rfl, rfl, rfl⟩ := trodAll_nil r1
  obtain rfl : args = #[v0, v1] := by cases args; simp_all
  obtain ⟨rfl, rfl⟩ := trodVars_none hV
  obtain ⟨a0, rfl, rfl, rfl, w0⟩ := open_int Try.underlying22 (hval 0 22 v0 rfl rfl) h0
  obtain ⟨a1, len1, cap1, rfl⟩ := okWide_slice Try.underlying23 (hval 1 23 v1 rfl rfl)
  have k1 := h1
  have lt1 : ∀ x ∈ p1, x.block < W.heap.size := by obtain ⟨m, hm⟩ := k1; exact DataW.trod_lt m _ _ _ hm
  obtain ⟨z1, w1⟩ : ∃ zs, IsRow .u8 W a1 len1 cap1 zs := by
    obtain ⟨fuel, hf⟩ := h1
    rcases open_ints Try.underlying23 Try.underlying5 (by kernel_rfl) hf with ⟨hcs, _⟩ | ⟨x, l, c, zs, hcs, _, hl, hm, hz, _, hcell, hwz⟩
    · simp [Value.cells] at hcs
      obtain ⟨rfl, rfl, rfl⟩ := hcs
      exact ⟨[], .inl ⟨rfl, rfl, rfl, rfl⟩⟩
    · simp [Value.cells] at hcs
      obtain ⟨rfl, rfl, rfl⟩ := hcs
      exact ⟨zs, .inr ⟨_, rfl, hl, hm, by simpa using hz, hcell, hwz⟩⟩
  clear hA0 hval0
  refine (walk a0 a1 len1 cap1 z1 W w0 w1).mono fun e W' ⟨he, bel⟩ => ?_
  subst he
  exact ⟨_, rfl, _, _, _, [], _, [], hW', trodAll_mk1 (shut_bool Try.underlying4 _), (trodAll_cons_mk (shut_int Try.underlying22 w0) (trodAll_cons_mk (Below.trod laidOut (by kernel_rfl) (of_decide_eq_true (by kernel_rfl)) k1 bel lt1) trodAll_mk0)), rfl, bel.frame _, fun h => by cases h⟩

theorem over : Rows.octetUvarintsRow.holds Try.pinned (OpenSpec.ofChange Rows.octetUvarintsSpec) :=
  OpenClaim.holds_of_wide 3 Try.f3 rfl rfl rfl rfl rfl rfl rfl ⟨rfl, rfl, rfl, rfl, rfl⟩ rfl rfl rfl rfl rfl (by kernel_rfl) Try.func3 (by kernel_rfl)
    (of_decide_eq_true (by kernel_rfl)) (by unfold Func.isWrapper; first | (rw [if_pos (by decide +kernel)]; kernel_rfl) | (rw [if_neg (by decide +kernel)]; exact ⟨rfl, rfl⟩))
    (fun os started H enc _ => lifted os started H enc)

/-- ████ THE STATEMENT ████ -/
theorem proved : Rows.OctetUvarintsSaid := over
#print axioms proved
end Go.Proofs.Ytgklbngkanhdlaa.octetUvarints
namespace Go.Proofs.Ytgklbngkanhdlaa
/-- The statement, at the seat's own name. -/
theorem octetUvarints_holds : Rows.OctetUvarintsSaid := octetUvarints.proved
#print axioms octetUvarints_holds
end Go.Proofs.Ytgklbngkanhdlaa
