/-
  Proved: for every slice of bytes the law OctetReads returns true: octet.ReadUvarint, ReadBig and ReadShort of at most 3000 bytes answer what the document's own do, errors too, and neither the bytes nor the room behind them are written. No condition.
-/
import Derived.Test.YtgklbngkanhdlaaKnown
import Derived.Test.YtgklbngkanhdlaaSame
import Derived.Test.YtgklbngkanhdlaaRd
import Derived.Test.YtgklbngkanhdlaaRuvr
import Derived.WalkKit
import Derived.ProofKit
import Derived.OpenShut
import Derived.ShutString
import Derived.ChangeOld
import Derived.Below
namespace Go.Proofs.Ytgklbngkanhdlaa.octetReads
open Go.ChangeShapes Go.WideShapes Go.ChangeAt Go.RowKit
open Go.ChangeMaps (open_string shut_string)
open Math
set_option linter.unusedVariables false

theorem own : ownKnob Try.prog.godebug = none := by kernel_rfl
theorem laidOut : laidOutB Try.prog = true := by kernel_rfl

theorem row_cap {w : World} {a : Option Addr} {len cap : Nat} {zs : List Int} (h : IsRow .u8 w a len cap zs) : len ≤ cap ∧ cap ≤ 9223372036854775807 := by
  rcases h with ⟨rfl, rfl, rfl, rfl⟩ | ⟨x, rfl, hlc, hm, _⟩
  · exact ⟨Nat.le_refl _, by omega⟩
  · unfold maxLen at hm; exact ⟨hlc, by omega⟩
set_option maxRecDepth 8000 in
set_option maxHeartbeats 1600000 in
theorem walk (a0 : Option Addr) (len0 cap0 : Nat) (z0 : List Int) (w : World) (w0 : IsRow .u8 w a0 len0 cap0 z0) :
    Calls Try.prog 4 #[.slice a0 len0 cap0] w fun e w' => e = .returned (.bool true) ∧ Below w.heap.size w w' := by
  obtain ⟨hlc0, hcm0⟩ := row_cap w0
  obtain ⟨l, rfl, hc, hb, hnil, hmax⟩ := row_byt w0
  unfold maxLen at hmax
  clear w0
  by_cases hbig : 3000 < l.length
  · clear hc hb
    go_enter Try.func4, Try.ntmps4
    go_wp2
    go_ret
    exact ⟨rfl, Below.refl _ _⟩
  obtain ⟨r1, r2, r3, hruv⟩ : ∃ r1 r2 r3 : Nat, ruv l 0 0 = (r1, r2, r3) := ⟨_, _, _, rfl⟩
  obtain ⟨s1, s2, hrsh⟩ : ∃ s1 s2 : Nat, rsh l = (s1, s2) := ⟨_, _, rfl⟩
  obtain ⟨t1, t2, hrbg⟩ : ∃ t1 t2 : Nat, rbg l = (t1, t2) := ⟨_, _, rfl⟩
  have c12 : Hid (∀ a c W, Byt W a l → Calls Try.prog 12 #[.slice a l.length c] W fun e w' => e = .returned (.tuple #[.int .u64 r1, .int .i64 r2, .int .i64 r3]) ∧ w' = W) := fun a c W h => by
    have := ruv_any a c l (by omega) W h hb
    rw [hruv] at this; exact this
  have c15 : Hid (∀ a c W, Byt W a l → Calls Try.prog 15 #[.slice a l.length c] W fun e w' => e = .returned (.tuple #[.int .u64 r1, .int .i64 r2, .int .i64 r3]) ∧ w' = W) := fun a c W h => by
    have := ruvr_any a c l (by omega) W h hb
    rw [hruv] at this; exact this
  have c16 : Hid (∀ a c W, l.length ≤ c → Byt W a l → Calls Try.prog 16 #[.slice a l.length c] W fun e w' => e = .returned (.tuple #[.int .u64 t1, .int .i64 t2]) ∧ w' = W) := fun a c W hc h => by
    have := rb_any a c l (by omega) hc W h hb
    rw [hrbg] at this; exact this
  have c17 : Hid (∀ W, Byt W a0 l → Calls Try.prog 17 #[.slice a0 l.length cap0] W fun e w' => e = .returned (.tuple #[.int .u64 t1, .int .i64 t2]) ∧ ∃ q, w' = W.drewN q) := fun W h => by
    have := rbr_any a0 cap0 l (by omega) hlc0 hcm0 W h hb
    rw [hrbg] at this; exact this
  have c18 : Hid (∀ a c W, l.length ≤ c → Byt W a l → Calls Try.prog 18 #[.slice a l.length c] W fun e w' => e = .returned (.tuple #[.int .u32 s1, .int .i64 s2]) ∧ w' = W) := fun a c W hc h => by
    have := rs_any a c l (by omega) hc W h hb
    rw [hrsh] at this; exact this
  have c19 : Hid (∀ W, Byt W a0 l → Calls Try.prog 19 #[.slice a0 l.length cap0] W fun e w' => e = .returned (.tuple #[.int .u32 s1, .int .i64 s2]) ∧ ∃ q, w' = W.drewN q) := fun W h => by
    have := rsr_any a0 cap0 l (by omega) W h hb
    rw [hrsh] at this; exact this
  clear hruv hrsh hrbg
  go_enter Try.func4, Try.ntmps4
  go_wp2_with (go_at_call 14; go_must (refine (roomy_any a0 cap0 l (by omega) w hc hnil).mono ?_; rintro e w1 ⟨g, c, rfl, hg, hlc, hcell, b1⟩))
  have hc1 := hc.below b1
  have hcl : Byt w1 (some ⟨g, 0, none⟩) l := .inr ⟨g, 0, rfl, Cells.left hcell⟩
  have hlc' : l.length ≤ c := by omega
  refine (c12.out _ c w1 hcl).mono ?_
  rintro e w2 ⟨rfl, rfl⟩
  clear c12
  go_wp2_with fail
  refine (c15.out a0 cap0 _ hc1).mono ?_
  rintro e w2 ⟨rfl, rfl⟩
  clear c15
  go_wp2_with fail
  refine (c16.out _ c _ hlc' hcl).mono ?_
  rintro e w2 ⟨rfl, rfl⟩
  clear c16
  go_wp2_with fail
  refine (c17.out _ hc1).mono ?_
  rintro e w2 ⟨rfl, q1, rfl⟩
  clear c17
  have b2 := below_drewN b1 q1
  have hc2 := hc.below b2
  have hcell2 := hcell.below (below_drewN (Below.refl _ _) q1)
  have hcl2 : Byt _ (some ⟨g, 0, none⟩) l := .inr ⟨g, 0, rfl, Cells.left hcell2⟩
  clear hcl hcell hc1 b1
  generalize w2.drewN q1 = w3 at b2 hc2 hcell2 hcl2
  go_wp2_with fail
  refine (c18.out _ c _ hlc' hcl2).mono ?_
  rintro e w4 ⟨rfl, rfl⟩
  clear c18
  go_wp2_with fail
  refine (c19.out _ hc2).mono ?_
  rintro e w4 ⟨rfl, q2, rfl⟩
  clear c19
  have b3 := below_drewN b2 q2
  have hc3 := hc.below b3
  have hcell3 := hcell2.below (below_drewN (Below.refl _ _) q2)
  clear hcl2 hcell2 hc2 b2
  generalize w4.drewN q2 = w5 at b3 hc3 hcell3
  go_wp2_with fail
  refine (stands_any g c a0 cap0 l (by omega) hb _ hlc hcell3 hc3).mono ?_
  rintro e w6 ⟨rfl, q3, rfl⟩
  go_wp2_with fail
  refine (known_any _).mono ?_
  rintro e w6 ⟨rfl, hk⟩
  go_wp2
  go_ret
  exact ⟨rfl, (below_drewN b3 q3).trans (hk.mono (below_drewN b3 q3).size)⟩

/-! ### THE ROW's STEP: WRITTEN OUT: LEAVE IT -/
set_option maxRecDepth 100000 in
theorem lifted (os : Os) (started : os.Started) (H : Type) (enc : TypeId × Value → H) :
    ReturnsInHanded {} Try.checked os 4 .any (Rows.octetReadsSpec.pre6 enc Try.prog Try.f4 Rows.octetReadsRow.domain false) (Rows.octetReadsSpec.post enc Try.prog Try.f4 false true false false) := by
  refine returnsInHanded_of_change (C := Try.checked) own started (by kernel_rfl) Try.func4
    (ChangeSpec.witness6 (enc := enc) (C := Try.checked) false ⟨#[], #[.slice none 0 0], []⟩ 8 (by kernel_rfl) (by kernel_rfl) (by kernel_rfl) (by kernel_rfl)) ?_
  intro W base args ds gs before hval0 hW hcnd _
  have hval : ∀ (j : Nat) t v, Try.f4.params[j]? = some t → args[j]? = some v → Value.okWide Try.prog W .any base t v := hval0
  have hW' := hW
  obtain ⟨p, q, hA0, hV, rfl, hfz, hnd⟩ := hW
  have hA : DataW.TrodAll enc Try.prog W 0 (fun _ => true) true Try.f4.params.toList args.toList ds p := hA0
  rw [Try.params4] at hA hval
  obtain ⟨v0, vs0, d0, ds0, p0, q0, hargs, rfl, rfl, h0, r0⟩ := trodAll_cons hA
  obtain ⟨rfl, rfl, rfl⟩ := trodAll_nil r0
  obtain rfl : args = #[v0] := by cases args; simp_all
  obtain ⟨rfl, rfl⟩ := trodVars_none hV
  obtain ⟨a0, len0, cap0, rfl⟩ := okWide_slice Try.underlying23 (hval 0 23 v0 rfl rfl)
  have k0 := h0
  have lt0 : ∀ x ∈ p0, x.block < W.heap.size := by obtain ⟨m, hm⟩ := k0; exact DataW.trod_lt m _ _ _ hm
  obtain ⟨z0, w0⟩ : ∃ zs, IsRow .u8 W a0 len0 cap0 zs := by
    obtain ⟨fuel, hf⟩ := h0
    rcases open_ints Try.underlying23 Try.underlying5 (by kernel_rfl) hf with ⟨hcs, _⟩ | ⟨x, l, c, zs, hcs, _, hl, hm, hz, _, hcell, hwz⟩
    · simp [Value.cells] at hcs
      obtain ⟨rfl, rfl, rfl⟩ := hcs
      exact ⟨[], .inl ⟨rfl, rfl, rfl, rfl⟩⟩
    · simp [Value.cells] at hcs
      obtain ⟨rfl, rfl, rfl⟩ := hcs
      exact ⟨zs, .inr ⟨_, rfl, hl, hm, by simpa using hz, hcell, hwz⟩⟩
  clear hA0 hval0
  refine (walk a0 len0 cap0 z0 W w0).mono fun e W' ⟨he, bel⟩ => ?_
  subst he
  exact ⟨_, rfl, _, _, _, [], _, [], hW', trodAll_mk1 (shut_bool Try.underlying4 _), (trodAll_cons_mk (Below.trod laidOut (by kernel_rfl) (of_decide_eq_true (by kernel_rfl)) k0 bel lt0) trodAll_mk0), rfl, bel.frame _, fun h => by cases h⟩

theorem over : Rows.octetReadsRow.holds Try.pinned (OpenSpec.ofChange Rows.octetReadsSpec) :=
  OpenClaim.holds_of_wide 4 Try.f4 rfl rfl rfl rfl rfl rfl rfl ⟨rfl, rfl, rfl, rfl, rfl⟩ rfl rfl rfl rfl rfl (by kernel_rfl) Try.func4 (by kernel_rfl)
    (of_decide_eq_true (by kernel_rfl)) (by unfold Func.isWrapper; first | (rw [if_pos (by decide +kernel)]; kernel_rfl) | (rw [if_neg (by decide +kernel)]; exact ⟨rfl, rfl⟩))
    (fun os started H enc _ => lifted os started H enc)

/-- ████ THE STATEMENT ████ -/
theorem proved : Rows.OctetReadsSaid := over
#print axioms proved
end Go.Proofs.Ytgklbngkanhdlaa.octetReads
namespace Go.Proofs.Ytgklbngkanhdlaa
/-- The statement, at the seat's own name. -/
theorem octetReads_holds : Rows.OctetReadsSaid := octetReads.proved
#print axioms octetReads_holds
end Go.Proofs.Ytgklbngkanhdlaa
