/-
  DiskOfNothing holds: a nil Disk answers each call as the document asks, for every name, every bytes, every number.
-/
import Derived.Test.YtifeocedjomkmaaRows
import Derived.Test.YtifeocedjomkmaaKnown
import Derived.WalkKit
import Derived.ProofKit
import Derived.OpenShut
import Derived.ShutString
import Derived.ChangeOld
import Derived.Below
namespace Go.Proofs.Ytifeocedjomkmaa.diskOfNothing
open Go.ChangeShapes Go.WideShapes Go.ChangeAt Go.RowKit
open Go.ChangeMaps (open_string shut_string)
set_option linter.unusedVariables false

theorem own : ownKnob Try.prog.godebug = none := by kernel_rfl
theorem laidOut : laidOutB Try.prog = true := by kernel_rfl

theorem acc {w w1 : World} {k : Nat} {args : Array Value} {v : Value} (hB : Below w.heap.size w w1) (h : Calls Try.prog k args w1 fun e w' => e = .returned v ∧ Below w1.heap.size w1 w') :
    Calls Try.prog k args w1 fun e w' => e = .returned v ∧ Below w.heap.size w w' := h.mono fun _ _ ⟨e, b⟩ => ⟨e, hB.trans (b.mono hB.size)⟩
set_option maxHeartbeats 2000000 in
set_option maxRecDepth 100000 in
theorem walk (a0 : ByteArray) (a1 : Option Addr) (len1 cap1 : Nat) (z1 : List Int) (a2 : Int) (w : World) (w0 : a0.size ≤ maxLen) (w1 : IsRow .u8 w a1 len1 cap1 z1) (w2 : (Lit.int .i64 a2).wf = true) :
    Calls Try.prog 5 #[.string a0, .slice a1 len1 cap1, .int .i64 a2] w fun e w' => e = .returned (.bool true) ∧ Below w.heap.size w w' := by
  obtain ⟨l, rfl, _, _, _, hm⟩ := row_byt w1
  generalize l.length = n at *
  clear w1 w2 w0 hm
  by_cases hb : 8000 < wrap64 ((a0.size : Int) + (n : Int))
  · go_enter Try.func5, Try.ntmps5
    go_wp2
    go_ret
    exact ⟨rfl, Below.refl _ _⟩
  · have hb' : wrap64 ((a0.size : Int) + (n : Int)) ≤ 8000 := by omega
    clear hb
    go_enter Try.func5, Try.ntmps5
    have hB := Below.refl w.heap.size w
    go_wp2_with (first
      | (go_at_call 15; refine (acc hB (fuse_nil _ _)).mono ?_; rintro e w' ⟨rfl, hB⟩)
      | (go_at_call 12; refine (acc hB (crash_nil _ _)).mono ?_; rintro e w' ⟨rfl, hB⟩)
      | (go_at_call 13; refine (acc hB (read_nil _ _)).mono ?_; rintro e w' ⟨rfl, hB⟩)
      | (go_at_call 10; refine (acc hB (append_nil _ _ _ _ _)).mono ?_; rintro e w' ⟨rfl, hB⟩)
      | (go_at_call 11; refine (acc hB (sync_nil _ _)).mono ?_; rintro e w' ⟨rfl, hB⟩)
      | (go_at_call 17; refine (acc hB (truncate_nil _ _ _)).mono ?_; rintro e w' ⟨rfl, hB⟩)
      | (go_at_call 18; refine (acc hB (rename_nil _ _ _)).mono ?_; rintro e w' ⟨rfl, hB⟩)
      | (go_at_call 16; refine (acc hB (remove_nil _ _)).mono ?_; rintro e w' ⟨rfl, hB⟩)
      | (go_at_call 19; refine (acc hB (list_nil _)).mono ?_; rintro e w' ⟨rfl, hB⟩)
      | (go_at_call 20; refine (acc hB (used_nil _)).mono ?_; rintro e w' ⟨rfl, hB⟩)
      | (go_at_call 21; refine (acc hB (copy_nil _)).mono ?_; rintro e w' ⟨rfl, hB⟩)
      | (go_at_call 8; refine (acc hB (known_any _)).mono ?_; rintro e w' ⟨rfl, hB⟩))
    go_ret
    exact ⟨rfl, hB⟩

/-! ### THE ROW's STEP: WRITTEN OUT: LEAVE IT -/
set_option maxRecDepth 100000 in
theorem lifted (os : Os) (started : os.Started) (H : Type) (enc : TypeId × Value → H) :
    ReturnsInHanded {} Try.checked os 5 .any (Rows.diskOfNothingSpec.pre6 enc Try.prog Try.f5 Rows.diskOfNothingRow.domain false) (Rows.diskOfNothingSpec.post enc Try.prog Try.f5 false true false false) := by
  refine returnsInHanded_of_change (C := Try.checked) own started (by kernel_rfl) Try.func5
    (ChangeSpec.witness6 (enc := enc) (C := Try.checked) false ⟨#[], #[.string ByteArray.empty, .slice none 0 0, .int .i64 0], []⟩ 8 (by kernel_rfl) (by kernel_rfl) (by kernel_rfl) (by kernel_rfl)) ?_
  intro W base args ds gs before hval0 hW hcnd _
  have hval : ∀ (j : Nat) t v, Try.f5.params[j]? = some t → args[j]? = some v → Value.okWide Try.prog W .any base t v := hval0
  have hW' := hW
  obtain ⟨p, q, hA0, hV, rfl, hfz, hnd⟩ := hW
  have hA : DataW.TrodAll enc Try.prog W 0 (fun _ => true) true Try.f5.params.toList args.toList ds p := hA0
  rw [Try.params5] at hA hval
  obtain ⟨v0, vs0, d0, ds0, p0, q0, hargs, rfl, rfl, h0, r0⟩ := trodAll_cons hA
  obtain ⟨v1, vs1, d1, ds1, p1, q1, rfl, rfl, rfl, h1, r1⟩ := trodAll_cons r0
  obtain ⟨v2, vs2, d2, ds2, p2, q2, rfl, rfl, rfl, h2, r2⟩ := trodAll_cons r1
  obtain ⟨rfl, rfl, rfl⟩ := trodAll_nil r2
  obtain rfl : args = #[v0, v1, v2] := by cases args; simp_all
  obtain ⟨rfl, rfl⟩ := trodVars_none hV
  obtain ⟨a0, rfl, rfl, rfl, w0⟩ := open_string Try.underlying9 (hval 0 9 v0 rfl rfl) h0
  obtain ⟨a1, len1, cap1, rfl⟩ := okWide_slice Try.underlying23 (hval 1 23 v1 rfl rfl)
  have k1 := h1
  have lt1 : ∀ x ∈ p1, x.block < W.heap.size := by obtain ⟨m, hm⟩ := k1; exact DataW.trod_lt m _ _ _ hm
  obtain ⟨z1, w1⟩ : ∃ zs, IsRow .u8 W a1 len1 cap1 zs := by
    obtain ⟨fuel, hf⟩ := h1
    rcases open_ints Try.underlying23 Try.underlying5 (by kernel_rfl) hf with ⟨hcs, _⟩ | ⟨x, l, c, zs, hcs, _, hl, hm, hz, _, hcell, hwz⟩
    · simp [Value.cells] at hcs
      obtain ⟨rfl, rfl, rfl⟩ := hcs
      exact ⟨[], .inl ⟨rfl, rfl, rfl, rfl⟩⟩
    · simp [Value.cells] at hcs
      obtain ⟨rfl, rfl, rfl⟩ := hcs
      exact ⟨zs, .inr ⟨_, rfl, hl, hm, by simpa using hz, hcell, hwz⟩⟩
  obtain ⟨a2, rfl, rfl, rfl, w2⟩ := open_int Try.underlying3 (hval 2 3 v2 rfl rfl) h2
  clear hA0 hval0
  refine (walk a0 a1 len1 cap1 z1 a2 W w0 w1 w2).mono fun e W' ⟨he, bel⟩ => ?_
  subst he
  exact ⟨_, rfl, _, _, _, [], _, [], hW', trodAll_mk1 (shut_bool Try.underlying4 _), (trodAll_cons_mk (shut_string Try.underlying9 w0) (trodAll_cons_mk (Below.trod laidOut (by kernel_rfl) (of_decide_eq_true (by kernel_rfl)) k1 bel lt1) (trodAll_cons_mk (shut_int Try.underlying3 w2) trodAll_mk0))), rfl, bel.frame _, fun h => by cases h⟩

theorem over : Rows.diskOfNothingRow.holds Try.pinned (OpenSpec.ofChange Rows.diskOfNothingSpec) :=
  OpenClaim.holds_of_wide 5 Try.f5 rfl rfl rfl rfl rfl rfl rfl ⟨rfl, rfl, rfl, rfl, rfl⟩ rfl rfl rfl rfl rfl (by kernel_rfl) Try.func5 (by kernel_rfl)
    (of_decide_eq_true (by kernel_rfl)) (by unfold Func.isWrapper; first | (rw [if_pos (by decide +kernel)]; kernel_rfl) | (rw [if_neg (by decide +kernel)]; exact ⟨rfl, rfl⟩))
    (fun os started H enc _ => lifted os started H enc)

/-- ████ THE STATEMENT ████ -/
theorem proved : Rows.DiskOfNothingSaid := over
#print axioms proved
end Go.Proofs.Ytifeocedjomkmaa.diskOfNothing
namespace Go.Proofs.Ytifeocedjomkmaa
/-- The statement, at the seat's own name. -/
theorem diskOfNothing_holds : Rows.DiskOfNothingSaid := diskOfNothing.proved
#print axioms diskOfNothing_holds
end Go.Proofs.Ytifeocedjomkmaa
