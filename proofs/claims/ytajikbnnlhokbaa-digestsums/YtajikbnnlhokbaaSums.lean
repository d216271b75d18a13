/-
  Proved: for every row of bytes of at most 2000 bytes digest.Sum answers what the document's own SHA-256 answers, leaves the bytes and the room behind them as they were, and the two known digests are as the document says; longer rows answer true; the argument reads as it did.
-/
import Derived.Test.YtajikbnnlhokbaaRows
import Derived.Test.YtajikbnnlhokbaaKnown
import Derived.Test.YtajikbnnlhokbaaRsum
import Derived.Test.YtajikbnnlhokbaaSame
import Derived.Test.YtajikbnnlhokbaaEq
import Derived.WalkKit
import Derived.ProofKit
import Derived.OpenShut
import Derived.ShutString
import Derived.ChangeOld
import Derived.Below
namespace Go.Proofs.Ytajikbnnlhokbaa.digestSums
open Go.ChangeShapes Go.WideShapes Go.ChangeAt Go.RowKit
open Go.ChangeMaps (open_string shut_string)
open Math
set_option linter.unusedVariables false

theorem own : ownKnob Try.prog.godebug = none := by kernel_rfl
theorem laidOut : laidOutB Try.prog = true := by kernel_rfl

set_option maxHeartbeats 1000000 in
set_option maxRecDepth 8000 in
theorem walk (a0 : Option Addr) (len0 cap0 : Nat) (z0 : List Int) (w : World) (w0 : IsRow .u8 w a0 len0 cap0 z0) :
    Calls Try.prog 3 #[.slice a0 len0 cap0] w fun e w' => e = .returned (.bool true) ∧ Below w.heap.size w w' := by
  obtain ⟨l, rfl, hc, hb, hnil, hmax⟩ := row_byt w0
  unfold maxLen at hmax
  clear w0
  by_cases hbig : 2000 < l.length
  · clear hc hb
    go_enter Try.func3, Try.ntmps3
    go_wp2
    go_ret
    exact ⟨rfl, Below.refl _ _⟩
  · have HB : Hid (Oct l) := hb
    have HC : Hid (Byt w a0 l) := hc
    have hc0 := HC.out
    go_enter Try.func3, Try.ntmps3
    go_wp2_with (go_at_call 6; go_must (refine (roomy_any a0 cap0 l (by omega) w hc0 hnil).mono ?_; rintro e w1 ⟨g, c, rfl, hg, hlc, hcell, b1⟩))
    have HCE : Hid (Cells w1 g 0 (l ++ [171])) := hcell
    have hcl : Byt w1 (some ⟨g, 0, none⟩) l := .inr ⟨g, 0, rfl, Cells.left hcell⟩
    have hlc' : l.length ≤ c := by omega
    refine (sum_any _ c l (by omega) w1 hcl hlc' hb).mono ?_
    rintro e w2 ⟨rfl, b2⟩
    have b3 := b1.trans (b2.mono b1.size)
    have HC2 : Hid (Byt w2 a0 l) := HC.out.below b3
    have HCE2 : Hid (Cells w2 g 0 (l ++ [171])) := HCE.out.below b2
    clear hcell hcl hc hc0 hb b1 b2 HC HCE
    go_wp2_with fail
    refine (rsum_any a0 cap0 l (by omega) _ HC2.out hnil HB.out).mono ?_
    rintro e w4 ⟨rfl, b4⟩
    have b5 := b3.trans (b4.mono b3.size)
    have HC3 : Hid (Byt w4 a0 l) := HC2.out.below b4
    have HCE3 : Hid (Cells w4 g 0 (l ++ [171])) := HCE2.out.below b4
    have heq := eql_same (D l) (D_len l)
    clear b3 b4 HC2 HCE2
    generalize D l = dl at heq
    go_wp2_with fail
    refine (stands_any g c a0 cap0 l (by omega) HB.out _ hlc HCE3.out HC3.out).mono ?_
    rintro e w5 ⟨rfl, q, rfl⟩
    clear heq
    go_wp2_with fail
    refine (known_any _).mono ?_
    rintro e w6 ⟨rfl, hk⟩
    go_wp2
    go_ret
    exact ⟨rfl, (below_drewN b5 q).trans (hk.mono (below_drewN b5 q).size)⟩

/-! ### THE ROW's STEP: WRITTEN OUT: LEAVE IT -/
set_option maxRecDepth 100000 in
theorem lifted (os : Os) (started : os.Started) (H : Type) (enc : TypeId × Value → H) :
    ReturnsInHanded {} Try.checked os 3 .any (Rows.digestSumsSpec.pre6 enc Try.prog Try.f3 Rows.digestSumsRow.domain false) (Rows.digestSumsSpec.post enc Try.prog Try.f3 false true false false) := by
  refine returnsInHanded_of_change (C := Try.checked) own started (by kernel_rfl) Try.func3
    (ChangeSpec.witness6 (enc := enc) (C := Try.checked) false ⟨#[], #[.slice none 0 0], []⟩ 8 (by kernel_rfl) (by kernel_rfl) (by kernel_rfl) (by kernel_rfl)) ?_
  intro W base args ds gs before hval0 hW hcnd _
  have hval : ∀ (j : Nat) t v, Try.f3.params[j]? = some t → args[j]? = some v → Value.okWide Try.prog W .any base t v := hval0
  have hW' := hW
  obtain ⟨p, q, hA0, hV, rfl, hfz, hnd⟩ := hW
  have hA : DataW.TrodAll enc Try.prog W 0 (fun _ => true) true Try.f3.params.toList args.toList ds p := hA0
  rw [Try.params3] at hA hval
  obtain ⟨v0, vs0, d0, ds0, p0, q0, hargs, rfl, rfl, h0, r0⟩ := trodAll_cons hA
  obtain ⟨rfl, rfl, rfl⟩ := trodAll_nil r0
  obtain rfl : args = #[v0] := by cases args; simp_all
  obtain ⟨rfl, rfl⟩ := trodVars_none hV
  obtain ⟨a0, len0, cap0, rfl⟩ := okWide_slice Try.underlying22 (hval 0 22 v0 rfl rfl)
  have k0 := h0
  have lt0 : ∀ x ∈ p0, x.block < W.heap.size := by obtain ⟨m, hm⟩ := k0; exact DataW.trod_lt m _ _ _ hm
  obtain ⟨z0, w0⟩ : ∃ zs, IsRow .u8 W a0 len0 cap0 zs := by
    obtain ⟨fuel, hf⟩ := h0
    rcases open_ints Try.underlying22 Try.underlying5 (by kernel_rfl) hf with ⟨hcs, _⟩ | ⟨x, l, c, zs, hcs, _, hl, hm, hz, _, hcell, hwz⟩
    · simp [Value.cells] at hcs
      obtain ⟨rfl, rfl, rfl⟩ := hcs
      exact ⟨[], .inl ⟨rfl, rfl, rfl, rfl⟩⟩
    · simp [Value.cells] at hcs
      obtain ⟨rfl, rfl, rfl⟩ := hcs
      exact ⟨zs, .inr ⟨_, rfl, hl, hm, by simpa using hz, hcell, hwz⟩⟩
  clear hA0 hval0
  refine (walk a0 len0 cap0 z0 W w0).mono fun e W' ⟨he, bel⟩ => ?_
  subst he
  exact ⟨_, rfl, _, _, _, [], _, [], hW', trodAll_mk1 (shut_bool Try.underlying4 _), (trodAll_cons_mk (Below.trod laidOut (by kernel_rfl) (of_decide_eq_true (by kernel_rfl)) k0 bel lt0) trodAll_mk0), rfl, bel.frame _, fun h => by cases h⟩

theorem over : Rows.digestSumsRow.holds Try.pinned (OpenSpec.ofChange Rows.digestSumsSpec) :=
  OpenClaim.holds_of_wide 3 Try.f3 rfl rfl rfl rfl rfl rfl rfl ⟨rfl, rfl, rfl, rfl, rfl⟩ rfl rfl rfl rfl rfl (by kernel_rfl) Try.func3 (by kernel_rfl)
    (of_decide_eq_true (by kernel_rfl)) (by unfold Func.isWrapper; first | (rw [if_pos (by decide +kernel)]; kernel_rfl) | (rw [if_neg (by decide +kernel)]; exact ⟨rfl, rfl⟩))
    (fun os started H enc _ => lifted os started H enc)

/-- ████ THE STATEMENT ████ -/
theorem proved : Rows.DigestSumsSaid := over
#print axioms proved
end Go.Proofs.Ytajikbnnlhokbaa.digestSums
namespace Go.Proofs.Ytajikbnnlhokbaa
/-- The statement, at the seat's own name. -/
theorem digestSums_holds : Rows.DigestSumsSaid := digestSums.proved
#print axioms digestSums_holds
end Go.Proofs.Ytajikbnnlhokbaa
