/-
  The contracts of octet.Uvarint and of the document's own Uvarint: each makes the same bytes of a number.
-/
import Derived.Test.YthmnjamnaibcgaaOsame
namespace Go.Proofs.Ythmnjamnaibcgaa
open Go.RowKit Math
set_option maxHeartbeats 400000 in
theorem uv_any (v : Nat) (hv : v < 18446744073709551616) (w : World) :
    Calls Try.prog 38 #[.int .u64 v] w fun e w' => ∃ r, e = .returned r ∧ Own w' w.heap.size r (uv v) ∧ Below w.heap.size w w' := by
  have h10 := uv_ten v hv
  go_enter Try.func38, Try.ntmps38
  go_wp2
  go_loopw [0, 3] (fun x o wr => ∃ (u : Nat) (pre : List Nat), x = .int .u64 u ∧ u < 18446744073709551616 ∧ Hid (uv v = pre ++ uv u) ∧ Own wr w.heap.size o pre ∧ Below w.heap.size w wr) (fun x _ _ => (intOf x).toNat)
  case atStart => exact ⟨v, [], rfl, hv, rfl, World.ownsRow_nil _ _ _ _, Below.refl _ _⟩
  case round =>
    obtain ⟨u, pre, rfl, hu, HE, hown, hbel⟩ := hrel
    have hs := hbel.size
    have hlen : pre.length + 1 ≤ 10 := by
      have := congrArg List.length HE.out
      have h1 := uv_pos u
      simp at this; omega
    by_cases h127 : u < 128
    · have HF : Hid (uv v = pre ++ [u]) := by show _ = _; rw [HE.out, uv_lo u (by omega)]
      go_wp2_with (at_builtin; go_must (refine app_bytes rfl (.tmp 14) (.tmp 17) rfl w.heap.size _ pre rfl (hown.alloc _) _ _ _ [u] rfl rfl (byt_lit wr [u]) (by simp) (by simp; omega) (by simp; omega) ?_))
      intro v1 w1 o1 g1
      have b1 := below_app (hbel.alloc hs _) (by simp; omega) (hown.alloc _) g1
      clear g1 hown
      go_wp2
      go_ret
      exact ⟨v1, rfl, by rw [HF.out]; exact o1, b1⟩
    · obtain ⟨y, hy, HY⟩ : ∃ y : Nat, bits .or .u8 ((u : Int) % 256) 128 = (y : Int) ∧ Hid (y = u % 128 + 128) := ⟨_, or_u8 u, rfl⟩
      have HF : Hid (uv v = (pre ++ [y]) ++ uv (u / 128)) := by show _ = _; rw [HE.out, uv_hi u (by omega), HY.out, List.append_assoc]; rfl
      go_wp2_with (at_builtin; go_must (refine app_bytes rfl (.tmp 6) (.tmp 10) rfl w.heap.size _ pre rfl (hown.alloc _) _ _ _ [y] rfl rfl (byt_lit wr [y]) (by simp) (by simp; omega) (by simp; omega) ?_))
      intro v1 w1 o1 g1
      have b1 := below_app (hbel.alloc hs _) (by simp; omega) (hown.alloc _) g1
      clear g1 hown hy
      go_wp2
      go_roundw
      case rel => exact ⟨u / 128, pre ++ [y], by go_num, by omega, HF, o1, b1⟩
      case measure => simp [intOf]; omega
set_option maxRecDepth 8000 in
set_option maxHeartbeats 400000 in
theorem uvr_any (v : Nat) (hv : v < 18446744073709551616) (w : World) :
    Calls Try.prog 27 #[.int .u64 v] w fun e w' => ∃ r, e = .returned r ∧ Own w' w.heap.size r (uv v) ∧ Below w.heap.size w w' := by
  have h10 := uv_ten v hv
  go_enter Try.func27, Try.ntmps27
  go_wp2
  go_loopw [0, 3] (fun x o wr => ∃ (u : Nat) (pre : List Nat), x = .int .u64 u ∧ u < 18446744073709551616 ∧ Hid (uv v = pre ++ uv u) ∧ Own wr w.heap.size o pre ∧ Below w.heap.size w wr) (fun x _ _ => (intOf x).toNat)
  case atStart => exact ⟨v, [], rfl, hv, rfl, World.ownsRow_nil _ _ _ _, Below.refl _ _⟩
  case round =>
    obtain ⟨u, pre, rfl, hu, HE, hown, hbel⟩ := hrel
    have hs := hbel.size
    have hlen : pre.length + 1 ≤ 10 := by
      have := congrArg List.length HE.out
      have h1 := uv_pos u
      simp at this; omega
    by_cases h127 : u < 128
    · have HF : Hid (uv v = pre ++ [u]) := by show _ = _; rw [HE.out, uv_lo u (by omega)]
      go_wp2_with (at_builtin; go_must (refine app_bytes rfl (.tmp 15) (.tmp 18) rfl w.heap.size _ pre rfl (hown.alloc _) _ _ _ [u] rfl rfl (byt_lit wr [u]) (by simp) (by simp; omega) (by simp; omega) ?_))
      intro v1 w1 o1 g1
      have b1 := below_app (hbel.alloc hs _) (by simp; omega) (hown.alloc _) g1
      clear g1 hown
      go_wp2
      go_ret
      exact ⟨v1, rfl, by rw [HF.out]; exact o1, b1⟩
    · obtain ⟨t, ht, ht128, HT⟩ : ∃ t : Nat, bits .and .u64 (u : Int) 127 = (t : Int) ∧ t < 128 ∧ Hid (t = u % 128) := ⟨_, and_127 u hu, by omega, rfl⟩
      obtain ⟨y, hy, HY⟩ : ∃ y : Nat, bits .or .u8 (t : Int) 128 = (y : Int) ∧ Hid (y = u % 128 + 128) := ⟨_, or_t t ht128, by show _ = _; rw [HT.out]⟩
      have HF : Hid (uv v = (pre ++ [y]) ++ uv (u / 128)) := by show _ = _; rw [HE.out, uv_hi u (by omega), HY.out, List.append_assoc]; rfl
      go_wp2_with (at_builtin; go_must (refine app_bytes rfl (.tmp 6) (.tmp 11) rfl w.heap.size _ pre rfl (hown.alloc _) _ _ _ [y] rfl rfl (byt_lit wr [y]) (by simp) (by simp; omega) (by simp; omega) ?_))
      intro v1 w1 o1 g1
      have b1 := below_app (hbel.alloc hs _) (by simp; omega) (hown.alloc _) g1
      clear g1 hown hy
      go_wp2
      go_roundw
      case rel => exact ⟨u / 128, pre ++ [y], by go_num, by omega, HF, o1, b1⟩
      case measure => simp [intOf]; omega
end Go.Proofs.Ythmnjamnaibcgaa
