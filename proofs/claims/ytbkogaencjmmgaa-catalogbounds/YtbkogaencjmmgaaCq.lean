/-
  CatalogBounds' walk.
-/
import Derived.Test.YtbkogaencjmmgaaCn
import Derived.Laws.BytesArg
namespace Go.Proofs.Ytbkogaencjmmgaa
open Go.RowKit Go.MapKept
set_option linter.unusedVariables false
set_option linter.unusedSimpArgs false
/-- The texts that come. -/
def tn (c : UInt8) (j : Nat) : ByteArray := ⟨#[c, UInt8.ofNat j]⟩
theorem tn_ne {c : UInt8} {i j : Nat} (hi : i < 256) (hj : j < 256) (h : tn c i = tn c j) : i = j := by
  unfold tn at h
  injection h with h
  have h1 := congrArg (·[1]?) h
  simp at h1
  have := congrArg UInt8.toNat h1
  simp at this
  omega
def tabs (n : Nat) : List Tb := (List.range n).map fun j => ⟨tn 116 (j + 1), [], false⟩
theorem tabs_len (n : Nat) : (tabs n).length = n := by simp [tabs]
theorem tabs_succ (n : Nat) : tabs (n + 1) = tabs n ++ [⟨tn 116 (n + 1), [], false⟩] := by simp [tabs, List.range_succ]
theorem tn_name (c : UInt8) (j : Nat) : nameB (tn c j) = true := rfl
theorem nam_zero {A : List Tb} {s : ByteArray} (h : ∀ t ∈ A, t.name = s → t.gone = true) : nam A s = 0 := by
  rcases nam_lt s A 0 with h1 | ⟨j, t, h1, h2, h3, h4⟩
  · exact h1
  · have := h t (List.mem_of_getElem? h2) h3
    rw [h4] at this; cases this
theorem nam_tabs (n : Nat) (hn : n ≤ 64) : nam (tabs n) (tn 116 (n + 1)) = 0 := by
  refine nam_zero fun t ht e => ?_
  obtain ⟨j, hj, rfl⟩ := List.mem_map.1 ht
  have := tn_ne (by have := List.mem_range.1 hj; omega) (by omega) e
  have := List.mem_range.1 hj
  omega
theorem add_tabs (n : Nat) (hn : n < 64) : apE (tabs n) 5 ((n : Int) + 1) (tn 116 (n + 1)) = 0 ∧ apA (tabs n) 5 ((n : Int) + 1) (tn 116 (n + 1)) = tabs (n + 1) := by
  have e : addE (tabs n) ((n : Int) + 1) (tn 116 (n + 1)) = 0 := by
    unfold addE
    rw [tabs_len, if_neg (by omega), if_neg (by rw [tn_name]; simp), if_neg (by rw [nam_tabs n (by omega)]; simp)]
  refine ⟨by unfold apE; rw [if_pos rfl]; exact e, ?_⟩
  unfold apA addA
  rw [if_pos rfl, if_pos e, tabs_succ]
theorem add_full (x : Int) (s : ByteArray) : apE (tabs 64) 5 x s = 17 ∧ apA (tabs 64) 5 x s = tabs 64 := by
  have e : addE (tabs 64) x s = 17 := by unfold addE; rw [tabs_len, if_pos (by omega)]
  refine ⟨by unfold apE; rw [if_pos rfl]; exact e, ?_⟩
  unfold apA addA
  rw [if_pos rfl, if_neg (by rw [e]; decide)]
/-- The first table has indexes. -/
def flds (m : Nat) : List ByteArray := (List.range m).map fun j => tn 102 j
def tabF (n m : Nat) : List Tb := ⟨tn 116 1, flds m, false⟩ :: (tabs n).drop 1
theorem tabs_first (n : Nat) (hn : 1 ≤ n) : tabs n = tabF n 0 := by
  obtain ⟨k, rfl⟩ : ∃ k, n = k + 1 := ⟨n - 1, by omega⟩
  unfold tabF
  have : tabs (k + 1) = (tabs (k + 1)).take 1 ++ (tabs (k + 1)).drop 1 := (List.take_append_drop 1 _).symm
  have h2 : (tabs (k + 1)).take 1 = [⟨tn 116 1, [], false⟩] := by
    simp [tabs, List.range_succ_eq_map]
  rw [this, h2]
  simp [flds]
theorem idx_tab (n m : Nat) (hm : m ≤ 20) : idxE (tabF n m) 1 (tn 102 m) = (if m < 16 then 0 else 17) := by
  have e1 : tbl (tabF n m) 1 = some ⟨tn 116 1, flds m, false⟩ := rfl
  have e2 : liveB (tabF n m) 1 = true := by
    unfold liveB goneB thereB
    rw [e1]
    simp [tabF]
    omega
  have e3 : hasB (tabF n m) 1 (tn 102 m) = false := by
    unfold hasB
    rw [e1]
    apply Bool.eq_false_iff.2
    intro h
    rw [any_mem] at h
    obtain ⟨j, hj, e⟩ := List.mem_map.1 h
    have hj' := List.mem_range.1 hj
    have := tn_ne (by omega) (by omega) e
    omega
  have e4 : fieldsN (tabF n m) 1 = m := by
    unfold fieldsN
    rw [e1]
    simp [flds]
  unfold idxE
  rw [if_neg (by rw [e2]; decide), if_neg (by rw [tn_name]; decide), if_neg (by rw [e3]; decide), e4]
  by_cases h : m < 16
  · rw [if_neg (by omega), if_pos h]
  · rw [if_pos (by omega), if_neg h]
theorem conv_tn (c : UInt8) (z : Int) (hz : z = (c.toNat : Int)) (j : Nat) (v : Int) (hv : v = (j : Int)) (W : World) : (convert 63 9 (.slice (some ⟨W.heap.size, 0, none⟩) 2 2)).run Try.prog (W.alloc (Obj.cells #[.int .u8 z, .int .u8 v] 5)) = .ok (.string (tn c j)) (W.alloc (Obj.cells #[.int .u8 z, .int .u8 v] 5)) := by
  have hb : Blk (W.alloc (Obj.cells #[.int .u8 z, .int .u8 v] 5)) W.heap.size 5 [.int .u8 z, .int .u8 v] := blk_new W 5 [.int .u8 z, .int .u8 v]
  have h := run_convert_bytes_arg (P := Try.prog) (W.alloc (Obj.cells #[.int .u8 z, .int .u8 v] 5)) 63 5 Try.underlying63 Try.underlying5 W.heap.size 0 2 2 [z, v] rfl (fun i hi => by
    rw [Nat.zero_add, hb.cell]
    match i, hi with
    | 0, _ => rfl
    | 1, _ => rfl) 9 Try.underlying9
  rw [h]
  have e : strOfNums [z, v] = tn c j := by
    subst hz hv
    unfold tn
    apply ByteArray.ext
    apply Array.ext'
    rw [strOfNums_data]
    simp
  rw [e]
theorem idx_tabA (n m : Nat) (hm : m < 16) (hn : 1 ≤ n) : apE (tabF n m) 7 1 (tn 102 m) = 0 ∧ apA (tabF n m) 7 1 (tn 102 m) = tabF n (m + 1) := by
  have e := idx_tab n m (by omega)
  rw [if_pos hm] at e
  refine ⟨by unfold apE; rw [if_neg (by decide), if_neg (by decide), if_pos rfl]; exact e, ?_⟩
  unfold apA idxA
  rw [if_neg (by decide), if_neg (by decide), if_pos rfl, if_pos e]
  have := updA_at (X := []) (Y := (tabs n).drop 1) (t := ⟨tn 116 1, flds m, false⟩) (id := 1) rfl (fun t => ⟨t.name, t.fs ++ [tn 102 m], t.gone⟩)
  unfold tabF
  simp only [List.nil_append] at this
  rw [this]
  simp [flds, List.range_succ]
theorem idx_tabF (n : Nat) (m : Nat) (hm : m ≤ 20) : apE (tabF n 16) 7 1 (tn 102 m) = 17 ∨ m < 16 := by
  by_cases h : m < 16
  · exact .inr h
  left
  have e1 : tbl (tabF n 16) 1 = some ⟨tn 116 1, flds 16, false⟩ := rfl
  have e2 : liveB (tabF n 16) 1 = true := by
    unfold liveB goneB thereB
    rw [e1]
    simp [tabF]
    omega
  have e3 : hasB (tabF n 16) 1 (tn 102 m) = false := by
    unfold hasB
    rw [e1]
    apply Bool.eq_false_iff.2
    intro h
    rw [any_mem] at h
    obtain ⟨j, hj, e⟩ := List.mem_map.1 h
    have hj' := List.mem_range.1 hj
    have := tn_ne (by omega) (by omega) e
    omega
  have e4 : fieldsN (tabF n 16) 1 = 16 := by
    unfold fieldsN
    rw [e1]
    simp [flds]
  unfold apE
  rw [if_neg (by decide), if_neg (by decide), if_pos rfl]
  unfold idxE
  rw [if_neg (by rw [e2]; decide), if_neg (by rw [tn_name]; decide), if_neg (by rw [e3]; decide), e4, if_pos (by decide)]
theorem idx_full {A : List Tb} {s : ByteArray} (h : apE A 7 1 s = 17) : apA A 7 1 s = A := by
  unfold apE at h
  rw [if_neg (by decide), if_neg (by decide), if_pos rfl] at h
  unfold apA idxA
  rw [if_neg (by decide), if_neg (by decide), if_pos rfl, if_neg (by rw [h]; decide)]
set_option maxRecDepth 8000 in
set_option maxHeartbeats 1000000 in
theorem bounds_walk (n f : Int) (w : World) : Calls Try.prog 5 #[.int .i64 n, .int .i64 f] w fun e w' => e = .returned (.bool true) ∧ Hid (Below w.heap.size w w') := by
  by_cases hin : 1 ≤ n ∧ n ≤ 70 ∧ 0 ≤ f ∧ f ≤ 20
  case neg =>
    have K := known_any w
    by_cases h1 : n < 1
    · go_enter Try.func5, Try.ntmps5
      go_wp2_with (go_at_call 8; refine K.mono ?_; clear K; rintro e w2 ⟨rfl, H⟩)
      go_ret
      exact ⟨rfl, H.out⟩
    by_cases h2 : n > 70
    · go_enter Try.func5, Try.ntmps5
      go_wp2_with (go_at_call 8; refine K.mono ?_; clear K; rintro e w2 ⟨rfl, H⟩)
      go_ret
      exact ⟨rfl, H.out⟩
    by_cases h3 : f < 0
    · go_enter Try.func5, Try.ntmps5
      go_wp2_with (go_at_call 8; refine K.mono ?_; clear K; rintro e w2 ⟨rfl, H⟩)
      go_ret
      exact ⟨rfl, H.out⟩
    have h4 : f > 20 := by omega
    go_enter Try.func5, Try.ntmps5
    go_wp2_with (go_at_call 8; refine K.mono ?_; clear K; rintro e w2 ⟨rfl, H⟩)
    go_ret
    exact ⟨rfl, H.out⟩
  obtain ⟨h1, h2, h3, h4⟩ := hin
  have h1' : ¬ n < 1 := by omega
  have h2' : ¬ n > 70 := by omega
  have h3' : ¬ f < 0 := by omega
  have h4' : ¬ f > 20 := by omega
  have K := st_new w.heap.size w w (Below.refl _ _) (Nat.le_refl _) (Nat.le_refl _)
  go_enter Try.func5, Try.ntmps5
  go_wp2_with fail
  refine K.mono ?_
  clear K
  rintro e w1 ⟨g, rfl, H1⟩
  have HS1 : Hid (St w.heap.size w w1 g (tabs 0)) := H1.out
  clear H1
  go_wp2
  go_loopw [6] (fun i wr => ∃ k : Nat, k ≤ 70 ∧ (k : Int) ≤ n ∧ i = .int .i64 ((k : Int) + 1) ∧ Hid (St w.heap.size w wr g (tabs (min k 64)))) (fun i _ => 80 - (intOf i).toNat)
  case atStart => exact ⟨0, by omega, by omega, rfl, HS1.out⟩
  case round =>
    obtain ⟨k, hk, hkn, rfl, HS⟩ := hrel
    by_cases hlt : (k : Int) + 1 ≤ n
    case pos =>
      have hw8 : IntKind.u8.wrap ((k : Int) + 1) = ((k + 1 : Nat) : Int) := by rw [IntKind.wrap_u8]; omega
      have hcv := conv_tn 116 116 rfl (k + 1) ((k : Int) + 1) (by omega) wr
      have HS2 : Hid (St w.heap.size w (wr.alloc (Obj.cells #[.int .u8 116, .int .u8 ((k : Int) + 1)] 5)) g (tabs (min k 64))) := HS.out.below ((Below.refl _ wr).alloc (Nat.le_refl _) _)
      generalize ew : wr.alloc (Obj.cells #[.int .u8 116, .int .u8 ((k : Int) + 1)] 5) = w2 at hcv HS2
      have hw2 : wr.alloc (Obj.cells #[.int .u8 116, .int .u8 ((k : Int) + 1)] 5) = w2 := ew
      have K := st_apply w.heap.size w g (tabs (min k 64)) 5 ((k : Int) + 1) (tn 116 (k + 1)) _ (entC_en _ _ _) (by show 2 ≤ _; decide) w2 HS2.out
      clear HS HS2 ew HS1
      by_cases h64 : k < 64
      · have hm : min k 64 = k := by omega
        rw [hm, (add_tabs k h64).1, (add_tabs k h64).2] at K
        have h64' : (k : Int) + 1 ≤ 64 := by omega
        clear hm
        go_wp2_with (rw [hw2])
        refine K.mono ?_
        clear K
        rintro e w3 ⟨rfl, H⟩
        clear hw2 hcv
        go_wp2
        go_roundw
        case rel => exact ⟨k + 1, by omega, by omega, by go_num, by have := H.out; rwa [show min (k + 1) 64 = k + 1 by omega]⟩
        case measure => simp [intOf]; omega
      · have hm : min k 64 = 64 := by omega
        rw [hm, (add_full _ _).1, (add_full _ _).2] at K
        have h64' : ¬ (k : Int) + 1 ≤ 64 := by omega
        clear hm
        go_wp2_with (rw [hw2])
        refine K.mono ?_
        clear K
        rintro e w3 ⟨rfl, H⟩
        clear hw2 hcv
        go_wp2
        go_roundw
        case rel => exact ⟨k + 1, by omega, by omega, by go_num, by have := H.out; rwa [show min (k + 1) 64 = 64 by omega]⟩
        case measure => simp [intOf]; omega
    have hlt' : ¬ (k : Int) + 1 ≤ n := hlt
    obtain ⟨N, hN1, HSN⟩ : ∃ N, 1 ≤ N ∧ Hid (St w.heap.size w wr g (tabF N 0)) := by
      refine ⟨min k 64, by omega, ?_⟩
      have := HS.out
      rw [tabs_first _ (by omega)] at this
      exact this
    clear HS HS1
    go_wp2
    go_loopw [8] (fun i wr => ∃ m : Nat, m ≤ 20 ∧ (m : Int) ≤ f ∧ i = .int .i64 (m : Int) ∧ Hid (St w.heap.size w wr g (tabF N (min m 16)))) (fun i _ => 30 - (intOf i).toNat)
    case atStart => exact ⟨0, by omega, by omega, rfl, HSN.out⟩
    case round =>
      clear HSN
      obtain ⟨m, hm, hmf, rfl, HS⟩ := hrel
      by_cases hlt2 : (m : Int) < f
      case pos =>
        have hw8 : IntKind.u8.wrap (m : Int) = (m : Int) := by rw [IntKind.wrap_u8]; omega
        have hcv := conv_tn 102 102 rfl m (m : Int) rfl wr
        have HS2 : Hid (St w.heap.size w (wr.alloc (Obj.cells #[.int .u8 102, .int .u8 (m : Int)] 5)) g (tabF N (min m 16))) := HS.out.below ((Below.refl _ wr).alloc (Nat.le_refl _) _)
        generalize ew : wr.alloc (Obj.cells #[.int .u8 102, .int .u8 (m : Int)] 5) = w2 at hcv HS2
        have hw2 : wr.alloc (Obj.cells #[.int .u8 102, .int .u8 (m : Int)] 5) = w2 := ew
        have K := st_apply w.heap.size w g (tabF N (min m 16)) 7 1 (tn 102 m) _ (entC_en _ _ _) (by show 2 ≤ _; decide) w2 HS2.out
        clear HS HS2 ew
        by_cases h16 : m < 16
        · have hmm : min m 16 = m := by omega
          rw [hmm, (idx_tabA N m h16 hN1).1, (idx_tabA N m h16 hN1).2] at K
          have h16' : (m : Int) < 16 := by omega
          clear hmm
          go_wp2_with (rw [hw2])
          refine K.mono ?_
          clear K
          rintro e w3 ⟨rfl, H⟩
          clear hw2 hcv
          go_wp2
          go_roundw
          case rel => exact ⟨m + 1, by omega, by omega, by go_num, by have := H.out; rwa [show min (m + 1) 16 = m + 1 by omega]⟩
          case measure => simp [intOf]; omega
        · have hmm : min m 16 = 16 := by omega
          have e17 : apE (tabF N 16) 7 1 (tn 102 m) = 17 := (idx_tabF N m hm).resolve_right h16
          rw [hmm, e17, idx_full e17] at K
          have h16' : ¬ (m : Int) < 16 := by omega
          clear hmm e17
          go_wp2_with (rw [hw2])
          refine K.mono ?_
          clear K
          rintro e w3 ⟨rfl, H⟩
          clear hw2 hcv
          go_wp2
          go_roundw
          case rel => exact ⟨m + 1, by omega, by omega, by go_num, by have := H.out; rwa [show min (m + 1) 16 = 16 by omega]⟩
          case measure => simp [intOf]; omega
      have hlt2' : ¬ (m : Int) < f := hlt2
      have HB : Hid (Below w.heap.size w wr) := HS.out.bl
      have K := known_any wr
      clear HS
      go_wp2_with fail
      refine K.mono ?_
      clear K
      rintro e w4 ⟨rfl, H⟩
      have HF : Hid (Below w.heap.size w w4) := HB.out.trans (H.out.mono HB.out.size)
      clear H HB
      go_wp2
      go_ret
      exact ⟨rfl, HF.out⟩
#print axioms bounds_walk
end Go.Proofs.Ytbkogaencjmmgaa
