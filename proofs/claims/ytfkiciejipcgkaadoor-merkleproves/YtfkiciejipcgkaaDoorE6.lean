/-
  scrivenerlaw10.hashes: two lists of digests.
-/
import Derived.Test.YtfkiciejipcgkaaDoorEx
namespace Go.Proofs.YtfkiciejipcgkaaDoor
open Go Go.RowKit Go.Maps Sh
theorem es_blk {w : World} {g : Nat} {t : TypeId} {M : List (List Nat)} (hM : Hl M) (B : Blk w g t (M.flatMap (nums .u8))) : ES (nums .u8) 32 w (some ⟨g, 0, none⟩) M :=
  .inr ⟨g, 0, rfl, fun i x hx j v hj => by
    rw [B.cell, Nat.zero_add]
    exact flat_at (fun y hy => by rw [nums_length]; exact (hM y hy).1) i x hx j v hj⟩
theorem below_alloc0 {w w' : World} (g : w.grownBy w' none) : Below w.heap.size w w' := (Below.refl _ _).grown g (Nat.le_refl _) (by simp)
theorem es_before {w : World} {a : Option Addr} {M : List (List Nat)} (h : ES (nums .u8) 32 w a M) {g : Nat} (hg : w.heap.size ≤ g) (hM : Hl M) : ∀ ad, a = some ad → M ≠ [] → ad.block < g := by
  intro ad e hne
  subst e
  obtain ⟨x, r, rfl⟩ : ∃ x r, M = x :: r := by cases M with
    | nil => exact absurd rfl hne
    | cons x r => exact ⟨x, r, rfl⟩
  obtain ⟨b, off, e, r⟩ := h.at (i := 0) (x := x) rfl
  have hx := hM x (List.mem_cons_self ..)
  obtain ⟨v, hv⟩ : ∃ v, (nums .u8 x)[0]? = some v := ⟨_, List.getElem?_eq_getElem (by rw [nums_length, hx.1]; omega)⟩
  have := World.block_lt_of_cell? w _ (r 0 v hv)
  rw [Option.some.inj e]
  exact Nat.lt_of_lt_of_le this hg
theorem es_kept {w w' : World} {a : Option Addr} {M : List (List Nat)} {g : Nat} (h : ES (nums .u8) 32 w a M) (G : w.grownBy w' (some g)) (hb : ∀ ad, a = some ad → M ≠ [] → ad.block < g) : ES (nums .u8) 32 w' a M := by
  rcases h with h | ⟨b, off, rfl, h⟩
  · exact .inl h
  · refine .inr ⟨b, off, rfl, fun i x hx j v hj => ?_⟩
    have hlt := hb _ rfl (by intro e; rw [e] at hx; cases hx)
    exact G.cell (h i x hx j v hj) (by intro e; have := Option.some.inj e; simp at this; simp at hlt; omega)
set_option maxHeartbeats 1000000 in
set_option maxRecDepth 8000 in
theorem hashes_any (A B : List (List Nat)) (hA : Hl A) (hB : Hl B) (hla : A.length ≤ 140737488355328) (a b : Option Addr) (ca cb : Nat) (w : World) (hSa : ES (nums .u8) 32 w a A) (hSb : ES (nums .u8) 32 w b B) :
    Calls Tryd.prog 11 #[.slice a A.length ca, .slice b B.length cb] w fun e w' => e = .returned (.bool (decide (A = B))) ∧ Below w.heap.size w w' := by
  have HA : Hid (Hl A) := hA
  have HB : Hid (Hl B) := hB
  have HSa : Hid (ES (nums .u8) 32 w a A) := hSa
  have HSb : Hid (ES (nums .u8) 32 w b B) := hSb
  clear hA hB hSa hSb
  obtain ⟨ans, hans⟩ : ∃ ans, Hid (decide (A = B) = ans) := ⟨_, rfl⟩
  rw [hans.out]
  go_enter Tryd.func11, Tryd.ntmps11
  by_cases hl : A.length = B.length
  case neg =>
    have hl' : ¬ ((A.length : Int) = (B.length : Int)) := by omega
    have e : ans = false := by rw [← hans.out]; exact decide_eq_false (fun e => hl (by rw [e]))
    subst e
    go_wp2
    go_ret
    exact ⟨rfl, Below.refl _ _⟩
  have HI : Hid (A.take 0 = B.take 0 ∧ Below w.heap.size w w) := ⟨by simp, Below.refl _ _⟩
  have hl' : (A.length : Int) = (B.length : Int) := by omega
  have HLn : Hid (A.length = B.length) := hl
  rw [← hl]
  clear hl hl'
  go_wp2
  go_loopw [5] (fun iv wr => ∃ k : Nat, k ≤ A.length ∧ iv = .int .i64 (k : Int) ∧ Hid (A.take k = B.take k ∧ Below w.heap.size w wr)) (fun iv _ => A.length - (intOf iv).toNat)
  case atStart => exact ⟨0, Nat.zero_le _, rfl, HI⟩
  case round =>
    clear HI
    obtain ⟨k, hk, rfl, HI⟩ := hrel
    have Zr := HI.out.2
    by_cases hlt : k < A.length
    · obtain ⟨x, hx⟩ : ∃ x, A[k]? = some x := ⟨_, List.getElem?_eq_getElem hlt⟩
      obtain ⟨y, hy⟩ : ∃ y, B[k]? = some y := ⟨_, List.getElem?_eq_getElem (by rw [← HLn.out]; exact hlt)⟩
      obtain ⟨b1, o1, rfl, R1⟩ := HSa.out.at hx
      obtain ⟨b2, o2, rfl, R2⟩ := HSb.out.at hy
      have R1 := range_below R1 Zr
      have R2 := range_below R2 Zr
      have HX : Hid (Hh x) := HA.out.at hx
      have HY : Hid (Hh y) := HB.out.at hy
      have eq := fun W => eq_hash HX.out HY.out W
      by_cases he : x = y
      · have HN : Hid (A.take (k + 1) = B.take (k + 1)) := by
          obtain ⟨h1, e1⟩ := List.getElem?_eq_some_iff.1 hx
          obtain ⟨h2, e2⟩ := List.getElem?_eq_some_iff.1 hy
          show _ = _
          rw [List.take_succ_eq_append_getElem h1, List.take_succ_eq_append_getElem h2, e1, e2, HI.out.1, he]
        rw [decide_eq_true he] at eq
        clear HI hx hy he
        go_wp2_with fail
        have FA : Hid (∀ W, (∃ n, W = wr.drewN n) → W.rangeAt b1 (o1 + k * 32) (nums .u8 x)) := fun W ⟨n, e⟩ => by rw [e]; exact range_below R1 (below_drewN (Below.refl _ _) n)
        have FB : Hid (∀ W, (∃ n, W = wr.drewN n) → W.rangeAt b2 (o2 + k * 32) (nums .u8 y)) := fun W ⟨n, e⟩ => by rw [e]; exact range_below R2 (below_drewN (Below.refl _ _) n)
        have hCp : ∀ p : Prop, (∀ W, (∃ n, W = wr.drewN n) → p) ↔ p := fun p => ⟨fun h => h _ ⟨0, rfl⟩, fun h _ _ => h⟩
        refine wp_region_quiet_lit (by kernel_rfl) (by kernel_rfl) ?_
        repeat (first
          | go_big_quiet_skip
          | (go_big_quiet_want
             first
             | (refine q_load 30 (.tmp 19) rfl b1 (o1 + k * 32) rfl (nums .u8 x) _ FA.out Tryd.underlying30 rfl (sH HX.out) ?_
                simp only [Act.put, List.setIfInBounds_toArray, List.set_cons_zero, List.set_cons_succ]
                go_big_quiet_on)
             | (refine q_load 30 (.tmp 23) rfl b2 (o2 + k * 32) rfl (nums .u8 y) _ FB.out Tryd.underlying30 rfl (sH HY.out) ?_
                simp only [Act.put, List.setIfInBounds_toArray, List.set_cons_zero, List.set_cons_succ]
                go_big_quiet_on)
             | (go_big_quiet_op
                go_big_quiet_on)))
        refine wpQuiet_nil ?_
        intro w9 hw'
        obtain ⟨nq, hw9⟩ := hw'
        have Zr : Below w.heap.size w w9 := by rw [hw9]; exact below_drewN Zr nq
        clear hw9 FA FB hCp
        go_wp2
        go_roundw
        case rel => exact ⟨k + 1, hlt, by simp, ⟨HN.out, Zr⟩⟩
        case measure => simp [intOf]; omega
      · have e : ans = false := by rw [← hans.out]; exact decide_eq_false (fun e => he (by rw [e, hy] at hx; exact (Option.some.inj hx).symm))
        subst e
        rw [decide_eq_false he] at eq
        clear HI hx hy he
        go_wp2_with fail
        have FA : Hid (∀ W, (∃ n, W = wr.drewN n) → W.rangeAt b1 (o1 + k * 32) (nums .u8 x)) := fun W ⟨n, e⟩ => by rw [e]; exact range_below R1 (below_drewN (Below.refl _ _) n)
        have FB : Hid (∀ W, (∃ n, W = wr.drewN n) → W.rangeAt b2 (o2 + k * 32) (nums .u8 y)) := fun W ⟨n, e⟩ => by rw [e]; exact range_below R2 (below_drewN (Below.refl _ _) n)
        have hCp : ∀ p : Prop, (∀ W, (∃ n, W = wr.drewN n) → p) ↔ p := fun p => ⟨fun h => h _ ⟨0, rfl⟩, fun h _ _ => h⟩
        refine wp_region_quiet_lit (by kernel_rfl) (by kernel_rfl) ?_
        repeat (first
          | go_big_quiet_skip
          | (go_big_quiet_want
             first
             | (refine q_load 30 (.tmp 19) rfl b1 (o1 + k * 32) rfl (nums .u8 x) _ FA.out Tryd.underlying30 rfl (sH HX.out) ?_
                simp only [Act.put, List.setIfInBounds_toArray, List.set_cons_zero, List.set_cons_succ]
                go_big_quiet_on)
             | (refine q_load 30 (.tmp 23) rfl b2 (o2 + k * 32) rfl (nums .u8 y) _ FB.out Tryd.underlying30 rfl (sH HY.out) ?_
                simp only [Act.put, List.setIfInBounds_toArray, List.set_cons_zero, List.set_cons_succ]
                go_big_quiet_on)
             | (go_big_quiet_op
                go_big_quiet_on)))
        refine wpQuiet_nil ?_
        intro w9 hw'
        obtain ⟨nq, hw9⟩ := hw'
        have Zr : Below w.heap.size w w9 := by rw [hw9]; exact below_drewN Zr nq
        clear hw9 FA FB hCp
        go_wp2
        go_ret
        exact ⟨rfl, Zr⟩
    · have e : ans = true := by
        rw [← hans.out]
        have h := HI.out.1
        rw [List.take_of_length_le (by omega), List.take_of_length_le (by rw [← HLn.out]; omega)] at h
        exact decide_eq_true h
      subst e
      clear HI
      go_wp2
      go_ret
      exact ⟨rfl, Zr⟩
#print axioms hashes_any
end Go.Proofs.YtfkiciejipcgkaaDoor
