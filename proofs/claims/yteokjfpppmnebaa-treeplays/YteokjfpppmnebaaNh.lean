/-
  A text is laid into a tree whose root is a leaf with room: add, Put.
-/
import Derived.Test.YteokjfpppmnebaaNg
namespace Go.Proofs.Yteokjfpppmnebaa
open Go.RowKit
set_option linter.unusedVariables false
set_option linter.unusedSimpArgs false
/-- Where a text comes in. -/
def insS (ss : List Sl) (s : Sl) : List Sl := ss.take (sk ss s.t) ++ s :: ss.drop (sk ss s.t)
theorem below_by {B : Nat} {w0 w w' : World} {k : Nat} (h : Below B w0 w) (g : w.grownBy w' (some k)) (hB : B ≤ w0.heap.size) (hk : B ≤ k) : Below B w0 w' := h.grown g (Nat.le_trans hB h.size) (fun x e => by injection e with e; omega)
theorem below_tr {B : Nat} {w0 w w' : World} (h : Below B w0 w) (g : Below w.heap.size w w') (hB : B ≤ w0.heap.size) : Below B w0 w' := h.trans (g.mono (Nat.le_trans hB h.size))
set_option maxHeartbeats 1000000 in
set_option maxRecDepth 8000 in
theorem add_room (B g b : Nat) (n nd : Nat) (hn : n < 1000000000) (ss : List Sl) (s : Sl) (w : World) (hT : Blk w g 55 (tC (some b) n nd)) (hN : Nd w b 0 ss none 0) (hgb : g ≠ b) (hBg : B ≤ g) (hBb : B ≤ b) (hc : ss.length < 16) :
    Calls Try.prog 27 #[.pointer (some ⟨g, 0, none⟩), .agg (slC s).toArray] w fun e w' => e = .returned (.tuple #[]) ∧ Hid (Blk w' g 55 (tC (some b) (n + 1) nd) ∧ Nd w' b 0 (insS ss s) none 0 ∧ Below B w w') := by
  have HC : Hid (ss.length < 16) := hc
  have HT0 : Hid (Blk w g 55 (tC (some b) n nd)) := hT
  have HN0 : Hid (Nd w b 0 ss none 0) := hN
  have hbl : b < w.heap.size := hN.lt
  have hBw : B ≤ w.heap.size := by have := hT.lt; omega
  clear hc hT hN
  go_enter Try.func27, Try.ntmps27
  go_wp2_with (refine al_box rfl 60 (.tmp 1) rfl (slC s) rfl ?_)
  intro g3 w1 l1 B1 G0
  have HT : Hid (Blk w1 g 55 (tC (some b) n nd)) := HT0.out.kept G0 (by simp)
  have HN : Hid (Nd w1 b 0 ss none 0) := HN0.out.kept G0 (by simp)
  have HZ : Hid (Below B w w1) := (Below.refl B w).grown G0 (by omega) (by simp)
  have HB3 : Hid (Blk w1 g3 60 (slC s)) := B1
  have c0 : w1.cell? ⟨g, 0, none⟩ = some (.pointer (some ⟨b, 0, none⟩)) := HT.out.cell 0
  clear G0 B1 HT0 HN0
  obtain ⟨C, hC⟩ : ∃ C : World → Prop, C = fun W => Below w1.heap.size w1 W := ⟨_, rfl⟩
  have F1 : Hid (∀ W, C W → W.cell? ⟨g, 0, none⟩ = some (.pointer (some ⟨b, 0, none⟩))) := fun W hW => by rw [hC] at hW; exact (HT.out.below hW HT.out.lt).cell 0
  have F2 : Hid (∀ W, C W → W.rangeAt g3 0 (slC s)) := fun W hW => by rw [hC] at hW; exact (HB3.out.below hW HB3.out.lt).all
  have CG : Hid (∀ w w', C w → Grow w w' → C w') := fun W W' h1 h2 => by rw [hC] at h1 ⊢; exact h1.trans (h2.mono h1.size)
  have CE : Hid (∀ W, C W → Below w1.heap.size w1 W) := fun W h => by rw [hC] at h; exact h
  have C0 : Hid (C { w1 with drawn := w1.drawn + 1 }) := by rw [hC]; exact Below.drew (Below.refl _ _)
  clear hC
  have FN : Hid (∀ W, C W → Nd W b 0 ss none 0 ∧ Blk W g 55 (tC (some b) n nd) ∧ Below B w W) := fun W hW => ⟨HN.out.below (CE.out W hW) HN.out.lt, HT.out.below (CE.out W hW) HT.out.lt, below_tr HZ.out (CE.out W hW) hBw⟩
  go_wp2_with fail
  refine region_grow [6] (by kernel_rfl) ?_
  have hCp : ∀ p : Prop, (∀ W, C W → p) ↔ p := fun p => ⟨fun h => h _ C0.out, fun h _ _ => h⟩
  generalize ({ w1 with drawn := w1.drawn + 1 } : World) = y0 at *
  refine segR 2 [0, 1, 2, 3, 4, 5] rfl (by kernel_rfl) whole_blind CG.out C0.out (by kernel_rfl) ?_
  change wpQuiet _ _ _ _ (_ :: _ :: _ :: _ :: _ :: _ :: []) _
  repeat (first
    | go_big_quiet_skip
    | (go_big_quiet_want
       first
       | (refine q_cell 53 (.inr (.inr rfl)) (.tmp 18) rfl g 0 rfl _ F1.out ?_
          simp only [Act.put, List.setIfInBounds_toArray, List.set_cons_zero, List.set_cons_succ]
          go_big_quiet_on)
       | (refine q_load 60 (.tmp 3) rfl g3 0 rfl (slC s) _ F2.out Try.underlying60 rfl (sSl s) ?_
          simp only [Act.put, List.setIfInBounds_toArray, List.set_cons_zero, List.set_cons_succ]
          go_big_quiet_on)
       | (go_big_quiet_op
          go_big_quiet_on)))
  refine wpQuiet_nil ?_
  refine one_ofR 1 rfl [6] (by kernel_rfl) (by simp) fun j hj => ?_
  obtain rfl := List.mem_singleton.1 hj
  refine ⟨_, rfl, (by rfl), fun y1 hy1 K hK => ?_⟩
  have C1 : Hid (C y1) := CG.out _ _ C0.out hy1
  clear hy1
  refine oper_calls 45 _ _ rfl #[.pointer (some ⟨g, 0, none⟩), .pointer (some ⟨b, 0, none⟩), .agg (slC s).toArray] (by rw [List.map_toArray]; rfl) (enters Try.func45 (by kernel_rfl) rfl) (fun v w' => v = .pointer none ∧ Hid (Nd w' b 0 (insS ss s) none 0 ∧ y1.grownBy w' (some b))) ((put_room g b ss none 0 s y1 (FN.out _ C1.out).1 HC.out).mono (by rintro e w' ⟨rfl, h⟩; exact ⟨_, rfl, rfl, h⟩)) ?_
  rintro v w5 ⟨rfl, H⟩
  refine hK _ _ (.inl (by simp)) ?_
  clear hK K
  simp only [Act.put, List.setIfInBounds_toArray, List.set_cons_zero, List.set_cons_succ]
  have C1E := CE.out _ C1.out
  have HT5 : Hid (Blk w5 g 55 (tC (some b) n nd)) := (FN.out _ C1.out).2.1.kept H.out.2 (by simpa using hgb)
  have HN5 : Hid (Nd w5 b 0 (insS ss s) none 0) := H.out.1
  have HZ5 : Hid (Below B w w5) := below_by (FN.out _ C1.out).2.2 H.out.2 hBw hBb
  clear C0 C1 C1E hCp CE CG
  clear F1 F2 FN H HT HN HB3 HZ
  have hCp : ∀ p : Prop, (∀ W, Anyw W → p) ↔ p := fun p => anyw_p w p
  refine loneR (C := Anyw) (i := 7) 0 rfl (by kernel_rfl) rfl rfl (fun _ _ _ _ => trivial) trivial ?_
  repeat (first
    | go_big_quiet_skip
    | (go_big_quiet_want
       first
       | (go_big_quiet_op
          go_big_quiet_on)))
  refine wpQuiet_nil ?_
  clear hCp
  refine doneR (by kernel_rfl) fun y6 hy => ?_
  have HT6 : Hid (Blk y6 g 55 (tC (some b) n nd)) := HT5.out.grow hy
  have HN6 : Hid (Nd y6 b 0 (insS ss s) none 0) := HN5.out.below hy HN5.out.lt
  have HZ6 : Hid (Below B w y6) := below_tr HZ5.out hy hBw
  clear hy HT5 HN5 HZ5
  have c1 : y6.cell? ⟨g, 1, none⟩ = some (.int .i64 (n : Int)) := HT6.out.cell 1
  have e1 : wrap64 ((n : Int) + 1) = (n : Int) + 1 := wrap_small (n := n + 1) (by omega) (by omega)
  go_wp2_with (refine st_one rfl 3 (.tmp 33) (.tmp 31) rfl g 1 55 _ (.int .i64 ((n : Int) + 1)) rfl (by first | rfl | exact congrArg _ e1) rfl rfl (by show 1 < 3; decide) HT6.out s3' ?_)
  intro w7 B7 G7
  have HE : Hid (Blk w7 g 55 (tC (some b) (n + 1) nd) ∧ Nd w7 b 0 (insS ss s) none 0 ∧ Below B w w7) := ⟨B7, HN6.out.kept G7 (by simpa using (Ne.symm hgb)), below_by HZ6.out G7 hBw hBg⟩
  clear B7 G7 HN6 HZ6 HT6 c1 e1
  go_wp2
  go_end0
  exact ⟨rfl, HE.out⟩
set_option maxHeartbeats 1000000 in
set_option maxRecDepth 8000 in
theorem add_first (B g : Nat) (n nd : Nat) (hn : n < 1000000000) (hnd : nd < 1000000000) (s : Sl) (w : World) (hT : Blk w g 55 (tC none n nd)) (hBg : B ≤ g) :
    Calls Try.prog 27 #[.pointer (some ⟨g, 0, none⟩), .agg (slC s).toArray] w fun e w' => e = .returned (.tuple #[]) ∧ Hid (∃ b, Blk w' g 55 (tC (some b) (n + 1) (nd + 1)) ∧ Nd w' b 0 [s] none 0 ∧ Below B w w' ∧ g ≠ b ∧ B ≤ b) := by
  have HT0 : Hid (Blk w g 55 (tC none n nd)) := hT
  have hgl : g < w.heap.size := hT.lt
  have hBw : B ≤ w.heap.size := by omega
  obtain ⟨ss, hss⟩ : ∃ ss : List Sl, Hid (ss = []) := ⟨_, rfl⟩
  have HC : Hid (ss.length < 16) := by show _ < _; rw [hss.out]; decide
  clear hT
  go_enter Try.func27, Try.ntmps27
  go_wp2_with (refine al_box rfl 60 (.tmp 1) rfl (slC s) rfl ?_)
  intro g3 w1 l1 B1 G0
  have HT : Hid (Blk w1 g 55 (tC none n nd)) := HT0.out.kept G0 (by simp)
  have HZ : Hid (Below B w w1) := (Below.refl B w).grown G0 (by omega) (by simp)
  have HB3 : Hid (Blk w1 g3 60 (slC s)) := B1
  have c0 : w1.cell? ⟨g, 0, none⟩ = some (.pointer none) := HT.out.cell 0
  clear G0 B1 HT0
  have K := grow_any g none n nd hnd 0 w1 HT.out
  go_wp2_with fail
  refine K.mono ?_
  clear K
  rintro e w2 ⟨b, rfl, H⟩
  obtain ⟨h1, h2, h3, h4⟩ := H.out
  have HT2 : Hid (Blk w2 g 55 (tC none n (nd + 1))) := h1
  have HN2 : Hid (Nd w2 b 0 ss none 0) := by rw [hss.out]; exact h2
  have hgb : g ≠ b := by have := HT.out.lt; omega
  have hBb : B ≤ b := by have := HT.out.lt; omega
  have HZ2 : Hid (Below B w w2) := below_by HZ.out h4 hBw hBg
  have HB2 : Hid (Blk w2 g3 60 (slC s)) := HB3.out.kept h4 (by simp; omega)
  clear h1 h2 h3 h4 H HT HZ HB3 c0
  go_wp2_with (refine st_one rfl 53 (.tmp 14) (.tmp 12) rfl g 0 55 _ (.pointer (some ⟨b, 0, none⟩)) rfl rfl rfl rfl (by show 0 < 3; decide) HT2.out s53 ?_)
  intro w3 B4 G4
  have HT : Hid (Blk w3 g 55 (tC (some b) n (nd + 1))) := B4
  have HN : Hid (Nd w3 b 0 ss none 0) := HN2.out.kept G4 (by simpa using (Ne.symm hgb))
  have HZ : Hid (Below B w w3) := below_by HZ2.out G4 hBw hBg
  have HB3 : Hid (Blk w3 g3 60 (slC s)) := HB2.out.kept G4 (by simp; omega)
  clear B4 G4 HT2 HN2 HZ2 HB2
  obtain ⟨C, hC⟩ : ∃ C : World → Prop, C = fun W => Below w3.heap.size w3 W := ⟨_, rfl⟩
  have F1 : Hid (∀ W, C W → W.cell? ⟨g, 0, none⟩ = some (.pointer (some ⟨b, 0, none⟩))) := fun W hW => by rw [hC] at hW; exact (HT.out.below hW HT.out.lt).cell 0
  have F2 : Hid (∀ W, C W → W.rangeAt g3 0 (slC s)) := fun W hW => by rw [hC] at hW; exact (HB3.out.below hW HB3.out.lt).all
  have CG : Hid (∀ w w', C w → Grow w w' → C w') := fun W W' h1 h2 => by rw [hC] at h1 ⊢; exact h1.trans (h2.mono h1.size)
  have CE : Hid (∀ W, C W → Below w3.heap.size w3 W) := fun W h => by rw [hC] at h; exact h
  have C0 : Hid (C { w3 with drawn := w3.drawn + 1 }) := by rw [hC]; exact Below.drew (Below.refl _ _)
  clear hC
  have FN : Hid (∀ W, C W → Nd W b 0 ss none 0 ∧ Blk W g 55 (tC (some b) n (nd + 1)) ∧ Below B w W) := fun W hW => ⟨HN.out.below (CE.out W hW) HN.out.lt, HT.out.below (CE.out W hW) HT.out.lt, below_tr HZ.out (CE.out W hW) hBw⟩
  go_wp2_with fail
  refine region_grow [6] (by kernel_rfl) ?_
  have hCp : ∀ p : Prop, (∀ W, C W → p) ↔ p := fun p => ⟨fun h => h _ C0.out, fun h _ _ => h⟩
  generalize ({ w3 with drawn := w3.drawn + 1 } : World) = y0 at *
  refine segR 2 [0, 1, 2, 3, 4, 5] rfl (by kernel_rfl) whole_blind CG.out C0.out (by kernel_rfl) ?_
  change wpQuiet _ _ _ _ (_ :: _ :: _ :: _ :: _ :: _ :: []) _
  repeat (first
    | go_big_quiet_skip
    | (go_big_quiet_want
       first
       | (refine q_cell 53 (.inr (.inr rfl)) (.tmp 18) rfl g 0 rfl _ F1.out ?_
          simp only [Act.put, List.setIfInBounds_toArray, List.set_cons_zero, List.set_cons_succ]
          go_big_quiet_on)
       | (refine q_load 60 (.tmp 3) rfl g3 0 rfl (slC s) _ F2.out Try.underlying60 rfl (sSl s) ?_
          simp only [Act.put, List.setIfInBounds_toArray, List.set_cons_zero, List.set_cons_succ]
          go_big_quiet_on)
       | (go_big_quiet_op
          go_big_quiet_on)))
  refine wpQuiet_nil ?_
  refine one_ofR 1 rfl [6] (by kernel_rfl) (by simp) fun j hj => ?_
  obtain rfl := List.mem_singleton.1 hj
  refine ⟨_, rfl, (by rfl), fun y1 hy1 K hK => ?_⟩
  have C1 : Hid (C y1) := CG.out _ _ C0.out hy1
  clear hy1
  refine oper_calls 45 _ _ rfl #[.pointer (some ⟨g, 0, none⟩), .pointer (some ⟨b, 0, none⟩), .agg (slC s).toArray] (by rw [List.map_toArray]; rfl) (enters Try.func45 (by kernel_rfl) rfl) (fun v w' => v = .pointer none ∧ Hid (Nd w' b 0 (insS ss s) none 0 ∧ y1.grownBy w' (some b))) ((put_room g b ss none 0 s y1 (FN.out _ C1.out).1 HC.out).mono (by rintro e w' ⟨rfl, h⟩; exact ⟨_, rfl, rfl, h⟩)) ?_
  rintro v w5 ⟨rfl, H⟩
  refine hK _ _ (.inl (by simp)) ?_
  clear hK K
  simp only [Act.put, List.setIfInBounds_toArray, List.set_cons_zero, List.set_cons_succ]
  have C1E := CE.out _ C1.out
  have HT5 : Hid (Blk w5 g 55 (tC (some b) n (nd + 1))) := (FN.out _ C1.out).2.1.kept H.out.2 (by simpa using hgb)
  have HN5 : Hid (Nd w5 b 0 (insS ss s) none 0) := H.out.1
  have HZ5 : Hid (Below B w w5) := below_by (FN.out _ C1.out).2.2 H.out.2 hBw hBb
  clear C0 C1 C1E hCp CE CG
  clear F1 F2 FN H HT HN HB3 HZ
  have hCp : ∀ p : Prop, (∀ W, Anyw W → p) ↔ p := fun p => anyw_p w p
  refine loneR (C := Anyw) (i := 7) 0 rfl (by kernel_rfl) rfl rfl (fun _ _ _ _ => trivial) trivial ?_
  repeat (first
    | go_big_quiet_skip
    | (go_big_quiet_want
       first
       | (go_big_quiet_op
          go_big_quiet_on)))
  refine wpQuiet_nil ?_
  clear hCp
  refine doneR (by kernel_rfl) fun y6 hy => ?_
  have HT6 : Hid (Blk y6 g 55 (tC (some b) n (nd + 1))) := HT5.out.grow hy
  have HN6 : Hid (Nd y6 b 0 (insS ss s) none 0) := HN5.out.below hy HN5.out.lt
  have HZ6 : Hid (Below B w y6) := below_tr HZ5.out hy hBw
  clear hy HT5 HN5 HZ5
  have c1 : y6.cell? ⟨g, 1, none⟩ = some (.int .i64 (n : Int)) := HT6.out.cell 1
  have e1 : wrap64 ((n : Int) + 1) = (n : Int) + 1 := wrap_small (n := n + 1) (by omega) (by omega)
  go_wp2_with (refine st_one rfl 3 (.tmp 33) (.tmp 31) rfl g 1 55 _ (.int .i64 ((n : Int) + 1)) rfl (by first | rfl | exact congrArg _ e1) rfl rfl (by show 1 < 3; decide) HT6.out s3' ?_)
  intro w7 B7 G7
  have HE : Hid (Blk w7 g 55 (tC (some b) (n + 1) (nd + 1)) ∧ Nd w7 b 0 (insS ss s) none 0 ∧ Below B w w7) := ⟨B7, HN6.out.kept G7 (by simpa using (Ne.symm hgb)), below_by HZ6.out G7 hBw hBg⟩
  clear B7 G7 HN6 HZ6 HT6 c1 e1
  go_wp2
  go_end0
  refine ⟨rfl, b, HE.out.1, ?_, HE.out.2.2, hgb, hBb⟩
  have h := HE.out.2.1
  rw [hss.out] at h
  exact h
set_option maxHeartbeats 1000000 in
set_option maxRecDepth 8000 in
theorem tput_none (B g : Nat) (n nd : Nat) (hn : n < 1000000000) (key : ByteArray) (hk : key.size ≤ 281474976710656) (x : Int) (w : World) (hBg : B ≤ g) (hT : Blk w g 55 (tC none n nd)) (hnd : nd < 1000000000) :
    Calls Try.prog 13 #[.pointer (some ⟨g, 0, none⟩), .string key, .int .i64 x] w fun e w' => e = .returned (.tuple #[.int .i64 0, .bool false]) ∧ Hid (∃ b, Blk w' g 55 (tC (some b) (n + 1) (nd + 1)) ∧ Nd w' b 0 [⟨key, x, none⟩] none 0 ∧ Below B w w' ∧ g ≠ b ∧ B ≤ b) := by
  have HT0 : Hid (Blk w g 55 (tC none n nd)) := hT
  have hgl : g < w.heap.size := hT.lt
  have hBw : B ≤ w.heap.size := by omega
  have K1 := own_none g n nd w hT
  have K2 := find_none g n nd key w hT
  clear hT
  go_enter Try.func13, Try.ntmps13
  go_wp2_with fail
  refine K1.mono ?_
  clear K1
  rintro e w1 ⟨rfl, hw⟩
  have hw' := hw.symm
  subst hw'
  clear hw
  go_wp2_with fail
  refine K2.mono ?_
  clear K2
  rintro e w1 ⟨rfl, hw⟩
  have hw' := hw.symm
  subst hw'
  clear hw
  have K := sclone_any key hk w
  go_wp2_with fail
  refine K.mono ?_
  clear K
  rintro e w2 ⟨rfl, hZ⟩
  have K : Calls Try.prog 27 #[.pointer (some ⟨g, 0, none⟩), .agg #[.string key, .int .i64 x, .pointer none]] w2 _ := add_first B g n nd hn hnd ⟨key, x, none⟩ w2 (HT0.out.below hZ hgl) hBg
  have HZ : Hid (Below w.heap.size w w2) := hZ
  clear hZ HT0
  go_wp2_with fail
  refine K.mono ?_
  clear K
  rintro e w3 ⟨rfl, H⟩
  have HE : Hid (∃ b, Blk w3 g 55 (tC (some b) (n + 1) (nd + 1)) ∧ Nd w3 b 0 [⟨key, x, none⟩] none 0 ∧ Below B w w3 ∧ g ≠ b ∧ B ≤ b) := by
    obtain ⟨b, h1, h2, h3, h4, h5⟩ := H.out
    exact ⟨b, h1, h2, (HZ.out.mono (by omega)).trans h3, h4, h5⟩
  clear H HZ
  go_wp2
  go_ret2
  exact ⟨rfl, HE.out⟩
set_option maxHeartbeats 1000000 in
set_option maxRecDepth 8000 in
theorem tput_miss (B g : Nat) (n nd : Nat) (hn : n < 1000000000) (key : ByteArray) (hk : key.size ≤ 281474976710656) (x : Int) (w : World) (hBg : B ≤ g) (b : Nat) (ss : List Sl) (hT : Blk w g 55 (tC (some b) n nd)) (hN : Nd w b 0 ss none 0) (hgb : g ≠ b) (hBb : B ≤ b) (hc : ss.length < 16) (hm : hit ss key = false) :
    Calls Try.prog 13 #[.pointer (some ⟨g, 0, none⟩), .string key, .int .i64 x] w fun e w' => e = .returned (.tuple #[.int .i64 0, .bool false]) ∧ Hid (Blk w' g 55 (tC (some b) (n + 1) nd) ∧ Nd w' b 0 (insS ss ⟨key, x, none⟩) none 0 ∧ Below B w w') := by
  have HT0 : Hid (Blk w g 55 (tC (some b) n nd)) := hT
  have HN0 : Hid (Nd w b 0 ss none 0) := hN
  have hgl : g < w.heap.size := hT.lt
  have hBw : B ≤ w.heap.size := by omega
  have K1 := own_some g b n nd w hT hN.read
  clear hT hN
  go_enter Try.func13, Try.ntmps13
  go_wp2_with fail
  refine K1.mono ?_
  clear K1
  rintro e w1 ⟨rfl, hw⟩
  have hw' := hw.symm
  subst hw'
  clear hw
  have K2 := find_zero g b n nd ss none 0 key w HT0.out HN0.out none (by rw [hm]; rfl)
  have HC : Hid (ss.length < 16) := hc
  clear hc hm
  go_wp2_with fail
  refine K2.mono ?_
  clear K2
  rintro e w1 ⟨rfl, H⟩
  have HZ1 : Hid (Below w.heap.size w w1) := H.out
  clear H
  have K := sclone_any key hk w1
  go_wp2_with fail
  refine K.mono ?_
  clear K
  rintro e w2 ⟨rfl, hZ⟩
  have HZ : Hid (Below w.heap.size w w2) := HZ1.out.trans (hZ.mono HZ1.out.size)
  have K : Calls Try.prog 27 #[.pointer (some ⟨g, 0, none⟩), .agg #[.string key, .int .i64 x, .pointer none]] w2 _ := add_room B g b n nd hn ss ⟨key, x, none⟩ w2 (HT0.out.below HZ.out hgl) (HN0.out.below HZ.out HN0.out.lt) hgb hBg hBb HC.out
  clear hZ HT0 HN0 HZ1
  go_wp2_with fail
  refine K.mono ?_
  clear K
  rintro e w3 ⟨rfl, H⟩
  have HE : Hid (Blk w3 g 55 (tC (some b) (n + 1) nd) ∧ Nd w3 b 0 (insS ss ⟨key, x, none⟩) none 0 ∧ Below B w w3) := ⟨H.out.1, H.out.2.1, (HZ.out.mono (by omega)).trans H.out.2.2⟩
  clear H HZ
  go_wp2
  go_ret2
  exact ⟨rfl, HE.out⟩
set_option maxHeartbeats 1000000 in
set_option maxRecDepth 8000 in
theorem tput_hit (B g : Nat) (n nd : Nat) (hn : n < 1000000000) (key : ByteArray) (hk : key.size ≤ 281474976710656) (x : Int) (w : World) (hBg : B ≤ g) (b : Nat) (ss : List Sl) (hT : Blk w g 55 (tC (some b) n nd)) (hN : Nd w b 0 ss none 0) (hgb : g ≠ b) (hBb : B ≤ b) (hm : hit ss key = true) (s0 : Sl) (hs0 : ss[sk ss key]? = some s0) :
    Calls Try.prog 13 #[.pointer (some ⟨g, 0, none⟩), .string key, .int .i64 x] w fun e w' => e = .returned (.tuple #[.int .i64 s0.n, .bool true]) ∧ Hid (Blk w' g 55 (tC (some b) n nd) ∧ Below B w w') := by
  have HT0 : Hid (Blk w g 55 (tC (some b) n nd)) := hT
  have HN0 : Hid (Nd w b 0 ss none 0) := hN
  have hgl : g < w.heap.size := hT.lt
  have hBw : B ≤ w.heap.size := by omega
  have K1 := own_some g b n nd w hT hN.read
  clear hT hN
  go_enter Try.func13, Try.ntmps13
  go_wp2_with fail
  refine K1.mono ?_
  clear K1
  rintro e w1 ⟨rfl, hw⟩
  have hw' := hw.symm
  subst hw'
  clear hw
  obtain ⟨R, HR⟩ : ∃ R, Hid (sk ss key = R) := ⟨_, rfl⟩
  have K2 := find_zero g b n nd ss none 0 key w HT0.out HN0.out (some R) (by rw [hm, HR.out]; rfl)
  have HS : Hid (ss[R]? = some s0) := by rw [← HR.out]; exact hs0
  clear hm hs0
  go_wp2_with fail
  refine K2.mono ?_
  clear K2
  rintro e w1 ⟨rfl, H⟩
  have HN1 : Hid (Nd w1 b 0 ss none 0) := HN0.out.below H.out HN0.out.lt
  have HT1 : Hid (Blk w1 g 55 (tC (some b) n nd)) := HT0.out.below H.out hgl
  have HZ : Hid (Below B w w1) := H.out.mono (by omega)
  have cn : w1.cell? ⟨b, 2 + R * 3 + 1, none⟩ = some (.int .i64 s0.n) := HN1.out.slot R s0 (pad_at HS.out) 1 (by decide)
  clear H HN0 HT0
  simp only [Option.map_some]
  go_wp2_with (refine st_one rfl 3 (.tmp 26) (.tmp 24) rfl b (2 + R * 3 + 1) 71 _ (.int .i64 x) rfl rfl rfl rfl (by rw [nC_len HN1.out.le]; have := (List.getElem?_eq_some_iff.1 HS.out).1; have := HN1.out.le; omega) HN1.out.blk s3' ?_)
  intro w2 B2 G2
  have HE : Hid (Blk w2 g 55 (tC (some b) n nd) ∧ Below B w w2) := ⟨HT1.out.kept G2 (by simpa using hgb), below_by HZ.out G2 hBw hBb⟩
  clear B2 G2 HN1 HT1 HZ
  go_wp2
  go_ret2
  exact ⟨rfl, HE.out⟩
#print axioms tput_hit
end Go.Proofs.Yteokjfpppmnebaa
