/-
  A tree in memory: New, Len, own, grow; a text is laid into a root that is a leaf with room.
-/
import Derived.Test.YteokjfpppmnebaaNe
namespace Go.Proofs.Yteokjfpppmnebaa
open Go.RowKit
set_option linter.unusedVariables false
set_option linter.unusedSimpArgs false
/-- A tree's cells. -/
def tC (rt : Option Nat) (tx nd : Nat) : List Value := [pt rt, .int .i64 (tx : Int), .int .i64 (nd : Int)]
theorem new_any (w : World) : Calls Try.prog 10 #[] w fun e w' => ∃ g, e = .returned (.pointer (some ⟨g, 0, none⟩)) ∧ Hid (Blk w' g 55 (tC none 0 0) ∧ w.heap.size ≤ g ∧ w.grownBy w' none) := by
  go_enter Try.func10, Try.ntmps10
  go_wp2
  go_ret
  exact ⟨w.heap.size, rfl, blk_new w 55 (tC none 0 0), Nat.le_refl _, World.grownBy_alloc w _ none⟩
theorem len_any (g : Nat) (rt : Option Nat) (n nd : Nat) (w : World) (h : Blk w g 55 (tC rt n nd)) : Calls Try.prog 16 #[.pointer (some ⟨g, 0, none⟩)] w fun e w' => e = .returned (.int .i64 (n : Int)) ∧ w' = w := by
  have c1 : w.cell? ⟨g, 1, none⟩ = some (.int .i64 (n : Int)) := h.cell 1
  go_enter Try.func16, Try.ntmps16
  go_wp2
  go_ret
  exact ⟨rfl, rfl⟩
theorem own_none (g : Nat) (n nd : Nat) (w : World) (h : Blk w g 55 (tC none n nd)) : Calls Try.prog 25 #[.pointer (some ⟨g, 0, none⟩)] w fun e w' => e = .returned (.tuple #[]) ∧ w' = w := by
  have c0 : w.cell? ⟨g, 0, none⟩ = some (.pointer none) := h.cell 0
  go_enter Try.func25, Try.ntmps25
  go_wp2
  go_end0
  exact ⟨rfl, rfl⟩
theorem own_some (g b : Nat) (n nd : Nat) (w : World) (h : Blk w g 55 (tC (some b) n nd)) (hr : w.cell? ⟨b, 51, none⟩ = some (.int .i64 0)) : Calls Try.prog 25 #[.pointer (some ⟨g, 0, none⟩)] w fun e w' => e = .returned (.tuple #[]) ∧ w' = w := by
  have c0 : w.cell? ⟨g, 0, none⟩ = some (.pointer (some ⟨b, 0, none⟩)) := h.cell 0
  go_enter Try.func25, Try.ntmps25
  go_wp2
  go_end0
  exact ⟨rfl, rfl⟩
theorem find_none (g : Nat) (n nd : Nat) (key : ByteArray) (w : World) (h : Blk w g 55 (tC none n nd)) : Calls Try.prog 26 #[.pointer (some ⟨g, 0, none⟩), .string key] w fun e w' => e = .returned (.pointer none) ∧ w' = w := by
  have c0 : w.cell? ⟨g, 0, none⟩ = some (.pointer none) := h.cell 0
  go_enter Try.func26, Try.ntmps26
  go_wp2
  go_ret
  exact ⟨rfl, rfl⟩
theorem zNd (lv : Int) : (nC lv [] none 0).toArray = #[.int .i64 lv, .int .i64 0, .string ⟨#[]⟩, .int .i64 0, .pointer none, .string ⟨#[]⟩, .int .i64 0, .pointer none, .string ⟨#[]⟩, .int .i64 0, .pointer none, .string ⟨#[]⟩, .int .i64 0, .pointer none, .string ⟨#[]⟩, .int .i64 0, .pointer none, .string ⟨#[]⟩, .int .i64 0, .pointer none, .string ⟨#[]⟩, .int .i64 0, .pointer none, .string ⟨#[]⟩, .int .i64 0, .pointer none, .string ⟨#[]⟩, .int .i64 0, .pointer none, .string ⟨#[]⟩, .int .i64 0, .pointer none, .string ⟨#[]⟩, .int .i64 0, .pointer none, .string ⟨#[]⟩, .int .i64 0, .pointer none, .string ⟨#[]⟩, .int .i64 0, .pointer none, .string ⟨#[]⟩, .int .i64 0, .pointer none, .string ⟨#[]⟩, .int .i64 0, .pointer none, .string ⟨#[]⟩, .int .i64 0, .pointer none, .pointer none, .int .i64 0] := rfl
theorem grow_any (g : Nat) (rt : Option Nat) (n nd : Nat) (hnd : nd < 1000000000) (lv : Int) (w : World) (h : Blk w g 55 (tC rt n nd)) :
    Calls Try.prog 44 #[.pointer (some ⟨g, 0, none⟩), .int .i64 lv] w fun e w' => ∃ b, e = .returned (.pointer (some ⟨b, 0, none⟩)) ∧ Hid (Blk w' g 55 (tC rt n (nd + 1)) ∧ Nd w' b lv [] none 0 ∧ w.heap.size ≤ b ∧ w.grownBy w' (some g)) := by
  have c2 : w.cell? ⟨g, 2, none⟩ = some (.int .i64 (nd : Int)) := h.cell 2
  have HB : Hid (Blk w g 55 (tC rt n nd)) := h
  have e1 : wrap64 ((nd : Int) + 1) = (nd : Int) + 1 := wrap_small (n := nd + 1) (by omega) (by omega)
  clear h
  go_enter Try.func44, Try.ntmps44
  go_wp2_with (refine st_one rfl 3 (.tmp 11) (.tmp 9) rfl g 2 55 _ (.int .i64 ((nd : Int) + 1)) rfl (by first | rfl | exact congrArg _ e1) rfl rfl (by show 2 < 3; decide) HB.out s3' ?_)
  intro w1 B1 G1
  have HB1 : Hid (Blk w1 g 55 (tC rt n (nd + 1)) ∧ w.grownBy w1 (some g)) := ⟨B1, G1⟩
  clear B1 G1 HB c2
  go_wp2_with (refine al_box rfl 71 (.tmp 13) rfl (nC lv [] none 0) (by rw [zNd]; rfl) ?_)
  intro b w2 l2 B2 G2
  have HE : Hid (Blk w2 g 55 (tC rt n (nd + 1)) ∧ Nd w2 b lv [] none 0 ∧ w.heap.size ≤ b ∧ w.grownBy w2 (some g)) := ⟨HB1.out.1.kept G2 (by simp), ⟨B2, by simp⟩, Nat.le_trans HB1.out.2.size l2, HB1.out.2.trans (G2.but g)⟩
  clear B2 G2 HB1
  go_wp2
  go_ret
  exact ⟨b, rfl, HE.out⟩
set_option maxHeartbeats 1000000 in
theorem insert_room (g b : Nat) (lv : Int) (A B : List Sl) (nx : Option Nat) (rd : Int) (i : Nat) (hi : A.length = i) (s : Sl) (w : World) (h : Nd w b lv (A ++ B) nx rd) (hc : (A ++ B).length < 16) :
    Calls Try.prog 55 #[.pointer (some ⟨g, 0, none⟩), .pointer (some ⟨b, 0, none⟩), .int .i64 (i : Int), .agg (slC s).toArray] w fun e w' => e = .returned (.pointer none) ∧ Hid (Nd w' b lv (A ++ s :: B) nx rd ∧ w.grownBy w' (some b)) := by
  have HN : Hid (Nd w b lv (A ++ B) nx rd) := h
  obtain ⟨c, hcE⟩ : ∃ c, (A ++ B).length = c := ⟨_, rfl⟩
  have HC : Hid ((A ++ B).length < 16) := hc
  have HCE : Hid ((A ++ B).length = c) := hcE
  have hcc : c < 16 := by omega
  have HI : Hid (A.length = i) := hi
  clear h hc hcE hi
  go_enter Try.func55, Try.ntmps55
  go_wp2_with (refine al_box rfl 60 (.tmp 3) rfl (slC s) rfl ?_)
  intro g7 w1 l1 B1 G0
  have HN1 : Hid (Nd w1 b lv (A ++ B) nx rd) := HN.out.kept G0 (by simp)
  have HG : Hid (w.grownBy w1 (some b)) := G0.but b
  have HB1 : Hid (w1.rangeAt g7 0 (slC s)) := B1.all
  have c1 : w1.cell? ⟨b, 1, none⟩ = some (.int .i64 (c : Int)) := by have := HN1.out.count; rw [HCE.out] at this; exact this
  have K := lay_any b lv A B nx rd i HI.out s w1 HN1.out HC.out
  clear G0 B1 HN HN1
  go_wp2_with (refine ld_w (by rfl) 60 (.tmp 7) rfl g7 0 rfl (slC s) _ HB1.out Try.underlying60 rfl (sSl s) ?_)
  refine K.mono ?_
  clear K
  rintro e w2 ⟨rfl, H⟩
  have HE : Hid (Nd w2 b lv (A ++ s :: B) nx rd ∧ w.grownBy w2 (some b)) := ⟨H.out.1, HG.out.trans H.out.2⟩
  clear H HG c1 HB1
  go_wp2
  go_ret
  exact ⟨rfl, HE.out⟩
set_option maxHeartbeats 1000000 in
theorem put_room (g b : Nat) (ss : List Sl) (nx : Option Nat) (rd : Int) (s : Sl) (w : World) (h : Nd w b 0 ss nx rd) (hc : ss.length < 16) :
    Calls Try.prog 45 #[.pointer (some ⟨g, 0, none⟩), .pointer (some ⟨b, 0, none⟩), .agg (slC s).toArray] w fun e w' => e = .returned (.pointer none) ∧ Hid (Nd w' b 0 (ss.take (sk ss s.t) ++ s :: ss.drop (sk ss s.t)) nx rd ∧ w.grownBy w' (some b)) := by
  have HN : Hid (Nd w b 0 ss nx rd) := h
  have HC : Hid (ss.length < 16) := hc
  obtain ⟨R, HR⟩ : ∃ R, Hid (sk ss s.t = R) := ⟨_, rfl⟩
  rw [HR.out]
  clear h hc
  go_enter Try.func45, Try.ntmps45
  go_wp2_with (refine al_box rfl 60 (.tmp 2) rfl (slC s) rfl ?_)
  intro g5 w1 l1 B1 G0
  have HN1 : Hid (Nd w1 b 0 ss nx rd) := HN.out.kept G0 (by simp)
  have HG : Hid (w.grownBy w1 (some b)) := G0.but b
  have HB1 : Hid (Blk w1 g5 60 (slC s)) := B1
  have c0 : w1.cell? ⟨b, 0, none⟩ = some (.int .i64 0) := HN1.out.level
  have cs : w1.cell? ⟨g5, 0, none⟩ = some (.string s.t) := B1.cell 0
  have K := seek_any b 0 ss nx rd s.t w1 HN1.out
  rw [HR.out] at K
  generalize hit ss s.t = T at *
  clear G0 B1 HN
  go_wp2_with fail
  refine K.mono ?_
  clear K
  rintro e w2 ⟨rfl, H⟩
  have HN2 : Hid (Nd w2 b 0 ss nx rd) := HN1.out.below H.out HN1.out.lt
  have HB2 : Hid (w2.rangeAt g5 0 (slC s)) := (HB1.out.below H.out HB1.out.lt).all
  have HG2 : Hid (w.grownBy w2 (some b)) := HG.out.trans (by_below H.out _)
  have K := insert_room g b 0 (ss.take R) (ss.drop R) nx rd R (by rw [List.length_take]; have := sk_le ss s.t; rw [HR.out] at this; omega) s w2 (by rw [List.take_append_drop]; exact HN2.out) (by rw [List.take_append_drop]; exact HC.out)
  clear H HG HB1 HN1 c0 cs HN2 HR
  go_wp2_with (refine ld_w (by rfl) 60 (.tmp 5) rfl g5 0 rfl (slC s) _ HB2.out Try.underlying60 rfl (sSl s) ?_)
  refine K.mono ?_
  clear K
  rintro e w3 ⟨rfl, H⟩
  have HE : Hid (Nd w3 b 0 (ss.take R ++ s :: ss.drop R) nx rd ∧ w.grownBy w3 (some b)) := ⟨H.out.1, HG2.out.trans H.out.2⟩
  clear H HG2 HB2
  go_wp2
  go_ret
  exact ⟨rfl, HE.out⟩
theorem leaf_zero (b : Nat) (key : ByteArray) (w : World) (h : w.cell? ⟨b, 0, none⟩ = some (.int .i64 0)) : Calls Try.prog 42 #[.pointer (some ⟨b, 0, none⟩), .string key] w fun e w' => e = .returned (.pointer (some ⟨b, 0, none⟩)) ∧ w' = w := by
  go_enter Try.func42, Try.ntmps42
  go_wp2
  go_loopw [0] (fun p wr => p = .pointer (some ⟨b, 0, none⟩) ∧ wr = w) (fun _ _ => 0)
  case atStart => exact ⟨rfl, rfl⟩
  case round =>
    obtain ⟨rfl, rfl⟩ := hrel
    go_wp2
    go_ret
    exact ⟨rfl, rfl⟩
set_option maxHeartbeats 1000000 in
theorem find_zero (g b : Nat) (n nd : Nat) (ss : List Sl) (nx : Option Nat) (rd : Int) (key : ByteArray) (w : World) (h : Blk w g 55 (tC (some b) n nd)) (hN : Nd w b 0 ss nx rd) (p : Option Nat) (hp : p = if hit ss key = true then some (sk ss key) else none) :
    Calls Try.prog 26 #[.pointer (some ⟨g, 0, none⟩), .string key] w fun e w' => e = .returned (.pointer (p.map fun i => ⟨b, 2 + i * 3, none⟩)) ∧ Hid (Below w.heap.size w w') := by
  have c0 : w.cell? ⟨g, 0, none⟩ = some (.pointer (some ⟨b, 0, none⟩)) := h.cell 0
  have KL := leaf_zero b key w hN.level
  have KS := seek_any b 0 ss nx rd key w hN
  have HR : Hid (hit ss key = true → sk ss key < 16) := fun q => Nat.lt_of_lt_of_le (hit_lt q) hN.le
  have HP : Hid (p = if hit ss key = true then some (sk ss key) else none) := hp
  generalize sk ss key = R at *
  generalize hit ss key = T at *
  clear h hN hp
  go_enter Try.func26, Try.ntmps26
  go_wp2_with fail
  refine KL.mono ?_
  clear KL
  rintro e w1 ⟨rfl, hw⟩
  have hw' := hw.symm
  subst hw'
  clear hw
  go_wp2_with fail
  refine KS.mono ?_
  clear KS
  rintro e w2 ⟨rfl, H⟩
  cases T with
  | false =>
    obtain rfl : p = none := by have := HP.out; simpa using this
    clear HP HR
    go_wp2
    go_ret
    exact ⟨rfl, H.out⟩
  | true =>
    have hR : R < 16 := HR.out rfl
    obtain rfl : p = some R := by have := HP.out; simpa using this
    clear HP HR
    have h1 : ¬ ((R : Int) < 0) := by omega
    have h3 : (R : Int) < 16 := by omega
    go_wp2
    go_ret
    exact ⟨rfl, H.out⟩
#print axioms find_zero
end Go.Proofs.Yteokjfpppmnebaa
