/-
  The document's own least. · The document's own least.
-/
import Derived.Test.YtmlfhplhiedfjaaGreatDoorOG26x
namespace Go.Proofs.YtmlfhplhiedfjaaGreatDoor.D6
open Go.RowKit
set_option linter.unusedVariables false
set_option maxRecDepth 8000 in
set_option maxHeartbeats 1000000 in
theorem leastR_hp_h (h l m s : Nat) (hs : s < 9223372036854775808) (hw : Wd h l m) (hh : ¬ h = 0) (h' l' m' s' : Nat) (hd : dnN m s = (m', s')) (hw' : Wd h' l' m') (h18 : s' ≤ 18) (ho : ¬ h' = 0) (w : World) :
    Calls Tryz.prog 122 #[.agg #[.int .u64 (h : Int), .int .u64 (l : Int), .bool false], .int .i64 (s : Int)] w fun e w' => e = .returned (.tuple #[.agg #[.int .i64 0, .int .i64 0, .int .i64 0, .string ⟨#[]⟩, .slice none 0 0, .slice none 0 0], .int .i64 10]) ∧ Grow w w' := by
  have H0 : Hid (Wd h l m ∧ dnN m s = (m', s') ∧ Wd h' l' m') := ⟨hw, hd, hw'⟩
  have HL : l' < 18446744073709551616 := hw'.l1
  clear hw hd hw'
  go_enter Tryz.func122, Tryz.ntmps122
  go_wp2
  obtain ⟨w1, HW1⟩ : ∃ w1, ((w.alloc (Obj.cells #[.int .u64 (h : Int), .int .u64 (l : Int), .bool false] 134)).alloc (Obj.cells #[.int .i64 0, .int .i64 0, .int .i64 0, .string ⟨#[]⟩, .slice none 0 0, .slice none 0 0] 38)) = w1 := ⟨_, rfl⟩
  obtain ⟨C, hC⟩ : ∃ C : World → Prop, C = fun W => Grow w1 W := ⟨_, rfl⟩
  have GW : Hid (∀ W, C W → Grow w W) := fun W hW => by rw [hC, ← HW1] at hW; exact Grow.trans (((Grow.refl _).alloc _).alloc _) hW
  have B0 : Hid (∀ W, C W → Blk W (w.heap.size) 134 [.int .u64 (h : Int), .int .u64 (l : Int), .bool false]) := fun W hW => by rw [hC, ← HW1] at hW; exact Blk.grow (Blk.alloc (blk_at rfl) _) hW
  have B1 : Hid (∀ W, C W → Blk W (w.heap.size + 1) 38 [.int .i64 0, .int .i64 0, .int .i64 0, .string ⟨#[]⟩, .slice none 0 0, .slice none 0 0]) := fun W hW => by rw [hC, ← HW1] at hW; exact Blk.grow (blk_at (by simp)) hW
  have CG : Hid (∀ W W', C W → Grow W W' → C W') := fun W W' h1 h2 => by rw [hC] at h1 ⊢; exact h1.trans h2
  have CW : Hid (C w1) := by rw [hC]; exact Grow.refl _
  rw [HW1]
  clear HW1 hC
  go_loopw [1] (fun q wr => ∃ hc lc mc sc : Nat, sc < 9223372036854775808 ∧ q = .int .i64 (sc : Int) ∧ Hid (Wd hc lc mc ∧ dnN mc sc = (m', s') ∧ Blk wr w.heap.size 134 [.int .u64 (hc : Int), .int .u64 (lc : Int), .bool false] ∧ Blk wr (w.heap.size + 1) 38 [.int .i64 0, .int .i64 0, .int .i64 0, .string ⟨#[]⟩, .slice none 0 0, .slice none 0 0] ∧ Grow w wr)) (fun q _ => (intOf q).toNat)
  case atStart =>
    exact ⟨h, l, m, s, hs, rfl, H0.out.1, H0.out.2.1, B0.out _ CW.out, B1.out _ CW.out, GW.out _ CW.out⟩
  case round =>
    obtain ⟨hc, lc, mc, sc, hsc, rfl, HR⟩ := hrel
    clear CG CW B0 B1 GW
    have OUT : Hid (dnN mc sc = (mc, sc) → Blk wr w.heap.size 134 [.int .u64 (h' : Int), .int .u64 (l' : Int), .bool false] ∧ sc = s') := fun e => by
      obtain ⟨x1, x2, x3, x4, x5⟩ := HR.out
      rw [e] at x2
      injection x2 with y1 y2
      subst y1 y2
      obtain ⟨z1, z2⟩ := x1.inj H0.out.2.2
      rw [← z1, ← z2]
      exact ⟨x3, rfl⟩
    have c0 : wr.cell? ⟨w.heap.size, 0, none⟩ = some (.int .u64 (hc : Int)) := HR.out.2.2.1.cell 0
    have c1 : wr.cell? ⟨w.heap.size, 1, none⟩ = some (.int .u64 (lc : Int)) := HR.out.2.2.1.cell 1
    have c2 : wr.cell? ⟨w.heap.size, 2, none⟩ = some (.bool false) := HR.out.2.2.1.cell 2
    by_cases h0 : sc = 0
    case pos =>
      obtain ⟨hB, hS⟩ := OUT.out (by subst h0; simp [dnN])
      have HX : Hid (Blk wr (w.heap.size + 1) 38 [.int .i64 0, .int .i64 0, .int .i64 0, .string ⟨#[]⟩, .slice none 0 0, .slice none 0 0] ∧ Grow w wr) := HR.out.2.2.2
      clear OUT HR H0 c0 c1 c2
      have hS := hS.symm
      subst hS
      have yB := hB
      have y0 : wr.cell? ⟨w.heap.size, 0, none⟩ = some (.int .u64 (h' : Int)) := (yB).cell 0
      have y1 : wr.cell? ⟨w.heap.size, 1, none⟩ = some (.int .u64 (l' : Int)) := (yB).cell 1
      have y2 : wr.cell? ⟨w.heap.size, 2, none⟩ = some (.bool false) := (yB).cell 2
      clear yB hB
      go_wp2_with ((with_reducible refine st_pre (.tmp 4) (.tmp 54) ?_); refine st_all rfl 38 (.tmp 4) (.tmp 54) rfl (w.heap.size + 1) 38 [.int .i64 0, .int .i64 0, .int .i64 0, .string ⟨#[]⟩, .slice none 0 0, .slice none 0 0] [.int .i64 0, .int .i64 0, .int .i64 0, .string ⟨#[]⟩, .slice none 0 0, .slice none 0 0] rfl rfl HX.out.1 rfl sV (ones rfl) ?_)
      intro w9 b9 g9
      have HG9 : Hid (Grow w w9) := Below.grown HX.out.2 g9 HX.out.2.size (by intro e he; injection he with he; omega)
      have HB9 : Hid (Blk w9 (w.heap.size + 1) 38 [.int .i64 0, .int .i64 0, .int .i64 0, .string ⟨#[]⟩, .slice none 0 0, .slice none 0 0]) := b9
      clear b9 g9
      go_wp2
      exact bodyPost_ret (res_two rfl _ (w.heap.size + 1) 38 _ _ rfl HB9.out Tryz.underlying38 rfl sV) rfl ⟨rfl, HG9.out⟩
    have HP : Hid (∃ d, sc = d + 1) := ⟨sc - 1, by omega⟩
    obtain ⟨hq, lq, Wq⟩ := wd_of (mc / 10) (by have := HR.out.1.lt; omega)
    obtain ⟨r, hr⟩ : ∃ r, mc % 10 = r := ⟨_, rfl⟩
    have K : Hid (∀ W, Calls Tryz.prog 155 #[.agg #[.int .u64 (hc : Int), .int .u64 (lc : Int), .bool false]] W fun e w' => e = .returned (.tuple #[.agg #[.int .u64 (hq : Int), .int .u64 (lq : Int), .bool false], .int .u64 (r : Int)]) ∧ Grow W w') := fun W => tenR hc lc mc hq lq false HR.out.1 Wq r hr W
    have HQ : Hid (Wd hq lq (mc / 10) ∧ mc % 10 = r) := ⟨Wq, hr⟩
    clear Wq hr
    go_wp2_with fail
    refine (K.out _).mono ?_
    rintro e w6 ⟨rfl, g6⟩
    clear c0 c1 c2
    go_wp2_with (refine al_zero rfl 134 rfl [.int .u64 0, .int .u64 0, .bool false] zR ?_)
    intro bc w7 sz Bc gc
    go_wp2_with ((with_reducible refine st_pre (.tmp 6) (.tmp 23) ?_); refine st_all rfl 134 (.tmp 6) (.tmp 23) rfl bc 134 [.int .u64 0, .int .u64 0, .bool false] [.int .u64 (hq : Int), .int .u64 (lq : Int), .bool false] rfl rfl Bc rfl sR (ones rfl) ?_)
    intro w8 zB gd
    have HE : Hid (Blk w8 w.heap.size 134 [.int .u64 (hc : Int), .int .u64 (lc : Int), .bool false] ∧ Blk w8 (w.heap.size + 1) 38 [.int .i64 0, .int .i64 0, .int .i64 0, .string ⟨#[]⟩, .slice none 0 0, .slice none 0 0] ∧ Blk w8 bc 134 [.int .u64 (hq : Int), .int .u64 (lq : Int), .bool false] ∧ Grow w w8 ∧ w.heap.size + 1 < bc) := by
      obtain ⟨_, _, D0, D2, GG⟩ := HR.out
      have k : ∀ c t cs, Blk w6 c t cs → Blk w8 c t cs := fun c t cs hb => (hb.kept gc (by simp)).kept gd (by intro e; injection e with e; have := hb.lt; omega)
      have q2 := (D2.grow g6).lt
      refine ⟨k _ _ _ (D0.grow g6), k _ _ _ (D2.grow g6), zB, ?_, by omega⟩
      have x1 := GG.trans g6
      have x2 : Below w.heap.size w w7 := Below.grown x1 gc x1.size (by intro e he; cases he)
      exact Below.grown x2 gd x2.size (by intro e he; injection he with he; have := x1.size; omega)
    have OUT2 : Hid (dnN mc sc = (mc, sc) → Blk w8 w.heap.size 134 [.int .u64 (h' : Int), .int .u64 (l' : Int), .bool false] ∧ sc = s') := fun e => by
      obtain ⟨h1, hS⟩ := OUT.out e
      have h2 := HR.out.2.2.1
      have h3 := HE.out.1
      refine ⟨?_, hS⟩
      unfold Blk at h1 h2 h3 ⊢
      rw [h3, ← h2, h1]
    clear zB gd Bc gc sz g6 K OUT
    by_cases hr0 : r = 0
    case neg =>
      obtain ⟨hB, hS⟩ := OUT2.out (by
        obtain ⟨d, hd⟩ := HP.out
        have := HQ.out.2
        rw [hd, dnN, if_neg (by omega)])
      have HX : Hid (Blk w8 (w.heap.size + 1) 38 [.int .i64 0, .int .i64 0, .int .i64 0, .string ⟨#[]⟩, .slice none 0 0, .slice none 0 0] ∧ Grow w w8) := ⟨HE.out.2.1, HE.out.2.2.2.1⟩
      clear OUT2 HE HR H0 HQ HP h0
      have hS := hS.symm
      subst hS
      have yB := hB
      have y0 : w8.cell? ⟨w.heap.size, 0, none⟩ = some (.int .u64 (h' : Int)) := (yB).cell 0
      have y1 : w8.cell? ⟨w.heap.size, 1, none⟩ = some (.int .u64 (l' : Int)) := (yB).cell 1
      have y2 : w8.cell? ⟨w.heap.size, 2, none⟩ = some (.bool false) := (yB).cell 2
      clear yB hB
      go_wp2_with ((with_reducible refine st_pre (.tmp 4) (.tmp 54) ?_); refine st_all rfl 38 (.tmp 4) (.tmp 54) rfl (w.heap.size + 1) 38 [.int .i64 0, .int .i64 0, .int .i64 0, .string ⟨#[]⟩, .slice none 0 0, .slice none 0 0] [.int .i64 0, .int .i64 0, .int .i64 0, .string ⟨#[]⟩, .slice none 0 0, .slice none 0 0] rfl rfl HX.out.1 rfl sV (ones rfl) ?_)
      intro w9 b9 g9
      have HG9 : Hid (Grow w w9) := Below.grown HX.out.2 g9 HX.out.2.size (by intro e he; injection he with he; omega)
      have HB9 : Hid (Blk w9 (w.heap.size + 1) 38 [.int .i64 0, .int .i64 0, .int .i64 0, .string ⟨#[]⟩, .slice none 0 0, .slice none 0 0]) := b9
      clear b9 g9
      go_wp2
      exact bodyPost_ret (res_two rfl _ (w.heap.size + 1) 38 _ _ rfl HB9.out Tryz.underlying38 rfl sV) rfl ⟨rfl, HG9.out⟩
    subst hr0
    obtain ⟨sd, hsd⟩ : ∃ sd, sc - 1 = sd := ⟨_, rfl⟩
    have HLd : Hid (dnN (mc / 10) sd = (m', s')) := by
      obtain ⟨d, hd⟩ := HP.out
      have h1 := HR.out.2.1
      rw [hd, dnN, if_pos HQ.out.2] at h1
      rw [← hsd, hd]
      exact h1
    have es : (sc : Int) - 1 = (sd : Int) := by omega
    have HSD : Hid (sc - 1 = sd ∧ 0 < sc) := ⟨hsd, by omega⟩
    clear hsd OUT2
    obtain ⟨E0, E2, zB, GE, _⟩ := HE.out
    have z0 : w8.cell? ⟨bc, 0, none⟩ = some (.int .u64 (hq : Int)) := zB.cell 0
    have z1 : w8.cell? ⟨bc, 1, none⟩ = some (.int .u64 (lq : Int)) := zB.cell 1
    have z2 : w8.cell? ⟨bc, 2, none⟩ = some (.bool false) := zB.cell 2
    clear E2 zB GE
    go_wp2_with ((with_reducible refine st_pre (.tmp 2) (.tmp 27) ?_); refine st_all rfl 134 (.tmp 2) (.tmp 27) rfl w.heap.size 134 [.int .u64 (hc : Int), .int .u64 (lc : Int), .bool false] [.int .u64 (hq : Int), .int .u64 (lq : Int), .bool false] rfl rfl E0 rfl sR (ones rfl) ?_)
    intro w9 b9 g9
    have HZ : Hid (Blk w9 w.heap.size 134 [.int .u64 (hq : Int), .int .u64 (lq : Int), .bool false] ∧ Blk w9 (w.heap.size + 1) 38 [.int .i64 0, .int .i64 0, .int .i64 0, .string ⟨#[]⟩, .slice none 0 0, .slice none 0 0] ∧ Grow w w9) := by
      obtain ⟨_, E2, _, GE, _⟩ := HE.out
      exact ⟨b9, E2.kept g9 (by intro e; injection e with e; omega), Below.grown GE g9 GE.size (by intro e he; injection he with he; omega)⟩
    clear b9 g9 z0 z1 z2 E0 HE
    go_wp2
    go_roundw
    case rel => exact ⟨hq, lq, mc / 10, sd, by have := HSD.out; omega, rfl, HQ.out.1, HLd.out, HZ.out⟩
    case measure => have := HSD.out; simp [intOf]; omega
end Go.Proofs.YtmlfhplhiedfjaaGreatDoor.D6
namespace Go.Proofs.YtmlfhplhiedfjaaGreatDoor.D6
open Go.RowKit
set_option linter.unusedVariables false
set_option maxRecDepth 8000 in
set_option maxHeartbeats 1000000 in
theorem leastR_hp_l (h l m s : Nat) (hs : s < 9223372036854775808) (hw : Wd h l m) (hh : ¬ h = 0) (h' l' m' s' : Nat) (hd : dnN m s = (m', s')) (hw' : Wd h' l' m') (h18 : s' ≤ 18) (hz : h' = 0) (ho : 9223372036854775808 < l') (w : World) :
    Calls Tryz.prog 122 #[.agg #[.int .u64 (h : Int), .int .u64 (l : Int), .bool false], .int .i64 (s : Int)] w fun e w' => e = .returned (.tuple #[.agg #[.int .i64 0, .int .i64 0, .int .i64 0, .string ⟨#[]⟩, .slice none 0 0, .slice none 0 0], .int .i64 10]) ∧ Grow w w' := by
  have H0 : Hid (Wd h l m ∧ dnN m s = (m', s') ∧ Wd h' l' m') := ⟨hw, hd, hw'⟩
  have HL : l' < 18446744073709551616 := hw'.l1
  clear hw hd hw'
  have HH0 : Hid (h' = 0) := hz
  clear hz
  go_enter Tryz.func122, Tryz.ntmps122
  go_wp2
  obtain ⟨w1, HW1⟩ : ∃ w1, ((w.alloc (Obj.cells #[.int .u64 (h : Int), .int .u64 (l : Int), .bool false] 134)).alloc (Obj.cells #[.int .i64 0, .int .i64 0, .int .i64 0, .string ⟨#[]⟩, .slice none 0 0, .slice none 0 0] 38)) = w1 := ⟨_, rfl⟩
  obtain ⟨C, hC⟩ : ∃ C : World → Prop, C = fun W => Grow w1 W := ⟨_, rfl⟩
  have GW : Hid (∀ W, C W → Grow w W) := fun W hW => by rw [hC, ← HW1] at hW; exact Grow.trans (((Grow.refl _).alloc _).alloc _) hW
  have B0 : Hid (∀ W, C W → Blk W (w.heap.size) 134 [.int .u64 (h : Int), .int .u64 (l : Int), .bool false]) := fun W hW => by rw [hC, ← HW1] at hW; exact Blk.grow (Blk.alloc (blk_at rfl) _) hW
  have B1 : Hid (∀ W, C W → Blk W (w.heap.size + 1) 38 [.int .i64 0, .int .i64 0, .int .i64 0, .string ⟨#[]⟩, .slice none 0 0, .slice none 0 0]) := fun W hW => by rw [hC, ← HW1] at hW; exact Blk.grow (blk_at (by simp)) hW
  have CG : Hid (∀ W W', C W → Grow W W' → C W') := fun W W' h1 h2 => by rw [hC] at h1 ⊢; exact h1.trans h2
  have CW : Hid (C w1) := by rw [hC]; exact Grow.refl _
  rw [HW1]
  clear HW1 hC
  go_loopw [1] (fun q wr => ∃ hc lc mc sc : Nat, sc < 9223372036854775808 ∧ q = .int .i64 (sc : Int) ∧ Hid (Wd hc lc mc ∧ dnN mc sc = (m', s') ∧ Blk wr w.heap.size 134 [.int .u64 (hc : Int), .int .u64 (lc : Int), .bool false] ∧ Blk wr (w.heap.size + 1) 38 [.int .i64 0, .int .i64 0, .int .i64 0, .string ⟨#[]⟩, .slice none 0 0, .slice none 0 0] ∧ Grow w wr)) (fun q _ => (intOf q).toNat)
  case atStart =>
    exact ⟨h, l, m, s, hs, rfl, H0.out.1, H0.out.2.1, B0.out _ CW.out, B1.out _ CW.out, GW.out _ CW.out⟩
  case round =>
    obtain ⟨hc, lc, mc, sc, hsc, rfl, HR⟩ := hrel
    clear CG CW B0 B1 GW
    have OUT : Hid (dnN mc sc = (mc, sc) → Blk wr w.heap.size 134 [.int .u64 (h' : Int), .int .u64 (l' : Int), .bool false] ∧ sc = s') := fun e => by
      obtain ⟨x1, x2, x3, x4, x5⟩ := HR.out
      rw [e] at x2
      injection x2 with y1 y2
      subst y1 y2
      obtain ⟨z1, z2⟩ := x1.inj H0.out.2.2
      rw [← z1, ← z2]
      exact ⟨x3, rfl⟩
    have c0 : wr.cell? ⟨w.heap.size, 0, none⟩ = some (.int .u64 (hc : Int)) := HR.out.2.2.1.cell 0
    have c1 : wr.cell? ⟨w.heap.size, 1, none⟩ = some (.int .u64 (lc : Int)) := HR.out.2.2.1.cell 1
    have c2 : wr.cell? ⟨w.heap.size, 2, none⟩ = some (.bool false) := HR.out.2.2.1.cell 2
    by_cases h0 : sc = 0
    case pos =>
      obtain ⟨hB, hS⟩ := OUT.out (by subst h0; simp [dnN])
      have HX : Hid (Blk wr (w.heap.size + 1) 38 [.int .i64 0, .int .i64 0, .int .i64 0, .string ⟨#[]⟩, .slice none 0 0, .slice none 0 0] ∧ Grow w wr) := HR.out.2.2.2
      clear OUT HR H0 c0 c1 c2
      have hS := hS.symm
      subst hS
      rw [HH0.out] at hB
      have yB := hB
      have y0 : wr.cell? ⟨w.heap.size, 0, none⟩ = some (.int .u64 0) := (yB).cell 0
      have y1 : wr.cell? ⟨w.heap.size, 1, none⟩ = some (.int .u64 (l' : Int)) := (yB).cell 1
      have y2 : wr.cell? ⟨w.heap.size, 2, none⟩ = some (.bool false) := (yB).cell 2
      clear yB hB
      go_wp2_with ((with_reducible refine st_pre (.tmp 4) (.tmp 54) ?_); refine st_all rfl 38 (.tmp 4) (.tmp 54) rfl (w.heap.size + 1) 38 [.int .i64 0, .int .i64 0, .int .i64 0, .string ⟨#[]⟩, .slice none 0 0, .slice none 0 0] [.int .i64 0, .int .i64 0, .int .i64 0, .string ⟨#[]⟩, .slice none 0 0, .slice none 0 0] rfl rfl HX.out.1 rfl sV (ones rfl) ?_)
      intro w9 b9 g9
      have HG9 : Hid (Grow w w9) := Below.grown HX.out.2 g9 HX.out.2.size (by intro e he; injection he with he; omega)
      have HB9 : Hid (Blk w9 (w.heap.size + 1) 38 [.int .i64 0, .int .i64 0, .int .i64 0, .string ⟨#[]⟩, .slice none 0 0, .slice none 0 0]) := b9
      clear b9 g9
      go_wp2
      exact bodyPost_ret (res_two rfl _ (w.heap.size + 1) 38 _ _ rfl HB9.out Tryz.underlying38 rfl sV) rfl ⟨rfl, HG9.out⟩
    have HP : Hid (∃ d, sc = d + 1) := ⟨sc - 1, by omega⟩
    obtain ⟨hq, lq, Wq⟩ := wd_of (mc / 10) (by have := HR.out.1.lt; omega)
    obtain ⟨r, hr⟩ : ∃ r, mc % 10 = r := ⟨_, rfl⟩
    have K : Hid (∀ W, Calls Tryz.prog 155 #[.agg #[.int .u64 (hc : Int), .int .u64 (lc : Int), .bool false]] W fun e w' => e = .returned (.tuple #[.agg #[.int .u64 (hq : Int), .int .u64 (lq : Int), .bool false], .int .u64 (r : Int)]) ∧ Grow W w') := fun W => tenR hc lc mc hq lq false HR.out.1 Wq r hr W
    have HQ : Hid (Wd hq lq (mc / 10) ∧ mc % 10 = r) := ⟨Wq, hr⟩
    clear Wq hr
    go_wp2_with fail
    refine (K.out _).mono ?_
    rintro e w6 ⟨rfl, g6⟩
    clear c0 c1 c2
    go_wp2_with (refine al_zero rfl 134 rfl [.int .u64 0, .int .u64 0, .bool false] zR ?_)
    intro bc w7 sz Bc gc
    go_wp2_with ((with_reducible refine st_pre (.tmp 6) (.tmp 23) ?_); refine st_all rfl 134 (.tmp 6) (.tmp 23) rfl bc 134 [.int .u64 0, .int .u64 0, .bool false] [.int .u64 (hq : Int), .int .u64 (lq : Int), .bool false] rfl rfl Bc rfl sR (ones rfl) ?_)
    intro w8 zB gd
    have HE : Hid (Blk w8 w.heap.size 134 [.int .u64 (hc : Int), .int .u64 (lc : Int), .bool false] ∧ Blk w8 (w.heap.size + 1) 38 [.int .i64 0, .int .i64 0, .int .i64 0, .string ⟨#[]⟩, .slice none 0 0, .slice none 0 0] ∧ Blk w8 bc 134 [.int .u64 (hq : Int), .int .u64 (lq : Int), .bool false] ∧ Grow w w8 ∧ w.heap.size + 1 < bc) := by
      obtain ⟨_, _, D0, D2, GG⟩ := HR.out
      have k : ∀ c t cs, Blk w6 c t cs → Blk w8 c t cs := fun c t cs hb => (hb.kept gc (by simp)).kept gd (by intro e; injection e with e; have := hb.lt; omega)
      have q2 := (D2.grow g6).lt
      refine ⟨k _ _ _ (D0.grow g6), k _ _ _ (D2.grow g6), zB, ?_, by omega⟩
      have x1 := GG.trans g6
      have x2 : Below w.heap.size w w7 := Below.grown x1 gc x1.size (by intro e he; cases he)
      exact Below.grown x2 gd x2.size (by intro e he; injection he with he; have := x1.size; omega)
    have OUT2 : Hid (dnN mc sc = (mc, sc) → Blk w8 w.heap.size 134 [.int .u64 (h' : Int), .int .u64 (l' : Int), .bool false] ∧ sc = s') := fun e => by
      obtain ⟨h1, hS⟩ := OUT.out e
      have h2 := HR.out.2.2.1
      have h3 := HE.out.1
      refine ⟨?_, hS⟩
      unfold Blk at h1 h2 h3 ⊢
      rw [h3, ← h2, h1]
    clear zB gd Bc gc sz g6 K OUT
    by_cases hr0 : r = 0
    case neg =>
      obtain ⟨hB, hS⟩ := OUT2.out (by
        obtain ⟨d, hd⟩ := HP.out
        have := HQ.out.2
        rw [hd, dnN, if_neg (by omega)])
      have HX : Hid (Blk w8 (w.heap.size + 1) 38 [.int .i64 0, .int .i64 0, .int .i64 0, .string ⟨#[]⟩, .slice none 0 0, .slice none 0 0] ∧ Grow w w8) := ⟨HE.out.2.1, HE.out.2.2.2.1⟩
      clear OUT2 HE HR H0 HQ HP h0
      have hS := hS.symm
      subst hS
      rw [HH0.out] at hB
      have yB := hB
      have y0 : w8.cell? ⟨w.heap.size, 0, none⟩ = some (.int .u64 0) := (yB).cell 0
      have y1 : w8.cell? ⟨w.heap.size, 1, none⟩ = some (.int .u64 (l' : Int)) := (yB).cell 1
      have y2 : w8.cell? ⟨w.heap.size, 2, none⟩ = some (.bool false) := (yB).cell 2
      clear yB hB
      go_wp2_with ((with_reducible refine st_pre (.tmp 4) (.tmp 54) ?_); refine st_all rfl 38 (.tmp 4) (.tmp 54) rfl (w.heap.size + 1) 38 [.int .i64 0, .int .i64 0, .int .i64 0, .string ⟨#[]⟩, .slice none 0 0, .slice none 0 0] [.int .i64 0, .int .i64 0, .int .i64 0, .string ⟨#[]⟩, .slice none 0 0, .slice none 0 0] rfl rfl HX.out.1 rfl sV (ones rfl) ?_)
      intro w9 b9 g9
      have HG9 : Hid (Grow w w9) := Below.grown HX.out.2 g9 HX.out.2.size (by intro e he; injection he with he; omega)
      have HB9 : Hid (Blk w9 (w.heap.size + 1) 38 [.int .i64 0, .int .i64 0, .int .i64 0, .string ⟨#[]⟩, .slice none 0 0, .slice none 0 0]) := b9
      clear b9 g9
      go_wp2
      exact bodyPost_ret (res_two rfl _ (w.heap.size + 1) 38 _ _ rfl HB9.out Tryz.underlying38 rfl sV) rfl ⟨rfl, HG9.out⟩
    subst hr0
    obtain ⟨sd, hsd⟩ : ∃ sd, sc - 1 = sd := ⟨_, rfl⟩
    have HLd : Hid (dnN (mc / 10) sd = (m', s')) := by
      obtain ⟨d, hd⟩ := HP.out
      have h1 := HR.out.2.1
      rw [hd, dnN, if_pos HQ.out.2] at h1
      rw [← hsd, hd]
      exact h1
    have es : (sc : Int) - 1 = (sd : Int) := by omega
    have HSD : Hid (sc - 1 = sd ∧ 0 < sc) := ⟨hsd, by omega⟩
    clear hsd OUT2
    obtain ⟨E0, E2, zB, GE, _⟩ := HE.out
    have z0 : w8.cell? ⟨bc, 0, none⟩ = some (.int .u64 (hq : Int)) := zB.cell 0
    have z1 : w8.cell? ⟨bc, 1, none⟩ = some (.int .u64 (lq : Int)) := zB.cell 1
    have z2 : w8.cell? ⟨bc, 2, none⟩ = some (.bool false) := zB.cell 2
    clear E2 zB GE
    go_wp2_with ((with_reducible refine st_pre (.tmp 2) (.tmp 27) ?_); refine st_all rfl 134 (.tmp 2) (.tmp 27) rfl w.heap.size 134 [.int .u64 (hc : Int), .int .u64 (lc : Int), .bool false] [.int .u64 (hq : Int), .int .u64 (lq : Int), .bool false] rfl rfl E0 rfl sR (ones rfl) ?_)
    intro w9 b9 g9
    have HZ : Hid (Blk w9 w.heap.size 134 [.int .u64 (hq : Int), .int .u64 (lq : Int), .bool false] ∧ Blk w9 (w.heap.size + 1) 38 [.int .i64 0, .int .i64 0, .int .i64 0, .string ⟨#[]⟩, .slice none 0 0, .slice none 0 0] ∧ Grow w w9) := by
      obtain ⟨_, E2, _, GE, _⟩ := HE.out
      exact ⟨b9, E2.kept g9 (by intro e; injection e with e; omega), Below.grown GE g9 GE.size (by intro e he; injection he with he; omega)⟩
    clear b9 g9 z0 z1 z2 E0 HE
    go_wp2
    go_roundw
    case rel => exact ⟨hq, lq, mc / 10, sd, by have := HSD.out; omega, rfl, HQ.out.1, HLd.out, HZ.out⟩
    case measure => have := HSD.out; simp [intOf]; omega
end Go.Proofs.YtmlfhplhiedfjaaGreatDoor.D6
