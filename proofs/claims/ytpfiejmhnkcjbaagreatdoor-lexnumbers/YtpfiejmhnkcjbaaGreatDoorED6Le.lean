/-
  decimal's numbers: least.
-/
import Derived.Test.YtpfiejmhnkcjbaaGreatDoorEG31x
import Derived.Deep.Cut
namespace Go.Proofs.YtpfiejmhnkcjbaaGreatDoor.D6
open Go.RowKit
set_option linter.unusedVariables false
/-- The whole number in a cell. -/
def cellN (w : World) (b k : Nat) : Nat := match w.cell? ⟨b, k, none⟩ with
  | some (.int _ x) => x.toNat
  | _ => 0
theorem Wd.zero {h l m : Nat} (a : Wd h l m) : m = 0 ↔ h = 0 ∧ l = 0 := by
  obtain ⟨a1, a2, a3⟩ := a
  omega
theorem Wd.inj {h l h' l' m : Nat} (a : Wd h l m) (b : Wd h' l' m) : h = h' ∧ l = l' := by
  obtain ⟨a1, a2, a3⟩ := a
  obtain ⟨b1, b2, b3⟩ := b
  omega
theorem Wd.lt {h l m : Nat} (a : Wd h l m) : m < 340282366920938463463374607431768211456 := by
  obtain ⟨a1, a2, a3⟩ := a
  omega
set_option maxRecDepth 8000 in
theorem least_zero (b : Bool) (s : Int) (w : World) :
    Calls Tryz.prog 101 #[.agg #[.bool b, .int .u64 0, .int .u64 0, .int .i64 s]] w fun e w' => e = .returned (.agg #[.bool false, .int .u64 0, .int .u64 0, .int .i64 0]) ∧ Grow w w' := by
  go_enter Tryz.func101, Tryz.ntmps101
  go_wp2
  exact bodyPost_ret (res_row rfl _ (w.heap.size + 1) 102 _ _ rfl (blk_at (by simp)) Tryz.underlying102 rfl sN) rfl ⟨rfl, ((Grow.refl _).alloc _).alloc _⟩
set_option maxRecDepth 8000 in
theorem least_h (b : Bool) (h l m s : Nat) (hs : s < 9223372036854775808) (hw : Wd h l m) (hh : ¬ h = 0) (h' l' m' s' : Nat) (hd : dnN m s = (m', s')) (hw' : Wd h' l' m') (w : World) :
    Calls Tryz.prog 101 #[.agg #[.bool b, .int .u64 (h : Int), .int .u64 (l : Int), .int .i64 (s : Int)]] w fun e w' => e = .returned (.agg #[.bool b, .int .u64 (h' : Int), .int .u64 (l' : Int), .int .i64 (s' : Int)]) ∧ Grow w w' := by
  have H0 : Hid (Wd h l m ∧ dnN m s = (m', s') ∧ Wd h' l' m') := ⟨hw, hd, hw'⟩
  clear hw hd hw'
  go_enter Tryz.func101, Tryz.ntmps101
  go_wp2
  obtain ⟨w1, HW1⟩ : ∃ w1, ((w.alloc (Obj.cells #[.bool b, .int .u64 (h : Int), .int .u64 (l : Int), .int .i64 (s : Int)] 102)).alloc (Obj.cells #[.bool false, .int .u64 0, .int .u64 0, .int .i64 0] 102)) = w1 := ⟨_, rfl⟩
  obtain ⟨C, hC⟩ : ∃ C : World → Prop, C = fun W => Grow w1 W := ⟨_, rfl⟩
  have GW : Hid (∀ W, C W → Grow w W) := fun W hW => by rw [hC, ← HW1] at hW; exact Grow.trans (((Grow.refl _).alloc _).alloc _) hW
  have B0 : Hid (∀ W, C W → Blk W (w.heap.size) 102 [.bool b, .int .u64 (h : Int), .int .u64 (l : Int), .int .i64 (s : Int)]) := fun W hW => by rw [hC, ← HW1] at hW; exact Blk.grow (Blk.alloc (blk_at rfl) _) hW
  have B1 : Hid (∀ W, C W → Blk W (w.heap.size + 1) 102 [.bool false, .int .u64 0, .int .u64 0, .int .i64 0]) := fun W hW => by rw [hC, ← HW1] at hW; exact Blk.grow (blk_at (by simp)) hW
  have CG : Hid (∀ W W', C W → Grow W W' → C W') := fun W W' h1 h2 => by rw [hC] at h1 ⊢; exact h1.trans h2
  have CW : Hid (C w1) := by rw [hC]; exact Grow.refl _
  rw [HW1]
  clear HW1 hC
  go_loopw [4] (fun _ wr => ∃ hc lc mc sc : Nat, sc < 9223372036854775808 ∧ Hid (Wd hc lc mc ∧ dnN mc sc = (m', s') ∧ Blk wr w.heap.size 102 [.bool b, .int .u64 (hc : Int), .int .u64 (lc : Int), .int .i64 (sc : Int)] ∧ Blk wr (w.heap.size + 1) 102 [.bool false, .int .u64 0, .int .u64 0, .int .i64 0] ∧ Grow w wr)) (fun _ wr => cellN wr w.heap.size 3)
  case atStart =>
    exact ⟨h, l, m, s, hs, H0.out.1, H0.out.2.1, B0.out _ CW.out, B1.out _ CW.out, GW.out _ CW.out⟩
  case round =>
    obtain ⟨hc, lc, mc, sc, hsc, HR⟩ := hrel
    clear CG CW B0 B1 GW
    have OUT : Hid (dnN mc sc = (mc, sc) → Blk wr w.heap.size 102 [.bool b, .int .u64 (h' : Int), .int .u64 (l' : Int), .int .i64 (s' : Int)]) := fun e => by
      obtain ⟨x1, x2, x3, x4, x5⟩ := HR.out
      rw [e] at x2
      injection x2 with y1 y2
      subst y1 y2
      obtain ⟨z1, z2⟩ := x1.inj H0.out.2.2
      rw [← z1, ← z2]
      exact x3
    have c1 : wr.cell? ⟨w.heap.size, 1, none⟩ = some (.int .u64 (hc : Int)) := HR.out.2.2.1.cell 1
    have c2 : wr.cell? ⟨w.heap.size, 2, none⟩ = some (.int .u64 (lc : Int)) := HR.out.2.2.1.cell 2
    have c3 : wr.cell? ⟨w.heap.size, 3, none⟩ = some (.int .i64 (sc : Int)) := HR.out.2.2.1.cell 3
    by_cases h0 : sc = 0
    case pos =>
      subst h0
      have hB := OUT.out (by simp [dnN])
      have HX : Hid (Blk wr (w.heap.size + 1) 102 [.bool false, .int .u64 0, .int .u64 0, .int .i64 0] ∧ Grow w wr) := HR.out.2.2.2
      clear OUT HR H0 c1 c2
      have c3' : wr.cell? ⟨w.heap.size, 3, none⟩ = some (.int .i64 0) := c3
      clear c3
      go_wp2_with (first | (refine ld_all rfl 102 (.tmp 1) rfl w.heap.size 102 _ _ rfl hB Tryz.underlying102 rfl sN ?_) | (refine st_all rfl 102 (.tmp 2) (.tmp 27) rfl (w.heap.size + 1) 102 [.bool false, .int .u64 0, .int .u64 0, .int .i64 0] [.bool b, .int .u64 (h' : Int), .int .u64 (l' : Int), .int .i64 (s' : Int)] rfl rfl HX.out.1 rfl sN (ones rfl) ?_))
      intro w9 b9 g9
      have HG9 : Hid (Grow w w9) := Below.grown HX.out.2 g9 HX.out.2.size (by intro e he; injection he with he; omega)
      have HB9 : Hid (Blk w9 (w.heap.size + 1) 102 [.bool b, .int .u64 (h' : Int), .int .u64 (l' : Int), .int .i64 (s' : Int)]) := b9
      clear b9 g9
      go_wp2
      exact bodyPost_ret (res_row rfl _ (w.heap.size + 1) 102 _ _ rfl HB9.out Tryz.underlying102 rfl sN) rfl ⟨rfl, HG9.out⟩
    have HP : Hid (∃ d, sc = d + 1) := ⟨sc - 1, by omega⟩
    obtain ⟨hq, lq, Wq⟩ := wd_of (mc / 10) (by have := HR.out.1.lt; omega)
    obtain ⟨r, hr⟩ : ∃ r, mc % 10 = r := ⟨_, rfl⟩
    have K : Hid (∀ W, Calls Tryz.prog 127 #[.agg #[.int .u64 (hc : Int), .int .u64 (lc : Int)]] W fun e w' => e = .returned (.tuple #[.agg #[.int .u64 (hq : Int), .int .u64 (lq : Int)], .int .u64 (r : Int)]) ∧ Grow W w') := fun W => tenthW hc lc mc hq lq HR.out.1 Wq r hr W
    have HQ : Hid (Wd hq lq (mc / 10) ∧ mc % 10 = r) := ⟨Wq, hr⟩
    clear Wq hr
    go_wp2_with fail
    refine (K.out _).mono ?_
    rintro e w6 ⟨rfl, g6⟩
    clear c1 c2 c3
    go_wp2_with (refine al_zero rfl 97 rfl [.int .u64 0, .int .u64 0] zW ?_)
    intro bc w7 sz Bc gc
    go_wp2_with (refine st_all rfl 97 (.tmp 3) (.tmp 17) rfl bc 97 [.int .u64 0, .int .u64 0] [.int .u64 (hq : Int), .int .u64 (lq : Int)] rfl rfl Bc rfl sW (ones rfl) ?_)
    intro w8 zB gd
    have HE : Hid (Blk w8 w.heap.size 102 [.bool b, .int .u64 (hc : Int), .int .u64 (lc : Int), .int .i64 (sc : Int)] ∧ Blk w8 (w.heap.size + 1) 102 [.bool false, .int .u64 0, .int .u64 0, .int .i64 0] ∧ Blk w8 bc 97 [.int .u64 (hq : Int), .int .u64 (lq : Int)] ∧ Grow w w8 ∧ w.heap.size + 1 < bc) := by
      obtain ⟨_, _, D0, D2, GG⟩ := HR.out
      have k : ∀ c t cs, Blk w6 c t cs → Blk w8 c t cs := fun c t cs hb => (hb.kept gc (by simp)).kept gd (by intro e; injection e with e; have := hb.lt; omega)
      have q2 := (D2.grow g6).lt
      refine ⟨k _ _ _ (D0.grow g6), k _ _ _ (D2.grow g6), zB, ?_, by omega⟩
      have x1 := GG.trans g6
      have x2 : Below w.heap.size w w7 := Below.grown x1 gc x1.size (by intro e he; cases he)
      exact Below.grown x2 gd x2.size (by intro e he; injection he with he; have := x1.size; omega)
    have OUT2 : Hid (dnN mc sc = (mc, sc) → Blk w8 w.heap.size 102 [.bool b, .int .u64 (h' : Int), .int .u64 (l' : Int), .int .i64 (s' : Int)]) := fun e => by
      have h1 := OUT.out e
      have h2 := HR.out.2.2.1
      have h3 := HE.out.1
      unfold Blk at h1 h2 h3 ⊢
      rw [h3, ← h2, h1]
    clear zB gd Bc gc sz g6 K OUT
    by_cases hr0 : r = 0
    case neg =>
      have hB := OUT2.out (by
        obtain ⟨d, hd⟩ := HP.out
        have := HQ.out.2
        rw [hd, dnN, if_neg (by omega)])
      have HX : Hid (Blk w8 (w.heap.size + 1) 102 [.bool false, .int .u64 0, .int .u64 0, .int .i64 0] ∧ Grow w w8) := ⟨HE.out.2.1, HE.out.2.2.2.1⟩
      clear OUT2 HE HR H0 HQ HP
      go_wp2_with (first | (refine ld_all rfl 102 (.tmp 1) rfl w.heap.size 102 _ _ rfl hB Tryz.underlying102 rfl sN ?_) | (refine st_all rfl 102 (.tmp 2) (.tmp 27) rfl (w.heap.size + 1) 102 [.bool false, .int .u64 0, .int .u64 0, .int .i64 0] [.bool b, .int .u64 (h' : Int), .int .u64 (l' : Int), .int .i64 (s' : Int)] rfl rfl HX.out.1 rfl sN (ones rfl) ?_))
      intro w9 b9 g9
      have HG9 : Hid (Grow w w9) := Below.grown HX.out.2 g9 HX.out.2.size (by intro e he; injection he with he; omega)
      have HB9 : Hid (Blk w9 (w.heap.size + 1) 102 [.bool b, .int .u64 (h' : Int), .int .u64 (l' : Int), .int .i64 (s' : Int)]) := b9
      clear b9 g9
      go_wp2
      exact bodyPost_ret (res_row rfl _ (w.heap.size + 1) 102 _ _ rfl HB9.out Tryz.underlying102 rfl sN) rfl ⟨rfl, HG9.out⟩
    subst hr0
    have HL : Hid (dnN (mc / 10) (sc - 1) = (m', s')) := by
      obtain ⟨d, hd⟩ := HP.out
      have h1 := HR.out.2.1
      rw [hd, dnN, if_pos HQ.out.2] at h1
      rw [hd]
      exact h1
    obtain ⟨E0, E2, zB, GE, _⟩ := HE.out
    have z0 : w8.cell? ⟨bc, 0, none⟩ = some (.int .u64 (hq : Int)) := zB.cell 0
    have z1 : w8.cell? ⟨bc, 1, none⟩ = some (.int .u64 (lq : Int)) := zB.cell 1
    have E0' : Blk w8 w.heap.size 102 ([.bool b] ++ ([.int .u64 (hc : Int), .int .u64 (lc : Int)] ++ [.int .i64 (sc : Int)])) := E0
    clear E0 E2 zB GE OUT2
    go_wp2_with (refine st_row rfl 97 (.tmp 22) (.tmp 21) rfl w.heap.size 1 102 [.bool b] [.int .u64 (hc : Int), .int .u64 (lc : Int)] [.int .i64 (sc : Int)] [.int .u64 (hq : Int), .int .u64 (lq : Int)] rfl rfl rfl E0' rfl sW (ones rfl) ?_)
    intro w9 b9 g9
    have c3 : w9.cell? ⟨w.heap.size, 3, none⟩ = some (.int .i64 (sc : Int)) := b9.cell 3
    obtain ⟨sd, hsd⟩ : ∃ sd, sc - 1 = sd := ⟨_, rfl⟩
    have es : (sc : Int) - 1 = (sd : Int) := by omega
    have HSD : Hid (sc - 1 = sd ∧ 0 < sc) := ⟨hsd, by omega⟩
    rw [hsd] at HL
    clear hsd
    clear z0 z1 E0'
    have fz : w9.frozen? ⟨w.heap.size, 3, none⟩ = false := b9.frozen 3
    obtain ⟨w10, hw10⟩ : ∃ w10, w9.setCell ⟨w.heap.size, 3, none⟩ (.int .i64 (sd : Int)) = w10 := ⟨_, rfl⟩
    have b10 : Blk w10 w.heap.size 102 [.bool b, .int .u64 (hq : Int), .int .u64 (lq : Int), .int .i64 (sd : Int)] := by rw [← hw10]; exact b9.set 3 _
    have g10 : w9.grownBy w10 (some w.heap.size) := by rw [← hw10]; exact grown_setCell _ _ _
    have HZ : Hid (Blk w10 w.heap.size 102 [.bool b, .int .u64 (hq : Int), .int .u64 (lq : Int), .int .i64 (sd : Int)] ∧ Blk w10 (w.heap.size + 1) 102 [.bool false, .int .u64 0, .int .u64 0, .int .i64 0] ∧ Grow w w10) := by
      obtain ⟨_, E2, _, GE, _⟩ := HE.out
      refine ⟨b10, (E2.kept g9 (by intro e; injection e with e; omega)).kept g10 (by intro e; injection e with e; omega), ?_⟩
      have x2 : Below w.heap.size w w9 := Below.grown GE g9 GE.size (by intro e he; injection he with he; omega)
      exact Below.grown x2 g10 x2.size (by intro e he; injection he with he; omega)
    have MS : Hid (cellN w10 w.heap.size 3 = sd ∧ cellN wr w.heap.size 3 = sc) := by
      refine ⟨?_, ?_⟩
      · unfold cellN
        rw [HZ.out.1.cell]
        rfl
      · unfold cellN
        rw [HR.out.2.2.1.cell]
        rfl
    clear b9 g9 b10 g10
    go_wp2
    exact ⟨⟨hq, lq, mc / 10, sd, by have := HSD.out; omega, HQ.out.1, HL.out, HZ.out⟩, by rw [MS.out.1, MS.out.2]; have := HSD.out; omega⟩
set_option maxRecDepth 8000 in
theorem least_l (b : Bool) (l m s : Nat) (hs : s < 9223372036854775808) (hw : Wd 0 l m) (hl : ¬ l = 0) (h' l' m' s' : Nat) (hd : dnN m s = (m', s')) (hw' : Wd h' l' m') (w : World) :
    Calls Tryz.prog 101 #[.agg #[.bool b, .int .u64 0, .int .u64 (l : Int), .int .i64 (s : Int)]] w fun e w' => e = .returned (.agg #[.bool b, .int .u64 (h' : Int), .int .u64 (l' : Int), .int .i64 (s' : Int)]) ∧ Grow w w' := by
  have H0 : Hid (Wd 0 l m ∧ dnN m s = (m', s') ∧ Wd h' l' m') := ⟨hw, hd, hw'⟩
  clear hw hd hw'
  go_enter Tryz.func101, Tryz.ntmps101
  go_wp2
  obtain ⟨w1, HW1⟩ : ∃ w1, ((w.alloc (Obj.cells #[.bool b, .int .u64 0, .int .u64 (l : Int), .int .i64 (s : Int)] 102)).alloc (Obj.cells #[.bool false, .int .u64 0, .int .u64 0, .int .i64 0] 102)) = w1 := ⟨_, rfl⟩
  obtain ⟨C, hC⟩ : ∃ C : World → Prop, C = fun W => Grow w1 W := ⟨_, rfl⟩
  have GW : Hid (∀ W, C W → Grow w W) := fun W hW => by rw [hC, ← HW1] at hW; exact Grow.trans (((Grow.refl _).alloc _).alloc _) hW
  have B0 : Hid (∀ W, C W → Blk W (w.heap.size) 102 [.bool b, .int .u64 0, .int .u64 (l : Int), .int .i64 (s : Int)]) := fun W hW => by rw [hC, ← HW1] at hW; exact Blk.grow (Blk.alloc (blk_at rfl) _) hW
  have B1 : Hid (∀ W, C W → Blk W (w.heap.size + 1) 102 [.bool false, .int .u64 0, .int .u64 0, .int .i64 0]) := fun W hW => by rw [hC, ← HW1] at hW; exact Blk.grow (blk_at (by simp)) hW
  have CG : Hid (∀ W W', C W → Grow W W' → C W') := fun W W' h1 h2 => by rw [hC] at h1 ⊢; exact h1.trans h2
  have CW : Hid (C w1) := by rw [hC]; exact Grow.refl _
  rw [HW1]
  clear HW1 hC
  go_loopw [4] (fun _ wr => ∃ hc lc mc sc : Nat, sc < 9223372036854775808 ∧ Hid (Wd hc lc mc ∧ dnN mc sc = (m', s') ∧ Blk wr w.heap.size 102 [.bool b, .int .u64 (hc : Int), .int .u64 (lc : Int), .int .i64 (sc : Int)] ∧ Blk wr (w.heap.size + 1) 102 [.bool false, .int .u64 0, .int .u64 0, .int .i64 0] ∧ Grow w wr)) (fun _ wr => cellN wr w.heap.size 3)
  case atStart =>
    exact ⟨0, l, m, s, hs, H0.out.1, H0.out.2.1, B0.out _ CW.out, B1.out _ CW.out, GW.out _ CW.out⟩
  case round =>
    obtain ⟨hc, lc, mc, sc, hsc, HR⟩ := hrel
    clear CG CW B0 B1 GW
    have OUT : Hid (dnN mc sc = (mc, sc) → Blk wr w.heap.size 102 [.bool b, .int .u64 (h' : Int), .int .u64 (l' : Int), .int .i64 (s' : Int)]) := fun e => by
      obtain ⟨x1, x2, x3, x4, x5⟩ := HR.out
      rw [e] at x2
      injection x2 with y1 y2
      subst y1 y2
      obtain ⟨z1, z2⟩ := x1.inj H0.out.2.2
      rw [← z1, ← z2]
      exact x3
    have c1 : wr.cell? ⟨w.heap.size, 1, none⟩ = some (.int .u64 (hc : Int)) := HR.out.2.2.1.cell 1
    have c2 : wr.cell? ⟨w.heap.size, 2, none⟩ = some (.int .u64 (lc : Int)) := HR.out.2.2.1.cell 2
    have c3 : wr.cell? ⟨w.heap.size, 3, none⟩ = some (.int .i64 (sc : Int)) := HR.out.2.2.1.cell 3
    by_cases h0 : sc = 0
    case pos =>
      subst h0
      have hB := OUT.out (by simp [dnN])
      have HX : Hid (Blk wr (w.heap.size + 1) 102 [.bool false, .int .u64 0, .int .u64 0, .int .i64 0] ∧ Grow w wr) := HR.out.2.2.2
      clear OUT HR H0 c1 c2
      have c3' : wr.cell? ⟨w.heap.size, 3, none⟩ = some (.int .i64 0) := c3
      clear c3
      go_wp2_with (first | (refine ld_all rfl 102 (.tmp 1) rfl w.heap.size 102 _ _ rfl hB Tryz.underlying102 rfl sN ?_) | (refine st_all rfl 102 (.tmp 2) (.tmp 27) rfl (w.heap.size + 1) 102 [.bool false, .int .u64 0, .int .u64 0, .int .i64 0] [.bool b, .int .u64 (h' : Int), .int .u64 (l' : Int), .int .i64 (s' : Int)] rfl rfl HX.out.1 rfl sN (ones rfl) ?_))
      intro w9 b9 g9
      have HG9 : Hid (Grow w w9) := Below.grown HX.out.2 g9 HX.out.2.size (by intro e he; injection he with he; omega)
      have HB9 : Hid (Blk w9 (w.heap.size + 1) 102 [.bool b, .int .u64 (h' : Int), .int .u64 (l' : Int), .int .i64 (s' : Int)]) := b9
      clear b9 g9
      go_wp2
      exact bodyPost_ret (res_row rfl _ (w.heap.size + 1) 102 _ _ rfl HB9.out Tryz.underlying102 rfl sN) rfl ⟨rfl, HG9.out⟩
    have HP : Hid (∃ d, sc = d + 1) := ⟨sc - 1, by omega⟩
    obtain ⟨hq, lq, Wq⟩ := wd_of (mc / 10) (by have := HR.out.1.lt; omega)
    obtain ⟨r, hr⟩ : ∃ r, mc % 10 = r := ⟨_, rfl⟩
    have K : Hid (∀ W, Calls Tryz.prog 127 #[.agg #[.int .u64 (hc : Int), .int .u64 (lc : Int)]] W fun e w' => e = .returned (.tuple #[.agg #[.int .u64 (hq : Int), .int .u64 (lq : Int)], .int .u64 (r : Int)]) ∧ Grow W w') := fun W => tenthW hc lc mc hq lq HR.out.1 Wq r hr W
    have HQ : Hid (Wd hq lq (mc / 10) ∧ mc % 10 = r) := ⟨Wq, hr⟩
    clear Wq hr
    go_wp2_with fail
    refine (K.out _).mono ?_
    rintro e w6 ⟨rfl, g6⟩
    clear c1 c2 c3
    go_wp2_with (refine al_zero rfl 97 rfl [.int .u64 0, .int .u64 0] zW ?_)
    intro bc w7 sz Bc gc
    go_wp2_with (refine st_all rfl 97 (.tmp 3) (.tmp 17) rfl bc 97 [.int .u64 0, .int .u64 0] [.int .u64 (hq : Int), .int .u64 (lq : Int)] rfl rfl Bc rfl sW (ones rfl) ?_)
    intro w8 zB gd
    have HE : Hid (Blk w8 w.heap.size 102 [.bool b, .int .u64 (hc : Int), .int .u64 (lc : Int), .int .i64 (sc : Int)] ∧ Blk w8 (w.heap.size + 1) 102 [.bool false, .int .u64 0, .int .u64 0, .int .i64 0] ∧ Blk w8 bc 97 [.int .u64 (hq : Int), .int .u64 (lq : Int)] ∧ Grow w w8 ∧ w.heap.size + 1 < bc) := by
      obtain ⟨_, _, D0, D2, GG⟩ := HR.out
      have k : ∀ c t cs, Blk w6 c t cs → Blk w8 c t cs := fun c t cs hb => (hb.kept gc (by simp)).kept gd (by intro e; injection e with e; have := hb.lt; omega)
      have q2 := (D2.grow g6).lt
      refine ⟨k _ _ _ (D0.grow g6), k _ _ _ (D2.grow g6), zB, ?_, by omega⟩
      have x1 := GG.trans g6
      have x2 : Below w.heap.size w w7 := Below.grown x1 gc x1.size (by intro e he; cases he)
      exact Below.grown x2 gd x2.size (by intro e he; injection he with he; have := x1.size; omega)
    have OUT2 : Hid (dnN mc sc = (mc, sc) → Blk w8 w.heap.size 102 [.bool b, .int .u64 (h' : Int), .int .u64 (l' : Int), .int .i64 (s' : Int)]) := fun e => by
      have h1 := OUT.out e
      have h2 := HR.out.2.2.1
      have h3 := HE.out.1
      unfold Blk at h1 h2 h3 ⊢
      rw [h3, ← h2, h1]
    clear zB gd Bc gc sz g6 K OUT
    by_cases hr0 : r = 0
    case neg =>
      have hB := OUT2.out (by
        obtain ⟨d, hd⟩ := HP.out
        have := HQ.out.2
        rw [hd, dnN, if_neg (by omega)])
      have HX : Hid (Blk w8 (w.heap.size + 1) 102 [.bool false, .int .u64 0, .int .u64 0, .int .i64 0] ∧ Grow w w8) := ⟨HE.out.2.1, HE.out.2.2.2.1⟩
      clear OUT2 HE HR H0 HQ HP
      go_wp2_with (first | (refine ld_all rfl 102 (.tmp 1) rfl w.heap.size 102 _ _ rfl hB Tryz.underlying102 rfl sN ?_) | (refine st_all rfl 102 (.tmp 2) (.tmp 27) rfl (w.heap.size + 1) 102 [.bool false, .int .u64 0, .int .u64 0, .int .i64 0] [.bool b, .int .u64 (h' : Int), .int .u64 (l' : Int), .int .i64 (s' : Int)] rfl rfl HX.out.1 rfl sN (ones rfl) ?_))
      intro w9 b9 g9
      have HG9 : Hid (Grow w w9) := Below.grown HX.out.2 g9 HX.out.2.size (by intro e he; injection he with he; omega)
      have HB9 : Hid (Blk w9 (w.heap.size + 1) 102 [.bool b, .int .u64 (h' : Int), .int .u64 (l' : Int), .int .i64 (s' : Int)]) := b9
      clear b9 g9
      go_wp2
      exact bodyPost_ret (res_row rfl _ (w.heap.size + 1) 102 _ _ rfl HB9.out Tryz.underlying102 rfl sN) rfl ⟨rfl, HG9.out⟩
    subst hr0
    have HL : Hid (dnN (mc / 10) (sc - 1) = (m', s')) := by
      obtain ⟨d, hd⟩ := HP.out
      have h1 := HR.out.2.1
      rw [hd, dnN, if_pos HQ.out.2] at h1
      rw [hd]
      exact h1
    obtain ⟨E0, E2, zB, GE, _⟩ := HE.out
    have z0 : w8.cell? ⟨bc, 0, none⟩ = some (.int .u64 (hq : Int)) := zB.cell 0
    have z1 : w8.cell? ⟨bc, 1, none⟩ = some (.int .u64 (lq : Int)) := zB.cell 1
    have E0' : Blk w8 w.heap.size 102 ([.bool b] ++ ([.int .u64 (hc : Int), .int .u64 (lc : Int)] ++ [.int .i64 (sc : Int)])) := E0
    clear E0 E2 zB GE OUT2
    go_wp2_with (refine st_row rfl 97 (.tmp 22) (.tmp 21) rfl w.heap.size 1 102 [.bool b] [.int .u64 (hc : Int), .int .u64 (lc : Int)] [.int .i64 (sc : Int)] [.int .u64 (hq : Int), .int .u64 (lq : Int)] rfl rfl rfl E0' rfl sW (ones rfl) ?_)
    intro w9 b9 g9
    have c3 : w9.cell? ⟨w.heap.size, 3, none⟩ = some (.int .i64 (sc : Int)) := b9.cell 3
    obtain ⟨sd, hsd⟩ : ∃ sd, sc - 1 = sd := ⟨_, rfl⟩
    have es : (sc : Int) - 1 = (sd : Int) := by omega
    have HSD : Hid (sc - 1 = sd ∧ 0 < sc) := ⟨hsd, by omega⟩
    rw [hsd] at HL
    clear hsd
    clear z0 z1 E0'
    have fz : w9.frozen? ⟨w.heap.size, 3, none⟩ = false := b9.frozen 3
    obtain ⟨w10, hw10⟩ : ∃ w10, w9.setCell ⟨w.heap.size, 3, none⟩ (.int .i64 (sd : Int)) = w10 := ⟨_, rfl⟩
    have b10 : Blk w10 w.heap.size 102 [.bool b, .int .u64 (hq : Int), .int .u64 (lq : Int), .int .i64 (sd : Int)] := by rw [← hw10]; exact b9.set 3 _
    have g10 : w9.grownBy w10 (some w.heap.size) := by rw [← hw10]; exact grown_setCell _ _ _
    have HZ : Hid (Blk w10 w.heap.size 102 [.bool b, .int .u64 (hq : Int), .int .u64 (lq : Int), .int .i64 (sd : Int)] ∧ Blk w10 (w.heap.size + 1) 102 [.bool false, .int .u64 0, .int .u64 0, .int .i64 0] ∧ Grow w w10) := by
      obtain ⟨_, E2, _, GE, _⟩ := HE.out
      refine ⟨b10, (E2.kept g9 (by intro e; injection e with e; omega)).kept g10 (by intro e; injection e with e; omega), ?_⟩
      have x2 : Below w.heap.size w w9 := Below.grown GE g9 GE.size (by intro e he; injection he with he; omega)
      exact Below.grown x2 g10 x2.size (by intro e he; injection he with he; omega)
    have MS : Hid (cellN w10 w.heap.size 3 = sd ∧ cellN wr w.heap.size 3 = sc) := by
      refine ⟨?_, ?_⟩
      · unfold cellN
        rw [HZ.out.1.cell]
        rfl
      · unfold cellN
        rw [HR.out.2.2.1.cell]
        rfl
    clear b9 g9 b10 g10
    go_wp2
    exact ⟨⟨hq, lq, mc / 10, sd, by have := HSD.out; omega, HQ.out.1, HL.out, HZ.out⟩, by rw [MS.out.1, MS.out.2]; have := HSD.out; omega⟩
theorem least_any (b : Bool) (h l m s : Nat) (hs : s < 9223372036854775808) (hw : Wd h l m) (hm : m ≠ 0) (h' l' m' s' : Nat) (hd : dnN m s = (m', s')) (hw' : Wd h' l' m') (w : World) :
    Calls Tryz.prog 101 #[.agg #[.bool b, .int .u64 (h : Int), .int .u64 (l : Int), .int .i64 (s : Int)]] w fun e w' => e = .returned (.agg #[.bool b, .int .u64 (h' : Int), .int .u64 (l' : Int), .int .i64 (s' : Int)]) ∧ Grow w w' := by
  by_cases hh : h = 0
  · subst hh
    exact least_l b l m s hs hw (fun e => hm (hw.zero.2 ⟨rfl, e⟩)) h' l' m' s' hd hw' w
  · exact least_h b h l m s hs hw hh h' l' m' s' hd hw' w
end Go.Proofs.YtpfiejmhnkcjbaaGreatDoor.D6
