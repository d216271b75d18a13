/-
   · 
-/
import Derived.Test.YtpfiejmhnkcjbaaGreatDoorHG21x
import Derived.Deep.Cut
namespace Go.Proofs.YtpfiejmhnkcjbaaGreatDoor.D6
set_option maxRecDepth 8000
open Go.RowKit
set_option linter.unusedVariables false
def cellN (w : World) (b k : Nat) : Nat := match w.cell? ⟨b, k, none⟩ with
 | some (.int _ x) => x.toNat
 | _ => 0
theorem Wd.zero {h l m : Nat} (a : Wd h l m) : m = 0 ↔ h = 0 /\ l = 0 := by
 obtain ⟨a1, a2, a3⟩ := a
 omega
theorem Wd.inj {h l h' l' m : Nat} (a : Wd h l m) (b : Wd h' l' m) : h = h' /\ l = l' := by
 obtain ⟨a1, a2, a3⟩ := a
 obtain ⟨b1, b2, b3⟩ := b
 omega
theorem Wd.lt {h l m : Nat} (a : Wd h l m) : m < 340282366920938463463374607431768211456 := by
 obtain ⟨a1, a2, a3⟩ := a
 omega
theorem least_zero (b : Bool) (s : Int) (w : World) :
 Calls Tryz.prog 101 #[.agg #[.bool b, .int .u64 0, .int .u64 0, .int .i64 s]] w fun e w' => e = .returned (.agg #[.bool false, .int .u64 0, .int .u64 0, .int .i64 0]) /\ Grow w w' := by
 go_enter Tryz.func101, Tryz.ntmps101
 go_wp2
 exact bodyPost_ret (res_row rfl _ (w.heap.size + 1) 102 _ _ rfl (blk_at (by simp)) Tryz.underlying102 rfl sN) rfl ⟨rfl, ((Grow.refl _).alloc _).alloc _⟩
theorem least_h (b : Bool) (h l m s : Nat) (hs : s < 9223372036854775808) (hw : Wd h l m) (hh : ¬ h = 0) (h' l' m' s' : Nat) (hd : dnN m s = (m', s')) (hw' : Wd h' l' m') (w : World) :
 Calls Tryz.prog 101 #[.agg #[.bool b, .int .u64 (h : Int), .int .u64 (l : Int), .int .i64 (s : Int)]] w fun e w' => e = .returned (.agg #[.bool b, .int .u64 (h' : Int), .int .u64 (l' : Int), .int .i64 (s' : Int)]) /\ Grow w w' := by
 have H0 : Hid (Wd h l m /\ dnN m s = (m', s') /\ Wd h' l' m') := ⟨hw, hd, hw'⟩
 clear hw hd hw'
 go_enter Tryz.func101, Tryz.ntmps101
 go_wp2
 obtain ⟨w1, HW1⟩ : ∃ w1, ((w.alloc (Obj.cells #[.bool b, .int .u64 (h : Int), .int .u64 (l : Int), .int .i64 (s : Int)] 102)).alloc (Obj.cells #[.bool false, .int .u64 0, .int .u64 0, .int .i64 0] 102)) = w1 := ⟨_, rfl⟩
 obtain ⟨C, hC⟩ : ∃ C : World -> Prop, C = fun W => Grow w1 W := ⟨_, rfl⟩
 have GW : Hid (∀ W, C W -> Grow w W) := fun W hW => by rw [hC, <- HW1] at hW; exact Grow.trans (((Grow.refl _).alloc _).alloc _) hW
 have B0 : Hid (∀ W, C W -> Blk W (w.heap.size) 102 [.bool b, .int .u64 (h : Int), .int .u64 (l : Int), .int .i64 (s : Int)]) := fun W hW => by rw [hC, <- HW1] at hW; exact Blk.grow (Blk.alloc (blk_at rfl) _) hW
 have B1 : Hid (∀ W, C W -> Blk W (w.heap.size + 1) 102 [.bool false, .int .u64 0, .int .u64 0, .int .i64 0]) := fun W hW => by rw [hC, <- HW1] at hW; exact Blk.grow (blk_at (by simp)) hW
 have CG : Hid (∀ W W', C W -> Grow W W' -> C W') := fun W W' h1 h2 => by rw [hC] at h1 ⊢; exact h1.trans h2
 have CW : Hid (C w1) := by rw [hC]; exact Grow.refl _
 rw [HW1]
 clear HW1 hC
 go_loopw [4] (fun _ wr => ∃ hc lc mc sc : Nat, sc < 9223372036854775808 /\ Hid (Wd hc lc mc /\ dnN mc sc = (m', s') /\ Blk wr w.heap.size 102 [.bool b, .int .u64 (hc : Int), .int .u64 (lc : Int), .int .i64 (sc : Int)] /\ Blk wr (w.heap.size + 1) 102 [.bool false, .int .u64 0, .int .u64 0, .int .i64 0] /\ Grow w wr)) (fun _ wr => cellN wr w.heap.size 3)
 case atStart =>
  exact ⟨h, l, m, s, hs, H0.out.1, H0.out.2.1, B0.out _ CW.out, B1.out _ CW.out, GW.out _ CW.out⟩
 case round =>
  obtain ⟨hc, lc, mc, sc, hsc, HR⟩ := hrel
  clear CG CW B0 B1 GW
  have OUT : Hid (dnN mc sc = (mc, sc) -> Blk wr w.heap.size 102 [.bool b, .int .u64 (h' : Int), .int .u64 (l' : Int), .int .i64 (s' : Int)]) := fun e => by
   obtain ⟨x1, x2, x3, x4, x5⟩ := HR.out
   rw [e] at x2
   injection x2 with y1 y2
   subst y1 y2
   obtain ⟨z1, z2⟩ := x1.inj H0.out.2.2
   rw [<- z1, <- z2]
   exact x3
  have c1 : wr.cell? ⟨w.heap.size, 1, none⟩ = some (.int .u64 (hc : Int)) := HR.out.2.2.1.cell 1
  have c2 : wr.cell? ⟨w.heap.size, 2, none⟩ = some (.int .u64 (lc : Int)) := HR.out.2.2.1.cell 2
  have c3 : wr.cell? ⟨w.heap.size, 3, none⟩ = some (.int .i64 (sc : Int)) := HR.out.2.2.1.cell 3
  by_cases h0 : sc = 0
  case pos =>
   subst h0
   have hB := OUT.out (by simp [dnN])
   have HX : Hid (Blk wr (w.heap.size + 1) 102 [.bool false, .int .u64 0, .int .u64 0, .int .i64 0] /\ Grow w wr) := HR.out.2.2.2
   clear OUT HR H0 c1 c2
   have c3' : wr.cell? ⟨w.heap.size, 3, none⟩ = some (.int .i64 0) := c3
   clear c3
   go_wp2_with (first | (refine ld_all rfl 102 (.tmp 1) rfl w.heap.size 102 _ _ rfl hB Tryz.underlying102 rfl sN ?_) | (refine st_all rfl 102 (.tmp 2) (.tmp 27) rfl (w.heap.size + 1) 102 [.bool false, .int .u64 0, .int .u64 0, .int .i64 0] [.bool b, .int .u64 (h' : Int), .int .u64 (l' : Int), .int .i64 (s' : Int)] rfl rfl HX.out.1 rfl sN (ones rfl) ?_))
   intro w9 b9 g9
   have HG9 : Hid (Grow w w9) := Below.grown HX.out.2 g9 HX.out.2.size (by intro e he; injection he with he; omega)
   have HB9 : Hid (Blk w9 (w.heap.size + 1) 102 [.bool b, .int .u64 (h' : Int), .int .u64 (l' : Int), .int .i64 (s' : Int)]) := b9
   clear b9 g9
   go_wp2
   exact bodyPost_ret (res_row rfl _ (w.heap.size + 1) 102 _ _ rfl HB9.out Tryz.underlying102 rfl sN) rfl ⟨rfl, HG9.out⟩
  have HP : Hid (∃ d, sc = d + 1) := ⟨sc - 1, by omega⟩
  obtain ⟨hq, lq, Wq⟩ := wd_of (mc / 10) (by have := HR.out.1.lt; omega)
  obtain ⟨r, hr⟩ : ∃ r, mc % 10 = r := ⟨_, rfl⟩
  have K : Hid (∀ W, Calls Tryz.prog 127 #[.agg #[.int .u64 (hc : Int), .int .u64 (lc : Int)]] W fun e w' => e = .returned (.tuple #[.agg #[.int .u64 (hq : Int), .int .u64 (lq : Int)], .int .u64 (r : Int)]) /\ Grow W w') := fun W => tenthW hc lc mc hq lq HR.out.1 Wq r hr W
  have HQ : Hid (Wd hq lq (mc / 10) /\ mc % 10 = r) := ⟨Wq, hr⟩
  clear Wq hr
  go_wp2_with fail
  refine (K.out _).mono ?_
  rintro e w6 ⟨rfl, g6⟩
  clear c1 c2 c3
  go_wp2_with (refine al_zero rfl 97 rfl [.int .u64 0, .int .u64 0] zW ?_)
  intro bc w7 sz Bc gc
  go_wp2_with (refine st_all rfl 97 (.tmp 3) (.tmp 17) rfl bc 97 [.int .u64 0, .int .u64 0] [.int .u64 (hq : Int), .int .u64 (lq : Int)] rfl rfl Bc rfl sW (ones rfl) ?_)
  intro w8 zB gd
  have HE : Hid (Blk w8 w.heap.size 102 [.bool b, .int .u64 (hc : Int), .int .u64 (lc : Int), .int .i64 (sc : Int)] /\ Blk w8 (w.heap.size + 1) 102 [.bool false, .int .u64 0, .int .u64 0, .int .i64 0] /\ Blk w8 bc 97 [.int .u64 (hq : Int), .int .u64 (lq : Int)] /\ Grow w w8 /\ w.heap.size + 1 < bc) := by
   obtain ⟨_, _, D0, D2, GG⟩ := HR.out
   have k : ∀ c t cs, Blk w6 c t cs -> Blk w8 c t cs := fun c t cs hb => (hb.kept gc (by simp)).kept gd (by intro e; injection e with e; have := hb.lt; omega)
   have q2 := (D2.grow g6).lt
   refine ⟨k _ _ _ (D0.grow g6), k _ _ _ (D2.grow g6), zB, ?_, by omega⟩
   have x1 := GG.trans g6
   have x2 : Below w.heap.size w w7 := Below.grown x1 gc x1.size (by intro e he; cases he)
   exact Below.grown x2 gd x2.size (by intro e he; injection he with he; have := x1.size; omega)
  have OUT2 : Hid (dnN mc sc = (mc, sc) -> Blk w8 w.heap.size 102 [.bool b, .int .u64 (h' : Int), .int .u64 (l' : Int), .int .i64 (s' : Int)]) := fun e => by
   have h1 := OUT.out e
   have h2 := HR.out.2.2.1
   have h3 := HE.out.1
   unfold Blk at h1 h2 h3 ⊢
   rw [h3, <- h2, h1]
  clear zB gd Bc gc sz g6 K OUT
  by_cases hr0 : r = 0
  case neg =>
   have hB := OUT2.out (by
    obtain ⟨d, hd⟩ := HP.out
    have := HQ.out.2
    rw [hd, dnN, if_neg (by omega)])
   have HX : Hid (Blk w8 (w.heap.size + 1) 102 [.bool false, .int .u64 0, .int .u64 0, .int .i64 0] /\ Grow w w8) := ⟨HE.out.2.1, HE.out.2.2.2.1⟩
   clear OUT2 HE HR H0 HQ HP
   go_wp2_with (first | (refine ld_all rfl 102 (.tmp 1) rfl w.heap.size 102 _ _ rfl hB Tryz.underlying102 rfl sN ?_) | (refine st_all rfl 102 (.tmp 2) (.tmp 27) rfl (w.heap.size + 1) 102 [.bool false, .int .u64 0, .int .u64 0, .int .i64 0] [.bool b, .int .u64 (h' : Int), .int .u64 (l' : Int), .int .i64 (s' : Int)] rfl rfl HX.out.1 rfl sN (ones rfl) ?_))
   intro w9 b9 g9
   have HG9 : Hid (Grow w w9) := Below.grown HX.out.2 g9 HX.out.2.size (by intro e he; injection he with he; omega)
   have HB9 : Hid (Blk w9 (w.heap.size + 1) 102 [.bool b, .int .u64 (h' : Int), .int .u64 (l' : Int), .int .i64 (s' : Int)]) := b9
   clear b9 g9
   go_wp2
   exact bodyPost_ret (res_row rfl _ (w.heap.size + 1) 102 _ _ rfl HB9.out Tryz.underlying102 rfl sN) rfl ⟨rfl, HG9.out⟩
  subst hr0
  have HL : Hid (dnN (mc / 10) (sc - 1) = (m', s')) := by
   obtain ⟨d, hd⟩ := HP.out
   have h1 := HR.out.2.1
   rw [hd, dnN, if_pos HQ.out.2] at h1
   rw [hd]
   exact h1
  obtain ⟨E0, E2, zB, GE, _⟩ := HE.out
  have z0 : w8.cell? ⟨bc, 0, none⟩ = some (.int .u64 (hq : Int)) := zB.cell 0
  have z1 : w8.cell? ⟨bc, 1, none⟩ = some (.int .u64 (lq : Int)) := zB.cell 1
  have E0' : Blk w8 w.heap.size 102 ([.bool b] ++ ([.int .u64 (hc : Int), .int .u64 (lc : Int)] ++ [.int .i64 (sc : Int)])) := E0
  clear E0 E2 zB GE OUT2
  go_wp2_with (refine st_row rfl 97 (.tmp 22) (.tmp 21) rfl w.heap.size 1 102 [.bool b] [.int .u64 (hc : Int), .int .u64 (lc : Int)] [.int .i64 (sc : Int)] [.int .u64 (hq : Int), .int .u64 (lq : Int)] rfl rfl rfl E0' rfl sW (ones rfl) ?_)
  intro w9 b9 g9
  have c3 : w9.cell? ⟨w.heap.size, 3, none⟩ = some (.int .i64 (sc : Int)) := b9.cell 3
  obtain ⟨sd, hsd⟩ : ∃ sd, sc - 1 = sd := ⟨_, rfl⟩
  have es : (sc : Int) - 1 = (sd : Int) := by omega
  have HSD : Hid (sc - 1 = sd /\ 0 < sc) := ⟨hsd, by omega⟩
  rw [hsd] at HL
  clear hsd
  clear z0 z1 E0'
  have fz : w9.frozen? ⟨w.heap.size, 3, none⟩ = false := b9.frozen 3
  obtain ⟨w10, hw10⟩ : ∃ w10, w9.setCell ⟨w.heap.size, 3, none⟩ (.int .i64 (sd : Int)) = w10 := ⟨_, rfl⟩
  have b10 : Blk w10 w.heap.size 102 [.bool b, .int .u64 (hq : Int), .int .u64 (lq : Int), .int .i64 (sd : Int)] := by rw [<- hw10]; exact b9.set 3 _
  have g10 : w9.grownBy w10 (some w.heap.size) := by rw [<- hw10]; exact grown_setCell _ _ _
  have HZ : Hid (Blk w10 w.heap.size 102 [.bool b, .int .u64 (hq : Int), .int .u64 (lq : Int), .int .i64 (sd : Int)] /\ Blk w10 (w.heap.size + 1) 102 [.bool false, .int .u64 0, .int .u64 0, .int .i64 0] /\ Grow w w10) := by
   obtain ⟨_, E2, _, GE, _⟩ := HE.out
   refine ⟨b10, (E2.kept g9 (by intro e; injection e with e; omega)).kept g10 (by intro e; injection e with e; omega), ?_⟩
   have x2 : Below w.heap.size w w9 := Below.grown GE g9 GE.size (by intro e he; injection he with he; omega)
   exact Below.grown x2 g10 x2.size (by intro e he; injection he with he; omega)
  have MS : Hid (cellN w10 w.heap.size 3 = sd /\ cellN wr w.heap.size 3 = sc) := by
   refine ⟨?_, ?_⟩
   . unfold cellN
     rw [HZ.out.1.cell]
     rfl
   . unfold cellN
     rw [HR.out.2.2.1.cell]
     rfl
  clear b9 g9 b10 g10
  go_wp2
  exact ⟨⟨hq, lq, mc / 10, sd, by have := HSD.out; omega, HQ.out.1, HL.out, HZ.out⟩, by rw [MS.out.1, MS.out.2]; have := HSD.out; omega⟩
theorem least_l (b : Bool) (l m s : Nat) (hs : s < 9223372036854775808) (hw : Wd 0 l m) (hl : ¬ l = 0) (h' l' m' s' : Nat) (hd : dnN m s = (m', s')) (hw' : Wd h' l' m') (w : World) :
 Calls Tryz.prog 101 #[.agg #[.bool b, .int .u64 0, .int .u64 (l : Int), .int .i64 (s : Int)]] w fun e w' => e = .returned (.agg #[.bool b, .int .u64 (h' : Int), .int .u64 (l' : Int), .int .i64 (s' : Int)]) /\ Grow w w' := by
 have H0 : Hid (Wd 0 l m /\ dnN m s = (m', s') /\ Wd h' l' m') := ⟨hw, hd, hw'⟩
 clear hw hd hw'
 go_enter Tryz.func101, Tryz.ntmps101
 go_wp2
 obtain ⟨w1, HW1⟩ : ∃ w1, ((w.alloc (Obj.cells #[.bool b, .int .u64 0, .int .u64 (l : Int), .int .i64 (s : Int)] 102)).alloc (Obj.cells #[.bool false, .int .u64 0, .int .u64 0, .int .i64 0] 102)) = w1 := ⟨_, rfl⟩
 obtain ⟨C, hC⟩ : ∃ C : World -> Prop, C = fun W => Grow w1 W := ⟨_, rfl⟩
 have GW : Hid (∀ W, C W -> Grow w W) := fun W hW => by rw [hC, <- HW1] at hW; exact Grow.trans (((Grow.refl _).alloc _).alloc _) hW
 have B0 : Hid (∀ W, C W -> Blk W (w.heap.size) 102 [.bool b, .int .u64 0, .int .u64 (l : Int), .int .i64 (s : Int)]) := fun W hW => by rw [hC, <- HW1] at hW; exact Blk.grow (Blk.alloc (blk_at rfl) _) hW
 have B1 : Hid (∀ W, C W -> Blk W (w.heap.size + 1) 102 [.bool false, .int .u64 0, .int .u64 0, .int .i64 0]) := fun W hW => by rw [hC, <- HW1] at hW; exact Blk.grow (blk_at (by simp)) hW
 have CG : Hid (∀ W W', C W -> Grow W W' -> C W') := fun W W' h1 h2 => by rw [hC] at h1 ⊢; exact h1.trans h2
 have CW : Hid (C w1) := by rw [hC]; exact Grow.refl _
 rw [HW1]
 clear HW1 hC
 go_loopw [4] (fun _ wr => ∃ hc lc mc sc : Nat, sc < 9223372036854775808 /\ Hid (Wd hc lc mc /\ dnN mc sc = (m', s') /\ Blk wr w.heap.size 102 [.bool b, .int .u64 (hc : Int), .int .u64 (lc : Int), .int .i64 (sc : Int)] /\ Blk wr (w.heap.size + 1) 102 [.bool false, .int .u64 0, .int .u64 0, .int .i64 0] /\ Grow w wr)) (fun _ wr => cellN wr w.heap.size 3)
 case atStart =>
  exact ⟨0, l, m, s, hs, H0.out.1, H0.out.2.1, B0.out _ CW.out, B1.out _ CW.out, GW.out _ CW.out⟩
 case round =>
  obtain ⟨hc, lc, mc, sc, hsc, HR⟩ := hrel
  clear CG CW B0 B1 GW
  have OUT : Hid (dnN mc sc = (mc, sc) -> Blk wr w.heap.size 102 [.bool b, .int .u64 (h' : Int), .int .u64 (l' : Int), .int .i64 (s' : Int)]) := fun e => by
   obtain ⟨x1, x2, x3, x4, x5⟩ := HR.out
   rw [e] at x2
   injection x2 with y1 y2
   subst y1 y2
   obtain ⟨z1, z2⟩ := x1.inj H0.out.2.2
   rw [<- z1, <- z2]
   exact x3
  have c1 : wr.cell? ⟨w.heap.size, 1, none⟩ = some (.int .u64 (hc : Int)) := HR.out.2.2.1.cell 1
  have c2 : wr.cell? ⟨w.heap.size, 2, none⟩ = some (.int .u64 (lc : Int)) := HR.out.2.2.1.cell 2
  have c3 : wr.cell? ⟨w.heap.size, 3, none⟩ = some (.int .i64 (sc : Int)) := HR.out.2.2.1.cell 3
  by_cases h0 : sc = 0
  case pos =>
   subst h0
   have hB := OUT.out (by simp [dnN])
   have HX : Hid (Blk wr (w.heap.size + 1) 102 [.bool false, .int .u64 0, .int .u64 0, .int .i64 0] /\ Grow w wr) := HR.out.2.2.2
   clear OUT HR H0 c1 c2
   have c3' : wr.cell? ⟨w.heap.size, 3, none⟩ = some (.int .i64 0) := c3
   clear c3
   go_wp2_with (first | (refine ld_all rfl 102 (.tmp 1) rfl w.heap.size 102 _ _ rfl hB Tryz.underlying102 rfl sN ?_) | (refine st_all rfl 102 (.tmp 2) (.tmp 27) rfl (w.heap.size + 1) 102 [.bool false, .int .u64 0, .int .u64 0, .int .i64 0] [.bool b, .int .u64 (h' : Int), .int .u64 (l' : Int), .int .i64 (s' : Int)] rfl rfl HX.out.1 rfl sN (ones rfl) ?_))
   intro w9 b9 g9
   have HG9 : Hid (Grow w w9) := Below.grown HX.out.2 g9 HX.out.2.size (by intro e he; injection he with he; omega)
   have HB9 : Hid (Blk w9 (w.heap.size + 1) 102 [.bool b, .int .u64 (h' : Int), .int .u64 (l' : Int), .int .i64 (s' : Int)]) := b9
   clear b9 g9
   go_wp2
   exact bodyPost_ret (res_row rfl _ (w.heap.size + 1) 102 _ _ rfl HB9.out Tryz.underlying102 rfl sN) rfl ⟨rfl, HG9.out⟩
  have HP : Hid (∃ d, sc = d + 1) := ⟨sc - 1, by omega⟩
  obtain ⟨hq, lq, Wq⟩ := wd_of (mc / 10) (by have := HR.out.1.lt; omega)
  obtain ⟨r, hr⟩ : ∃ r, mc % 10 = r := ⟨_, rfl⟩
  have K : Hid (∀ W, Calls Tryz.prog 127 #[.agg #[.int .u64 (hc : Int), .int .u64 (lc : Int)]] W fun e w' => e = .returned (.tuple #[.agg #[.int .u64 (hq : Int), .int .u64 (lq : Int)], .int .u64 (r : Int)]) /\ Grow W w') := fun W => tenthW hc lc mc hq lq HR.out.1 Wq r hr W
  have HQ : Hid (Wd hq lq (mc / 10) /\ mc % 10 = r) := ⟨Wq, hr⟩
  clear Wq hr
  go_wp2_with fail
  refine (K.out _).mono ?_
  rintro e w6 ⟨rfl, g6⟩
  clear c1 c2 c3
  go_wp2_with (refine al_zero rfl 97 rfl [.int .u64 0, .int .u64 0] zW ?_)
  intro bc w7 sz Bc gc
  go_wp2_with (refine st_all rfl 97 (.tmp 3) (.tmp 17) rfl bc 97 [.int .u64 0, .int .u64 0] [.int .u64 (hq : Int), .int .u64 (lq : Int)] rfl rfl Bc rfl sW (ones rfl) ?_)
  intro w8 zB gd
  have HE : Hid (Blk w8 w.heap.size 102 [.bool b, .int .u64 (hc : Int), .int .u64 (lc : Int), .int .i64 (sc : Int)] /\ Blk w8 (w.heap.size + 1) 102 [.bool false, .int .u64 0, .int .u64 0, .int .i64 0] /\ Blk w8 bc 97 [.int .u64 (hq : Int), .int .u64 (lq : Int)] /\ Grow w w8 /\ w.heap.size + 1 < bc) := by
   obtain ⟨_, _, D0, D2, GG⟩ := HR.out
   have k : ∀ c t cs, Blk w6 c t cs -> Blk w8 c t cs := fun c t cs hb => (hb.kept gc (by simp)).kept gd (by intro e; injection e with e; have := hb.lt; omega)
   have q2 := (D2.grow g6).lt
   refine ⟨k _ _ _ (D0.grow g6), k _ _ _ (D2.grow g6), zB, ?_, by omega⟩
   have x1 := GG.trans g6
   have x2 : Below w.heap.size w w7 := Below.grown x1 gc x1.size (by intro e he; cases he)
   exact Below.grown x2 gd x2.size (by intro e he; injection he with he; have := x1.size; omega)
  have OUT2 : Hid (dnN mc sc = (mc, sc) -> Blk w8 w.heap.size 102 [.bool b, .int .u64 (h' : Int), .int .u64 (l' : Int), .int .i64 (s' : Int)]) := fun e => by
   have h1 := OUT.out e
   have h2 := HR.out.2.2.1
   have h3 := HE.out.1
   unfold Blk at h1 h2 h3 ⊢
   rw [h3, <- h2, h1]
  clear zB gd Bc gc sz g6 K OUT
  by_cases hr0 : r = 0
  case neg =>
   have hB := OUT2.out (by
    obtain ⟨d, hd⟩ := HP.out
    have := HQ.out.2
    rw [hd, dnN, if_neg (by omega)])
   have HX : Hid (Blk w8 (w.heap.size + 1) 102 [.bool false, .int .u64 0, .int .u64 0, .int .i64 0] /\ Grow w w8) := ⟨HE.out.2.1, HE.out.2.2.2.1⟩
   clear OUT2 HE HR H0 HQ HP
   go_wp2_with (first | (refine ld_all rfl 102 (.tmp 1) rfl w.heap.size 102 _ _ rfl hB Tryz.underlying102 rfl sN ?_) | (refine st_all rfl 102 (.tmp 2) (.tmp 27) rfl (w.heap.size + 1) 102 [.bool false, .int .u64 0, .int .u64 0, .int .i64 0] [.bool b, .int .u64 (h' : Int), .int .u64 (l' : Int), .int .i64 (s' : Int)] rfl rfl HX.out.1 rfl sN (ones rfl) ?_))
   intro w9 b9 g9
   have HG9 : Hid (Grow w w9) := Below.grown HX.out.2 g9 HX.out.2.size (by intro e he; injection he with he; omega)
   have HB9 : Hid (Blk w9 (w.heap.size + 1) 102 [.bool b, .int .u64 (h' : Int), .int .u64 (l' : Int), .int .i64 (s' : Int)]) := b9
   clear b9 g9
   go_wp2
   exact bodyPost_ret (res_row rfl _ (w.heap.size + 1) 102 _ _ rfl HB9.out Tryz.underlying102 rfl sN) rfl ⟨rfl, HG9.out⟩
  subst hr0
  have HL : Hid (dnN (mc / 10) (sc - 1) = (m', s')) := by
   obtain ⟨d, hd⟩ := HP.out
   have h1 := HR.out.2.1
   rw [hd, dnN, if_pos HQ.out.2] at h1
   rw [hd]
   exact h1
  obtain ⟨E0, E2, zB, GE, _⟩ := HE.out
  have z0 : w8.cell? ⟨bc, 0, none⟩ = some (.int .u64 (hq : Int)) := zB.cell 0
  have z1 : w8.cell? ⟨bc, 1, none⟩ = some (.int .u64 (lq : Int)) := zB.cell 1
  have E0' : Blk w8 w.heap.size 102 ([.bool b] ++ ([.int .u64 (hc : Int), .int .u64 (lc : Int)] ++ [.int .i64 (sc : Int)])) := E0
  clear E0 E2 zB GE OUT2
  go_wp2_with (refine st_row rfl 97 (.tmp 22) (.tmp 21) rfl w.heap.size 1 102 [.bool b] [.int .u64 (hc : Int), .int .u64 (lc : Int)] [.int .i64 (sc : Int)] [.int .u64 (hq : Int), .int .u64 (lq : Int)] rfl rfl rfl E0' rfl sW (ones rfl) ?_)
  intro w9 b9 g9
  have c3 : w9.cell? ⟨w.heap.size, 3, none⟩ = some (.int .i64 (sc : Int)) := b9.cell 3
  obtain ⟨sd, hsd⟩ : ∃ sd, sc - 1 = sd := ⟨_, rfl⟩
  have es : (sc : Int) - 1 = (sd : Int) := by omega
  have HSD : Hid (sc - 1 = sd /\ 0 < sc) := ⟨hsd, by omega⟩
  rw [hsd] at HL
  clear hsd
  clear z0 z1 E0'
  have fz : w9.frozen? ⟨w.heap.size, 3, none⟩ = false := b9.frozen 3
  obtain ⟨w10, hw10⟩ : ∃ w10, w9.setCell ⟨w.heap.size, 3, none⟩ (.int .i64 (sd : Int)) = w10 := ⟨_, rfl⟩
  have b10 : Blk w10 w.heap.size 102 [.bool b, .int .u64 (hq : Int), .int .u64 (lq : Int), .int .i64 (sd : Int)] := by rw [<- hw10]; exact b9.set 3 _
  have g10 : w9.grownBy w10 (some w.heap.size) := by rw [<- hw10]; exact grown_setCell _ _ _
  have HZ : Hid (Blk w10 w.heap.size 102 [.bool b, .int .u64 (hq : Int), .int .u64 (lq : Int), .int .i64 (sd : Int)] /\ Blk w10 (w.heap.size + 1) 102 [.bool false, .int .u64 0, .int .u64 0, .int .i64 0] /\ Grow w w10) := by
   obtain ⟨_, E2, _, GE, _⟩ := HE.out
   refine ⟨b10, (E2.kept g9 (by intro e; injection e with e; omega)).kept g10 (by intro e; injection e with e; omega), ?_⟩
   have x2 : Below w.heap.size w w9 := Below.grown GE g9 GE.size (by intro e he; injection he with he; omega)
   exact Below.grown x2 g10 x2.size (by intro e he; injection he with he; omega)
  have MS : Hid (cellN w10 w.heap.size 3 = sd /\ cellN wr w.heap.size 3 = sc) := by
   refine ⟨?_, ?_⟩
   . unfold cellN
     rw [HZ.out.1.cell]
     rfl
   . unfold cellN
     rw [HR.out.2.2.1.cell]
     rfl
  clear b9 g9 b10 g10
  go_wp2
  exact ⟨⟨hq, lq, mc / 10, sd, by have := HSD.out; omega, HQ.out.1, HL.out, HZ.out⟩, by rw [MS.out.1, MS.out.2]; have := HSD.out; omega⟩
theorem least_any (b : Bool) (h l m s : Nat) (hs : s < 9223372036854775808) (hw : Wd h l m) (hm : m ≠ 0) (h' l' m' s' : Nat) (hd : dnN m s = (m', s')) (hw' : Wd h' l' m') (w : World) :
 Calls Tryz.prog 101 #[.agg #[.bool b, .int .u64 (h : Int), .int .u64 (l : Int), .int .i64 (s : Int)]] w fun e w' => e = .returned (.agg #[.bool b, .int .u64 (h' : Int), .int .u64 (l' : Int), .int .i64 (s' : Int)]) /\ Grow w w' := by
 by_cases hh : h = 0
 . subst hh
   exact least_l b l m s hs hw (fun e => hm (hw.zero.2 ⟨rfl, e⟩)) h' l' m' s' hd hw' w
 . exact least_h b h l m s hs hw hh h' l' m' s' hd hw' w
end Go.Proofs.YtpfiejmhnkcjbaaGreatDoor.D6
namespace Go.Proofs.YtpfiejmhnkcjbaaGreatDoor.D6
set_option maxHeartbeats 4000000
set_option maxRecDepth 8000
open Go.RowKit
set_option linter.unusedVariables false
inductive Rs where
 | ty : Rs
 | rg : Rs
 | ok (y : Int) (t : Nat) : Rs
def kd (t : Nat) : Int := if t = 0 then 3 else 4
def Rs.k : Rs -> Int
 | .ok _ t => kd t
 | _ => 0
def Rs.n : Rs -> Int
 | .ok y _ => y
 | _ => 0
def Rs.s : Rs -> Int
 | .ok _ t => (t : Int)
 | _ => 0
def Rs.e : Rs -> Int
 | .ty => 11
 | .rg => 10
 | .ok _ _ => 0
def rs (z : Int) (s : Nat) : Rs := match res z s with
 | some (y, t) => .ok y t
 | none => .rg
def sgn (b : Bool) (m : Nat) : Int := if b then -(m : Int) else (m : Int)
theorem rs_zero (s : Nat) : rs 0 s = .ok 0 0 := by
 have : dn 0 s = (0, 0) := by simp [dn, dnN_zero]
 simp [rs, res, this, fits]
theorem dn_sgn (b : Bool) {m s m' s' : Nat} (hm : m ≠ 0) (h : dnN m s = (m', s')) : dn (sgn b m) s = (sgn b m', s') := by
 cases b
 . have e : sgn false m = (m : Int) := rfl
   have e2 : sgn false m' = (m' : Int) := rfl
   rw [e, e2]
   unfold dn
   simp only [Int.natAbs_natCast, h]
   rw [if_neg (by omega)]
 . have e : sgn true m = -(m : Int) := rfl
   have e2 : sgn true m' = -(m' : Int) := rfl
   rw [e, e2]
   unfold dn
   simp only [Int.natAbs_neg, Int.natAbs_natCast, h]
   rw [if_pos (by omega)]
theorem rs_ok (b : Bool) {m s m' s' : Nat} (hm : m ≠ 0) (h : dnN m s = (m', s')) (h1 : s' <= 18) (h2 : m' <= 9223372036854775807 + b.toNat) : rs (sgn b m) s = .ok (sgn b m') s' := by
 have : fits (sgn b m', s') = true := by
  simp only [fits, Bool.and_eq_true, decide_eq_true_eq]
  cases b <;> simp only [sgn, Bool.toNat_true, Bool.toNat_false] at * <;> refine ⟨⟨h1, ?_⟩, ?_⟩ <;> simp <;> omega
 simp [rs, res, dn_sgn b hm h, this]
theorem rs_no (b : Bool) {m s m' s' : Nat} (hm : m ≠ 0) (h : dnN m s = (m', s')) (h1 : 18 < s' ∨ 9223372036854775807 + b.toNat < m') : rs (sgn b m) s = .rg := by
 have : fits (sgn b m', s') = false := by
  cases hf : fits (sgn b m', s') with
  | false => rfl
  | true =>
    exfalso
    simp only [fits, Bool.and_eq_true, decide_eq_true_eq] at hf
    obtain ⟨⟨f1, f2⟩, f3⟩ := hf
    cases b <;> simp only [sgn, Bool.toNat_true, Bool.toNat_false] at * <;> simp at f2 f3 <;> omega
 simp [rs, res, dn_sgn b hm h, this]
theorem conv_neg (l : Nat) (hl : l <= 9223372036854775808) : IntKind.i64.wrap (IntKind.u64.wrap (-(l : Int))) = -(l : Int) := by
 rw [IntKind.wrap_u64, IntKind.wrap_i64]
 omega
theorem conv_neg' (l : Nat) (hl : l <= 9223372036854775808) : wrap64 (IntKind.u64.wrap (-(l : Int))) = -(l : Int) := by
 have h := conv_neg l hl
 rw [IntKind.wrap_i64] at h
 unfold wrap64
 exact h
theorem value_zero (b : Bool) (s : Int) (w : World) :
 Calls Tryz.prog 77 #[.agg #[.bool b, .int .u64 0, .int .u64 0, .int .i64 s]] w fun e w' => e = .returned (.tuple #[.agg #[.int .i64 3, .int .i64 0, .int .i64 0, .string ⟨#[]⟩, .slice none 0 0, .slice none 0 0], .int .i64 0]) /\ Grow w w' := by
 have K : Hid (∀ W, Calls Tryz.prog 101 #[.agg #[.bool b, .int .u64 0, .int .u64 0, .int .i64 s]] W fun e w' => e = .returned (.agg #[.bool false, .int .u64 0, .int .u64 0, .int .i64 0]) /\ Grow W w') := fun W => least_zero b s W
 go_enter Tryz.func77, Tryz.ntmps77
 go_wp2_with fail
 obtain ⟨w1, HW1⟩ : ∃ w1, ((w.alloc (Obj.cells #[.bool b, .int .u64 0, .int .u64 0, .int .i64 s] 102)).alloc (Obj.cells #[.int .i64 0, .int .i64 0, .int .i64 0, .string ⟨#[]⟩, .slice none 0 0, .slice none 0 0] 41)) = w1 := ⟨_, rfl⟩
 obtain ⟨C, hC⟩ : ∃ C : World -> Prop, C = fun W => Grow w1 W := ⟨_, rfl⟩
 have GW : Hid (∀ W, C W -> Grow w W) := fun W hW => by rw [hC, <- HW1] at hW; exact Grow.trans (((Grow.refl _).alloc _).alloc _) hW
 have B0 : Hid (∀ W, C W -> Blk W (w.heap.size) 102 [.bool b, .int .u64 0, .int .u64 0, .int .i64 s]) := fun W hW => by rw [hC, <- HW1] at hW; exact Blk.grow (Blk.alloc (blk_at rfl) _) hW
 have B1 : Hid (∀ W, C W -> Blk W (w.heap.size + 1) 41 [.int .i64 0, .int .i64 0, .int .i64 0, .string ⟨#[]⟩, .slice none 0 0, .slice none 0 0]) := fun W hW => by rw [hC, <- HW1] at hW; exact Blk.grow (blk_at (by simp)) hW
 have CG : Hid (∀ W W', C W -> Grow W W' -> C W') := fun W W' h1 h2 => by rw [hC] at h1 ⊢; exact h1.trans h2
 have CW : Hid (C w1) := by rw [hC]; exact Grow.refl _
 rw [HW1]
 clear HW1 hC
 refine (K.out _).mono ?_
 rintro e w2 ⟨rfl, g2⟩
 have HB : Hid (Blk w2 w.heap.size 102 [.bool b, .int .u64 0, .int .u64 0, .int .i64 s] /\ Blk w2 (w.heap.size + 1) 41 [.int .i64 0, .int .i64 0, .int .i64 0, .string ⟨#[]⟩, .slice none 0 0, .slice none 0 0] /\ Grow w w2) := ⟨(B0.out _ CW.out).grow g2, (B1.out _ CW.out).grow g2, (GW.out _ CW.out).trans g2⟩
 clear B0 B1 GW CG CW g2 K
 go_wp2_with (refine st_all rfl 102 (.tmp 1) (.tmp 8) rfl w.heap.size 102 [.bool b, .int .u64 0, .int .u64 0, .int .i64 s] [.bool false, .int .u64 0, .int .u64 0, .int .i64 0] rfl rfl HB.out.1 rfl sN (ones rfl) ?_)
 intro w3 b3 g3
 have HC : Hid (∀ q, Blk (w3.drewN q) w.heap.size 102 [.bool false, .int .u64 0, .int .u64 0, .int .i64 0] /\ Blk (w3.drewN q) (w.heap.size + 1) 41 [.int .i64 0, .int .i64 0, .int .i64 0, .string ⟨#[]⟩, .slice none 0 0, .slice none 0 0] /\ Grow w (w3.drewN q)) := fun q =>
  ⟨b3.grow (grow_dq _ _), (HB.out.2.1.kept g3 (by intro e; injection e with e; omega)).grow (grow_dq _ _), Grow.trans (Below.grown HB.out.2.2 g3 HB.out.2.2.size (by intro e he; injection he with he; omega)) (grow_dq _ _)⟩
 have yB := b3
 have y0 : w3.cell? ⟨w.heap.size, 0, none⟩ = some (.bool false) := yB.cell 0
 have y1 : w3.cell? ⟨w.heap.size, 1, none⟩ = some (.int .u64 0) := yB.cell 1
 have y2 : w3.cell? ⟨w.heap.size, 2, none⟩ = some (.int .u64 0) := yB.cell 2
 have y3 : w3.cell? ⟨w.heap.size, 3, none⟩ = some (.int .i64 0) := yB.cell 3
 clear yB b3 g3 HB
 go_wp2
 go_quiet (fail)
 generalize hw4 : w3.drewN nq = w4
 have HD : Hid (Blk w4 w.heap.size 102 [.bool false, .int .u64 0, .int .u64 0, .int .i64 0] /\ Blk w4 (w.heap.size + 1) 41 [.int .i64 0, .int .i64 0, .int .i64 0, .string ⟨#[]⟩, .slice none 0 0, .slice none 0 0] /\ Grow w w4) := by rw [<- hw4]; exact HC.out nq
 clear y0 y1 y2 y3 HC hw4
 have xB := HD.out.1
 have x0 : w4.cell? ⟨w.heap.size, 0, none⟩ = some (.bool false) := xB.cell 0
 have x1 : w4.cell? ⟨w.heap.size, 1, none⟩ = some (.int .u64 0) := xB.cell 1
 have x2 : w4.cell? ⟨w.heap.size, 2, none⟩ = some (.int .u64 0) := xB.cell 2
 have x3 : w4.cell? ⟨w.heap.size, 3, none⟩ = some (.int .i64 0) := xB.cell 3
 clear xB
 go_wp2_with (refine st_all rfl 41 (.tmp 2) (.tmp 43) rfl (w.heap.size + 1) 41 [.int .i64 0, .int .i64 0, .int .i64 0, .string ⟨#[]⟩, .slice none 0 0, .slice none 0 0] [.int .i64 3, .int .i64 0, .int .i64 0, .string ⟨#[]⟩, .slice none 0 0, .slice none 0 0] rfl rfl HD.out.2.1 rfl sV (ones rfl) ?_)
 intro w5 b5 g5
 have HB5 : Hid (Blk w5 (w.heap.size + 1) 41 [.int .i64 3, .int .i64 0, .int .i64 0, .string ⟨#[]⟩, .slice none 0 0, .slice none 0 0]) := b5
 have HG5 : Hid (Grow w w5) := Below.grown HD.out.2.2 g5 HD.out.2.2.size (by intro e he; injection he with he; omega)
 clear b5 g5 x0 x1 x2 x3 HD
 go_wp2
 exact bodyPost_ret (res_two rfl _ (w.heap.size + 1) 41 _ _ rfl HB5.out Tryz.underlying41 rfl sV) rfl ⟨rfl, HG5.out⟩
inductive Vw (h l s : Nat) : Bool -> Int -> Int -> Int -> Int -> Int -> Int -> Prop
 | s (b) : 18 < s -> Vw h l s b h s 0 0 0 10
 | h (b) : s <= 18 -> ¬ h = 0 -> Vw h l s b h s 0 0 0 10
 | lp : s <= 18 -> h = 0 -> 9223372036854775807 < l -> Vw h l s false 0 s 0 0 0 10
 | lm : s <= 18 -> h = 0 -> 9223372036854775808 < l -> Vw h l s true 0 s 0 0 0 10
 | ip : s = 0 -> h = 0 -> l <= 9223372036854775807 -> Vw h l s false 0 0 3 l 0 0
 | im : s = 0 -> h = 0 -> l <= 9223372036854775808 -> Vw h l s true 0 0 3 (-(l : Int)) 0 0
 | dp : 0 < s -> s <= 18 -> h = 0 -> l <= 9223372036854775807 -> Vw h l s false 0 s 4 l s 0
 | dm : 0 < s -> s <= 18 -> h = 0 -> l <= 9223372036854775808 -> Vw h l s true 0 s 4 (-(l : Int)) s 0
theorem Vw.z {h l s b z S k n p x} (d : Vw h l s b z S k n p x) : z = (h : Int) := by cases d <;> simp_all
theorem Vw.t {h l s b z S k n p x} (d : Vw h l s b z S k n p x) : S = (s : Int) := by cases d <;> simp_all
theorem value_at (b : Bool) (h l m s : Nat) (hs : s < 9223372036854775808) (hw : Wd h l m) (hm : m ≠ 0) (h' l' m' s' : Nat) (hd : dnN m s = (m', s')) (hw' : Wd h' l' m') (z S k n p x : Int) (HD : Hid (Vw h' l' s' b z S k n p x)) (w : World) :
 Calls Tryz.prog 77 #[.agg #[.bool b, .int .u64 (h : Int), .int .u64 (l : Int), .int .i64 (s : Int)]] w fun e w' => e = .returned (.tuple #[.agg #[.int .i64 k, .int .i64 n, .int .i64 p, .string ⟨#[]⟩, .slice none 0 0, .slice none 0 0], .int .i64 x]) /\ Grow w w' := by
 have K : Hid (∀ W, Calls Tryz.prog 101 #[.agg #[.bool b, .int .u64 (h : Int), .int .u64 (l : Int), .int .i64 (s : Int)]] W fun e w' => e = .returned (.agg #[.bool b, .int .u64 (h' : Int), .int .u64 (l' : Int), .int .i64 (s' : Int)]) /\ Grow W w') := fun W => least_any b h l m s hs hw hm h' l' m' s' hd hw' W
 have hl' : l' < 18446744073709551616 := hw'.l1
 rw [<- HD.out.z, <- HD.out.t] at K
 clear hw hm hd hw'
 go_enter Tryz.func77, Tryz.ntmps77
 go_wp2_with fail
 obtain ⟨w1, HW1⟩ : ∃ w1, ((w.alloc (Obj.cells #[.bool b, .int .u64 (h : Int), .int .u64 (l : Int), .int .i64 (s : Int)] 102)).alloc (Obj.cells #[.int .i64 0, .int .i64 0, .int .i64 0, .string ⟨#[]⟩, .slice none 0 0, .slice none 0 0] 41)) = w1 := ⟨_, rfl⟩
 obtain ⟨C, hC⟩ : ∃ C : World -> Prop, C = fun W => Grow w1 W := ⟨_, rfl⟩
 have GW : Hid (∀ W, C W -> Grow w W) := fun W hW => by rw [hC, <- HW1] at hW; exact Grow.trans (((Grow.refl _).alloc _).alloc _) hW
 have B0 : Hid (∀ W, C W -> Blk W (w.heap.size) 102 [.bool b, .int .u64 (h : Int), .int .u64 (l : Int), .int .i64 (s : Int)]) := fun W hW => by rw [hC, <- HW1] at hW; exact Blk.grow (Blk.alloc (blk_at rfl) _) hW
 have B1 : Hid (∀ W, C W -> Blk W (w.heap.size + 1) 41 [.int .i64 0, .int .i64 0, .int .i64 0, .string ⟨#[]⟩, .slice none 0 0, .slice none 0 0]) := fun W hW => by rw [hC, <- HW1] at hW; exact Blk.grow (blk_at (by simp)) hW
 have CG : Hid (∀ W W', C W -> Grow W W' -> C W') := fun W W' h1 h2 => by rw [hC] at h1 ⊢; exact h1.trans h2
 have CW : Hid (C w1) := by rw [hC]; exact Grow.refl _
 rw [HW1]
 clear HW1 hC
 refine (K.out _).mono ?_
 rintro e w2 ⟨rfl, g2⟩
 have HB : Hid (Blk w2 w.heap.size 102 [.bool b, .int .u64 (h : Int), .int .u64 (l : Int), .int .i64 (s : Int)] /\ Blk w2 (w.heap.size + 1) 41 [.int .i64 0, .int .i64 0, .int .i64 0, .string ⟨#[]⟩, .slice none 0 0, .slice none 0 0] /\ Grow w w2) := ⟨(B0.out _ CW.out).grow g2, (B1.out _ CW.out).grow g2, (GW.out _ CW.out).trans g2⟩
 clear B0 B1 GW CG CW g2 K
 go_wp2_with (refine st_all rfl 102 (.tmp 1) (.tmp 8) rfl w.heap.size 102 [.bool b, .int .u64 (h : Int), .int .u64 (l : Int), .int .i64 (s : Int)] [.bool b, .int .u64 z, .int .u64 (l' : Int), .int .i64 S] rfl rfl HB.out.1 rfl sN (ones rfl) ?_)
 intro w3 b3 g3
 have HC : Hid (∀ q, Blk (w3.drewN q) w.heap.size 102 [.bool b, .int .u64 z, .int .u64 (l' : Int), .int .i64 S] /\ Blk (w3.drewN q) (w.heap.size + 1) 41 [.int .i64 0, .int .i64 0, .int .i64 0, .string ⟨#[]⟩, .slice none 0 0, .slice none 0 0] /\ Grow w (w3.drewN q)) := fun q =>
  ⟨b3.grow (grow_dq _ _), (HB.out.2.1.kept g3 (by intro e; injection e with e; omega)).grow (grow_dq _ _), Grow.trans (Below.grown HB.out.2.2 g3 HB.out.2.2.size (by intro e he; injection he with he; omega)) (grow_dq _ _)⟩
 have yB := b3
 have y0 : w3.cell? ⟨w.heap.size, 0, none⟩ = some (.bool b) := yB.cell 0
 have y1 : w3.cell? ⟨w.heap.size, 1, none⟩ = some (.int .u64 z) := yB.cell 1
 have y2 : w3.cell? ⟨w.heap.size, 2, none⟩ = some (.int .u64 (l' : Int)) := yB.cell 2
 have y3 : w3.cell? ⟨w.heap.size, 3, none⟩ = some (.int .i64 S) := yB.cell 3
 have X0 : Hid (∀ q, (w3.drewN q).cell? ⟨w.heap.size, 0, none⟩ = some (.bool b)) := fun q => (HC.out q).1.cell 0
 have X1 : Hid (∀ q, (w3.drewN q).cell? ⟨w.heap.size, 1, none⟩ = some (.int .u64 z)) := fun q => (HC.out q).1.cell 1
 have X2 : Hid (∀ q, (w3.drewN q).cell? ⟨w.heap.size, 2, none⟩ = some (.int .u64 (l' : Int))) := fun q => (HC.out q).1.cell 2
 have X3 : Hid (∀ q, (w3.drewN q).cell? ⟨w.heap.size, 3, none⟩ = some (.int .i64 S)) := fun q => (HC.out q).1.cell 3
 have HE : Hid (∀ q, Blk (w3.drewN q) (w.heap.size + 1) 41 [.int .i64 0, .int .i64 0, .int .i64 0, .string ⟨#[]⟩, .slice none 0 0, .slice none 0 0] /\ Grow w (w3.drewN q)) := fun q => (HC.out q).2
 clear yB b3 g3 HB HC
 have hD := HD.out
 clear HD
 cases hD
 all_goals try (cases b)
 all_goals
  go_wp2
  go_quiet (fail)
  have x0 := X0.out nq
  have x1 := X1.out nq
  have x2 := X2.out nq
  have x3 := X3.out nq
  have HF := HE.out nq
  generalize w3.drewN nq = w4 at x0 x1 x2 x3 HF ⊢
  have HD : Hid (Blk w4 (w.heap.size + 1) 41 [.int .i64 0, .int .i64 0, .int .i64 0, .string ⟨#[]⟩, .slice none 0 0, .slice none 0 0] /\ Grow w w4) := HF
  clear y0 y1 y2 y3 X0 X1 X2 X3 HE HF
  try have e1 := conv_neg l' (by omega)
  try have e2 := conv_neg' l' (by omega)
  go_wp2_with (refine st_all rfl 41 (.tmp 2) _ rfl (w.heap.size + 1) 41 [.int .i64 0, .int .i64 0, .int .i64 0, .string ⟨#[]⟩, .slice none 0 0, .slice none 0 0] [.int .i64 _, .int .i64 _, .int .i64 _, .string ⟨#[]⟩, .slice none 0 0, .slice none 0 0] rfl rfl HD.out.1 rfl sV (ones rfl) ?_)
  intro w5 b5 g5
  have HB5 : Hid (Blk w5 (w.heap.size + 1) 41 _) := b5
  have HG5 : Hid (Grow w w5) := Below.grown HD.out.2 g5 HD.out.2.size (by intro e he; injection he with he; omega)
  clear b5 g5 x0 x1 x2 x3 HD
  go_wp2
  exact bodyPost_ret (res_two rfl _ (w.heap.size + 1) 41 _ _ rfl HB5.out Tryz.underlying41 rfl sV) rfl ⟨rfl, HG5.out⟩
theorem value_any (b : Bool) (h l m s : Nat) (hs : s < 9223372036854775808) (hw : Wd h l m) (r : Rs) (hr : rs (sgn b m) s = r) (w : World) :
 Calls Tryz.prog 77 #[.agg #[.bool b, .int .u64 (h : Int), .int .u64 (l : Int), .int .i64 (s : Int)]] w fun e w' => e = .returned (.tuple #[.agg #[.int .i64 r.k, .int .i64 r.n, .int .i64 r.s, .string ⟨#[]⟩, .slice none 0 0, .slice none 0 0], .int .i64 r.e]) /\ Grow w w' := by
 by_cases hm : m = 0
 . obtain ⟨rfl, rfl⟩ := hw.zero.1 hm
   subst hm
   have e : r = .ok 0 0 := by
    rw [<- hr]
    have : sgn b 0 = 0 := by cases b <;> rfl
    rw [this, rs_zero]
   subst e
   exact value_zero b s w
 obtain ⟨⟨m', s'⟩, hd⟩ : ∃ d, dnN m s = d := ⟨_, rfl⟩
 have hle : m' <= m := by have := dnN_small s m; rw [hd] at this; exact this
 obtain ⟨h', l', hw'⟩ := wd_of m' (Nat.lt_of_le_of_lt hle hw.lt)
 by_cases hf : s' <= 18 /\ m' <= 9223372036854775807 + b.toNat
 . rw [rs_ok b hm hd hf.1 hf.2] at hr
   subst hr
   obtain ⟨w1, w2, w3⟩ := hw'
   have hb : b.toNat <= 1 := by cases b <;> decide
   obtain rfl : m' = l' := by omega
   have HW : Wd 0 m' m' := ⟨by rw [Nat.zero_mul, Nat.zero_add], by omega, by omega⟩
   by_cases h0 : s' = 0
   . subst h0
     cases b
     . exact value_at false h l m s hs hw hm 0 m' m' 0 hd HW _ _ _ _ _ _ (Vw.ip rfl rfl (by simpa using hf.2)) w
     . exact value_at true h l m s hs hw hm 0 m' m' 0 hd HW _ _ _ _ _ _ (Vw.im rfl rfl (by simpa using hf.2)) w
   . have e4 : kd s' = 4 := by simp [kd, h0]
     show Calls _ _ _ _ fun e w' => e = .returned (.tuple #[.agg #[.int .i64 (kd s'), _, _, _, _, _], _]) /\ _
     rw [e4]
     cases b
     . exact value_at false h l m s hs hw hm 0 m' m' s' hd HW _ _ _ _ _ _ (Vw.dp (by omega) hf.1 rfl (by simpa using hf.2)) w
     . exact value_at true h l m s hs hw hm 0 m' m' s' hd HW _ _ _ _ _ _ (Vw.dm (by omega) hf.1 rfl (by simpa using hf.2)) w
 . rw [rs_no b hm hd (by omega)] at hr
   subst hr
   by_cases h1 : 18 < s'
   . cases b
     . exact value_at false h l m s hs hw hm h' l' m' s' hd hw' _ _ _ _ _ _ (Vw.s _ h1) w
     . exact value_at true h l m s hs hw hm h' l' m' s' hd hw' _ _ _ _ _ _ (Vw.s _ h1) w
   . by_cases h2 : h' = 0
     . have w1 := hw'.eq
       have hb : 9223372036854775807 + b.toNat < l' := by omega
       cases b
       . exact value_at false h l m s hs hw hm h' l' m' s' hd hw' _ _ _ _ _ _ (Vw.lp (by omega) h2 (by simpa using hb)) w
       . exact value_at true h l m s hs hw hm h' l' m' s' hd hw' _ _ _ _ _ _ (Vw.lm (by omega) h2 (by simpa using hb)) w
     . cases b
       . exact value_at false h l m s hs hw hm h' l' m' s' hd hw' _ _ _ _ _ _ (Vw.h _ (by omega) h2) w
       . exact value_at true h l m s hs hw hm h' l' m' s' hd hw' _ _ _ _ _ _ (Vw.h _ (by omega) h2) w
end Go.Proofs.YtpfiejmhnkcjbaaGreatDoor.D6
