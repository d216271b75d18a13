/-
   ·  ·  ·  ·  ·  ·  ·  · 
-/
import Derived.Test.YtpfiejmhnkcjbaaGreatDoorHG23x
import Derived.Test.YtpfiejmhnkcjbaaGreatDoorHG21x
import Derived.Test.YtpfiejmhnkcjbaaGreatDoorHG25x
namespace Go.Proofs.YtpfiejmhnkcjbaaGreatDoor.D6
set_option maxHeartbeats 8000000
set_option maxRecDepth 8000
open Go.RowKit
set_option linter.unusedVariables false
inductive Lw (h l s : Nat) : Bool -> Int -> Int -> Int -> Int -> Int -> Prop
 | s (b) : 18 < s -> Lw h l s b h 0 0 0 10
 | h (b) : s <= 18 -> ¬ h = 0 -> Lw h l s b h 0 0 0 10
 | l (b) : s <= 18 -> h = 0 -> 9223372036854775808 < l -> Lw h l s b 0 0 0 0 10
 | t : s <= 18 -> h = 0 -> l = 9223372036854775808 -> Lw h l s false 0 0 0 0 10
 | it : s = 0 -> h = 0 -> l = 9223372036854775808 -> Lw h l s true 0 3 (-9223372036854775808) 0 0
 | dt : 0 < s -> s <= 18 -> h = 0 -> l = 9223372036854775808 -> Lw h l s true 0 4 (-9223372036854775808) s 0
 | ip : s = 0 -> h = 0 -> 0 < l -> l < 9223372036854775808 -> Lw h l s false 0 3 l 0 0
 | im : s = 0 -> h = 0 -> 0 < l -> l < 9223372036854775808 -> Lw h l s true 0 3 (-((l : Int) - 1) - 1) 0 0
 | dp : 0 < s -> s <= 18 -> h = 0 -> 0 < l -> l < 9223372036854775808 -> Lw h l s false 0 4 l s 0
 | dm : 0 < s -> s <= 18 -> h = 0 -> 0 < l -> l < 9223372036854775808 -> Lw h l s true 0 4 (-((l : Int) - 1) - 1) s 0
theorem Lw.z {h l s b z k n p x} (d : Lw h l s b z k n p x) : z = (h : Int) := by cases d <;> simp_all
theorem leastR_h (b : Bool) (h l m s : Nat) (hs : s < 9223372036854775808) (hw : Wd h l m) (hh : ¬ h = 0) (h' l' m' s' : Nat) (hd : dnN m s = (m', s')) (hw' : Wd h' l' m') (z k n p x : Int) (HD : Hid (Lw h' l' s' b z k n p x)) (w : World) :
 Calls Tryz.prog 59 #[.agg #[.int .u64 (h : Int), .int .u64 (l : Int), .bool b], .int .i64 (s : Int)] w fun e w' => e = .returned (.tuple #[.agg #[.int .i64 k, .int .i64 n, .int .i64 p, .string ⟨#[]⟩, .slice none 0 0, .slice none 0 0], .int .i64 x]) /\ Grow w w' := by
 have H0 : Hid (Wd h l m /\ dnN m s = (m', s') /\ Wd h' l' m') := ⟨hw, hd, hw'⟩
 have HL : l' < 18446744073709551616 := hw'.l1
 clear hw hd hw'
 go_enter Tryz.func59, Tryz.ntmps59
 go_wp2
 obtain ⟨w1, HW1⟩ : ∃ w1, ((w.alloc (Obj.cells #[.int .u64 (h : Int), .int .u64 (l : Int), .bool b] 75)).alloc (Obj.cells #[.int .i64 0, .int .i64 0, .int .i64 0, .string ⟨#[]⟩, .slice none 0 0, .slice none 0 0] 41)) = w1 := ⟨_, rfl⟩
 obtain ⟨C, hC⟩ : ∃ C : World -> Prop, C = fun W => Grow w1 W := ⟨_, rfl⟩
 have GW : Hid (∀ W, C W -> Grow w W) := fun W hW => by rw [hC, <- HW1] at hW; exact Grow.trans (((Grow.refl _).alloc _).alloc _) hW
 have B0 : Hid (∀ W, C W -> Blk W (w.heap.size) 75 [.int .u64 (h : Int), .int .u64 (l : Int), .bool b]) := fun W hW => by rw [hC, <- HW1] at hW; exact Blk.grow (Blk.alloc (blk_at rfl) _) hW
 have B1 : Hid (∀ W, C W -> Blk W (w.heap.size + 1) 41 [.int .i64 0, .int .i64 0, .int .i64 0, .string ⟨#[]⟩, .slice none 0 0, .slice none 0 0]) := fun W hW => by rw [hC, <- HW1] at hW; exact Blk.grow (blk_at (by simp)) hW
 have CG : Hid (∀ W W', C W -> Grow W W' -> C W') := fun W W' h1 h2 => by rw [hC] at h1 ⊢; exact h1.trans h2
 have CW : Hid (C w1) := by rw [hC]; exact Grow.refl _
 rw [HW1]
 clear HW1 hC
 go_loopw [1] (fun q wr => ∃ hc lc mc sc : Nat, sc < 9223372036854775808 /\ q = .int .i64 (sc : Int) /\ Hid (Wd hc lc mc /\ dnN mc sc = (m', s') /\ Blk wr w.heap.size 75 [.int .u64 (hc : Int), .int .u64 (lc : Int), .bool b] /\ Blk wr (w.heap.size + 1) 41 [.int .i64 0, .int .i64 0, .int .i64 0, .string ⟨#[]⟩, .slice none 0 0, .slice none 0 0] /\ Grow w wr)) (fun q _ => (intOf q).toNat)
 case atStart =>
  exact ⟨h, l, m, s, hs, rfl, H0.out.1, H0.out.2.1, B0.out _ CW.out, B1.out _ CW.out, GW.out _ CW.out⟩
 case round =>
  obtain ⟨hc, lc, mc, sc, hsc, rfl, HR⟩ := hrel
  clear CG CW B0 B1 GW
  have OUT : Hid (dnN mc sc = (mc, sc) -> Blk wr w.heap.size 75 [.int .u64 (h' : Int), .int .u64 (l' : Int), .bool b] /\ sc = s') := fun e => by
   obtain ⟨x1, x2, x3, x4, x5⟩ := HR.out
   rw [e] at x2
   injection x2 with y1 y2
   subst y1 y2
   obtain ⟨z1, z2⟩ := x1.inj H0.out.2.2
   rw [<- z1, <- z2]
   exact ⟨x3, rfl⟩
  have c0 : wr.cell? ⟨w.heap.size, 0, none⟩ = some (.int .u64 (hc : Int)) := HR.out.2.2.1.cell 0
  have c1 : wr.cell? ⟨w.heap.size, 1, none⟩ = some (.int .u64 (lc : Int)) := HR.out.2.2.1.cell 1
  have c2 : wr.cell? ⟨w.heap.size, 2, none⟩ = some (.bool b) := HR.out.2.2.1.cell 2
  by_cases h0 : sc = 0
  case pos =>
   obtain ⟨hB, hS⟩ := OUT.out (by subst h0; simp [dnN])
   have HX : Hid (Blk wr (w.heap.size + 1) 41 [.int .i64 0, .int .i64 0, .int .i64 0, .string ⟨#[]⟩, .slice none 0 0, .slice none 0 0] /\ Grow w wr) := HR.out.2.2.2
   clear OUT HR H0 c0 c1 c2
   have hD := HD.out
   have hS0 : s' = 0 := by omega
   clear hS HD
   subst h0 hS0
   have y0 : wr.cell? ⟨w.heap.size, 0, none⟩ = some (.int .u64 z) := by rw [hD.z]; exact hB.cell 0
   have y1 : wr.cell? ⟨w.heap.size, 1, none⟩ = some (.int .u64 (l' : Int)) := hB.cell 1
   have y2 : wr.cell? ⟨w.heap.size, 2, none⟩ = some (.bool b) := hB.cell 2
   clear hB
   have e1 := fun h1 h2 => conv_less l' h1 (Nat.le_of_lt (n := l') (m := 9223372036854775808) h2)
   cases hD
   all_goals try (exfalso; omega)
   all_goals try (cases b)
   all_goals
    try replace e1 := e1 (by omega) (by omega)
    try have e2 := conv_pos l' (by omega)
    try have l0 : ¬ l' = 0 := by omega
    go_wp2_with ((first | with_reducible refine st_pre (.tmp 4) (.tmp 72) ?_ | with_reducible refine st_pre (.tmp 4) (.tmp 75) ?_ | with_reducible refine st_pre (.tmp 4) (.tmp 54) ?_); refine st_all rfl 41 _ _ rfl (w.heap.size + 1) 41 [.int .i64 0, .int .i64 0, .int .i64 0, .string ⟨#[]⟩, .slice none 0 0, .slice none 0 0] [.int .i64 _, .int .i64 _, .int .i64 _, .string ⟨#[]⟩, .slice none 0 0, .slice none 0 0] rfl rfl HX.out.1 rfl sV (ones rfl) ?_)
    intro w9 b9 g9
    have HG9 : Hid (Grow w w9) := Below.grown HX.out.2 g9 HX.out.2.size (by intro e he; injection he with he; omega)
    have HB9 : Hid (Blk w9 (w.heap.size + 1) 41 _) := b9
    clear b9 g9
    go_wp2
    exact bodyPost_ret (res_two rfl _ (w.heap.size + 1) 41 _ _ rfl HB9.out Tryz.underlying41 rfl sV) rfl ⟨rfl, HG9.out⟩
  have HP : Hid (∃ d, sc = d + 1) := ⟨sc - 1, by omega⟩
  obtain ⟨hq, lq, Wq⟩ := wd_of (mc / 10) (by have := HR.out.1.lt; omega)
  obtain ⟨r, hr⟩ : ∃ r, mc % 10 = r := ⟨_, rfl⟩
  have K : Hid (∀ W, Calls Tryz.prog 84 #[.agg #[.int .u64 (hc : Int), .int .u64 (lc : Int), .bool b]] W fun e w' => e = .returned (.tuple #[.agg #[.int .u64 (hq : Int), .int .u64 (lq : Int), .bool b], .int .u64 (r : Int)]) /\ Grow W w') := fun W => tenR hc lc mc hq lq b HR.out.1 Wq r hr W
  have HQ : Hid (Wd hq lq (mc / 10) /\ mc % 10 = r) := ⟨Wq, hr⟩
  clear Wq hr
  go_wp2_with fail
  refine (K.out _).mono ?_
  rintro e w6 ⟨rfl, g6⟩
  clear c0 c1 c2
  go_wp2_with (refine al_zero rfl 75 rfl [.int .u64 0, .int .u64 0, .bool false] zR ?_)
  intro bc w7 sz Bc gc
  go_wp2_with ((with_reducible refine st_pre (.tmp 6) (.tmp 23) ?_); refine st_all rfl 75 (.tmp 6) (.tmp 23) rfl bc 75 [.int .u64 0, .int .u64 0, .bool false] [.int .u64 (hq : Int), .int .u64 (lq : Int), .bool b] rfl rfl Bc rfl sR (ones rfl) ?_)
  intro w8 zB gd
  have HE : Hid (Blk w8 w.heap.size 75 [.int .u64 (hc : Int), .int .u64 (lc : Int), .bool b] /\ Blk w8 (w.heap.size + 1) 41 [.int .i64 0, .int .i64 0, .int .i64 0, .string ⟨#[]⟩, .slice none 0 0, .slice none 0 0] /\ Blk w8 bc 75 [.int .u64 (hq : Int), .int .u64 (lq : Int), .bool b] /\ Grow w w8 /\ w.heap.size + 1 < bc) := by
   obtain ⟨_, _, D0, D2, GG⟩ := HR.out
   have k : ∀ c t cs, Blk w6 c t cs -> Blk w8 c t cs := fun c t cs hb => (hb.kept gc (by simp)).kept gd (by intro e; injection e with e; have := hb.lt; omega)
   have q2 := (D2.grow g6).lt
   refine ⟨k _ _ _ (D0.grow g6), k _ _ _ (D2.grow g6), zB, ?_, by omega⟩
   have x1 := GG.trans g6
   have x2 : Below w.heap.size w w7 := Below.grown x1 gc x1.size (by intro e he; cases he)
   exact Below.grown x2 gd x2.size (by intro e he; injection he with he; have := x1.size; omega)
  have OUT2 : Hid (dnN mc sc = (mc, sc) -> Blk w8 w.heap.size 75 [.int .u64 (h' : Int), .int .u64 (l' : Int), .bool b] /\ sc = s') := fun e => by
   obtain ⟨h1, hS⟩ := OUT.out e
   have h2 := HR.out.2.2.1
   have h3 := HE.out.1
   refine ⟨?_, hS⟩
   unfold Blk at h1 h2 h3 ⊢
   rw [h3, <- h2, h1]
  clear zB gd Bc gc sz g6 K OUT
  by_cases hr0 : r = 0
  case neg =>
   obtain ⟨hB, hS⟩ := OUT2.out (by
    obtain ⟨d, hd⟩ := HP.out
    have := HQ.out.2
    rw [hd, dnN, if_neg (by omega)])
   have HX : Hid (Blk w8 (w.heap.size + 1) 41 [.int .i64 0, .int .i64 0, .int .i64 0, .string ⟨#[]⟩, .slice none 0 0, .slice none 0 0] /\ Grow w w8) := ⟨HE.out.2.1, HE.out.2.2.2.1⟩
   clear OUT2 HE HR H0 HQ HP
   have hD := HD.out
   have hS := hS.symm
   clear HD
   subst hS
   have hp : 0 < s' := by omega
   have y0 : w8.cell? ⟨w.heap.size, 0, none⟩ = some (.int .u64 z) := by rw [hD.z]; exact hB.cell 0
   have y1 : w8.cell? ⟨w.heap.size, 1, none⟩ = some (.int .u64 (l' : Int)) := hB.cell 1
   have y2 : w8.cell? ⟨w.heap.size, 2, none⟩ = some (.bool b) := hB.cell 2
   clear hB
   have e1 := fun h1 h2 => conv_less l' h1 (Nat.le_of_lt (n := l') (m := 9223372036854775808) h2)
   cases hD
   all_goals try (exfalso; omega)
   all_goals try (cases b)
   all_goals
    try replace e1 := e1 (by omega) (by omega)
    try have e2 := conv_pos l' (by omega)
    try have l0 : ¬ l' = 0 := by omega
    go_wp2_with ((first | with_reducible refine st_pre (.tmp 4) (.tmp 72) ?_ | with_reducible refine st_pre (.tmp 4) (.tmp 75) ?_ | with_reducible refine st_pre (.tmp 4) (.tmp 54) ?_); refine st_all rfl 41 _ _ rfl (w.heap.size + 1) 41 [.int .i64 0, .int .i64 0, .int .i64 0, .string ⟨#[]⟩, .slice none 0 0, .slice none 0 0] [.int .i64 _, .int .i64 _, .int .i64 _, .string ⟨#[]⟩, .slice none 0 0, .slice none 0 0] rfl rfl HX.out.1 rfl sV (ones rfl) ?_)
    intro w9 b9 g9
    have HG9 : Hid (Grow w w9) := Below.grown HX.out.2 g9 HX.out.2.size (by intro e he; injection he with he; omega)
    have HB9 : Hid (Blk w9 (w.heap.size + 1) 41 _) := b9
    clear b9 g9
    go_wp2
    exact bodyPost_ret (res_two rfl _ (w.heap.size + 1) 41 _ _ rfl HB9.out Tryz.underlying41 rfl sV) rfl ⟨rfl, HG9.out⟩
  subst hr0
  obtain ⟨sd, hsd⟩ : ∃ sd, sc - 1 = sd := ⟨_, rfl⟩
  have HLd : Hid (dnN (mc / 10) sd = (m', s')) := by
   obtain ⟨d, hd⟩ := HP.out
   have h1 := HR.out.2.1
   rw [hd, dnN, if_pos HQ.out.2] at h1
   rw [<- hsd, hd]
   exact h1
  have es : (sc : Int) - 1 = (sd : Int) := by omega
  have HSD : Hid (sc - 1 = sd /\ 0 < sc) := ⟨hsd, by omega⟩
  clear hsd OUT2
  obtain ⟨E0, E2, zB, GE, _⟩ := HE.out
  have z0 : w8.cell? ⟨bc, 0, none⟩ = some (.int .u64 (hq : Int)) := zB.cell 0
  have z1 : w8.cell? ⟨bc, 1, none⟩ = some (.int .u64 (lq : Int)) := zB.cell 1
  have z2 : w8.cell? ⟨bc, 2, none⟩ = some (.bool b) := zB.cell 2
  clear E2 zB GE
  go_wp2_with ((with_reducible refine st_pre (.tmp 2) (.tmp 27) ?_); refine st_all rfl 75 (.tmp 2) (.tmp 27) rfl w.heap.size 75 [.int .u64 (hc : Int), .int .u64 (lc : Int), .bool b] [.int .u64 (hq : Int), .int .u64 (lq : Int), .bool b] rfl rfl E0 rfl sR (ones rfl) ?_)
  intro w9 b9 g9
  have HZ : Hid (Blk w9 w.heap.size 75 [.int .u64 (hq : Int), .int .u64 (lq : Int), .bool b] /\ Blk w9 (w.heap.size + 1) 41 [.int .i64 0, .int .i64 0, .int .i64 0, .string ⟨#[]⟩, .slice none 0 0, .slice none 0 0] /\ Grow w w9) := by
   obtain ⟨_, E2, _, GE, _⟩ := HE.out
   exact ⟨b9, E2.kept g9 (by intro e; injection e with e; omega), Below.grown GE g9 GE.size (by intro e he; injection he with he; omega)⟩
  clear b9 g9 z0 z1 z2 E0 HE
  go_wp2
  go_roundw
  case rel => exact ⟨hq, lq, mc / 10, sd, by have := HSD.out; omega, rfl, HQ.out.1, HLd.out, HZ.out⟩
  case measure => have := HSD.out; simp [intOf]; omega
end Go.Proofs.YtpfiejmhnkcjbaaGreatDoor.D6
namespace Go.Proofs.YtpfiejmhnkcjbaaGreatDoor.D6
set_option maxHeartbeats 8000000
set_option maxRecDepth 8000
open Go.RowKit
set_option linter.unusedVariables false
theorem leastR_l (b : Bool) (l m s : Nat) (hs : s < 9223372036854775808) (hw : Wd 0 l m) (hl : ¬ l = 0) (h' l' m' s' : Nat) (hd : dnN m s = (m', s')) (hw' : Wd h' l' m') (z k n p x : Int) (HD : Hid (Lw h' l' s' b z k n p x)) (w : World) :
 Calls Tryz.prog 59 #[.agg #[.int .u64 0, .int .u64 (l : Int), .bool b], .int .i64 (s : Int)] w fun e w' => e = .returned (.tuple #[.agg #[.int .i64 k, .int .i64 n, .int .i64 p, .string ⟨#[]⟩, .slice none 0 0, .slice none 0 0], .int .i64 x]) /\ Grow w w' := by
 have H0 : Hid (Wd 0 l m /\ dnN m s = (m', s') /\ Wd h' l' m') := ⟨hw, hd, hw'⟩
 have HL : l' < 18446744073709551616 := hw'.l1
 clear hw hd hw'
 go_enter Tryz.func59, Tryz.ntmps59
 go_wp2
 have hlf : ((l : Int) == 0) = false := by simpa using hl
 simp only [hlf]
 obtain ⟨w1, HW1⟩ : ∃ w1, ((w.alloc (Obj.cells #[.int .u64 0, .int .u64 (l : Int), .bool b] 75)).alloc (Obj.cells #[.int .i64 0, .int .i64 0, .int .i64 0, .string ⟨#[]⟩, .slice none 0 0, .slice none 0 0] 41)) = w1 := ⟨_, rfl⟩
 obtain ⟨C, hC⟩ : ∃ C : World -> Prop, C = fun W => Grow w1 W := ⟨_, rfl⟩
 have GW : Hid (∀ W, C W -> Grow w W) := fun W hW => by rw [hC, <- HW1] at hW; exact Grow.trans (((Grow.refl _).alloc _).alloc _) hW
 have B0 : Hid (∀ W, C W -> Blk W (w.heap.size) 75 [.int .u64 0, .int .u64 (l : Int), .bool b]) := fun W hW => by rw [hC, <- HW1] at hW; exact Blk.grow (Blk.alloc (blk_at rfl) _) hW
 have B1 : Hid (∀ W, C W -> Blk W (w.heap.size + 1) 41 [.int .i64 0, .int .i64 0, .int .i64 0, .string ⟨#[]⟩, .slice none 0 0, .slice none 0 0]) := fun W hW => by rw [hC, <- HW1] at hW; exact Blk.grow (blk_at (by simp)) hW
 have CG : Hid (∀ W W', C W -> Grow W W' -> C W') := fun W W' h1 h2 => by rw [hC] at h1 ⊢; exact h1.trans h2
 have CW : Hid (C w1) := by rw [hC]; exact Grow.refl _
 rw [HW1]
 clear HW1 hC
 go_loopw [1] (fun q wr => ∃ hc lc mc sc : Nat, sc < 9223372036854775808 /\ q = .int .i64 (sc : Int) /\ Hid (Wd hc lc mc /\ dnN mc sc = (m', s') /\ Blk wr w.heap.size 75 [.int .u64 (hc : Int), .int .u64 (lc : Int), .bool b] /\ Blk wr (w.heap.size + 1) 41 [.int .i64 0, .int .i64 0, .int .i64 0, .string ⟨#[]⟩, .slice none 0 0, .slice none 0 0] /\ Grow w wr)) (fun q _ => (intOf q).toNat)
 case atStart =>
  exact ⟨0, l, m, s, hs, rfl, H0.out.1, H0.out.2.1, B0.out _ CW.out, B1.out _ CW.out, GW.out _ CW.out⟩
 case round =>
  obtain ⟨hc, lc, mc, sc, hsc, rfl, HR⟩ := hrel
  clear CG CW B0 B1 GW
  have OUT : Hid (dnN mc sc = (mc, sc) -> Blk wr w.heap.size 75 [.int .u64 (h' : Int), .int .u64 (l' : Int), .bool b] /\ sc = s') := fun e => by
   obtain ⟨x1, x2, x3, x4, x5⟩ := HR.out
   rw [e] at x2
   injection x2 with y1 y2
   subst y1 y2
   obtain ⟨z1, z2⟩ := x1.inj H0.out.2.2
   rw [<- z1, <- z2]
   exact ⟨x3, rfl⟩
  have c0 : wr.cell? ⟨w.heap.size, 0, none⟩ = some (.int .u64 (hc : Int)) := HR.out.2.2.1.cell 0
  have c1 : wr.cell? ⟨w.heap.size, 1, none⟩ = some (.int .u64 (lc : Int)) := HR.out.2.2.1.cell 1
  have c2 : wr.cell? ⟨w.heap.size, 2, none⟩ = some (.bool b) := HR.out.2.2.1.cell 2
  by_cases h0 : sc = 0
  case pos =>
   obtain ⟨hB, hS⟩ := OUT.out (by subst h0; simp [dnN])
   have HX : Hid (Blk wr (w.heap.size + 1) 41 [.int .i64 0, .int .i64 0, .int .i64 0, .string ⟨#[]⟩, .slice none 0 0, .slice none 0 0] /\ Grow w wr) := HR.out.2.2.2
   clear OUT HR H0 c0 c1 c2
   have hD := HD.out
   have hS0 : s' = 0 := by omega
   clear hS HD
   subst h0 hS0
   have y0 : wr.cell? ⟨w.heap.size, 0, none⟩ = some (.int .u64 z) := by rw [hD.z]; exact hB.cell 0
   have y1 : wr.cell? ⟨w.heap.size, 1, none⟩ = some (.int .u64 (l' : Int)) := hB.cell 1
   have y2 : wr.cell? ⟨w.heap.size, 2, none⟩ = some (.bool b) := hB.cell 2
   clear hB
   have e1 := fun h1 h2 => conv_less l' h1 (Nat.le_of_lt (n := l') (m := 9223372036854775808) h2)
   cases hD
   all_goals try (exfalso; omega)
   all_goals try (cases b)
   all_goals
    try replace e1 := e1 (by omega) (by omega)
    try have e2 := conv_pos l' (by omega)
    try have l0 : ¬ l' = 0 := by omega
    go_wp2_with ((first | with_reducible refine st_pre (.tmp 4) (.tmp 72) ?_ | with_reducible refine st_pre (.tmp 4) (.tmp 75) ?_ | with_reducible refine st_pre (.tmp 4) (.tmp 54) ?_); refine st_all rfl 41 _ _ rfl (w.heap.size + 1) 41 [.int .i64 0, .int .i64 0, .int .i64 0, .string ⟨#[]⟩, .slice none 0 0, .slice none 0 0] [.int .i64 _, .int .i64 _, .int .i64 _, .string ⟨#[]⟩, .slice none 0 0, .slice none 0 0] rfl rfl HX.out.1 rfl sV (ones rfl) ?_)
    intro w9 b9 g9
    have HG9 : Hid (Grow w w9) := Below.grown HX.out.2 g9 HX.out.2.size (by intro e he; injection he with he; omega)
    have HB9 : Hid (Blk w9 (w.heap.size + 1) 41 _) := b9
    clear b9 g9
    go_wp2
    exact bodyPost_ret (res_two rfl _ (w.heap.size + 1) 41 _ _ rfl HB9.out Tryz.underlying41 rfl sV) rfl ⟨rfl, HG9.out⟩
  have HP : Hid (∃ d, sc = d + 1) := ⟨sc - 1, by omega⟩
  obtain ⟨hq, lq, Wq⟩ := wd_of (mc / 10) (by have := HR.out.1.lt; omega)
  obtain ⟨r, hr⟩ : ∃ r, mc % 10 = r := ⟨_, rfl⟩
  have K : Hid (∀ W, Calls Tryz.prog 84 #[.agg #[.int .u64 (hc : Int), .int .u64 (lc : Int), .bool b]] W fun e w' => e = .returned (.tuple #[.agg #[.int .u64 (hq : Int), .int .u64 (lq : Int), .bool b], .int .u64 (r : Int)]) /\ Grow W w') := fun W => tenR hc lc mc hq lq b HR.out.1 Wq r hr W
  have HQ : Hid (Wd hq lq (mc / 10) /\ mc % 10 = r) := ⟨Wq, hr⟩
  clear Wq hr
  go_wp2_with fail
  refine (K.out _).mono ?_
  rintro e w6 ⟨rfl, g6⟩
  clear c0 c1 c2
  go_wp2_with (refine al_zero rfl 75 rfl [.int .u64 0, .int .u64 0, .bool false] zR ?_)
  intro bc w7 sz Bc gc
  go_wp2_with ((with_reducible refine st_pre (.tmp 6) (.tmp 23) ?_); refine st_all rfl 75 (.tmp 6) (.tmp 23) rfl bc 75 [.int .u64 0, .int .u64 0, .bool false] [.int .u64 (hq : Int), .int .u64 (lq : Int), .bool b] rfl rfl Bc rfl sR (ones rfl) ?_)
  intro w8 zB gd
  have HE : Hid (Blk w8 w.heap.size 75 [.int .u64 (hc : Int), .int .u64 (lc : Int), .bool b] /\ Blk w8 (w.heap.size + 1) 41 [.int .i64 0, .int .i64 0, .int .i64 0, .string ⟨#[]⟩, .slice none 0 0, .slice none 0 0] /\ Blk w8 bc 75 [.int .u64 (hq : Int), .int .u64 (lq : Int), .bool b] /\ Grow w w8 /\ w.heap.size + 1 < bc) := by
   obtain ⟨_, _, D0, D2, GG⟩ := HR.out
   have k : ∀ c t cs, Blk w6 c t cs -> Blk w8 c t cs := fun c t cs hb => (hb.kept gc (by simp)).kept gd (by intro e; injection e with e; have := hb.lt; omega)
   have q2 := (D2.grow g6).lt
   refine ⟨k _ _ _ (D0.grow g6), k _ _ _ (D2.grow g6), zB, ?_, by omega⟩
   have x1 := GG.trans g6
   have x2 : Below w.heap.size w w7 := Below.grown x1 gc x1.size (by intro e he; cases he)
   exact Below.grown x2 gd x2.size (by intro e he; injection he with he; have := x1.size; omega)
  have OUT2 : Hid (dnN mc sc = (mc, sc) -> Blk w8 w.heap.size 75 [.int .u64 (h' : Int), .int .u64 (l' : Int), .bool b] /\ sc = s') := fun e => by
   obtain ⟨h1, hS⟩ := OUT.out e
   have h2 := HR.out.2.2.1
   have h3 := HE.out.1
   refine ⟨?_, hS⟩
   unfold Blk at h1 h2 h3 ⊢
   rw [h3, <- h2, h1]
  clear zB gd Bc gc sz g6 K OUT
  by_cases hr0 : r = 0
  case neg =>
   obtain ⟨hB, hS⟩ := OUT2.out (by
    obtain ⟨d, hd⟩ := HP.out
    have := HQ.out.2
    rw [hd, dnN, if_neg (by omega)])
   have HX : Hid (Blk w8 (w.heap.size + 1) 41 [.int .i64 0, .int .i64 0, .int .i64 0, .string ⟨#[]⟩, .slice none 0 0, .slice none 0 0] /\ Grow w w8) := ⟨HE.out.2.1, HE.out.2.2.2.1⟩
   clear OUT2 HE HR H0 HQ HP
   have hD := HD.out
   have hS := hS.symm
   clear HD
   subst hS
   have hp : 0 < s' := by omega
   have y0 : w8.cell? ⟨w.heap.size, 0, none⟩ = some (.int .u64 z) := by rw [hD.z]; exact hB.cell 0
   have y1 : w8.cell? ⟨w.heap.size, 1, none⟩ = some (.int .u64 (l' : Int)) := hB.cell 1
   have y2 : w8.cell? ⟨w.heap.size, 2, none⟩ = some (.bool b) := hB.cell 2
   clear hB
   have e1 := fun h1 h2 => conv_less l' h1 (Nat.le_of_lt (n := l') (m := 9223372036854775808) h2)
   cases hD
   all_goals try (exfalso; omega)
   all_goals try (cases b)
   all_goals
    try replace e1 := e1 (by omega) (by omega)
    try have e2 := conv_pos l' (by omega)
    try have l0 : ¬ l' = 0 := by omega
    go_wp2_with ((first | with_reducible refine st_pre (.tmp 4) (.tmp 72) ?_ | with_reducible refine st_pre (.tmp 4) (.tmp 75) ?_ | with_reducible refine st_pre (.tmp 4) (.tmp 54) ?_); refine st_all rfl 41 _ _ rfl (w.heap.size + 1) 41 [.int .i64 0, .int .i64 0, .int .i64 0, .string ⟨#[]⟩, .slice none 0 0, .slice none 0 0] [.int .i64 _, .int .i64 _, .int .i64 _, .string ⟨#[]⟩, .slice none 0 0, .slice none 0 0] rfl rfl HX.out.1 rfl sV (ones rfl) ?_)
    intro w9 b9 g9
    have HG9 : Hid (Grow w w9) := Below.grown HX.out.2 g9 HX.out.2.size (by intro e he; injection he with he; omega)
    have HB9 : Hid (Blk w9 (w.heap.size + 1) 41 _) := b9
    clear b9 g9
    go_wp2
    exact bodyPost_ret (res_two rfl _ (w.heap.size + 1) 41 _ _ rfl HB9.out Tryz.underlying41 rfl sV) rfl ⟨rfl, HG9.out⟩
  subst hr0
  obtain ⟨sd, hsd⟩ : ∃ sd, sc - 1 = sd := ⟨_, rfl⟩
  have HLd : Hid (dnN (mc / 10) sd = (m', s')) := by
   obtain ⟨d, hd⟩ := HP.out
   have h1 := HR.out.2.1
   rw [hd, dnN, if_pos HQ.out.2] at h1
   rw [<- hsd, hd]
   exact h1
  have es : (sc : Int) - 1 = (sd : Int) := by omega
  have HSD : Hid (sc - 1 = sd /\ 0 < sc) := ⟨hsd, by omega⟩
  clear hsd OUT2
  obtain ⟨E0, E2, zB, GE, _⟩ := HE.out
  have z0 : w8.cell? ⟨bc, 0, none⟩ = some (.int .u64 (hq : Int)) := zB.cell 0
  have z1 : w8.cell? ⟨bc, 1, none⟩ = some (.int .u64 (lq : Int)) := zB.cell 1
  have z2 : w8.cell? ⟨bc, 2, none⟩ = some (.bool b) := zB.cell 2
  clear E2 zB GE
  go_wp2_with ((with_reducible refine st_pre (.tmp 2) (.tmp 27) ?_); refine st_all rfl 75 (.tmp 2) (.tmp 27) rfl w.heap.size 75 [.int .u64 (hc : Int), .int .u64 (lc : Int), .bool b] [.int .u64 (hq : Int), .int .u64 (lq : Int), .bool b] rfl rfl E0 rfl sR (ones rfl) ?_)
  intro w9 b9 g9
  have HZ : Hid (Blk w9 w.heap.size 75 [.int .u64 (hq : Int), .int .u64 (lq : Int), .bool b] /\ Blk w9 (w.heap.size + 1) 41 [.int .i64 0, .int .i64 0, .int .i64 0, .string ⟨#[]⟩, .slice none 0 0, .slice none 0 0] /\ Grow w w9) := by
   obtain ⟨_, E2, _, GE, _⟩ := HE.out
   exact ⟨b9, E2.kept g9 (by intro e; injection e with e; omega), Below.grown GE g9 GE.size (by intro e he; injection he with he; omega)⟩
  clear b9 g9 z0 z1 z2 E0 HE
  go_wp2
  go_roundw
  case rel => exact ⟨hq, lq, mc / 10, sd, by have := HSD.out; omega, rfl, HQ.out.1, HLd.out, HZ.out⟩
  case measure => have := HSD.out; simp [intOf]; omega
end Go.Proofs.YtpfiejmhnkcjbaaGreatDoor.D6
namespace Go.Proofs.YtpfiejmhnkcjbaaGreatDoor.D6
open Go.RowKit
set_option linter.unusedVariables false
theorem leastR_any (b : Bool) (h l m s : Nat) (hs : s < 9223372036854775808) (hw : Wd h l m) (r : Rs) (hr : rs (sgn b m) s = r) (w : World) :
 Calls Tryz.prog 59 #[.agg #[.int .u64 (h : Int), .int .u64 (l : Int), .bool b], .int .i64 (s : Int)] w fun e w' => e = .returned (.tuple #[.agg #[.int .i64 r.k, .int .i64 r.n, .int .i64 r.s, .string ⟨#[]⟩, .slice none 0 0, .slice none 0 0], .int .i64 r.e]) /\ Grow w w' := by
 by_cases hm : m = 0
 . obtain ⟨rfl, rfl⟩ := hw.zero.1 hm
   subst hm
   have e : r = .ok 0 0 := by
    rw [<- hr]
    have : sgn b 0 = 0 := by cases b <;> rfl
    rw [this, rs_zero]
   subst e
   exact leastR_zero b s w
 obtain ⟨⟨m', s'⟩, hd⟩ : ∃ d, dnN m s = d := ⟨_, rfl⟩
 have hle : m' <= m := by have := dnN_small s m; rw [hd] at this; exact this
 have hm' : m' ≠ 0 := by
  intro e
  have := dnN_val s m
  rw [hd] at this
  simp only [e, Nat.zero_mul] at this
  exact hm this.symm
 obtain ⟨h', l', hw'⟩ := wd_of m' (Nat.lt_of_le_of_lt hle hw.lt)
 have w1 := hw'.eq
 have w2 := hw'.l1
 have tg : (¬ h = 0) ∨ (h = 0 /\ ¬ l = 0) := by
  have := hw.eq
  omega
 have hb : b.toNat <= 1 := by cases b <;> decide
 by_cases hf : s' <= 18 /\ m' <= 9223372036854775807 + b.toNat
 . rw [rs_ok b hm hd hf.1 hf.2] at hr
   subst hr
   have hz : h' = 0 := by omega
   have hml : m' = l' := by omega
   have hf1 := hf.1
   have hf2 := hf.2
   by_cases h0 : s' = 0
   . have e3 : kd s' = 3 := by simp [kd, h0]
     have e0 : (s' : Int) = 0 := by omega
     show Calls _ _ _ _ fun e w' => e = .returned (.tuple #[.agg #[.int .i64 (kd s'), .int .i64 (sgn b m'), .int .i64 (s' : Int), _, _, _], _]) /\ _
     rw [e3, e0]
     cases b
     . have ev : sgn false m' = (l' : Int) := by simp [sgn, hml]
       rw [ev]
       have hl63 : l' < 9223372036854775808 := by simp only [Bool.toNat_false] at hf2; omega
       obtain hh | ⟨rfl, hl⟩ := tg
       . exact leastR_h false h l m s hs hw hh h' l' m' s' hd hw' _ _ _ _ _ (Lw.ip h0 hz (by omega) hl63) w
       . exact leastR_l false l m s hs hw hl h' l' m' s' hd hw' _ _ _ _ _ (Lw.ip h0 hz (by omega) hl63) w
     . have hl63 : l' <= 9223372036854775808 := by simp only [Bool.toNat_true] at hf2; omega
       by_cases ht : l' = 9223372036854775808
       . have ev : sgn true m' = -9223372036854775808 := by simp [sgn, hml, ht]
         rw [ev]
         obtain hh | ⟨rfl, hl⟩ := tg
         . exact leastR_h true h l m s hs hw hh h' l' m' s' hd hw' _ _ _ _ _ (Lw.it h0 hz ht) w
         . exact leastR_l true l m s hs hw hl h' l' m' s' hd hw' _ _ _ _ _ (Lw.it h0 hz ht) w
       . have ev : sgn true m' = -((l' : Int) - 1) - 1 := by show -(m' : Int) = _; omega
         rw [ev]
         obtain hh | ⟨rfl, hl⟩ := tg
         . exact leastR_h true h l m s hs hw hh h' l' m' s' hd hw' _ _ _ _ _ (Lw.im h0 hz (by omega) (by omega)) w
         . exact leastR_l true l m s hs hw hl h' l' m' s' hd hw' _ _ _ _ _ (Lw.im h0 hz (by omega) (by omega)) w
   . have e4 : kd s' = 4 := by simp [kd, h0]
     show Calls _ _ _ _ fun e w' => e = .returned (.tuple #[.agg #[.int .i64 (kd s'), .int .i64 (sgn b m'), _, _, _, _], _]) /\ _
     rw [e4]
     cases b
     . have ev : sgn false m' = (l' : Int) := by simp [sgn, hml]
       rw [ev]
       have hl63 : l' < 9223372036854775808 := by simp only [Bool.toNat_false] at hf2; omega
       obtain hh | ⟨rfl, hl⟩ := tg
       . exact leastR_h false h l m s hs hw hh h' l' m' s' hd hw' _ _ _ _ _ (Lw.dp (by omega) hf1 hz (by omega) hl63) w
       . exact leastR_l false l m s hs hw hl h' l' m' s' hd hw' _ _ _ _ _ (Lw.dp (by omega) hf1 hz (by omega) hl63) w
     . have hl63 : l' <= 9223372036854775808 := by simp only [Bool.toNat_true] at hf2; omega
       by_cases ht : l' = 9223372036854775808
       . have ev : sgn true m' = -9223372036854775808 := by simp [sgn, hml, ht]
         rw [ev]
         obtain hh | ⟨rfl, hl⟩ := tg
         . exact leastR_h true h l m s hs hw hh h' l' m' s' hd hw' _ _ _ _ _ (Lw.dt (by omega) hf1 hz ht) w
         . exact leastR_l true l m s hs hw hl h' l' m' s' hd hw' _ _ _ _ _ (Lw.dt (by omega) hf1 hz ht) w
       . have ev : sgn true m' = -((l' : Int) - 1) - 1 := by show -(m' : Int) = _; omega
         rw [ev]
         obtain hh | ⟨rfl, hl⟩ := tg
         . exact leastR_h true h l m s hs hw hh h' l' m' s' hd hw' _ _ _ _ _ (Lw.dm (by omega) hf1 hz (by omega) (by omega)) w
         . exact leastR_l true l m s hs hw hl h' l' m' s' hd hw' _ _ _ _ _ (Lw.dm (by omega) hf1 hz (by omega) (by omega)) w
 . rw [rs_no b hm hd (by omega)] at hr
   subst hr
   by_cases h1 : 18 < s'
   . obtain hh | ⟨rfl, hl⟩ := tg
     . cases b
       . exact leastR_h false h l m s hs hw hh h' l' m' s' hd hw' _ _ _ _ _ (Lw.s _ h1) w
       . exact leastR_h true h l m s hs hw hh h' l' m' s' hd hw' _ _ _ _ _ (Lw.s _ h1) w
     . cases b
       . exact leastR_l false l m s hs hw hl h' l' m' s' hd hw' _ _ _ _ _ (Lw.s _ h1) w
       . exact leastR_l true l m s hs hw hl h' l' m' s' hd hw' _ _ _ _ _ (Lw.s _ h1) w
   . have h18 : s' <= 18 := by omega
     by_cases h2 : h' = 0
     . have hbb : 9223372036854775807 + b.toNat < l' := by omega
       cases b
       . simp only [Bool.toNat_false] at hbb
         by_cases ht : l' = 9223372036854775808
         . obtain hh | ⟨rfl, hl⟩ := tg
           . exact leastR_h false h l m s hs hw hh h' l' m' s' hd hw' _ _ _ _ _ (Lw.t h18 h2 ht) w
           . exact leastR_l false l m s hs hw hl h' l' m' s' hd hw' _ _ _ _ _ (Lw.t h18 h2 ht) w
         . obtain hh | ⟨rfl, hl⟩ := tg
           . exact leastR_h false h l m s hs hw hh h' l' m' s' hd hw' _ _ _ _ _ (Lw.l _ h18 h2 (by omega)) w
           . exact leastR_l false l m s hs hw hl h' l' m' s' hd hw' _ _ _ _ _ (Lw.l _ h18 h2 (by omega)) w
       . simp only [Bool.toNat_true] at hbb
         obtain hh | ⟨rfl, hl⟩ := tg
         . exact leastR_h true h l m s hs hw hh h' l' m' s' hd hw' _ _ _ _ _ (Lw.l _ h18 h2 (by omega)) w
         . exact leastR_l true l m s hs hw hl h' l' m' s' hd hw' _ _ _ _ _ (Lw.l _ h18 h2 (by omega)) w
     . obtain hh | ⟨rfl, hl⟩ := tg
       . cases b
         . exact leastR_h false h l m s hs hw hh h' l' m' s' hd hw' _ _ _ _ _ (Lw.h _ h18 h2) w
         . exact leastR_h true h l m s hs hw hh h' l' m' s' hd hw' _ _ _ _ _ (Lw.h _ h18 h2) w
       . cases b
         . exact leastR_l false l m s hs hw hl h' l' m' s' hd hw' _ _ _ _ _ (Lw.h _ h18 h2) w
         . exact leastR_l true l m s hs hw hl h' l' m' s' hd hw' _ _ _ _ _ (Lw.h _ h18 h2) w
end Go.Proofs.YtpfiejmhnkcjbaaGreatDoor.D6
namespace Go.Proofs.YtpfiejmhnkcjbaaGreatDoor.D6
set_option maxHeartbeats 1000000
set_option maxRecDepth 8000
open Go.RowKit
set_option linter.unusedVariables false
theorem rcheck_yes3 (n : Int) (na : Option Addr) (nc : Nat) (ka : Option Addr) (kc : Nat) (w : World) :
 Calls Tryz.prog 44 #[.agg #[.int .i64 3, .int .i64 n, .int .i64 0, .string ⟨#[]⟩, .slice na 0 nc, .slice ka 0 kc], .int .i64 1] w fun e w' => e = .returned (.int .i64 0) /\ Grow w w' := by
 go_enter Tryz.func44, Tryz.ntmps44
 go_wp2
 go_loopw [8] (fun i wr => i = .int .i64 0 /\ wr = w.alloc (Obj.cells #[.int .i64 3, .int .i64 n, .int .i64 0, .string ⟨#[]⟩, .slice na 0 nc, .slice ka 0 kc] 41)) (fun _ _ => 0)
 case atStart => exact ⟨rfl, rfl⟩
 case round =>
  obtain ⟨rfl, rfl⟩ := hrel
  go_wp2
  go_ret
  exact ⟨rfl, (Grow.refl _).alloc _⟩
theorem rcheck_yes4 (n s : Int) (h1 : 1 <= s) (h2 : s <= 18) (h3 : ¬ n.tmod 10 = 0) (na : Option Addr) (nc : Nat) (ka : Option Addr) (kc : Nat) (w : World) :
 Calls Tryz.prog 44 #[.agg #[.int .i64 4, .int .i64 n, .int .i64 s, .string ⟨#[]⟩, .slice na 0 nc, .slice ka 0 kc], .int .i64 1] w fun e w' => e = .returned (.int .i64 0) /\ Grow w w' := by
 have hb : (n.tmod 10 == 0) = false := by simp [h3]
 go_enter Tryz.func44, Tryz.ntmps44
 go_wp2
 go_loopw [8] (fun i wr => i = .int .i64 0 /\ wr = w.alloc (Obj.cells #[.int .i64 4, .int .i64 n, .int .i64 s, .string ⟨#[]⟩, .slice na 0 nc, .slice ka 0 kc] 41)) (fun _ _ => 0)
 case atStart => exact ⟨rfl, rfl⟩
 case round =>
  obtain ⟨rfl, rfl⟩ := hrel
  go_wp2
  go_ret
  exact ⟨rfl, (Grow.refl _).alloc _⟩
theorem not_num3 {n s : Int} {t : ByteArray} {nl kl : Nat} (h : isNum 3 n s t nl kl = false) : ¬ s = 0 ∨ (s = 0 /\ (t.toList == []) = false) ∨ (s = 0 /\ (t.toList == []) = true /\ 0 < kl) ∨ (s = 0 /\ (t.toList == []) = true /\ kl = 0 /\ 0 < nl) := by
 by_cases h0 : s = 0
 . right
   cases h1 : (t.toList == [])
   . exact .inl ⟨h0, rfl⟩
   . right
     by_cases h2 : kl = 0
     . right
       refine ⟨h0, rfl, h2, ?_⟩
       apply Nat.pos_of_ne_zero
       intro h3
       have : t.toList = [] := by simpa using h1
       simp [isNum, h0, h2, h3, this] at h
     . exact .inl ⟨h0, rfl, by omega⟩
 . exact .inl h0
theorem rcheck_no3 (n s : Int) (t : ByteArray) (na : Option Addr) (nl nc : Nat) (ka : Option Addr) (kl kc : Nat) (h : isNum 3 n s t nl kl = false) (w : World) :
 Calls Tryz.prog 44 #[.agg #[.int .i64 3, .int .i64 n, .int .i64 s, .string t, .slice na nl nc, .slice ka kl kc], .int .i64 1] w fun e w' => e = .returned (.int .i64 3) /\ Grow w w' := by
 rcases not_num3 h with h0 | ⟨rfl, h0⟩ | ⟨rfl, h1, h0⟩ | ⟨rfl, h1, rfl, h0⟩
 all_goals
  clear h
  go_enter Tryz.func44, Tryz.ntmps44
  go_wp2
  all_goals
   go_ret
   exact ⟨rfl, (Grow.refl _).alloc _⟩
theorem not_num4 {n s : Int} {t : ByteArray} {nl kl : Nat} (h : isNum 4 n s t nl kl = false) : s < 1 ∨ (1 <= s /\ 18 < s) ∨ (1 <= s /\ s <= 18 /\ (n.tmod 10 == 0) = true) ∨ (1 <= s /\ s <= 18 /\ (n.tmod 10 == 0) = false /\ (t.toList == []) = false) ∨ (1 <= s /\ s <= 18 /\ (n.tmod 10 == 0) = false /\ (t.toList == []) = true /\ 0 < kl) ∨ (1 <= s /\ s <= 18 /\ (n.tmod 10 == 0) = false /\ (t.toList == []) = true /\ kl = 0 /\ 0 < nl) := by
 by_cases a : s < 1
 . exact .inl a
 by_cases b : 18 < s
 . exact .inr (.inl ⟨by omega, b⟩)
 cases c : (n.tmod 10 == 0)
 . cases d : (t.toList == [])
   . exact .inr (.inr (.inr (.inl ⟨by omega, by omega, rfl, rfl⟩)))
   . by_cases e : kl = 0
     . refine .inr (.inr (.inr (.inr (.inr ⟨by omega, by omega, rfl, rfl, e, ?_⟩))))
       apply Nat.pos_of_ne_zero
       intro h3
       have h4 : t.toList = [] := by simpa using d
       have h5 : ¬ n.tmod 10 = 0 := by simpa using c
       have h6 : 1 <= s := by omega
       have h7 : s <= 18 := by omega
       simp [isNum, e, h3, h4, h5, h6, h7] at h
     . exact .inr (.inr (.inr (.inr (.inl ⟨by omega, by omega, rfl, rfl, by omega⟩))))
 . exact .inr (.inr (.inl ⟨by omega, by omega, rfl⟩))
theorem rcheck_no4 (n s : Int) (t : ByteArray) (na : Option Addr) (nl nc : Nat) (ka : Option Addr) (kl kc : Nat) (h : isNum 4 n s t nl kl = false) (w : World) :
 Calls Tryz.prog 44 #[.agg #[.int .i64 4, .int .i64 n, .int .i64 s, .string t, .slice na nl nc, .slice ka kl kc], .int .i64 1] w fun e w' => e = .returned (.int .i64 3) /\ Grow w w' := by
 rcases not_num4 h with h0 | ⟨_, h0⟩ | ⟨_, _, h0⟩ | ⟨_, _, _, h0⟩ | ⟨_, _, _, h1, h0⟩ | ⟨_, _, _, h1, rfl, h0⟩
 all_goals
  clear h
  go_enter Tryz.func44, Tryz.ntmps44
  go_wp2
  all_goals
   go_ret
   exact ⟨rfl, (Grow.refl _).alloc _⟩
theorem rCheck_num (k n s : Int) (hk : k = 3 ∨ k = 4) (t : ByteArray) (na : Option Addr) (nl nc : Nat) (ka : Option Addr) (kl kc : Nat) (w : World) :
 Calls Tryz.prog 26 #[.agg #[.int .i64 k, .int .i64 n, .int .i64 s, .string t, .slice na nl nc, .slice ka kl kc]] w fun e w' => e = .returned (.int .i64 (chkN (isNum k n s t nl kl))) /\ Grow w w' := by
 have K : Hid (∀ W, Calls Tryz.prog 44 #[.agg #[.int .i64 k, .int .i64 n, .int .i64 s, .string t, .slice na nl nc, .slice ka kl kc], .int .i64 1] W fun e w' => e = .returned (.int .i64 (chkN (isNum k n s t nl kl))) /\ Grow W w') := fun W => by
  cases hN : isNum k n s t nl kl with
  | false =>
    rcases hk with rfl | rfl
    . exact rcheck_no3 n s t na nl nc ka kl kc hN W
    . exact rcheck_no4 n s t na nl nc ka kl kc hN W
  | true =>
    obtain ⟨rfl, rfl, rfl, ⟨rfl, rfl⟩ | ⟨rfl, h1, h2, h3⟩⟩ := isNum_yes hN
    . exact rcheck_yes3 n na nc ka kc W
    . exact rcheck_yes4 n s h1 h2 h3 na nc ka kc W
 generalize chkN (isNum k n s t nl kl) = E at *
 clear hk
 go_enter Tryz.func26, Tryz.ntmps26
 go_wp2_with fail
 refine (K.out _).mono ?_
 rintro e w2 ⟨rfl, g2⟩
 have G : Hid (Grow w w2) := Grow.trans ((Grow.refl _).alloc _) g2
 clear g2 K
 go_wp2
 go_ret
 exact ⟨rfl, G.out⟩
theorem isR_any (k n s : Int) (t : ByteArray) (na : Option Addr) (nl nc : Nat) (ka : Option Addr) (kl kc : Nat) (w : World) :
 Calls Tryz.prog 15 #[.agg #[.int .i64 k, .int .i64 n, .int .i64 s, .string t, .slice na nl nc, .slice ka kl kc]] w fun e w' => e = .returned (.bool (isNum k n s t nl kl)) /\ Grow w w' := by
 by_cases hk : k = 3 ∨ k = 4
 . have K : Hid (∀ W, Calls Tryz.prog 26 #[.agg #[.int .i64 k, .int .i64 n, .int .i64 s, .string t, .slice na nl nc, .slice ka kl kc]] W fun e w' => e = .returned (.int .i64 (chkN (isNum k n s t nl kl))) /\ Grow W w') := fun W => rCheck_num k n s hk t na nl nc ka kl kc W
   have HE : Hid ((chkN (isNum k n s t nl kl) == 0) = isNum k n s t nl kl) := by
    show _ = _
    cases isNum k n s t nl kl <;> rfl
   generalize chkN (isNum k n s t nl kl) = E at *
   generalize isNum k n s t nl kl = R at *
   rcases hk with rfl | rfl
   all_goals
    go_enter Tryz.func15, Tryz.ntmps15
    go_wp2_with fail
    refine (K.out _).mono ?_
    rintro e w2 ⟨rfl, g2⟩
    have G : Hid (Grow w w2) := Grow.trans ((Grow.refl _).alloc _) g2
    clear g2 K
    have he := HE.out
    go_wp2
    go_ret
    exact ⟨rfl, G.out⟩
 . have h3 : ¬ k = 3 := fun e => hk (.inl e)
   have h4 : ¬ k = 4 := fun e => hk (.inr e)
   have e : isNum k n s t nl kl = false := by simp [isNum, h3, h4]
   rw [e]
   clear hk e
   go_enter Tryz.func15, Tryz.ntmps15
   go_wp2
   go_ret
   exact ⟨rfl, (Grow.refl _).alloc _⟩
end Go.Proofs.YtpfiejmhnkcjbaaGreatDoor.D6
namespace Go.Proofs.YtpfiejmhnkcjbaaGreatDoor.D6
open Go.RowKit
set_option linter.unusedVariables false
end Go.Proofs.YtpfiejmhnkcjbaaGreatDoor.D6
namespace Go.Proofs.YtpfiejmhnkcjbaaGreatDoor.D6
open Go.RowKit
set_option linter.unusedVariables false
end Go.Proofs.YtpfiejmhnkcjbaaGreatDoor.D6
namespace Go.Proofs.YtpfiejmhnkcjbaaGreatDoor.D6
open Go.RowKit
set_option linter.unusedVariables false
end Go.Proofs.YtpfiejmhnkcjbaaGreatDoor.D6
namespace Go.Proofs.YtpfiejmhnkcjbaaGreatDoor.D6
open Go.RowKit
set_option linter.unusedVariables false
end Go.Proofs.YtpfiejmhnkcjbaaGreatDoor.D6
namespace Go.Proofs.YtpfiejmhnkcjbaaGreatDoor.D6
open Go.RowKit
set_option linter.unusedVariables false
theorem absG (x : Int) (h0 : -9223372036854775808 <= x) (h1 : x < 9223372036854775808) (w : World) : Calls Tryz.prog 28 #[.int .i64 x] w fun e w' => e = .returned (.int .u64 (x.natAbs : Int)) /\ Grow w w' :=
 (abs65 x h0 h1 w).mono fun e w' ⟨he, hw⟩ => ⟨he, by rw [hw]; exact Grow.refl _⟩
section
variable (k1 n1 : Int) (s1 : Nat) (na1 : Option Addr) (nc1 : Nat) (ka1 : Option Addr) (kc1 : Nat) (k2 n2 : Int) (s2 : Nat) (na2 : Option Addr) (nc2 : Nat) (ka2 : Option Addr) (kc2 : Nat)
 (i1 : isNum k1 n1 s1 ⟨#[]⟩ 0 0 = true) (i2 : isNum k2 n2 s2 ⟨#[]⟩ 0 0 = true) (f1 : -9223372036854775808 <= n1 /\ n1 < 9223372036854775808) (f2 : -9223372036854775808 <= n2 /\ n2 < 9223372036854775808) (q1 : s1 <= 18) (q2 : s2 <= 18)
include i1 in
theorem isR_yes (w : World) : Calls Tryz.prog 15 #[.agg #[.int .i64 k1, .int .i64 n1, .int .i64 (s1 : Int), .string ⟨#[]⟩, .slice na1 0 nc1, .slice ka1 0 kc1]] w fun e w' => e = .returned (.bool true) /\ Grow w w' := by
 have := isR_any k1 n1 s1 ⟨#[]⟩ na1 0 nc1 ka1 0 kc1 w
 rw [i1] at this
 exact this
include i1 i2 f1 f2 q1 q2
omit i2 f2 q2 in
end
end Go.Proofs.YtpfiejmhnkcjbaaGreatDoor.D6
