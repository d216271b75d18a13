/-
  The document's own wide numbers: of, ten. · The document's own least. · The document's own least. · The document's own least.
-/
import Derived.Test.YtmlfhplhiedfjaaGreatDoorOG22x
namespace Go.Proofs.YtmlfhplhiedfjaaGreatDoor.D6
open Go.RowKit
set_option linter.unusedVariables false
theorem zR : (Tryz.prog.info? 134).map (fun i => i.zero.map (·.cells)) = some (some (List.toArray [.int .u64 0, .int .u64 0, .bool false])) := by kernel_rfl
set_option maxRecDepth 8000 in
theorem ofR_any (n : Int) (A : Nat) (hA : n.natAbs = A) (b : Bool) (hb : decide (n < 0) = b) (h0 : -9223372036854775808 ≤ n) (h1 : n < 9223372036854775808) (w : World) :
    Calls Tryz.prog 130 #[.int .i64 n] w fun e w' => e = .returned (.agg #[.int .u64 0, .int .u64 (A : Int), .bool b]) ∧ Grow w w' := by
  have K : Hid (∀ W, Calls Tryz.prog 112 #[.int .i64 n] W fun e w' => e = .returned (.int .u64 (A : Int)) ∧ w' = W) := fun W => by
    have := abs65 n h0 h1 W
    rw [hA] at this
    exact this
  clear hA h0 h1
  go_enter Tryz.func130, Tryz.ntmps130
  go_wp2_with (go_at_call 112; refine (K.out _).mono ?_; rintro e w' ⟨rfl, rfl⟩)
  exact bodyPost_ret (res_row rfl _ w.heap.size 134 _ _ rfl (blk_at rfl) Tryz.underlying134 rfl sR) rfl ⟨rfl, (Grow.refl _).alloc _⟩
set_option maxRecDepth 8000 in
theorem tenR (h l m h' l' : Nat) (b : Bool) (a : Wd h l m) (s : Wd h' l' (m / 10)) (r : Nat) (hr : m % 10 = r) (w : World) :
    Calls Tryz.prog 155 #[.agg #[.int .u64 (h : Int), .int .u64 (l : Int), .bool b]] w fun e w' => e = .returned (.tuple #[.agg #[.int .u64 (h' : Int), .int .u64 (l' : Int), .bool b], .int .u64 (r : Int)]) ∧ Grow w w' := by
  obtain ⟨t1, t2, t3⟩ := tenth_split a
  have eh : h / 10 = h' := by have := s.eq; have := s.l1; omega
  have el : ((h % 10) * 18446744073709551616 + l) / 10 = l' := by have := s.eq; have := s.l1; omega
  obtain ⟨g, hg⟩ : ∃ g, h % 10 = g := ⟨_, rfl⟩
  have k := fun W => div_ten g l (by omega) a.l1 W
  rw [← hg, el, t3, hr, hg] at k
  have HK : Hid (∀ W, Calls Tryz.prog 182 #[.int .u64 (g : Int), .int .u64 (l : Int), .int .u64 10] W fun e w' => e = .returned (.tuple #[.int .u64 (l' : Int), .int .u64 (r : Int)]) ∧ Grow W w') := k
  have f1 : (h : Int) / 10 = (h' : Int) := by omega
  have f2 : (h : Int) % 10 = (g : Int) := by omega
  have hb : h < 18446744073709551616 := a.h1
  clear k t1 t2 t3 eh el hg a s hr
  go_enter Tryz.func155, Tryz.ntmps155
  go_wp2
  go_quiet (fail)
  go_wp2_with fail
  obtain ⟨w1, HG1, HB1⟩ : ∃ w1, Hid (Grow w w1 ∧ Blk w1 w.heap.size 134 [.int .u64 (h : Int), .int .u64 (l : Int), .bool b] ∧ Blk w1 (w.heap.size + 1) 134 [.int .u64 0, .int .u64 0, .bool false]) ∧ ((w.alloc (Obj.cells #[.int .u64 (h : Int), .int .u64 (l : Int), .bool b] 134)).alloc (Obj.cells #[.int .u64 0, .int .u64 0, .bool false] 134)).drewN nq = w1 :=
    ⟨_, ⟨(((Grow.refl _).alloc _).alloc _).trans (grow_dq _ _), (Blk.alloc (blk_at rfl) _).grow (grow_dq _ _), (blk_at (by simp)).grow (grow_dq _ _)⟩, rfl⟩
  rw [HB1]
  refine (HK.out _).mono ?_
  rintro e w2 ⟨rfl, hg⟩
  have HB2 : Hid (Blk w2 (w.heap.size + 1) 134 [.int .u64 0, .int .u64 0, .bool false]) := HG1.out.2.2.grow hg
  have HG2 : Hid (Grow w w2) := HG1.out.1.trans hg
  have c2 : w2.cell? ⟨w.heap.size, 2, none⟩ = some (.bool b) := (HG1.out.2.1.grow hg).cell 2
  clear HB1 HG1 HK hg
  go_wp2_with (refine st_all rfl 134 (.tmp 2) (.tmp 24) rfl (w.heap.size + 1) 134 [.int .u64 0, .int .u64 0, .bool false] [.int .u64 (h' : Int), .int .u64 (l' : Int), .bool b] rfl rfl HB2.out rfl sR (ones rfl) ?_)
  intro w3 b3 g3
  have HB3 : Hid (Blk w3 (w.heap.size + 1) 134 [.int .u64 (h' : Int), .int .u64 (l' : Int), .bool b]) := b3
  have HG3 : Hid (Grow w w3) := Below.grown HG2.out g3 HG2.out.size (by intro k hk; injection hk with hk; omega)
  clear b3 g3 c2
  go_wp2
  exact bodyPost_ret (res_two rfl _ (w.heap.size + 1) 134 _ _ rfl HB3.out Tryz.underlying134 rfl sR) rfl ⟨rfl, HG3.out⟩
end Go.Proofs.YtmlfhplhiedfjaaGreatDoor.D6
namespace Go.Proofs.YtmlfhplhiedfjaaGreatDoor.D6
open Go.RowKit
set_option linter.unusedVariables false
theorem st_pre {P : Program} {ops : Array Oper} {Q : Exit → Act → World → Prop} {dst} {ty t : TypeId} {p} {af} {rest : List Oper} {a : Act} {w : World} (x y : Operand)
    (h : wpList P ops Q ({ dst := dst, op := .store ty x y, type := t, pos := p, after := af, guard := none } :: rest) a w) :
    wpList P ops Q ({ dst := dst, op := .store ty x y, type := t, pos := p, after := af, guard := none } :: rest) a w := h
theorem conv_pos (l : Nat) (hl : l ≤ 9223372036854775807) : wrap64 (l : Int) = (l : Int) := by
  unfold wrap64
  omega
theorem conv_less (l : Nat) (h0 : 0 < l) (hl : l ≤ 9223372036854775808) : -wrap64 ((l : Int) - 1) - 1 = -(l : Int) := by
  unfold wrap64
  omega
set_option maxRecDepth 8000 in
set_option maxHeartbeats 400000 in
theorem leastR_zero (b : Bool) (s : Int) (w : World) :
    Calls Tryz.prog 122 #[.agg #[.int .u64 0, .int .u64 0, .bool b], .int .i64 s] w fun e w' => e = .returned (.tuple #[.agg #[.int .i64 3, .int .i64 0, .int .i64 0, .string ⟨#[]⟩, .slice none 0 0, .slice none 0 0], .int .i64 0]) ∧ Grow w w' := by
  cases b
  all_goals
    go_enter Tryz.func122, Tryz.ntmps122
    go_wp2
    obtain ⟨w1, HW1⟩ : ∃ w1, w1 = w := ⟨_, rfl⟩
    go_loopw [1] (fun q wr => q = .int .i64 0 ∧ Hid (∃ b, wr = ((w.alloc (Obj.cells #[.int .u64 0, .int .u64 0, .bool b] 134)).alloc (Obj.cells #[.int .i64 0, .int .i64 0, .int .i64 0, .string ⟨#[]⟩, .slice none 0 0, .slice none 0 0] 38)))) (fun _ _ => 0)
    case atStart => exact ⟨rfl, _, rfl⟩
    case round =>
      obtain ⟨rfl, HWr⟩ := hrel
      obtain ⟨b, hb⟩ := HWr.out
      have HX : Hid (Blk wr (w.heap.size + 1) 38 [.int .i64 0, .int .i64 0, .int .i64 0, .string ⟨#[]⟩, .slice none 0 0, .slice none 0 0] ∧ Grow w wr) := by rw [hb]; exact ⟨blk_at (by simp), ((Grow.refl _).alloc _).alloc _⟩
      have yB : Blk wr w.heap.size 134 [.int .u64 0, .int .u64 0, .bool b] := by rw [hb]; exact Blk.alloc (blk_at rfl) _
      clear hb HWr HW1
      have y0 : wr.cell? ⟨w.heap.size, 0, none⟩ = some (.int .u64 0) := (yB).cell 0
      have y1 : wr.cell? ⟨w.heap.size, 1, none⟩ = some (.int .u64 0) := (yB).cell 1
      have y2 : wr.cell? ⟨w.heap.size, 2, none⟩ = some (.bool b) := (yB).cell 2
      clear yB
      obtain ⟨x, hx⟩ : ∃ x, IntKind.u64.wrap (-1) = x := ⟨_, rfl⟩
      obtain ⟨y, hy⟩ : ∃ y, wrap64 x = y := ⟨_, rfl⟩
      cases b
      all_goals
        go_wp2_with ((with_reducible refine st_pre (.tmp 4) (.tmp 72) ?_); refine st_all rfl 38 (.tmp 4) (.tmp 72) rfl (w.heap.size + 1) 38 [.int .i64 0, .int .i64 0, .int .i64 0, .string ⟨#[]⟩, .slice none 0 0, .slice none 0 0] [.int .i64 3, .int .i64 0, .int .i64 0, .string ⟨#[]⟩, .slice none 0 0, .slice none 0 0] rfl rfl HX.out.1 rfl sV (ones rfl) ?_)
        intro w9 b9 g9
        have HG9 : Hid (Grow w w9) := Below.grown HX.out.2 g9 HX.out.2.size (by intro e he; injection he with he; omega)
        have HB9 : Hid (Blk w9 (w.heap.size + 1) 38 [.int .i64 3, .int .i64 0, .int .i64 0, .string ⟨#[]⟩, .slice none 0 0, .slice none 0 0]) := b9
        clear b9 g9
        go_wp2
        exact bodyPost_ret (res_two rfl _ (w.heap.size + 1) 38 _ _ rfl HB9.out Tryz.underlying38 rfl sV) rfl ⟨rfl, HG9.out⟩
end Go.Proofs.YtmlfhplhiedfjaaGreatDoor.D6
namespace Go.Proofs.YtmlfhplhiedfjaaGreatDoor.D6
open Go.RowKit
set_option linter.unusedVariables false
set_option maxRecDepth 8000 in
set_option maxHeartbeats 1000000 in
theorem leastR_hn_s (h l m s : Nat) (hs : s < 9223372036854775808) (hw : Wd h l m) (hh : ¬ h = 0) (h' l' m' s' : Nat) (hd : dnN m s = (m', s')) (hw' : Wd h' l' m') (ho : 18 < s') (w : World) :
    Calls Tryz.prog 122 #[.agg #[.int .u64 (h : Int), .int .u64 (l : Int), .bool true], .int .i64 (s : Int)] w fun e w' => e = .returned (.tuple #[.agg #[.int .i64 0, .int .i64 0, .int .i64 0, .string ⟨#[]⟩, .slice none 0 0, .slice none 0 0], .int .i64 10]) ∧ Grow w w' := by
  have H0 : Hid (Wd h l m ∧ dnN m s = (m', s') ∧ Wd h' l' m') := ⟨hw, hd, hw'⟩
  have HL : l' < 18446744073709551616 := hw'.l1
  clear hw hd hw'
  go_enter Tryz.func122, Tryz.ntmps122
  go_wp2
  obtain ⟨w1, HW1⟩ : ∃ w1, ((w.alloc (Obj.cells #[.int .u64 (h : Int), .int .u64 (l : Int), .bool true] 134)).alloc (Obj.cells #[.int .i64 0, .int .i64 0, .int .i64 0, .string ⟨#[]⟩, .slice none 0 0, .slice none 0 0] 38)) = w1 := ⟨_, rfl⟩
  obtain ⟨C, hC⟩ : ∃ C : World → Prop, C = fun W => Grow w1 W := ⟨_, rfl⟩
  have GW : Hid (∀ W, C W → Grow w W) := fun W hW => by rw [hC, ← HW1] at hW; exact Grow.trans (((Grow.refl _).alloc _).alloc _) hW
  have B0 : Hid (∀ W, C W → Blk W (w.heap.size) 134 [.int .u64 (h : Int), .int .u64 (l : Int), .bool true]) := fun W hW => by rw [hC, ← HW1] at hW; exact Blk.grow (Blk.alloc (blk_at rfl) _) hW
  have B1 : Hid (∀ W, C W → Blk W (w.heap.size + 1) 38 [.int .i64 0, .int .i64 0, .int .i64 0, .string ⟨#[]⟩, .slice none 0 0, .slice none 0 0]) := fun W hW => by rw [hC, ← HW1] at hW; exact Blk.grow (blk_at (by simp)) hW
  have CG : Hid (∀ W W', C W → Grow W W' → C W') := fun W W' h1 h2 => by rw [hC] at h1 ⊢; exact h1.trans h2
  have CW : Hid (C w1) := by rw [hC]; exact Grow.refl _
  rw [HW1]
  clear HW1 hC
  go_loopw [1] (fun q wr => ∃ hc lc mc sc : Nat, sc < 9223372036854775808 ∧ q = .int .i64 (sc : Int) ∧ Hid (Wd hc lc mc ∧ dnN mc sc = (m', s') ∧ Blk wr w.heap.size 134 [.int .u64 (hc : Int), .int .u64 (lc : Int), .bool true] ∧ Blk wr (w.heap.size + 1) 38 [.int .i64 0, .int .i64 0, .int .i64 0, .string ⟨#[]⟩, .slice none 0 0, .slice none 0 0] ∧ Grow w wr)) (fun q _ => (intOf q).toNat)
  case atStart =>
    exact ⟨h, l, m, s, hs, rfl, H0.out.1, H0.out.2.1, B0.out _ CW.out, B1.out _ CW.out, GW.out _ CW.out⟩
  case round =>
    obtain ⟨hc, lc, mc, sc, hsc, rfl, HR⟩ := hrel
    clear CG CW B0 B1 GW
    have OUT : Hid (dnN mc sc = (mc, sc) → Blk wr w.heap.size 134 [.int .u64 (h' : Int), .int .u64 (l' : Int), .bool true] ∧ sc = s') := fun e => by
      obtain ⟨x1, x2, x3, x4, x5⟩ := HR.out
      rw [e] at x2
      injection x2 with y1 y2
      subst y1 y2
      obtain ⟨z1, z2⟩ := x1.inj H0.out.2.2
      rw [← z1, ← z2]
      exact ⟨x3, rfl⟩
    have c0 : wr.cell? ⟨w.heap.size, 0, none⟩ = some (.int .u64 (hc : Int)) := HR.out.2.2.1.cell 0
    have c1 : wr.cell? ⟨w.heap.size, 1, none⟩ = some (.int .u64 (lc : Int)) := HR.out.2.2.1.cell 1
    have c2 : wr.cell? ⟨w.heap.size, 2, none⟩ = some (.bool true) := HR.out.2.2.1.cell 2
    by_cases h0 : sc = 0
    case pos =>
      obtain ⟨hB, hS⟩ := OUT.out (by subst h0; simp [dnN])
      have HX : Hid (Blk wr (w.heap.size + 1) 38 [.int .i64 0, .int .i64 0, .int .i64 0, .string ⟨#[]⟩, .slice none 0 0, .slice none 0 0] ∧ Grow w wr) := HR.out.2.2.2
      clear OUT HR H0 c0 c1 c2
      exfalso
      omega
    have HP : Hid (∃ d, sc = d + 1) := ⟨sc - 1, by omega⟩
    obtain ⟨hq, lq, Wq⟩ := wd_of (mc / 10) (by have := HR.out.1.lt; omega)
    obtain ⟨r, hr⟩ : ∃ r, mc % 10 = r := ⟨_, rfl⟩
    have K : Hid (∀ W, Calls Tryz.prog 155 #[.agg #[.int .u64 (hc : Int), .int .u64 (lc : Int), .bool true]] W fun e w' => e = .returned (.tuple #[.agg #[.int .u64 (hq : Int), .int .u64 (lq : Int), .bool true], .int .u64 (r : Int)]) ∧ Grow W w') := fun W => tenR hc lc mc hq lq true HR.out.1 Wq r hr W
    have HQ : Hid (Wd hq lq (mc / 10) ∧ mc % 10 = r) := ⟨Wq, hr⟩
    clear Wq hr
    go_wp2_with fail
    refine (K.out _).mono ?_
    rintro e w6 ⟨rfl, g6⟩
    clear c0 c1 c2
    go_wp2_with (refine al_zero rfl 134 rfl [.int .u64 0, .int .u64 0, .bool false] zR ?_)
    intro bc w7 sz Bc gc
    go_wp2_with ((with_reducible refine st_pre (.tmp 6) (.tmp 23) ?_); refine st_all rfl 134 (.tmp 6) (.tmp 23) rfl bc 134 [.int .u64 0, .int .u64 0, .bool false] [.int .u64 (hq : Int), .int .u64 (lq : Int), .bool true] rfl rfl Bc rfl sR (ones rfl) ?_)
    intro w8 zB gd
    have HE : Hid (Blk w8 w.heap.size 134 [.int .u64 (hc : Int), .int .u64 (lc : Int), .bool true] ∧ Blk w8 (w.heap.size + 1) 38 [.int .i64 0, .int .i64 0, .int .i64 0, .string ⟨#[]⟩, .slice none 0 0, .slice none 0 0] ∧ Blk w8 bc 134 [.int .u64 (hq : Int), .int .u64 (lq : Int), .bool true] ∧ Grow w w8 ∧ w.heap.size + 1 < bc) := by
      obtain ⟨_, _, D0, D2, GG⟩ := HR.out
      have k : ∀ c t cs, Blk w6 c t cs → Blk w8 c t cs := fun c t cs hb => (hb.kept gc (by simp)).kept gd (by intro e; injection e with e; have := hb.lt; omega)
      have q2 := (D2.grow g6).lt
      refine ⟨k _ _ _ (D0.grow g6), k _ _ _ (D2.grow g6), zB, ?_, by omega⟩
      have x1 := GG.trans g6
      have x2 : Below w.heap.size w w7 := Below.grown x1 gc x1.size (by intro e he; cases he)
      exact Below.grown x2 gd x2.size (by intro e he; injection he with he; have := x1.size; omega)
    have OUT2 : Hid (dnN mc sc = (mc, sc) → Blk w8 w.heap.size 134 [.int .u64 (h' : Int), .int .u64 (l' : Int), .bool true] ∧ sc = s') := fun e => by
      obtain ⟨h1, hS⟩ := OUT.out e
      have h2 := HR.out.2.2.1
      have h3 := HE.out.1
      refine ⟨?_, hS⟩
      unfold Blk at h1 h2 h3 ⊢
      rw [h3, ← h2, h1]
    clear zB gd Bc gc sz g6 K OUT
    by_cases hr0 : r = 0
    case neg =>
      obtain ⟨hB, hS⟩ := OUT2.out (by
        obtain ⟨d, hd⟩ := HP.out
        have := HQ.out.2
        rw [hd, dnN, if_neg (by omega)])
      have HX : Hid (Blk w8 (w.heap.size + 1) 38 [.int .i64 0, .int .i64 0, .int .i64 0, .string ⟨#[]⟩, .slice none 0 0, .slice none 0 0] ∧ Grow w w8) := ⟨HE.out.2.1, HE.out.2.2.2.1⟩
      clear OUT2 HE HR H0 HQ HP h0
      have hS := hS.symm
      subst hS
      have yB := hB
      have y0 : w8.cell? ⟨w.heap.size, 0, none⟩ = some (.int .u64 (h' : Int)) := (yB).cell 0
      have y1 : w8.cell? ⟨w.heap.size, 1, none⟩ = some (.int .u64 (l' : Int)) := (yB).cell 1
      have y2 : w8.cell? ⟨w.heap.size, 2, none⟩ = some (.bool true) := (yB).cell 2
      clear yB hB
      go_wp2_with ((with_reducible refine st_pre (.tmp 4) (.tmp 54) ?_); refine st_all rfl 38 (.tmp 4) (.tmp 54) rfl (w.heap.size + 1) 38 [.int .i64 0, .int .i64 0, .int .i64 0, .string ⟨#[]⟩, .slice none 0 0, .slice none 0 0] [.int .i64 0, .int .i64 0, .int .i64 0, .string ⟨#[]⟩, .slice none 0 0, .slice none 0 0] rfl rfl HX.out.1 rfl sV (ones rfl) ?_)
      intro w9 b9 g9
      have HG9 : Hid (Grow w w9) := Below.grown HX.out.2 g9 HX.out.2.size (by intro e he; injection he with he; omega)
      have HB9 : Hid (Blk w9 (w.heap.size + 1) 38 [.int .i64 0, .int .i64 0, .int .i64 0, .string ⟨#[]⟩, .slice none 0 0, .slice none 0 0]) := b9
      clear b9 g9
      go_wp2
      exact bodyPost_ret (res_two rfl _ (w.heap.size + 1) 38 _ _ rfl HB9.out Tryz.underlying38 rfl sV) rfl ⟨rfl, HG9.out⟩
    subst hr0
    obtain ⟨sd, hsd⟩ : ∃ sd, sc - 1 = sd := ⟨_, rfl⟩
    have HLd : Hid (dnN (mc / 10) sd = (m', s')) := by
      obtain ⟨d, hd⟩ := HP.out
      have h1 := HR.out.2.1
      rw [hd, dnN, if_pos HQ.out.2] at h1
      rw [← hsd, hd]
      exact h1
    have es : (sc : Int) - 1 = (sd : Int) := by omega
    have HSD : Hid (sc - 1 = sd ∧ 0 < sc) := ⟨hsd, by omega⟩
    clear hsd OUT2
    obtain ⟨E0, E2, zB, GE, _⟩ := HE.out
    have z0 : w8.cell? ⟨bc, 0, none⟩ = some (.int .u64 (hq : Int)) := zB.cell 0
    have z1 : w8.cell? ⟨bc, 1, none⟩ = some (.int .u64 (lq : Int)) := zB.cell 1
    have z2 : w8.cell? ⟨bc, 2, none⟩ = some (.bool true) := zB.cell 2
    clear E2 zB GE
    go_wp2_with ((with_reducible refine st_pre (.tmp 2) (.tmp 27) ?_); refine st_all rfl 134 (.tmp 2) (.tmp 27) rfl w.heap.size 134 [.int .u64 (hc : Int), .int .u64 (lc : Int), .bool true] [.int .u64 (hq : Int), .int .u64 (lq : Int), .bool true] rfl rfl E0 rfl sR (ones rfl) ?_)
    intro w9 b9 g9
    have HZ : Hid (Blk w9 w.heap.size 134 [.int .u64 (hq : Int), .int .u64 (lq : Int), .bool true] ∧ Blk w9 (w.heap.size + 1) 38 [.int .i64 0, .int .i64 0, .int .i64 0, .string ⟨#[]⟩, .slice none 0 0, .slice none 0 0] ∧ Grow w w9) := by
      obtain ⟨_, E2, _, GE, _⟩ := HE.out
      exact ⟨b9, E2.kept g9 (by intro e; injection e with e; omega), Below.grown GE g9 GE.size (by intro e he; injection he with he; omega)⟩
    clear b9 g9 z0 z1 z2 E0 HE
    go_wp2
    go_roundw
    case rel => exact ⟨hq, lq, mc / 10, sd, by have := HSD.out; omega, rfl, HQ.out.1, HLd.out, HZ.out⟩
    case measure => have := HSD.out; simp [intOf]; omega
end Go.Proofs.YtmlfhplhiedfjaaGreatDoor.D6
namespace Go.Proofs.YtmlfhplhiedfjaaGreatDoor.D6
open Go.RowKit
set_option linter.unusedVariables false
set_option maxRecDepth 8000 in
set_option maxHeartbeats 1000000 in
theorem leastR_hn_h (h l m s : Nat) (hs : s < 9223372036854775808) (hw : Wd h l m) (hh : ¬ h = 0) (h' l' m' s' : Nat) (hd : dnN m s = (m', s')) (hw' : Wd h' l' m') (h18 : s' ≤ 18) (ho : ¬ h' = 0) (w : World) :
    Calls Tryz.prog 122 #[.agg #[.int .u64 (h : Int), .int .u64 (l : Int), .bool true], .int .i64 (s : Int)] w fun e w' => e = .returned (.tuple #[.agg #[.int .i64 0, .int .i64 0, .int .i64 0, .string ⟨#[]⟩, .slice none 0 0, .slice none 0 0], .int .i64 10]) ∧ Grow w w' := by
  have H0 : Hid (Wd h l m ∧ dnN m s = (m', s') ∧ Wd h' l' m') := ⟨hw, hd, hw'⟩
  have HL : l' < 18446744073709551616 := hw'.l1
  clear hw hd hw'
  go_enter Tryz.func122, Tryz.ntmps122
  go_wp2
  obtain ⟨w1, HW1⟩ : ∃ w1, ((w.alloc (Obj.cells #[.int .u64 (h : Int), .int .u64 (l : Int), .bool true] 134)).alloc (Obj.cells #[.int .i64 0, .int .i64 0, .int .i64 0, .string ⟨#[]⟩, .slice none 0 0, .slice none 0 0] 38)) = w1 := ⟨_, rfl⟩
  obtain ⟨C, hC⟩ : ∃ C : World → Prop, C = fun W => Grow w1 W := ⟨_, rfl⟩
  have GW : Hid (∀ W, C W → Grow w W) := fun W hW => by rw [hC, ← HW1] at hW; exact Grow.trans (((Grow.refl _).alloc _).alloc _) hW
  have B0 : Hid (∀ W, C W → Blk W (w.heap.size) 134 [.int .u64 (h : Int), .int .u64 (l : Int), .bool true]) := fun W hW => by rw [hC, ← HW1] at hW; exact Blk.grow (Blk.alloc (blk_at rfl) _) hW
  have B1 : Hid (∀ W, C W → Blk W (w.heap.size + 1) 38 [.int .i64 0, .int .i64 0, .int .i64 0, .string ⟨#[]⟩, .slice none 0 0, .slice none 0 0]) := fun W hW => by rw [hC, ← HW1] at hW; exact Blk.grow (blk_at (by simp)) hW
  have CG : Hid (∀ W W', C W → Grow W W' → C W') := fun W W' h1 h2 => by rw [hC] at h1 ⊢; exact h1.trans h2
  have CW : Hid (C w1) := by rw [hC]; exact Grow.refl _
  rw [HW1]
  clear HW1 hC
  go_loopw [1] (fun q wr => ∃ hc lc mc sc : Nat, sc < 9223372036854775808 ∧ q = .int .i64 (sc : Int) ∧ Hid (Wd hc lc mc ∧ dnN mc sc = (m', s') ∧ Blk wr w.heap.size 134 [.int .u64 (hc : Int), .int .u64 (lc : Int), .bool true] ∧ Blk wr (w.heap.size + 1) 38 [.int .i64 0, .int .i64 0, .int .i64 0, .string ⟨#[]⟩, .slice none 0 0, .slice none 0 0] ∧ Grow w wr)) (fun q _ => (intOf q).toNat)
  case atStart =>
    exact ⟨h, l, m, s, hs, rfl, H0.out.1, H0.out.2.1, B0.out _ CW.out, B1.out _ CW.out, GW.out _ CW.out⟩
  case round =>
    obtain ⟨hc, lc, mc, sc, hsc, rfl, HR⟩ := hrel
    clear CG CW B0 B1 GW
    have OUT : Hid (dnN mc sc = (mc, sc) → Blk wr w.heap.size 134 [.int .u64 (h' : Int), .int .u64 (l' : Int), .bool true] ∧ sc = s') := fun e => by
      obtain ⟨x1, x2, x3, x4, x5⟩ := HR.out
      rw [e] at x2
      injection x2 with y1 y2
      subst y1 y2
      obtain ⟨z1, z2⟩ := x1.inj H0.out.2.2
      rw [← z1, ← z2]
      exact ⟨x3, rfl⟩
    have c0 : wr.cell? ⟨w.heap.size, 0, none⟩ = some (.int .u64 (hc : Int)) := HR.out.2.2.1.cell 0
    have c1 : wr.cell? ⟨w.heap.size, 1, none⟩ = some (.int .u64 (lc : Int)) := HR.out.2.2.1.cell 1
    have c2 : wr.cell? ⟨w.heap.size, 2, none⟩ = some (.bool true) := HR.out.2.2.1.cell 2
    by_cases h0 : sc = 0
    case pos =>
      obtain ⟨hB, hS⟩ := OUT.out (by subst h0; simp [dnN])
      have HX : Hid (Blk wr (w.heap.size + 1) 38 [.int .i64 0, .int .i64 0, .int .i64 0, .string ⟨#[]⟩, .slice none 0 0, .slice none 0 0] ∧ Grow w wr) := HR.out.2.2.2
      clear OUT HR H0 c0 c1 c2
      have hS := hS.symm
      subst hS
      have yB := hB
      have y0 : wr.cell? ⟨w.heap.size, 0, none⟩ = some (.int .u64 (h' : Int)) := (yB).cell 0
      have y1 : wr.cell? ⟨w.heap.size, 1, none⟩ = some (.int .u64 (l' : Int)) := (yB).cell 1
      have y2 : wr.cell? ⟨w.heap.size, 2, none⟩ = some (.bool true) := (yB).cell 2
      clear yB hB
      go_wp2_with ((with_reducible refine st_pre (.tmp 4) (.tmp 54) ?_); refine st_all rfl 38 (.tmp 4) (.tmp 54) rfl (w.heap.size + 1) 38 [.int .i64 0, .int .i64 0, .int .i64 0, .string ⟨#[]⟩, .slice none 0 0, .slice none 0 0] [.int .i64 0, .int .i64 0, .int .i64 0, .string ⟨#[]⟩, .slice none 0 0, .slice none 0 0] rfl rfl HX.out.1 rfl sV (ones rfl) ?_)
      intro w9 b9 g9
      have HG9 : Hid (Grow w w9) := Below.grown HX.out.2 g9 HX.out.2.size (by intro e he; injection he with he; omega)
      have HB9 : Hid (Blk w9 (w.heap.size + 1) 38 [.int .i64 0, .int .i64 0, .int .i64 0, .string ⟨#[]⟩, .slice none 0 0, .slice none 0 0]) := b9
      clear b9 g9
      go_wp2
      exact bodyPost_ret (res_two rfl _ (w.heap.size + 1) 38 _ _ rfl HB9.out Tryz.underlying38 rfl sV) rfl ⟨rfl, HG9.out⟩
    have HP : Hid (∃ d, sc = d + 1) := ⟨sc - 1, by omega⟩
    obtain ⟨hq, lq, Wq⟩ := wd_of (mc / 10) (by have := HR.out.1.lt; omega)
    obtain ⟨r, hr⟩ : ∃ r, mc % 10 = r := ⟨_, rfl⟩
    have K : Hid (∀ W, Calls Tryz.prog 155 #[.agg #[.int .u64 (hc : Int), .int .u64 (lc : Int), .bool true]] W fun e w' => e = .returned (.tuple #[.agg #[.int .u64 (hq : Int), .int .u64 (lq : Int), .bool true], .int .u64 (r : Int)]) ∧ Grow W w') := fun W => tenR hc lc mc hq lq true HR.out.1 Wq r hr W
    have HQ : Hid (Wd hq lq (mc / 10) ∧ mc % 10 = r) := ⟨Wq, hr⟩
    clear Wq hr
    go_wp2_with fail
    refine (K.out _).mono ?_
    rintro e w6 ⟨rfl, g6⟩
    clear c0 c1 c2
    go_wp2_with (refine al_zero rfl 134 rfl [.int .u64 0, .int .u64 0, .bool false] zR ?_)
    intro bc w7 sz Bc gc
    go_wp2_with ((with_reducible refine st_pre (.tmp 6) (.tmp 23) ?_); refine st_all rfl 134 (.tmp 6) (.tmp 23) rfl bc 134 [.int .u64 0, .int .u64 0, .bool false] [.int .u64 (hq : Int), .int .u64 (lq : Int), .bool true] rfl rfl Bc rfl sR (ones rfl) ?_)
    intro w8 zB gd
    have HE : Hid (Blk w8 w.heap.size 134 [.int .u64 (hc : Int), .int .u64 (lc : Int), .bool true] ∧ Blk w8 (w.heap.size + 1) 38 [.int .i64 0, .int .i64 0, .int .i64 0, .string ⟨#[]⟩, .slice none 0 0, .slice none 0 0] ∧ Blk w8 bc 134 [.int .u64 (hq : Int), .int .u64 (lq : Int), .bool true] ∧ Grow w w8 ∧ w.heap.size + 1 < bc) := by
      obtain ⟨_, _, D0, D2, GG⟩ := HR.out
      have k : ∀ c t cs, Blk w6 c t cs → Blk w8 c t cs := fun c t cs hb => (hb.kept gc (by simp)).kept gd (by intro e; injection e with e; have := hb.lt; omega)
      have q2 := (D2.grow g6).lt
      refine ⟨k _ _ _ (D0.grow g6), k _ _ _ (D2.grow g6), zB, ?_, by omega⟩
      have x1 := GG.trans g6
      have x2 : Below w.heap.size w w7 := Below.grown x1 gc x1.size (by intro e he; cases he)
      exact Below.grown x2 gd x2.size (by intro e he; injection he with he; have := x1.size; omega)
    have OUT2 : Hid (dnN mc sc = (mc, sc) → Blk w8 w.heap.size 134 [.int .u64 (h' : Int), .int .u64 (l' : Int), .bool true] ∧ sc = s') := fun e => by
      obtain ⟨h1, hS⟩ := OUT.out e
      have h2 := HR.out.2.2.1
      have h3 := HE.out.1
      refine ⟨?_, hS⟩
      unfold Blk at h1 h2 h3 ⊢
      rw [h3, ← h2, h1]
    clear zB gd Bc gc sz g6 K OUT
    by_cases hr0 : r = 0
    case neg =>
      obtain ⟨hB, hS⟩ := OUT2.out (by
        obtain ⟨d, hd⟩ := HP.out
        have := HQ.out.2
        rw [hd, dnN, if_neg (by omega)])
      have HX : Hid (Blk w8 (w.heap.size + 1) 38 [.int .i64 0, .int .i64 0, .int .i64 0, .string ⟨#[]⟩, .slice none 0 0, .slice none 0 0] ∧ Grow w w8) := ⟨HE.out.2.1, HE.out.2.2.2.1⟩
      clear OUT2 HE HR H0 HQ HP h0
      have hS := hS.symm
      subst hS
      have yB := hB
      have y0 : w8.cell? ⟨w.heap.size, 0, none⟩ = some (.int .u64 (h' : Int)) := (yB).cell 0
      have y1 : w8.cell? ⟨w.heap.size, 1, none⟩ = some (.int .u64 (l' : Int)) := (yB).cell 1
      have y2 : w8.cell? ⟨w.heap.size, 2, none⟩ = some (.bool true) := (yB).cell 2
      clear yB hB
      go_wp2_with ((with_reducible refine st_pre (.tmp 4) (.tmp 54) ?_); refine st_all rfl 38 (.tmp 4) (.tmp 54) rfl (w.heap.size + 1) 38 [.int .i64 0, .int .i64 0, .int .i64 0, .string ⟨#[]⟩, .slice none 0 0, .slice none 0 0] [.int .i64 0, .int .i64 0, .int .i64 0, .string ⟨#[]⟩, .slice none 0 0, .slice none 0 0] rfl rfl HX.out.1 rfl sV (ones rfl) ?_)
      intro w9 b9 g9
      have HG9 : Hid (Grow w w9) := Below.grown HX.out.2 g9 HX.out.2.size (by intro e he; injection he with he; omega)
      have HB9 : Hid (Blk w9 (w.heap.size + 1) 38 [.int .i64 0, .int .i64 0, .int .i64 0, .string ⟨#[]⟩, .slice none 0 0, .slice none 0 0]) := b9
      clear b9 g9
      go_wp2
      exact bodyPost_ret (res_two rfl _ (w.heap.size + 1) 38 _ _ rfl HB9.out Tryz.underlying38 rfl sV) rfl ⟨rfl, HG9.out⟩
    subst hr0
    obtain ⟨sd, hsd⟩ : ∃ sd, sc - 1 = sd := ⟨_, rfl⟩
    have HLd : Hid (dnN (mc / 10) sd = (m', s')) := by
      obtain ⟨d, hd⟩ := HP.out
      have h1 := HR.out.2.1
      rw [hd, dnN, if_pos HQ.out.2] at h1
      rw [← hsd, hd]
      exact h1
    have es : (sc : Int) - 1 = (sd : Int) := by omega
    have HSD : Hid (sc - 1 = sd ∧ 0 < sc) := ⟨hsd, by omega⟩
    clear hsd OUT2
    obtain ⟨E0, E2, zB, GE, _⟩ := HE.out
    have z0 : w8.cell? ⟨bc, 0, none⟩ = some (.int .u64 (hq : Int)) := zB.cell 0
    have z1 : w8.cell? ⟨bc, 1, none⟩ = some (.int .u64 (lq : Int)) := zB.cell 1
    have z2 : w8.cell? ⟨bc, 2, none⟩ = some (.bool true) := zB.cell 2
    clear E2 zB GE
    go_wp2_with ((with_reducible refine st_pre (.tmp 2) (.tmp 27) ?_); refine st_all rfl 134 (.tmp 2) (.tmp 27) rfl w.heap.size 134 [.int .u64 (hc : Int), .int .u64 (lc : Int), .bool true] [.int .u64 (hq : Int), .int .u64 (lq : Int), .bool true] rfl rfl E0 rfl sR (ones rfl) ?_)
    intro w9 b9 g9
    have HZ : Hid (Blk w9 w.heap.size 134 [.int .u64 (hq : Int), .int .u64 (lq : Int), .bool true] ∧ Blk w9 (w.heap.size + 1) 38 [.int .i64 0, .int .i64 0, .int .i64 0, .string ⟨#[]⟩, .slice none 0 0, .slice none 0 0] ∧ Grow w w9) := by
      obtain ⟨_, E2, _, GE, _⟩ := HE.out
      exact ⟨b9, E2.kept g9 (by intro e; injection e with e; omega), Below.grown GE g9 GE.size (by intro e he; injection he with he; omega)⟩
    clear b9 g9 z0 z1 z2 E0 HE
    go_wp2
    go_roundw
    case rel => exact ⟨hq, lq, mc / 10, sd, by have := HSD.out; omega, rfl, HQ.out.1, HLd.out, HZ.out⟩
    case measure => have := HSD.out; simp [intOf]; omega
end Go.Proofs.YtmlfhplhiedfjaaGreatDoor.D6
