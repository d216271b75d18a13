/-
  The document's own Up: the root that a path makes.
-/
import Derived.Test.YtehkaploinklmaaDoorEor
namespace Go.Proofs.YtehkaploinklmaaDoor
open Go.RowKit Sh
theorem res_two {fn : Func} {p q : Tmp} {ty : TypeId} {w : World} (h : fn.results = #[.cell p ty, .tmp q]) (tmps : Array Value) (g : Nat) (t : TypeId) (cs : List Value) (d : TypeDesc)
    (hp : tmps.getD p undef = .pointer (some ⟨g, 0, none⟩)) (hg : Blk w g t cs) (hu : Tryd.prog.underlying ty = some d) (hd : d.isRow = true) (hi : (Tryd.prog.info? ty).map (·.size) = some cs.length) :
    (results fn tmps).run Tryd.prog w = .ok (.tuple #[.agg cs.toArray, tmps.getD q undef]) w := by
  have hp' : tmps[p]?.getD undef = .pointer (some ⟨g, 0, none⟩) := by simpa using hp
  simp [results, h, hp', asAddr, run_loadVar_row w g t ty cs.toArray (0, 0) d hg hu (by cases d <;> simp_all [TypeDesc.isRow]) (by simpa using hi)]
/-- Up of trees of at most 2^T leaves. -/
def UpC (h : List Nat) (T B : Nat) : Prop := ∀ (i n : Nat) (a : Option Addr) (cap : Nat) (L : List (List Nat)) (w : World), i < n → n ≤ B → Hl L → L.length ≤ 1000000 → L.length ≤ cap → ES (nums .u8) 32 w a L →
    Calls Tryd.prog 37 #[.agg (nums .u8 h).toArray, .int .i64 (i : Int), .int .i64 (n : Int), .slice a L.length cap] w fun e w' => e = .returned (.tuple #[.agg (nums .u8 (upF h T i n L).1).toArray, .bool (upF h T i n L).2]) ∧ Below w.heap.size w w'
set_option maxHeartbeats 4000000 in
set_option maxRecDepth 8000 in
theorem up_step (h : List Nat) (hh : Hh h) (T P : Nat) (hP : Hid (P = 2 ^ T)) (ih : UpC h T P) (hPm : P < 1099511627776) (i n : Nat) (hn : n ≤ 1099511627776) (h1 : P < n) (h2 : n ≤ 2 * P) (hi : i < n) (a : Option Addr) (cap : Nat) (M : List (List Nat)) (q : List Nat) (hq : Hh q) (hM : Hl M) (hlen : M.length ≤ 1000000) (hcap : M.length + 1 ≤ cap) (w : World) (hS : ES (nums .u8) 32 w a (M ++ [q])) :
    Calls Tryd.prog 37 #[.agg (nums .u8 h).toArray, .int .i64 (i : Int), .int .i64 (n : Int), .slice a (M.length + 1) cap] w fun e w' => e = .returned (.tuple #[.agg (nums .u8 (upF h (T + 1) i n (M ++ [q])).1).toArray, .bool (upF h (T + 1) i n (M ++ [q])).2]) ∧ Below w.heap.size w w' := by
  have HH : Hid (Hh h) := hh
  have HQ : Hid (Hh q) := hq
  have HMl : Hid (Hl M) := hM
  have IH : Hid (∀ (i n : Nat) (a : Option Addr) (cap : Nat) (L : List (List Nat)) (w : World), i < n → n ≤ P → Hl L → L.length ≤ 1000000 → L.length + 1 ≤ cap → ES (nums .u8) 32 w a L →
    Calls Tryd.prog 37 #[.agg (nums .u8 h).toArray, .int .i64 (i : Int), .int .i64 (n : Int), .slice a L.length cap] w fun e w' => e = .returned (.tuple #[.agg (nums .u8 (upF h T i n L).1).toArray, .bool (upF h T i n L).2]) ∧ Below w.heap.size w w') := fun i n a cap L w h1 h2 h3 h6 h4 h5 => ih i n a cap L w h1 h2 h3 h6 (by omega) h5
  obtain ⟨b, off, rfl, RQ⟩ := hS.at (i := M.length) (x := q) (by simp)
  have HS0 : Hid (ES (nums .u8) 32 w (some ⟨b, off, none⟩) (M ++ [q])) := hS
  obtain ⟨a, ha⟩ : ∃ a : Option Addr, a = some ⟨b, off, none⟩ := ⟨_, rfl⟩
  have HM : Hid (ES (nums .u8) 32 w (lo a cap 0) M) := by
    have := lo_zero (hS.take M.length) cap
    rw [List.take_left] at this
    rw [ha]; exact this
  have hne1 : ((n : Int) == 1) = false := by rw [beq_eq_false_iff_ne]; have := Mk.pow_pos2 T; have := hP.out; omega
  have KH := fun W => half_any n T P hP (by rw [← hP.out]; exact h1) (by rw [Nat.pow_succ, ← hP.out]; omega) hn W
  have KHH : Hid (∀ W, Calls Tryd.prog 48 #[.int .i64 (n : Int)] W fun e w' => e = .returned (.int .i64 (P : Int)) ∧ w' = W) := KH
  have hp1 : Hid (1 ≤ P) := by show 1 ≤ P; rw [hP.out]; exact Mk.pow_pos2 T
  obtain ⟨ANS, HANS⟩ : ∃ ANS, Hid (ANS = upF h (T + 1) i n (M ++ [q])) := ⟨_, rfl⟩
  rw [← HANS.out]
  have HE : Hid (ANS = if i < P then (nd (upF h T i P M).1 q, (upF h T i P M).2) else (nd q (upF h T (i - P) (n - P) M).1, (upF h T (i - P) (n - P) M).2)) := by
    show _ = _
    rw [HANS.out, upF, if_neg (by rw [← hP.out]; omega), List.getLast?_concat, List.dropLast_concat, ← hP.out]
  clear hh hq hM hS ih KH HANS
  go_enter Tryd.func37, Tryd.ntmps37
  go_wp2_with (refine al_box rfl 30 (.tmp 0) rfl (nums .u8 h) rfl ?_)
  intro ga wa la BA GA
  have Z := (Below.refl w.heap.size w).grown GA (Nat.le_refl _) (by simp)
  clear GA
  go_wp2_with (refine al_zero rfl 30 rfl _ z25 ?_)
  intro g1 w0 l1 B1 G1
  have BA := BA.kept G1 (by simp)
  have hg1 : w.heap.size ≤ g1 := Nat.le_trans Z.size l1
  have Z := Z.grown G1 Z.size (by simp)
  clear G1
  have R0 := range_below RQ Z
  go_wp2_with (first | (refine ld_mid rfl 30 (.tmp 30) rfl b (off + M.length * 32) rfl (nums .u8 q) _ R0 Tryd.underlying30 rfl (sH HQ.out) ?_) | (refine al_zero rfl 30 rfl _ z25 ?_))
  intro gq w1 lq BQ GQ
  have n1q : g1 ≠ gq := by have := B1.lt; omega
  have naq : ga ≠ gq := by have := BA.lt; omega
  have BA := BA.kept GQ (by simp)
  have B1 := B1.kept GQ (by simp)
  have hgq : w.heap.size ≤ gq := Nat.le_trans Z.size lq
  have Z := Z.grown GQ Z.size (by simp)
  have HS1 : Hid ((Tryd.prog.info? 30).map (·.size) = some (nums .u8 q).length) := sH HQ.out
  have HL1 : Hid ((nums .u8 q).length = (nums .u8 (List.replicate 32 0)).length) := by show _ = _; rw [nums_length, nums_length, HQ.out.1, List.length_replicate]
  clear GQ R0
  go_wp2_with (refine st_all rfl 30 (.tmp 10) (.tmp 31) rfl gq 30 (nums .u8 (List.replicate 32 0)) (nums .u8 q) rfl rfl BQ HL1.out HS1.out (nums_one _ _) ?_)
  intro w2 BQ G2
  have BA := BA.kept G2 (fun e => naq (Option.some.inj e))
  have B1 := B1.kept G2 (fun e => n1q (Option.some.inj e))
  have Z := grown_below Z G2 Z.size hgq
  clear G2 HS1 HL1
  go_wp2_with fail
  refine (KHH.out w2).mono ?_
  rintro e w2' ⟨rfl, hw2⟩
  rw [hw2, ← ha]
  clear hw2 w2'
  clear ha RQ HS0
  by_cases hlt : i < P
  · have HIL : Hid (i < P ∧ P ≤ P) := ⟨hlt, Nat.le_refl _⟩
    have hlt' : (i : Int) < (P : Int) := by omega
    obtain ⟨x, ok, HX⟩ : ∃ x ok, Hid (upF h T i P M = (x, ok)) := ⟨_, _, rfl⟩
    have HU : Hid (Hh x) := by have := (upF_R h HH.out T i P M hlt (by rw [hP.out]; exact Nat.le_refl _)).1; rw [HX.out] at this; exact this
    have HR : ANS = (nd x q, ok) := by rw [HE.out, if_pos hlt, HX.out]
    subst HR
    go_wp2_with fail
    obtain ⟨C, hC⟩ : ∃ C : World → Prop, C = fun W => Below w2.heap.size w2 W := ⟨_, rfl⟩
    have FH : Hid (∀ W, C W → W.rangeAt ga 0 (nums .u8 h)) := fun W hW => by rw [hC] at hW; exact (BA.below hW BA.lt).all
    have FQ : Hid (∀ W, C W → Blk W gq 30 (nums .u8 q)) := fun W hW => by rw [hC] at hW; exact BQ.below hW BQ.lt
    have F1 : Hid (∀ W, C W → Blk W g1 30 (nums .u8 (List.replicate 32 0))) := fun W hW => by rw [hC] at hW; exact B1.below hW B1.lt
    have FS : Hid (∀ W, C W → ES (nums .u8) 32 W (lo a cap 0) M) := fun W hW => by rw [hC] at hW; exact HM.out.below (Z.trans (hW.mono Z.size))
    have CK : Hid (∀ W W', C W → Below W.heap.size W W' → C W') := fun W W' h1 h2 => by rw [hC] at h1 ⊢; exact h1.trans (h2.mono h1.size)
    have CA : Hid (∀ W W', C W → Below w2.heap.size W W' → C W') := fun W W' h1 h2 => by rw [hC] at h1 ⊢; exact h1.trans h2
    have CE : Hid (∀ W, C W → Below w2.heap.size w2 W) := fun W h => by rw [hC] at h; exact h
    have C0 : Hid (C { w2 with drawn := w2.drawn + 1 }) := by rw [hC]; exact Below.drew (Below.refl _ _)
    clear hC
    refine Gr.region_grow [13] (by kernel_rfl) ?_
    have hCp : ∀ p : Prop, (∀ W, C W → p) ↔ p := fun p => ⟨fun h => h _ C0.out, fun h _ _ => h⟩
    generalize ({ w2 with drawn := w2.drawn + 1 } : World) = y0 at *
    refine Gr.segR 10 [0, 1, 2, 3, 4] rfl (by kernel_rfl) whole_blind CK.out (C0.out) (by kernel_rfl) ?_
    change wpQuiet _ _ _ _ (_ :: _ :: _ :: _ :: _ :: []) _
    repeat (first
      | go_big_quiet_skip
      | (go_big_quiet_want
         first
         | (refine q_load 30 (.tmp 4) rfl ga 0 rfl (nums .u8 h) _ FH.out Tryd.underlying30 rfl (sH HH.out) ?_
            simp only [Act.put, List.setIfInBounds_toArray, List.set_cons_zero, List.set_cons_succ]
            go_big_quiet_on)
         | (go_big_quiet_op
            go_big_quiet_on)))
    refine wpQuiet_nil ?_
    refine Gr.lenR (i := 5) 9 rfl (by kernel_rfl) whole_blind CK.out C0.out rfl (by kernel_rfl) (by rfl) (.tmp 42) 22 rfl 30 Tryd.underlying22 a (M.length + 1) cap rfl ?_
    simp only [Act.put, List.setIfInBounds_toArray, List.set_cons_zero, List.set_cons_succ]
    refine Gr.segR 7 [6, 7] rfl (by kernel_rfl) whole_blind CK.out (C0.out) (by kernel_rfl) ?_
    change wpQuiet _ _ _ _ (_ :: _ :: []) _
    repeat (first
      | go_big_quiet_skip
      | (go_big_quiet_want
         first
         | (refine q_hi (.tmp 41) (.tmp 44) rfl a (M.length + 1) cap M.length rfl rfl (by omega) ?_
            simp only [Act.put, List.setIfInBounds_toArray, List.set_cons_zero, List.set_cons_succ]
            go_big_quiet_on)
         | (go_big_quiet_op
            go_big_quiet_on)))
    refine wpQuiet_nil ?_
    refine Gr.callR (i := 8) 6 rfl (by kernel_rfl) whole_blind CK.out C0.out rfl (by kernel_rfl) rfl 37 _ _ _ rfl rfl #[.agg (nums .u8 h).toArray, .int .i64 (i : Int), .int .i64 (P : Int), .slice (lo a cap 0) M.length cap] (by rw [List.map_toArray]; rfl) (enters Tryd.func37 (by kernel_rfl) rfl) (.tuple #[.agg (nums .u8 x).toArray, .bool ok]) (fun W hW => by have K := IH.out i P (lo a cap 0) cap M W HIL.out.1 HIL.out.2 HMl.out hlen hcap (FS.out W hW); rw [HX.out] at K; exact K) ?_
    simp only [Act.put, List.setIfInBounds_toArray, List.set_cons_zero, List.set_cons_succ]
    refine Gr.segR 4 [9, 10] rfl (by kernel_rfl) whole_blind CK.out (C0.out) (by kernel_rfl) ?_
    change wpQuiet _ _ _ _ (_ :: _ :: []) _
    repeat (first
      | go_big_quiet_skip
      | (go_big_quiet_want
         first
         | (go_big_quiet_op
            go_big_quiet_on)))
    refine wpQuiet_nil ?_
    have hCq := Gr.anyw_p y0
    refine Gr.segF 3 [11] rfl (by kernel_rfl) whole_blind (by decide +kernel) ?_
    change wpQuiet _ _ _ _ (_ :: []) _
    repeat (first
      | go_big_quiet_skip
      | (go_big_quiet_want
         first
         | (go_big_quiet_op
            go_big_quiet_on)))
    refine wpQuiet_nil ?_
    clear hCq
    refine Gr.newR (i := 12) 2 rfl (by kernel_rfl) rfl rfl 30 rfl _ z25 ?_
    intro gx y1 Gn lx BX
    simp only [Act.put, List.setIfInBounds_toArray, List.set_cons_zero, List.set_cons_succ]
    refine Gr.storeR (i := 13) 1 rfl (by kernel_rfl) (by simp) rfl rfl 30 (.tmp 12) (.tmp 47) rfl gx 30 _ (nums .u8 x) rfl rfl BX (by rw [nums_length, nums_length, HU.out.1, List.length_replicate]) (sH HU.out) (nums_one _ _) ?_
    intro y2 BX Gs
    simp only [Act.put]
    refine Gr.loneR (C := Gr.Grow y2) (i := 14) 0 rfl (by kernel_rfl) rfl rfl (fun _ _ a b => Gr.Grow.trans a b) (Gr.Grow.refl _) ?_
    repeat (first
      | go_big_quiet_skip
      | (go_big_quiet_want
         first
         | (go_big_quiet_op
            go_big_quiet_on)))
    refine wpQuiet_nil ?_
    refine Gr.doneR (by kernel_rfl) ?_
    intro y3 Ge
    have E0 := CE.out _ C0.out
    have hgx : w2.heap.size ≤ gx := Nat.le_trans E0.size lx
    have n1x : g1 ≠ gx := by have := B1.lt; omega
    have nqx : gq ≠ gx := by have := BQ.lt; omega
    have BX := BX.grow Ge
    have BQ := (((FQ.out _ C0.out).grow Gn).chg Gs nqx).grow Ge
    have B1 := (((F1.out _ C0.out).grow Gn).chg Gs n1x).grow Ge
    have ZZ : Below w.heap.size w y3 := by
      have x0 := Z.trans (E0.mono Z.size)
      have x1 := Gr.Grow.below x0 x0.size Gn
      have x2 := Gr.Chg.below x1 Gs x1.size (by have := Z.size; omega)
      exact Gr.Grow.below x2 x2.size Ge
    clear C0 CK CA CE FH FQ F1 FS hCp E0 Gn Gs Ge lx hgx
    go_wp2_with (first | (refine ld_mid rfl 30 (.tmp 12) rfl gx 0 rfl (nums .u8 x) _ BX.all Tryd.underlying30 rfl (sH HU.out) ?_) | (refine ld_mid rfl 30 (.tmp 10) rfl gq 0 rfl (nums .u8 q) _ BQ.all Tryd.underlying30 rfl (sH HQ.out) ?_))
    refine (rnode_any x q HU.out.1 HQ.out.1 HU.out.2 HQ.out.2 y3).mono ?_
    rintro e y4 ⟨rfl, Z3⟩
    have B1 := B1.below Z3 B1.lt
    have ZZ := ZZ.trans (Z3.mono ZZ.size)
    clear Z3 BQ BX
    have HS3 : Hid ((Tryd.prog.info? 30).map (·.size) = some (nums .u8 (nd x q)).length) := sH (nd_hh _ _)
    have HL3 : Hid ((nums .u8 (nd x q)).length = (nums .u8 (List.replicate 32 0)).length) := by show _ = _; rw [nums_length, nums_length, (nd_hh _ _).1, List.length_replicate]
    go_wp2_with (refine st_all rfl 30 (.tmp 8) (.tmp 51) rfl g1 30 (nums .u8 (List.replicate 32 0)) (nums .u8 (nd x q)) rfl rfl B1 HL3.out HS3.out (nums_one _ _) ?_)
    intro y5 B4 G4
    go_wp2
    refine bodyPost_ret (res_two rfl _ g1 30 _ _ rfl B4 Tryd.underlying30 rfl HS3.out) rfl ⟨rfl, grown_below ZZ G4 ZZ.size hg1⟩
  · obtain ⟨j, hj⟩ : ∃ j, i = P + j := ⟨i - P, by omega⟩
    obtain ⟨r, hr⟩ : ∃ r, n = P + r := ⟨n - P, by omega⟩
    have hlt' : ¬ ((i : Int) < (P : Int)) := by omega
    have HIR : Hid (j < r ∧ r ≤ P) := ⟨by omega, by omega⟩
    obtain ⟨x, ok, HX⟩ : ∃ x ok, Hid (upF h T j r M = (x, ok)) := ⟨_, _, rfl⟩
    have HU : Hid (Hh x) := by have := (upF_R h HH.out T j r M HIR.out.1 (by rw [← hP.out]; exact HIR.out.2)).1; rw [HX.out] at this; exact this
    have HR : ANS = (nd q x, ok) := by rw [HE.out, if_neg hlt, show i - P = j by omega, show n - P = r by omega, HX.out]
    subst HR
    have ej : (i : Int) - (P : Int) = (j : Int) := by omega
    have en : (n : Int) - (P : Int) = (r : Int) := by omega
    clear hj hr
    go_wp2_with fail
    obtain ⟨C, hC⟩ : ∃ C : World → Prop, C = fun W => Below w2.heap.size w2 W := ⟨_, rfl⟩
    have FH : Hid (∀ W, C W → W.rangeAt ga 0 (nums .u8 h)) := fun W hW => by rw [hC] at hW; exact (BA.below hW BA.lt).all
    have FQ : Hid (∀ W, C W → Blk W gq 30 (nums .u8 q)) := fun W hW => by rw [hC] at hW; exact BQ.below hW BQ.lt
    have F1 : Hid (∀ W, C W → Blk W g1 30 (nums .u8 (List.replicate 32 0))) := fun W hW => by rw [hC] at hW; exact B1.below hW B1.lt
    have FS : Hid (∀ W, C W → ES (nums .u8) 32 W (lo a cap 0) M) := fun W hW => by rw [hC] at hW; exact HM.out.below (Z.trans (hW.mono Z.size))
    have CK : Hid (∀ W W', C W → Below W.heap.size W W' → C W') := fun W W' h1 h2 => by rw [hC] at h1 ⊢; exact h1.trans (h2.mono h1.size)
    have CA : Hid (∀ W W', C W → Below w2.heap.size W W' → C W') := fun W W' h1 h2 => by rw [hC] at h1 ⊢; exact h1.trans h2
    have CE : Hid (∀ W, C W → Below w2.heap.size w2 W) := fun W h => by rw [hC] at h; exact h
    have C0 : Hid (C { w2 with drawn := w2.drawn + 1 }) := by rw [hC]; exact Below.drew (Below.refl _ _)
    clear hC
    refine Gr.region_grow [17] (by kernel_rfl) ?_
    have hCp : ∀ p : Prop, (∀ W, C W → p) ↔ p := fun p => ⟨fun h => h _ C0.out, fun h _ _ => h⟩
    generalize ({ w2 with drawn := w2.drawn + 1 } : World) = y0 at *
    refine Gr.segR 10 [0, 1, 2, 3, 4, 5, 6, 7, 8] rfl (by kernel_rfl) whole_blind CK.out (C0.out) (by kernel_rfl) ?_
    change wpQuiet _ _ _ _ (_ :: _ :: _ :: _ :: _ :: _ :: _ :: _ :: _ :: []) _
    repeat (first
      | go_big_quiet_skip
      | (go_big_quiet_want
         first
         | (refine q_load 30 (.tmp 4) rfl ga 0 rfl (nums .u8 h) _ FH.out Tryd.underlying30 rfl (sH HH.out) ?_
            simp only [Act.put, List.setIfInBounds_toArray, List.set_cons_zero, List.set_cons_succ]
            go_big_quiet_on)
         | (go_big_quiet_op
            go_big_quiet_on)))
    refine wpQuiet_nil ?_
    refine Gr.lenR (i := 9) 9 rfl (by kernel_rfl) whole_blind CK.out C0.out rfl (by kernel_rfl) (by rfl) (.tmp 62) 22 rfl 30 Tryd.underlying22 a (M.length + 1) cap rfl ?_
    simp only [Act.put, List.setIfInBounds_toArray, List.set_cons_zero, List.set_cons_succ]
    refine Gr.segR 7 [10, 11] rfl (by kernel_rfl) whole_blind CK.out (C0.out) (by kernel_rfl) ?_
    change wpQuiet _ _ _ _ (_ :: _ :: []) _
    repeat (first
      | go_big_quiet_skip
      | (go_big_quiet_want
         first
         | (refine q_hi (.tmp 61) (.tmp 64) rfl a (M.length + 1) cap M.length rfl rfl (by omega) ?_
            simp only [Act.put, List.setIfInBounds_toArray, List.set_cons_zero, List.set_cons_succ]
            go_big_quiet_on)
         | (go_big_quiet_op
            go_big_quiet_on)))
    refine wpQuiet_nil ?_
    refine Gr.callR (i := 12) 6 rfl (by kernel_rfl) whole_blind CK.out C0.out rfl (by kernel_rfl) rfl 37 _ _ _ rfl rfl #[.agg (nums .u8 h).toArray, .int .i64 (j : Int), .int .i64 (r : Int), .slice (lo a cap 0) M.length cap] (by rw [List.map_toArray]; rfl) (enters Tryd.func37 (by kernel_rfl) rfl) (.tuple #[.agg (nums .u8 x).toArray, .bool ok]) (fun W hW => by have K := IH.out j r (lo a cap 0) cap M W HIR.out.1 HIR.out.2 HMl.out hlen hcap (FS.out W hW); rw [HX.out] at K; exact K) ?_
    simp only [Act.put, List.setIfInBounds_toArray, List.set_cons_zero, List.set_cons_succ]
    refine Gr.segR 4 [13, 14] rfl (by kernel_rfl) whole_blind CK.out (C0.out) (by kernel_rfl) ?_
    change wpQuiet _ _ _ _ (_ :: _ :: []) _
    repeat (first
      | go_big_quiet_skip
      | (go_big_quiet_want
         first
         | (go_big_quiet_op
            go_big_quiet_on)))
    refine wpQuiet_nil ?_
    have hCq := Gr.anyw_p y0
    refine Gr.segF 3 [15] rfl (by kernel_rfl) whole_blind (by decide +kernel) ?_
    change wpQuiet _ _ _ _ (_ :: []) _
    repeat (first
      | go_big_quiet_skip
      | (go_big_quiet_want
         first
         | (go_big_quiet_op
            go_big_quiet_on)))
    refine wpQuiet_nil ?_
    clear hCq
    refine Gr.newR (i := 16) 2 rfl (by kernel_rfl) rfl rfl 30 rfl _ z25 ?_
    intro gx y1 Gn lx BX
    simp only [Act.put, List.setIfInBounds_toArray, List.set_cons_zero, List.set_cons_succ]
    refine Gr.storeR (i := 17) 1 rfl (by kernel_rfl) (by simp) rfl rfl 30 (.tmp 14) (.tmp 67) rfl gx 30 _ (nums .u8 x) rfl rfl BX (by rw [nums_length, nums_length, HU.out.1, List.length_replicate]) (sH HU.out) (nums_one _ _) ?_
    intro y2 BX Gs
    simp only [Act.put]
    refine Gr.loneR (C := Gr.Grow y2) (i := 18) 0 rfl (by kernel_rfl) rfl rfl (fun _ _ a b => Gr.Grow.trans a b) (Gr.Grow.refl _) ?_
    repeat (first
      | go_big_quiet_skip
      | (go_big_quiet_want
         first
         | (go_big_quiet_op
            go_big_quiet_on)))
    refine wpQuiet_nil ?_
    refine Gr.doneR (by kernel_rfl) ?_
    intro y3 Ge
    have E0 := CE.out _ C0.out
    have hgx : w2.heap.size ≤ gx := Nat.le_trans E0.size lx
    have n1x : g1 ≠ gx := by have := B1.lt; omega
    have nqx : gq ≠ gx := by have := BQ.lt; omega
    have BX := BX.grow Ge
    have BQ := (((FQ.out _ C0.out).grow Gn).chg Gs nqx).grow Ge
    have B1 := (((F1.out _ C0.out).grow Gn).chg Gs n1x).grow Ge
    have ZZ : Below w.heap.size w y3 := by
      have x0 := Z.trans (E0.mono Z.size)
      have x1 := Gr.Grow.below x0 x0.size Gn
      have x2 := Gr.Chg.below x1 Gs x1.size (by have := Z.size; omega)
      exact Gr.Grow.below x2 x2.size Ge
    clear C0 CK CA CE FH FQ F1 FS hCp E0 Gn Gs Ge lx hgx
    go_wp2_with (first | (refine ld_mid rfl 30 (.tmp 14) rfl gx 0 rfl (nums .u8 x) _ BX.all Tryd.underlying30 rfl (sH HU.out) ?_) | (refine ld_mid rfl 30 (.tmp 10) rfl gq 0 rfl (nums .u8 q) _ BQ.all Tryd.underlying30 rfl (sH HQ.out) ?_))
    refine (rnode_any q x HQ.out.1 HU.out.1 HQ.out.2 HU.out.2 y3).mono ?_
    rintro e y4 ⟨rfl, Z3⟩
    have B1 := B1.below Z3 B1.lt
    have ZZ := ZZ.trans (Z3.mono ZZ.size)
    clear Z3 BQ BX
    have HS3 : Hid ((Tryd.prog.info? 30).map (·.size) = some (nums .u8 (nd q x)).length) := sH (nd_hh _ _)
    have HL3 : Hid ((nums .u8 (nd q x)).length = (nums .u8 (List.replicate 32 0)).length) := by show _ = _; rw [nums_length, nums_length, (nd_hh _ _).1, List.length_replicate]
    go_wp2_with (refine st_all rfl 30 (.tmp 8) (.tmp 71) rfl g1 30 (nums .u8 (List.replicate 32 0)) (nums .u8 (nd q x)) rfl rfl B1 HL3.out HS3.out (nums_one _ _) ?_)
    intro y5 B4 G4
    go_wp2
    refine bodyPost_ret (res_two rfl _ g1 30 _ _ rfl B4 Tryd.underlying30 rfl HS3.out) rfl ⟨rfl, grown_below ZZ G4 ZZ.size hg1⟩
set_option maxHeartbeats 1000000 in
set_option maxRecDepth 8000 in
theorem up_nil (h : List Nat) (i n : Nat) (h1 : 1 < n) (a : Option Addr) (cap : Nat) (w : World) :
    Calls Tryd.prog 37 #[.agg (nums .u8 h).toArray, .int .i64 (i : Int), .int .i64 (n : Int), .slice a 0 cap] w fun e w' => e = .returned (.tuple #[.agg (nums .u8 (List.replicate 32 0)).toArray, .bool false]) ∧ Below w.heap.size w w' := by
  have hne1 : ((n : Int) == 1) = false := by rw [beq_eq_false_iff_ne]; omega
  have hz : Hid ((Tryd.prog.info? 30).map (·.size) = some (nums .u8 (List.replicate 32 0)).length) := by show _ = _; rw [nums_length, List.length_replicate]; exact s25
  go_enter Tryd.func37, Tryd.ntmps37
  go_wp2_with (refine al_box rfl 30 (.tmp 0) rfl (nums .u8 h) rfl ?_)
  intro ga wa la BA GA
  have Z := (Below.refl w.heap.size w).grown GA (Nat.le_refl _) (by simp)
  clear GA BA
  go_wp2_with (refine al_zero rfl 30 rfl _ z25 ?_)
  intro g1 w0 l1 B1 G1
  have hg1 : w.heap.size ≤ g1 := Nat.le_trans Z.size l1
  have Z := Z.grown G1 Z.size (by simp)
  clear G1
  go_wp2_with (first | (refine bd_row rfl 30 #[] rfl (nums .u8 (List.replicate 32 0)) (by kernel_rfl) ?_) | (refine st_all rfl 30 (.tmp 8) (.tmp 25) rfl g1 30 (nums .u8 (List.replicate 32 0)) (nums .u8 (List.replicate 32 0)) rfl rfl B1 rfl hz.out (nums_one _ _) ?_))
  intro w1 B4 G4
  go_wp2
  refine bodyPost_ret (res_two rfl _ g1 30 _ _ rfl B4 Tryd.underlying30 rfl hz.out) rfl ⟨rfl, grown_below Z G4 Z.size hg1⟩
set_option maxHeartbeats 1000000 in
set_option maxRecDepth 8000 in
theorem up_one (h : List Nat) (hh : Hh h) (a : Option Addr) (cap : Nat) (L : List (List Nat)) (hlen : L.length ≤ 1000000) (w : World) :
    Calls Tryd.prog 37 #[.agg (nums .u8 h).toArray, .int .i64 ((0 : Nat) : Int), .int .i64 ((1 : Nat) : Int), .slice a L.length cap] w fun e w' => e = .returned (.tuple #[.agg (nums .u8 h).toArray, .bool L.isEmpty]) ∧ Below w.heap.size w w' := by
  have HH : Hid (Hh h) := hh
  have hok : ((L.length : Int) == 0) = L.isEmpty := by
    cases L with
    | nil => rfl
    | cons x r => rw [List.isEmpty_cons, beq_eq_false_iff_ne]; simp; omega
  have hz : Hid ((Tryd.prog.info? 30).map (·.size) = some (nums .u8 h).length) := sH hh
  have hl : Hid ((nums .u8 h).length = (nums .u8 (List.replicate 32 0)).length) := by show _ = _; rw [nums_length, nums_length, hh.1, List.length_replicate]
  clear hh
  go_enter Tryd.func37, Tryd.ntmps37
  go_wp2_with (refine al_box rfl 30 (.tmp 0) rfl (nums .u8 h) rfl ?_)
  intro ga wa la BA GA
  have Z := (Below.refl w.heap.size w).grown GA (Nat.le_refl _) (by simp)
  clear GA
  go_wp2_with (refine al_zero rfl 30 rfl _ z25 ?_)
  intro g1 w0 l1 B1 G1
  have BA := BA.kept G1 (by simp)
  have hg1 : w.heap.size ≤ g1 := Nat.le_trans Z.size l1
  have Z := Z.grown G1 Z.size (by simp)
  clear G1
  go_wp2_with (first | (refine ld_mid rfl 30 (.tmp 4) rfl ga 0 rfl (nums .u8 h) _ BA.all Tryd.underlying30 rfl (sH HH.out) ?_) | (refine st_all rfl 30 (.tmp 8) (.tmp 18) rfl g1 30 (nums .u8 (List.replicate 32 0)) (nums .u8 h) rfl rfl B1 hl.out hz.out (nums_one _ _) ?_))
  intro w1 B4 G4
  go_wp2
  refine bodyPost_ret (res_two rfl _ g1 30 _ _ rfl B4 Tryd.underlying30 rfl hz.out) rfl ⟨rfl, grown_below Z G4 Z.size hg1⟩
theorem up_all (h : List Nat) (hh : Hh h) : ∀ T, T ≤ 40 → UpC h T (2 ^ T)
  | 0, _ => fun i n a cap L w hi hn hL hlen hcap hS => by
    have e1 : n = 1 := by simp at hn; omega
    have e0 : i = 0 := by omega
    subst e1 e0
    exact up_one h hh a cap L hlen w
  | T + 1, hT => fun i n a cap L w hi hn hL hlen hcap hS => by
    have ih := up_all h hh T (by omega)
    by_cases hs : n ≤ 2 ^ T
    · rw [upF, if_pos hs]; exact ih i n a cap L w hi hs hL hlen hcap hS
    · have hp := Mk.pow_pos2 T
      have hb : 2 ^ (T + 1) ≤ 2 ^ 40 := Nat.pow_le_pow_right (by decide) hT
      have e2 : 2 ^ (T + 1) = 2 * 2 ^ T := by rw [Nat.pow_succ, Nat.mul_comm]
      rcases List.eq_nil_or_concat L with rfl | ⟨M, q, rfl⟩
      · rw [upF, if_neg hs]; exact up_nil h i n (by omega) a cap w
      · rw [List.concat_eq_append] at hL hlen hcap hS ⊢
        rw [List.length_append, List.length_singleton] at hlen hcap ⊢
        exact up_step h hh T (2 ^ T) rfl ih (by omega) i n (by omega) (by omega) (by omega) hi a cap M q (hL q (by simp)) (fun x hx => hL x (by simp [hx])) (by omega) hcap w hS
theorem up_any (h : List Nat) (hh : Hh h) : UpC h 40 1099511627776 := up_all h hh 40 (Nat.le_refl _)
#print axioms up_any
end Go.Proofs.YtehkaploinklmaaDoor
