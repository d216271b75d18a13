/-
  merkle.meet: whether roots of halves make two roots.
-/
import Derived.Test.YtehkaploinklmaaDoorEi
namespace Go.Proofs.YtehkaploinklmaaDoor
open Go.RowKit Sh
theorem fb_hh {os : List (Nat × Nat)} : ∀ {L : List (List Nat)} {x y : List Nat}, Hh x → Hh y → Hh (Mk.fb nd x y os L).1 ∧ Hh (Mk.fb nd x y os L).2 := by
  induction os with
  | nil => intro L x y hx hy; cases L <;> exact ⟨hx, hy⟩
  | cons z os ih =>
    intro L x y hx hy
    cases L with
    | nil => exact ⟨hx, hy⟩
    | cons p ps => rw [Mk.fb]; exact ih (by split; exact nd_hh _ _; exact hx) (by split <;> exact nd_hh _ _)
theorem fb_step {os : List (Nat × Nat)} {L : List (List Nat)} {x y : List Nat} {k : Nat} {l o : Nat} {q : List Nat} (hx : os[k]? = some (l, o)) (hq : L[k]? = some q) :
    Mk.fb nd x y (os.take (k + 1)) (L.take (k + 1)) = (if o % 2 = 0 then nd q (Mk.fb nd x y (os.take k) (L.take k)).1 else (Mk.fb nd x y (os.take k) (L.take k)).1, if o % 2 = 0 then nd q (Mk.fb nd x y (os.take k) (L.take k)).2 else nd (Mk.fb nd x y (os.take k) (L.take k)).2 q) := by
  obtain ⟨h1, e1⟩ := List.getElem?_eq_some_iff.1 hx
  obtain ⟨h2, e2⟩ := List.getElem?_eq_some_iff.1 hq
  rw [List.take_succ_eq_append_getElem h1, List.take_succ_eq_append_getElem h2, e1, e2]
  exact Mk.fb_app nd x y _ _ (l, o) q (by rw [List.length_take, List.length_take]; omega)
/-- what meet answers. -/
def mt (s : List Nat) (os : List (Nat × Nat)) (L : List (List Nat)) (x y : List Nat) : Bool := decide (L.length = os.length ∧ (Mk.fb nd s s os L).1 = x ∧ (Mk.fb nd s s os L).2 = y)
set_option maxHeartbeats 2000000 in
set_option maxRecDepth 8000 in
theorem meet_any (oa : Option Addr) (ocap : Nat) (os : List (Nat × Nat)) (hob : Hid (∀ x ∈ os, x.2 ≤ 1000000000000000)) (hol : os.length ≤ 1000) (s : List Nat) (hs : Hh s) (a : Option Addr) (cap : Nat) (L : List (List Nat)) (hL : Hl L) (x y : List Nat) (hx : Hh x) (hy : Hh y) (w : World) (hO : ES encV 2 w oa os) (hS : ES (nums .u8) 32 w a L) :
    Calls Tryd.prog 36 #[.slice oa os.length ocap, .agg (nums .u8 s).toArray, .slice a L.length cap, .agg (nums .u8 x).toArray, .agg (nums .u8 y).toArray] w fun e w' => e = .returned (.bool (mt s os L x y)) ∧ Below w.heap.size w w' := by
  have HF : Hid (Hh s) := hs
  have HX : Hid (Hh x) := hx
  have HY : Hid (Hh y) := hy
  have HO : Hid (ES encV 2 w oa os) := hO
  have HS : Hid (ES (nums .u8) 32 w a L) := hS
  have HL : Hid (Hl L) := hL
  obtain ⟨ans, HB⟩ : ∃ ans, Hid (ans = decide (L.length = os.length ∧ (Mk.fb nd s s os L).1 = x ∧ (Mk.fb nd s s os L).2 = y)) := ⟨_, rfl⟩
  have HA : mt s os L x y = ans := by rw [HB.out]; rfl
  rw [HA]
  clear HA hs hx hy hO hS hL
  go_enter Tryd.func36, Tryd.ntmps36
  go_wp2_with (refine al_box rfl 30 (.tmp 1) rfl (nums .u8 s) rfl ?_)
  intro ga wa la BA GA
  have Z := (Below.refl w.heap.size w).grown GA (Nat.le_refl _) (by simp)
  clear GA
  go_wp2_with (refine al_box rfl 30 (.tmp 3) rfl (nums .u8 x) rfl ?_)
  intro gx wp lp BX GP
  have BA := BA.kept GP (by simp)
  have Z := Z.grown GP Z.size (by simp)
  clear GP
  go_wp2_with (refine al_box rfl 30 (.tmp 4) rfl (nums .u8 y) rfl ?_)
  intro gy w1 lr BY GR
  have BA := BA.kept GR (by simp)
  have BX := BX.kept GR (by simp)
  have Z := Z.grown GR Z.size (by simp)
  clear GR
  by_cases hle : L.length = os.length
  · have HLe : Hid (L.length = os.length) := hle
    rw [hle]
    clear hle
    go_wp2_with fail
    have SL : Hid ((Tryd.prog.info? 30).map (·.size) = some (nums .u8 s).length) := sH HF.out
    have NL : Hid ((nums .u8 s).length = (nums .u8 (List.replicate 32 0)).length) := by show _ = _; rw [nums_length, nums_length, HF.out.1, List.length_replicate]
    obtain ⟨C, hC⟩ : ∃ C : World → Prop, C = fun W => Below w1.heap.size w1 W := ⟨_, rfl⟩
    have FA : Hid (∀ W, C W → W.rangeAt ga 0 (nums .u8 s)) := fun W hW => by rw [hC] at hW; exact (BA.below hW BA.lt).all
    have CK : Hid (∀ W W', C W → Below W.heap.size W W' → C W') := fun W W' h1 h2 => by rw [hC] at h1 ⊢; exact h1.trans (h2.mono h1.size)
    have CA : Hid (∀ W W', C W → Below w1.heap.size W W' → C W') := fun W W' h1 h2 => by rw [hC] at h1 ⊢; exact h1.trans h2
    have CE : Hid (∀ W, C W → Below w1.heap.size w1 W) := fun W h => by rw [hC] at h; exact h
    have C0 : Hid (C { w1 with drawn := w1.drawn + 1 }) := by rw [hC]; exact Below.drew (Below.refl _ _)
    clear hC
    have CW : Hid (∀ W o, C W → C (W.alloc o)) := fun W o h => CK.out _ _ h ((Below.refl _ _).alloc (Nat.le_refl _) o)
    refine region_calm C 5 (by kernel_rfl) ?_
    have hCp : ∀ p : Prop, (∀ W, C W → p) ↔ p := fun p => ⟨fun h => h _ C0.out, fun h _ _ => h⟩
    generalize ({ w1 with drawn := w1.drawn + 1 } : World) = y0 at *
    refine seg 4 [0, 1] rfl (by kernel_rfl) whole_blind (C0.out) (by kernel_rfl) ?_
    change wpQuiet _ _ _ _ (_ :: _ :: []) _
    repeat (first
      | go_big_quiet_skip
      | (go_big_quiet_want
         first
         | (refine q_load 30 (.tmp 6) rfl ga 0 rfl (nums .u8 s) _ FA.out Tryd.underlying30 rfl (sH HF.out) ?_
            simp only [Act.put, List.setIfInBounds_toArray, List.set_cons_zero, List.set_cons_succ]
            go_big_quiet_on)
         | (go_big_quiet_op
            go_big_quiet_on)))
    refine wpQuiet_nil ?_
    refine new2 (i := 2) (j := 3) 2 rfl (by kernel_rfl) (by decide) (by kernel_rfl) (by kernel_rfl) rfl rfl rfl rfl 30 30 rfl rfl rfl rfl (by decide) _ _ z25 z25 CW.out C0.out ?_
    intro g1 g2 y1 C1 G1 l1 l2 n12 B1 B2
    simp only [Act.put, List.setIfInBounds_toArray, List.set_cons_zero, List.set_cons_succ]
    have E0 := CE.out _ C0.out
    have E1 := CE.out _ C1
    have hs0 : w1.heap.size ≤ y0.heap.size := E0.size
    refine lone_do (i := 4) 1 rfl (by kernel_rfl) rfl (by rfl) ?_
    intro K hK
    refine oper_all 30 (.tmp 11) (.tmp 20) rfl g1 30 _ (nums .u8 s) rfl rfl B1 NL.out SL.out (nums_one _ _) ?_
    intro y2 B1 G2
    have B2 := B2.kept G2 (fun e => n12 (Option.some.inj e).symm)
    have C2 : Hid (C y2) := CA.out _ _ C1 (grown_below (Below.refl _ _) G2 E1.size (by omega))
    refine hK _ _ C2.out ?_
    clear hK K
    simp only [Act.put]
    refine lone_last (i := 5) 0 rfl rfl (by kernel_rfl) rfl (by rfl) ?_
    intro K hK
    refine oper_all 30 (.tmp 12) (.tmp 21) rfl g2 30 _ (nums .u8 s) rfl rfl B2 NL.out SL.out (nums_one _ _) ?_
    intro w3 B2 G3
    refine hK _ _ ?_
    clear hK K
    refine anyC_done (by kernel_rfl) ⟨rfl, ?_⟩
    simp only [Act.put]
    have B1 := B1.kept G3 (fun e => n12 (Option.some.inj e))
    have Z3 : Below w1.heap.size w1 w3 := by
      have e2 := CE.out _ C2.out
      exact grown_below e2 G3 e2.size (by omega)
    have hg1 : w1.heap.size ≤ g1 := by omega
    have hg2 : w1.heap.size ≤ g2 := by omega
    have HI : Hid (Blk w3 g1 30 (nums .u8 (Mk.fb nd s s (os.take 0) (L.take 0)).1) ∧ Blk w3 g2 30 (nums .u8 (Mk.fb nd s s (os.take 0) (L.take 0)).2) ∧ Below w1.heap.size w1 w3) := ⟨by rw [List.take_zero, List.take_zero]; exact B1, by rw [List.take_zero, List.take_zero]; exact B2, Z3⟩
    clear G3 G2 G1 B1 B2 Z3 SL NL BA C2 C1 C0 E0 E1 FA CK CA CE CW hCp l1 l2 hs0
    go_wp2
    go_loopw [24] (fun iv wr => ∃ k : Nat, k ≤ os.length ∧ iv = .int .i64 (k : Int) ∧ Hid (Blk wr g1 30 (nums .u8 (Mk.fb nd s s (os.take k) (L.take k)).1) ∧ Blk wr g2 30 (nums .u8 (Mk.fb nd s s (os.take k) (L.take k)).2) ∧ Below w1.heap.size w1 wr)) (fun iv _ => os.length - (intOf iv).toNat)
    case atStart => exact ⟨0, Nat.zero_le _, rfl, HI⟩
    case round =>
      clear HI
      obtain ⟨k, hk, rfl, HI⟩ := hrel
      obtain ⟨h1, hh1⟩ : ∃ h, Hid (h = (Mk.fb nd s s (os.take k) (L.take k)).1) := ⟨_, rfl⟩
      obtain ⟨h2, hh2⟩ : ∃ h, Hid (h = (Mk.fb nd s s (os.take k) (L.take k)).2) := ⟨_, rfl⟩
      have H1 : Hid (Hh h1) := by show Hh h1; rw [hh1.out]; exact (fb_hh HF.out HF.out).1
      have H2 : Hid (Hh h2) := by show Hh h2; rw [hh2.out]; exact (fb_hh HF.out HF.out).2
      have B1 : Blk wr g1 30 (nums .u8 h1) := by rw [hh1.out]; exact HI.out.1
      have B2 : Blk wr g2 30 (nums .u8 h2) := by rw [hh2.out]; exact HI.out.2.1
      have Zr := HI.out.2.2
      have BXr := BX.below Zr BX.lt
      have BYr := BY.below Zr BY.lt
      have ZZ := Z.trans (Zr.mono Z.size)
      by_cases hlt : k < os.length
      · obtain ⟨l, o, hx⟩ : ∃ l o, os[k]? = some (l, o) := ⟨_, _, List.getElem?_eq_getElem hlt⟩
        obtain ⟨q, hq⟩ : ∃ q, L[k]? = some q := ⟨_, List.getElem?_eq_getElem (by rw [HLe.out]; exact hlt)⟩
        obtain ⟨b1, o1, rfl, R1⟩ := HO.out.at hx
        obtain ⟨b2, o2, rfl, RQ⟩ := HS.out.at hq
        have R1 := range_below R1 ZZ
        have R2 := range_below RQ ZZ
        have ho : o ≤ 1000000000000000 := hob.out _ (List.mem_of_getElem? hx)
        have HQ : Hid (Hh q) := HL.out.at hq
        have HN : Hid (Mk.fb nd s s (os.take (k + 1)) (L.take (k + 1)) = (if o % 2 = 0 then nd q h1 else h1, if o % 2 = 0 then nd q h2 else nd h2 q)) := by show _ = _; rw [fb_step hx hq, hh1.out, hh2.out]
        clear HI hx hq hh1 hh2 BXr BYr
        go_wp2_with (refine ld_mid rfl 60 (.tmp 27) rfl b1 (o1 + k * 2) rfl [.int .i64 (l : Int), .int .i64 (o : Int)] _ R1 Tryd.underlying60 rfl (by kernel_rfl) ?_)
        obtain ⟨wk, HW, ZK⟩ : ∃ wk, wr.alloc (Obj.cells #[.int .i64 (l : Int), .int .i64 (o : Int)] 60) = wk ∧ Hid (Below wr.heap.size wr wk ∧ Blk wk wr.heap.size 60 [.int .i64 (l : Int), .int .i64 (o : Int)]) := ⟨_, rfl, (Below.refl _ _).alloc (Nat.le_refl _) _, blk_new wr _ _⟩
        rw [HW]
        clear HW R1
        have l1 := B1.lt
        have l2 := B2.lt
        have BV := ZK.out.2
        have B1 := B1.below ZK.out.1 B1.lt
        have BX := B2.below ZK.out.1 B2.lt
        have R2 := range_below R2 ZK.out.1
        have hgr : w1.heap.size ≤ wr.heap.size := Zr.size
        have Z4 := Zr.trans (ZK.out.1.mono Zr.size)
        clear ZK B2
        obtain ⟨jh2, Hjh2⟩ : ∃ J, Hid (J = if o % 2 = 0 then nd q h2 else nd h2 q) := ⟨_, rfl⟩
        obtain ⟨C, hC⟩ : ∃ C : World → Prop, C = fun W => Below wk.heap.size wk W := ⟨_, rfl⟩
        have FV : Hid (∀ W, C W → W.rangeAt wr.heap.size 0 [.int .i64 (l : Int), .int .i64 (o : Int)]) := fun W hW => by rw [hC] at hW; exact (BV.below hW BV.lt).all
        have FQ : Hid (∀ W, C W → W.rangeAt b2 (o2 + k * 32) (nums .u8 q)) := fun W hW => by rw [hC] at hW; exact range_below R2 hW
        have FH : Hid (∀ W, C W → Blk W g2 30 (nums .u8 h2)) := fun W hW => by rw [hC] at hW; exact BX.below hW BX.lt
        have FR : Hid (∀ W, C W → W.rangeAt g2 0 (nums .u8 h2)) := fun W hW => by rw [hC] at hW; exact (BX.below hW BX.lt).all
        have CK : Hid (∀ W W', C W → Below W.heap.size W W' → C W') := fun W W' h1 h2 => by rw [hC] at h1 ⊢; exact h1.trans (h2.mono h1.size)
        have CA : Hid (∀ W W', C W → Below wk.heap.size W W' → C W') := fun W W' h1 h2 => by rw [hC] at h1 ⊢; exact h1.trans h2
        have CE : Hid (∀ W, C W → Below wk.heap.size wk W) := fun W h => by rw [hC] at h; exact h
        have C0 : Hid (C { wk with drawn := wk.drawn + 1 }) := by rw [hC]; exact Below.drew (Below.refl _ _)
        clear hC
        have HNh : Hid (Hh jh2) := by show Hh _; rw [Hjh2.out]; split <;> exact nd_hh _ _
        have HNl : Hid ((nums .u8 jh2).length = (nums .u8 h2).length) := by show _ = _; rw [nums_length, nums_length, HNh.out.1, H2.out.1]
        have HNs : Hid ((Tryd.prog.info? 30).map (·.size) = some (nums .u8 jh2).length) := sH HNh.out
        refine region_calm C 7 (by kernel_rfl) ?_
        have hCp : ∀ p : Prop, (∀ W, C W → p) ↔ p := fun p => ⟨fun h => h _ C0.out, fun h _ _ => h⟩
        generalize ({ wk with drawn := wk.drawn + 1 } : World) = y0 at *
        refine seg 2 [0, 1, 2, 3, 4, 5] rfl (by kernel_rfl) whole_blind (C0.out) (by kernel_rfl) ?_
        change wpQuiet _ _ _ _ (_ :: _ :: _ :: _ :: _ :: _ :: []) _
        repeat (first
          | go_big_quiet_skip
          | (go_big_quiet_want
             first
             | (refine q_load 60 (.tmp 14) rfl wr.heap.size 0 rfl [.int .i64 (l : Int), .int .i64 (o : Int)] _ FV.out Tryd.underlying60 rfl (by kernel_rfl) ?_
                simp only [Act.put, List.setIfInBounds_toArray, List.set_cons_zero, List.set_cons_succ]
                go_big_quiet_on)
             | (refine q_load 30 (.tmp 32) rfl b2 (o2 + k * 32) rfl (nums .u8 q) _ FQ.out Tryd.underlying30 rfl (sH HQ.out) ?_
                simp only [Act.put, List.setIfInBounds_toArray, List.set_cons_zero, List.set_cons_succ]
                go_big_quiet_on)
             | (refine q_load 30 (.tmp 12) rfl g2 0 rfl (nums .u8 h2) _ FR.out Tryd.underlying30 rfl (sH H2.out) ?_
                simp only [Act.put, List.setIfInBounds_toArray, List.set_cons_zero, List.set_cons_succ]
                go_big_quiet_on)
             | (go_big_quiet_op
                go_big_quiet_on)))
        refine wpQuiet_nil ?_
        refine lone_do (i := 6) 1 rfl (by kernel_rfl) rfl (by rfl) ?_
        intro K hK
        refine oper_calls 35 _ _ rfl #[.agg #[.int .i64 (l : Int), .int .i64 (o : Int)], .agg (nums .u8 q).toArray, .agg (nums .u8 h2).toArray] (by rw [List.map_toArray]; rfl) (enters Tryd.func35 (by kernel_rfl) rfl) ((fun v w' => v = .agg (nums .u8 jh2).toArray ∧ Below y0.heap.size y0 w')) (by have := join_any l o q h2 HQ.out H2.out ho y0; rw [← Hjh2.out] at this; exact this.mono (by rintro e w' ⟨rfl, g⟩; exact ⟨_, rfl, rfl, g⟩)) ?_
        rintro v y1 ⟨rfl, Z1⟩
        have C1 : Hid (C y1) := CK.out _ _ C0.out Z1
        clear Z1
        refine hK _ _ (C1.out) ?_
        clear hK K
        simp only [Act.put, List.setIfInBounds_toArray, List.set_cons_zero, List.set_cons_succ]
        refine lone_last (i := 7) 0 rfl rfl (by kernel_rfl) rfl (by rfl) ?_
        intro K hK
        refine oper_all 30 (.tmp 12) (.tmp 35) rfl g2 30 (nums .u8 h2) (nums .u8 jh2) rfl rfl (FH.out _ C1.out) HNl.out HNs.out (nums_one _ _) ?_
        intro y2 B2 G2
        refine hK _ _ ?_
        clear hK K
        refine anyC_done (by kernel_rfl) ⟨rfl, ?_⟩
        simp only [Act.put]
        have ZY2 := CE.out _ C1.out
        clear C1 CK CA CE FV FQ FH FR hCp HNl HNs HNh C0
        have Z5 := Z4.trans (ZY2.mono Z4.size)
        have Z5 := grown_below Z5 G2 Z5.size hg2
        have BV := (BV.below ZY2 BV.lt).kept G2 (by intro e; injection e with e; omega)
        have BX := (B1.below ZY2 B1.lt).kept G2 (fun e => n12 (Option.some.inj e))
        have ZZ := Z.trans (Z5.mono Z.size)
        clear G2 ZY2 B1 Z4 R2
        go_wp2_with (refine ld_mid rfl 60 (.tmp 14) rfl wr.heap.size 0 rfl [.int .i64 (l : Int), .int .i64 (o : Int)] _ BV.all Tryd.underlying60 rfl (by kernel_rfl) ?_)
        refine (left_any l o ho y2).mono ?_
        rintro e y3 ⟨rfl, Z6⟩
        have BV := BV.below Z6 BV.lt
        have BX := BX.below Z6 BX.lt
        have BN := B2.below Z6 B2.lt
        have Z5 := Z5.trans (Z6.mono Z5.size)
        have ZZ := Z.trans (Z5.mono Z.size)
        have R2 := range_below RQ ZZ
        clear Z6 B2
        by_cases ev : o % 2 = 0
        · have hev : decide (o % 2 = 0) = true := decide_eq_true ev
          have EV : Hid (o % 2 = 0) := ev
          clear ev
          go_wp2_with fail
          obtain ⟨jh1, Hjh1⟩ : ∃ J, Hid (J = if o % 2 = 0 then nd q h1 else nd h1 q) := ⟨_, rfl⟩
          obtain ⟨C, hC⟩ : ∃ C : World → Prop, C = fun W => Below y3.heap.size y3 W := ⟨_, rfl⟩
          have FV : Hid (∀ W, C W → W.rangeAt wr.heap.size 0 [.int .i64 (l : Int), .int .i64 (o : Int)]) := fun W hW => by rw [hC] at hW; exact (BV.below hW BV.lt).all
          have FQ : Hid (∀ W, C W → W.rangeAt b2 (o2 + k * 32) (nums .u8 q)) := fun W hW => by rw [hC] at hW; exact range_below R2 hW
          have FH : Hid (∀ W, C W → Blk W g1 30 (nums .u8 h1)) := fun W hW => by rw [hC] at hW; exact BX.below hW BX.lt
          have FR : Hid (∀ W, C W → W.rangeAt g1 0 (nums .u8 h1)) := fun W hW => by rw [hC] at hW; exact (BX.below hW BX.lt).all
          have CK : Hid (∀ W W', C W → Below W.heap.size W W' → C W') := fun W W' h1 h2 => by rw [hC] at h1 ⊢; exact h1.trans (h2.mono h1.size)
          have CA : Hid (∀ W W', C W → Below y3.heap.size W W' → C W') := fun W W' h1 h2 => by rw [hC] at h1 ⊢; exact h1.trans h2
          have CE : Hid (∀ W, C W → Below y3.heap.size y3 W) := fun W h => by rw [hC] at h; exact h
          have C0 : Hid (C { y3 with drawn := y3.drawn + 1 }) := by rw [hC]; exact Below.drew (Below.refl _ _)
          clear hC
          have HNh : Hid (Hh jh1) := by show Hh _; rw [Hjh1.out]; split <;> exact nd_hh _ _
          have HNl : Hid ((nums .u8 jh1).length = (nums .u8 h1).length) := by show _ = _; rw [nums_length, nums_length, HNh.out.1, H1.out.1]
          have HNs : Hid ((Tryd.prog.info? 30).map (·.size) = some (nums .u8 jh1).length) := sH HNh.out
          refine region_calm C 7 (by kernel_rfl) ?_
          have hCp : ∀ p : Prop, (∀ W, C W → p) ↔ p := fun p => ⟨fun h => h _ C0.out, fun h _ _ => h⟩
          generalize ({ y3 with drawn := y3.drawn + 1 } : World) = x0 at *
          refine seg 2 [0, 1, 2, 3, 4, 5] rfl (by kernel_rfl) whole_blind (C0.out) (by kernel_rfl) ?_
          change wpQuiet _ _ _ _ (_ :: _ :: _ :: _ :: _ :: _ :: []) _
          repeat (first
            | go_big_quiet_skip
            | (go_big_quiet_want
               first
               | (refine q_load 60 (.tmp 14) rfl wr.heap.size 0 rfl [.int .i64 (l : Int), .int .i64 (o : Int)] _ FV.out Tryd.underlying60 rfl (by kernel_rfl) ?_
                  simp only [Act.put, List.setIfInBounds_toArray, List.set_cons_zero, List.set_cons_succ]
                  go_big_quiet_on)
               | (refine q_load 30 (.tmp 41) rfl b2 (o2 + k * 32) rfl (nums .u8 q) _ FQ.out Tryd.underlying30 rfl (sH HQ.out) ?_
                  simp only [Act.put, List.setIfInBounds_toArray, List.set_cons_zero, List.set_cons_succ]
                  go_big_quiet_on)
               | (refine q_load 30 (.tmp 11) rfl g1 0 rfl (nums .u8 h1) _ FR.out Tryd.underlying30 rfl (sH H1.out) ?_
                  simp only [Act.put, List.setIfInBounds_toArray, List.set_cons_zero, List.set_cons_succ]
                  go_big_quiet_on)
               | (go_big_quiet_op
                  go_big_quiet_on)))
          refine wpQuiet_nil ?_
          refine lone_do (i := 6) 1 rfl (by kernel_rfl) rfl (by rfl) ?_
          intro K hK
          refine oper_calls 35 _ _ rfl #[.agg #[.int .i64 (l : Int), .int .i64 (o : Int)], .agg (nums .u8 q).toArray, .agg (nums .u8 h1).toArray] (by rw [List.map_toArray]; rfl) (enters Tryd.func35 (by kernel_rfl) rfl) ((fun v w' => v = .agg (nums .u8 jh1).toArray ∧ Below x0.heap.size x0 w')) (by have := join_any l o q h1 HQ.out H1.out ho x0; rw [← Hjh1.out] at this; exact this.mono (by rintro e w' ⟨rfl, g⟩; exact ⟨_, rfl, rfl, g⟩)) ?_
          rintro v x1 ⟨rfl, Z1⟩
          have C1 : Hid (C x1) := CK.out _ _ C0.out Z1
          clear Z1
          refine hK _ _ (C1.out) ?_
          clear hK K
          simp only [Act.put, List.setIfInBounds_toArray, List.set_cons_zero, List.set_cons_succ]
          refine lone_last (i := 7) 0 rfl rfl (by kernel_rfl) rfl (by rfl) ?_
          intro K hK
          refine oper_all 30 (.tmp 11) (.tmp 44) rfl g1 30 (nums .u8 h1) (nums .u8 jh1) rfl rfl (FH.out _ C1.out) HNl.out HNs.out (nums_one _ _) ?_
          intro x2 B2 G2
          refine hK _ _ ?_
          clear hK K
          refine anyC_done (by kernel_rfl) ⟨rfl, ?_⟩
          simp only [Act.put]
          have ZY2 := CE.out _ C1.out
          clear C1 CK CA CE FV FQ FH FR hCp HNl HNs HNh C0
          have Z7 := Z5.trans (ZY2.mono Z5.size)
          have Z7 := grown_below Z7 G2 Z7.size hg1
          have BN := (BN.below ZY2 BN.lt).kept G2 (fun e => n12 (Option.some.inj e).symm)
          have HI : Hid (Blk x2 g1 30 (nums .u8 (Mk.fb nd s s (os.take (k + 1)) (L.take (k + 1))).1) ∧ Blk x2 g2 30 (nums .u8 (Mk.fb nd s s (os.take (k + 1)) (L.take (k + 1))).2) ∧ Below w1.heap.size w1 x2) := by
            rw [HN.out]
            rw [← Hjh2.out]
            refine ⟨?_, BN, Z7⟩
            have e := Hjh1.out
            rw [if_pos EV.out] at e
            simp only [if_pos EV.out]
            rw [← e]
            exact B2
          clear B2 BN G2 ZY2 Z7 Z5 ZZ BV BX R2 HN
          go_wp2
          go_roundw
          case rel => exact ⟨k + 1, hlt, by simp, HI⟩
          case measure => simp [intOf]; omega
        · have HI : Hid (Blk y3 g1 30 (nums .u8 (Mk.fb nd s s (os.take (k + 1)) (L.take (k + 1))).1) ∧ Blk y3 g2 30 (nums .u8 (Mk.fb nd s s (os.take (k + 1)) (L.take (k + 1))).2) ∧ Below w1.heap.size w1 y3) := by
            rw [HN.out]
            rw [← Hjh2.out]
            refine ⟨?_, BN, Z5⟩
            simp only [if_neg ev]
            exact BX
          have hev : decide (o % 2 = 0) = false := decide_eq_false ev
          clear ev
          clear BN Z5 ZZ BV BX R2 HN
          go_wp2
          go_roundw
          case rel => exact ⟨k + 1, hlt, by simp, HI⟩
          case measure => simp [intOf]; omega
      · obtain rfl : k = os.length := by omega
        have e1 : Hid (h1 = (Mk.fb nd s s os L).1 ∧ h2 = (Mk.fb nd s s os L).2) := by
          rw [List.take_of_length_le (Nat.le_refl _), List.take_of_length_le (by rw [HLe.out]; exact Nat.le_refl _)] at hh1 hh2
          exact ⟨hh1.out, hh2.out⟩
        have HC : Hid ((decide (h1 = x) && decide (h2 = y)) = ans) := by show _ = _; rw [HB.out, e1.out.1, e1.out.2, HLe.out]; simp
        have eq1 := fun W => eq_hash H1.out HX.out W
        have eq2 := fun W => eq_hash H2.out HY.out W
        clear HI hh1 hh2 e1 HB
        by_cases t1 : h1 = x
        · have d1 : decide (h1 = x) = true := decide_eq_true t1
          rw [d1] at eq1
          have HC : Hid (decide (h2 = y) = ans) := by show _ = _; rw [← HC.out, d1, Bool.true_and]
          clear d1 t1
          go_wp2_with (first | (refine ld_mid rfl 30 (.tmp 11) rfl g1 0 rfl (nums .u8 h1) _ B1.all Tryd.underlying30 rfl (sH H1.out) ?_) | (refine ld_mid rfl 30 (.tmp 8) rfl gx 0 rfl (nums .u8 x) _ BXr.all Tryd.underlying30 rfl (sH HX.out) ?_) | (refine ld_want (by rfl) 30 (.tmp 12) rfl g2 0 rfl (nums .u8 h2) _ B2.all Tryd.underlying30 rfl (sH H2.out) ?_) | (refine ld_want (by rfl) 30 (.tmp 9) rfl gy 0 rfl (nums .u8 y) _ BYr.all Tryd.underlying30 rfl (sH HY.out) ?_))
          go_ret
          exact ⟨by rw [← HC.out]; rfl, ZZ⟩
        · have d1 : decide (h1 = x) = false := decide_eq_false t1
          rw [d1] at eq1
          have HC : ans = false := by rw [← HC.out, d1, Bool.false_and]
          subst HC
          clear d1 t1
          go_wp2_with (first | (refine ld_mid rfl 30 (.tmp 11) rfl g1 0 rfl (nums .u8 h1) _ B1.all Tryd.underlying30 rfl (sH H1.out) ?_) | (refine ld_mid rfl 30 (.tmp 8) rfl gx 0 rfl (nums .u8 x) _ BXr.all Tryd.underlying30 rfl (sH HX.out) ?_))
          go_ret
          exact ⟨rfl, ZZ⟩
  · have ed : ans = false := by rw [HB.out]; simp [hle]
    subst ed
    have hle' : ¬ ((L.length : Int) = (os.length : Int)) := by omega
    go_wp2
    go_ret
    exact ⟨rfl, Z⟩
#print axioms meet_any
end Go.Proofs.YtehkaploinklmaaDoor
