/-
  MerkleTells' walk.
-/
import Derived.Test.YtehkaploinklmaaDoorE10
namespace Go.Proofs.YtehkaploinklmaaDoor
open Go Go.RowKit Go.Maps Sh
theorem owe_zero' (w : World) (base : Nat) (hb : base ≤ w.heap.size) : OwE (nums .u8) 30 32 (w.alloc (.cells #[] 30)) base (.slice (some ⟨w.heap.size, 0, none⟩) 0 0) [] :=
  ⟨World.ownsRow_made w #[] 0 hb (by unfold maxLen; omega) rfl, by simp⟩
theorem hl_one' {M : List (List Nat)} (h : Hl M) : ∀ y ∈ M, (nums .u8 y).length = 32 ∧ ∀ u ∈ nums .u8 y, u.oneCell' = true := fun y hy => ⟨by rw [nums_length]; exact (h y hy).1, nums_one _ _⟩
set_option maxHeartbeats 4000000 in
set_option maxRecDepth 8000 in
theorem tells_walk (l a b : List Nat) (hl : Hh l) (ha : Hh a) (hb : Hh b) (i n m : Int) (L : List (List Nat)) (hL : Hl L) (p : Option Addr) (cp : Nat) (hlen : L.length ≤ 140737488355328) (hcp : L.length ≤ cp) (hnil : p = none → cp = 0) (w : World) (hS : ES (nums .u8) 32 w p L) (hT : Tb w) :
    Calls Tryd.prog 5 #[.agg (nums .u8 l).toArray, .int .i64 i, .int .i64 n, .int .i64 m, .slice p L.length cp, .agg (nums .u8 a).toArray, .agg (nums .u8 b).toArray] w fun e w' => e = .returned (.bool true) ∧ Below w.heap.size w w' := by
  have HLf : Hid (Hh l) := hl
  have HAh : Hid (Hh a) := ha
  have HBh : Hid (Hh b) := hb
  have HL : Hid (Hl L) := hL
  have HTb : Hid (Tb w) := hT
  have HS : Hid (ES (nums .u8) 32 w p L ∧ (p = none → cp = 0)) := ⟨hS, hnil⟩
  obtain ⟨V, HV⟩ : ∃ V, Hid (vf l i n L b = V) := ⟨_, rfl⟩
  obtain ⟨U, HU⟩ : ∃ U, Hid (vcA m n L a b = U) := ⟨_, rfl⟩
  clear hl ha hb hL hT hS hnil
  go_enter Tryd.func5, Tryd.ntmps5
  go_wp2_with (refine al_box rfl 30 (.tmp 0) rfl (nums .u8 l) rfl ?_)
  intro gl w0 lgl BL G0
  have ZZ := (Below.refl w.heap.size w).grown G0 (Nat.le_refl _) (by simp)
  clear G0
  go_wp2_with (refine al_box rfl 30 (.tmp 5) rfl (nums .u8 a) rfl ?_)
  intro ga w1 lga BA G0
  have BL := BL.kept G0 (by simp)
  have ZZ := ZZ.grown G0 ZZ.size (by simp)
  clear G0
  go_wp2_with (refine al_box rfl 30 (.tmp 6) rfl (nums .u8 b) rfl ?_)
  intro gb w2 lgb BB G0
  have BL := BL.kept G0 (by simp)
  have BA := BA.kept G0 (by simp)
  have ZZ := ZZ.grown G0 ZZ.size (by simp)
  clear G0
  by_cases h80 : L.length ≤ 80
  case neg =>
    have h1 : (80 : Int) < (L.length : Int) := by omega
    go_wp2
    go_ret
    exact ⟨rfl, ZZ⟩
  have h1 : ¬ (80 : Int) < (L.length : Int) := by omega
  obtain ⟨w3, hw3, Z3, O3⟩ : ∃ w3, w2.alloc (.cells #[] 30) = w3 ∧ Below w2.heap.size w2 w3 ∧ OwE (nums .u8) 30 32 w3 w2.heap.size (.slice (some ⟨w2.heap.size, 0, none⟩) 0 0) [] := ⟨_, rfl, (Below.refl _ _).alloc (Nat.le_refl _) _, owe_zero' w2 _ (Nat.le_refl _)⟩
  have HO3 : Hid (OwE (nums .u8) 30 32 w3 w2.heap.size (.slice (some ⟨w2.heap.size, 0, none⟩) 0 0) []) := O3
  have E3 : Hid (ES (nums .u8) 32 w3 p L) := HS.out.1.below (ZZ.trans (Z3.mono ZZ.size))
  have s3 := Z3.size
  go_wp2_with (at_builtin; go_must (refine app_wl rfl (.tmp 20) (.tmp 21) 22 30 rfl Tryd.underlying22 _ 32 iH (by decide) (by decide) (by decide) w2.heap.size (.slice (some ⟨w2.heap.size, 0, none⟩) 0 0) [] L rfl HO3.out p cp rfl E3.out HS.out.2 (hl_one' HL.out) (by simp; omega) s3 ?_))
  intro v4 w4 O4 G4
  have Z4 := below_own Z3 s3 O3 G4
  obtain ⟨c, cc, hv4, hcc, _, ex, _⟩ := O4.es
  subst hv4
  have EX : Hid (ES (nums .u8) 32 w4 c L) := ex
  have EX0 : Hid (ES (nums .u8) 32 w4 c L) := ex
  have EXs : w4.heap.size ≤ w4.heap.size := Nat.le_refl _
  have BL := BL.below Z4 BL.lt
  have BA := BA.below Z4 BA.lt
  have BB := BB.below Z4 BB.lt
  have ZZ := ZZ.trans (Z4.mono ZZ.size)
  clear O4 G4 O3 HO3 E3 hw3 Z3 Z4 s3 ex
  go_wp2_with (refine al_zero rfl 37 rfl [.slice none 0 0] (by kernel_rfl) ?_)
  intro gx w5 lgx BX G0
  have hg : w.heap.size ≤ gx := Nat.le_trans ZZ.size lgx
  have ngl : gl ≠ gx := by have := BL.lt; omega
  have BL := BL.kept G0 (by simp)
  have nga : ga ≠ gx := by have := BA.lt; omega
  have BA := BA.kept G0 (by simp)
  have ngb : gb ≠ gx := by have := BB.lt; omega
  have BB := BB.kept G0 (by simp)
  have EX : Hid (ES (nums .u8) 32 w5 c L) := EX.out.below (below_alloc0 G0)
  have EN : Hid (∀ ad, c = some ad → L ≠ [] → ad.block < gx) := fun ad e h => Nat.lt_of_lt_of_le (es_before EX0.out (Nat.le_refl _) HL.out ad e h) (Nat.le_trans EXs lgx)
  have EXs : w4.heap.size ≤ w5.heap.size := Nat.le_trans EXs G0.size
  have ZZ := ZZ.grown G0 ZZ.size (by simp)
  clear G0
  go_wp2_with (refine st_all rfl 37 (.tmp 15) (.tmp 23) rfl gx 37 [.slice none 0 0] [(.slice c L.length cc)] rfl rfl BX rfl (by kernel_rfl) (by simp [Value.oneCell']) ?_)
  intro w6 BX G0
  have BL := BL.kept G0 (fun e => ngl (Option.some.inj e))
  have BA := BA.kept G0 (fun e => nga (Option.some.inj e))
  have BB := BB.kept G0 (fun e => ngb (Option.some.inj e))
  have EX : Hid (ES (nums .u8) 32 w6 c L) := es_kept EX.out G0 EN.out
  have EXs : w4.heap.size ≤ w6.heap.size := Nat.le_trans EXs G0.size
  have ZZ := grown_below ZZ G0 ZZ.size hg
  clear G0 EN
  go_wp2_with (refine al_zero rfl 37 rfl [.slice none 0 0] (by kernel_rfl) ?_)
  intro gy w7 lgy BY G0
  have hg : w.heap.size ≤ gy := Nat.le_trans ZZ.size lgy
  have ngl : gl ≠ gy := by have := BL.lt; omega
  have BL := BL.kept G0 (by simp)
  have nga : ga ≠ gy := by have := BA.lt; omega
  have BA := BA.kept G0 (by simp)
  have ngb : gb ≠ gy := by have := BB.lt; omega
  have BB := BB.kept G0 (by simp)
  have ngx : gx ≠ gy := by have := BX.lt; omega
  have BX := BX.kept G0 (by simp)
  have EX : Hid (ES (nums .u8) 32 w7 c L) := EX.out.below (below_alloc0 G0)
  have EN : Hid (∀ ad, c = some ad → L ≠ [] → ad.block < gy) := fun ad e h => Nat.lt_of_lt_of_le (es_before EX0.out (Nat.le_refl _) HL.out ad e h) (Nat.le_trans EXs lgy)
  have EXs : w4.heap.size ≤ w7.heap.size := Nat.le_trans EXs G0.size
  have ZZ := ZZ.grown G0 ZZ.size (by simp)
  clear G0
  go_wp2_with (refine st_all rfl 37 (.tmp 16) (.tmp 25) rfl gy 37 [.slice none 0 0] [(.slice p L.length cp)] rfl rfl BY rfl (by kernel_rfl) (by simp [Value.oneCell']) ?_)
  intro w9 BY G0
  have BL := BL.kept G0 (fun e => ngl (Option.some.inj e))
  have BA := BA.kept G0 (fun e => nga (Option.some.inj e))
  have BB := BB.kept G0 (fun e => ngb (Option.some.inj e))
  have BX := BX.kept G0 (fun e => ngx (Option.some.inj e))
  have EX : Hid (ES (nums .u8) 32 w9 c L) := es_kept EX.out G0 EN.out
  have EXs : w4.heap.size ≤ w9.heap.size := Nat.le_trans EXs G0.size
  have ZZ := grown_below ZZ G0 ZZ.size hg
  clear G0 EN
  have EY : Hid (ES (nums .u8) 32 w9 p L) := HS.out.1.below ZZ
  clear EX0 EXs
  go_wp2_with fail
  obtain ⟨C, hC⟩ : ∃ C : World → Prop, C = fun W => Below w9.heap.size w9 W := ⟨_, rfl⟩
  have FL : Hid (∀ W, C W → W.rangeAt gl 0 (nums .u8 l)) := fun W hW => by rw [hC] at hW; exact (BL.below hW BL.lt).all
  have FA : Hid (∀ W, C W → W.rangeAt ga 0 (nums .u8 a)) := fun W hW => by rw [hC] at hW; exact (BA.below hW BA.lt).all
  have FB : Hid (∀ W, C W → W.rangeAt gb 0 (nums .u8 b)) := fun W hW => by rw [hC] at hW; exact (BB.below hW BB.lt).all
  have FX : Hid (∀ W, C W → W.rangeAt gx 0 [(.slice c L.length cc)]) := fun W hW => by rw [hC] at hW; exact (BX.below hW BX.lt).all
  have FY : Hid (∀ W, C W → W.rangeAt gy 0 [(.slice p L.length cp)]) := fun W hW => by rw [hC] at hW; exact (BY.below hW BY.lt).all
  have FC : Hid (∀ W, C W → W.cell? ⟨gx, 0, none⟩ = some (.slice c L.length cc)) := fun W hW => by rw [hC] at hW; exact by rw [(BX.below hW BX.lt).cell]; rfl
  have FE : Hid (∀ W, C W → ES (nums .u8) 32 W c L) := fun W hW => by rw [hC] at hW; exact EX.out.below hW
  have FF : Hid (∀ W, C W → ES (nums .u8) 32 W p L) := fun W hW => by rw [hC] at hW; exact EY.out.below hW
  have FT : Hid (∀ W, C W → Tb W) := fun W hW => by rw [hC] at hW; exact (HTb.out.grow (ZZ.trans (hW.mono ZZ.size)))
  have CK : Hid (∀ W W', C W → Below W.heap.size W W' → C W') := fun W W' h1 h2 => by rw [hC] at h1 ⊢; exact h1.trans (h2.mono h1.size)
  have CA : Hid (∀ W W', C W → Below w9.heap.size W W' → C W') := fun W W' h1 h2 => by rw [hC] at h1 ⊢; exact h1.trans h2
  have CE : Hid (∀ W, C W → Below w9.heap.size w9 W) := fun W h => by rw [hC] at h; exact h
  have C0 : Hid (C { w9 with drawn := w9.drawn + 1 }) := by rw [hC]; exact Below.drew (Below.refl _ _)
  clear hC
  clear BL BA BB BX BY
  refine region_calm C 37 (by kernel_rfl) ?_
  have hCp : ∀ p : Prop, (∀ W, C W → p) ↔ p := fun p => ⟨fun h => h _ C0.out, fun h _ _ => h⟩
  generalize ({ w9 with drawn := w9.drawn + 1 } : World) = y0 at *
  refine seg 28 [0, 1, 2, 3, 4, 6, 7, 8, 9, 10] rfl (by kernel_rfl) whole_blind (C0.out) (by kernel_rfl) ?_
  change wpQuiet _ _ _ _ (_ :: _ :: _ :: _ :: _ :: _ :: _ :: _ :: _ :: _ :: []) _
  repeat (first
    | go_big_quiet_skip
    | (go_big_quiet_want
       first
       | (refine q_load 30 (.tmp 7) rfl gl 0 rfl (nums .u8 l) _ FL.out Tryd.underlying30 rfl (sH HLf.out) ?_
          simp only [Act.put, List.setIfInBounds_toArray, List.set_cons_zero, List.set_cons_succ]
          go_big_quiet_on)
       | (refine q_load 37 (.tmp 15) rfl gx 0 rfl [(.slice c L.length cc)] _ FX.out Tryd.underlying37 rfl (by kernel_rfl) ?_
          simp only [Act.put, List.setIfInBounds_toArray, List.set_cons_zero, List.set_cons_succ]
          go_big_quiet_on)
       | (refine q_load 37 (.tmp 16) rfl gy 0 rfl [(.slice p L.length cp)] _ FY.out Tryd.underlying37 rfl (by kernel_rfl) ?_
          simp only [Act.put, List.setIfInBounds_toArray, List.set_cons_zero, List.set_cons_succ]
          go_big_quiet_on)
       | (refine q_load 30 (.tmp 13) rfl gb 0 rfl (nums .u8 b) _ FB.out Tryd.underlying30 rfl (sH HBh.out) ?_
          simp only [Act.put, List.setIfInBounds_toArray, List.set_cons_zero, List.set_cons_succ]
          go_big_quiet_on)
       | (go_big_quiet_op
          go_big_quiet_on)))
  refine wpQuiet_nil ?_
  refine lone_do (i := 5) 27 rfl (by kernel_rfl) rfl (by rfl) ?_
  intro K hK
  refine oper_calls 18 _ _ rfl #[.agg (nums .u8 l).toArray, .int .i64 i, .int .i64 n, .agg #[(.slice c L.length cc)], .agg (nums .u8 b).toArray] (by rw [List.map_toArray]; rfl) (enters Tryd.func18 (by kernel_rfl) rfl) (fun v w' => v = .bool V ∧ Below y0.heap.size y0 w') (by have K := verify_any l b HLf.out HBh.out i n c cc L HL.out y0 (FE.out _ C0.out); rw [HV.out] at K; exact K.mono (by rintro e w' ⟨rfl, g⟩; exact ⟨_, rfl, rfl, g⟩)) ?_
  rintro v y1 ⟨rfl, Z1⟩
  have C1 : Hid (C y1) := CK.out _ _ C0.out Z1
  clear Z1
  refine hK _ _ (C1.out) ?_
  clear hK K
  simp only [Act.put, List.setIfInBounds_toArray, List.set_cons_zero, List.set_cons_succ]
  refine lone_do (i := 11) 26 rfl (by kernel_rfl) rfl (by rfl) ?_
  intro K hK
  refine oper_calls 20 _ _ rfl #[.agg (nums .u8 l).toArray, .int .i64 i, .int .i64 n, .agg #[(.slice p L.length cp)], .agg (nums .u8 b).toArray] (by rw [List.map_toArray]; rfl) (enters Tryd.func20 (by kernel_rfl) rfl) (fun v w' => v = .bool V ∧ Below y1.heap.size y1 w') (by have K := rverify_any l b HLf.out HBh.out i n p cp L HL.out (by omega) hcp y1 (FF.out _ C1.out); rw [HV.out] at K; exact K.mono (by rintro e w' ⟨rfl, g⟩; exact ⟨_, rfl, rfl, g⟩)) ?_
  rintro v y2 ⟨rfl, Z2⟩
  have C2 : Hid (C y2) := CK.out _ _ C1.out Z2
  clear Z2
  refine hK _ _ (C2.out) ?_
  clear hK K
  simp only [Act.put, List.setIfInBounds_toArray, List.set_cons_zero, List.set_cons_succ]
  refine lone_calm (i := 12) 25 rfl (by kernel_rfl) rfl rfl (C2.out) ?_
  repeat (first
    | go_big_quiet_skip
    | (go_big_quiet_want
       first
       | (go_big_quiet_op
          go_big_quiet_on)))
  refine wpQuiet_nil ?_
  refine lone_calm (i := 13) 24 rfl (by kernel_rfl) rfl rfl (C2.out) ?_
  repeat (first
    | go_big_quiet_skip
    | (go_big_quiet_want
       first
       | (go_big_quiet_op
          go_big_quiet_on)))
  refine wpQuiet_nil ?_
  refine seg 14 [14, 15, 16, 17, 18, 20, 21, 22, 23, 24] rfl (by kernel_rfl) whole_blind (C2.out) (by kernel_rfl) ?_
  change wpQuiet _ _ _ _ (_ :: _ :: _ :: _ :: _ :: _ :: _ :: _ :: _ :: _ :: []) _
  repeat (first
    | go_big_quiet_skip
    | (go_big_quiet_want
       first
       | (refine q_load 37 (.tmp 15) rfl gx 0 rfl [(.slice c L.length cc)] _ FX.out Tryd.underlying37 rfl (by kernel_rfl) ?_
          simp only [Act.put, List.setIfInBounds_toArray, List.set_cons_zero, List.set_cons_succ]
          go_big_quiet_on)
       | (refine q_load 37 (.tmp 16) rfl gy 0 rfl [(.slice p L.length cp)] _ FY.out Tryd.underlying37 rfl (by kernel_rfl) ?_
          simp only [Act.put, List.setIfInBounds_toArray, List.set_cons_zero, List.set_cons_succ]
          go_big_quiet_on)
       | (refine q_load 30 (.tmp 12) rfl ga 0 rfl (nums .u8 a) _ FA.out Tryd.underlying30 rfl (sH HAh.out) ?_
          simp only [Act.put, List.setIfInBounds_toArray, List.set_cons_zero, List.set_cons_succ]
          go_big_quiet_on)
       | (refine q_load 30 (.tmp 13) rfl gb 0 rfl (nums .u8 b) _ FB.out Tryd.underlying30 rfl (sH HBh.out) ?_
          simp only [Act.put, List.setIfInBounds_toArray, List.set_cons_zero, List.set_cons_succ]
          go_big_quiet_on)
       | (go_big_quiet_op
          go_big_quiet_on)))
  refine wpQuiet_nil ?_
  refine lone_do (i := 19) 13 rfl (by kernel_rfl) rfl (by rfl) ?_
  intro K hK
  refine oper_calls 19 _ _ rfl #[.int .i64 m, .int .i64 n, .agg #[(.slice c L.length cc)], .agg (nums .u8 a).toArray, .agg (nums .u8 b).toArray] (by rw [List.map_toArray]; rfl) (enters Tryd.func19 (by kernel_rfl) rfl) (fun v w' => v = .bool U ∧ Below y2.heap.size y2 w') (by have K := vcons_any m n c cc L HL.out hcc a b HAh.out HBh.out y2 (FT.out _ C2.out) (FE.out _ C2.out); rw [HU.out] at K; exact K.mono (by rintro e w' ⟨rfl, g⟩; exact ⟨_, rfl, rfl, g⟩)) ?_
  rintro v y3 ⟨rfl, Z3⟩
  have C3 : Hid (C y3) := CK.out _ _ C2.out Z3
  clear Z3
  refine hK _ _ (C3.out) ?_
  clear hK K
  simp only [Act.put, List.setIfInBounds_toArray, List.set_cons_zero, List.set_cons_succ]
  refine lone_do (i := 25) 12 rfl (by kernel_rfl) rfl (by rfl) ?_
  intro K hK
  refine oper_calls 21 _ _ rfl #[.int .i64 m, .int .i64 n, .agg #[(.slice p L.length cp)], .agg (nums .u8 a).toArray, .agg (nums .u8 b).toArray] (by rw [List.map_toArray]; rfl) (enters Tryd.func21 (by kernel_rfl) rfl) (fun v w' => v = .bool U ∧ Below y3.heap.size y3 w') (by have K := rvcons_any m n p cp L HL.out (by omega) hcp a b HAh.out HBh.out y3 (FF.out _ C3.out); rw [HU.out] at K; exact K.mono (by rintro e w' ⟨rfl, g⟩; exact ⟨_, rfl, rfl, g⟩)) ?_
  rintro v y4 ⟨rfl, Z4⟩
  have C4 : Hid (C y4) := CK.out _ _ C3.out Z4
  clear Z4
  refine hK _ _ (C4.out) ?_
  clear hK K
  simp only [Act.put, List.setIfInBounds_toArray, List.set_cons_zero, List.set_cons_succ]
  refine lone_calm (i := 26) 11 rfl (by kernel_rfl) rfl rfl (C4.out) ?_
  repeat (first
    | go_big_quiet_skip
    | (go_big_quiet_want
       first
       | (go_big_quiet_op
          go_big_quiet_on)))
  refine wpQuiet_nil ?_
  refine lone_calm (i := 27) 10 rfl (by kernel_rfl) rfl rfl (C4.out) ?_
  repeat (first
    | go_big_quiet_skip
    | (go_big_quiet_want
       first
       | (go_big_quiet_op
          go_big_quiet_on)))
  refine wpQuiet_nil ?_
  refine lone_calm (i := 28) 9 rfl (by kernel_rfl) rfl rfl (C4.out) ?_
  repeat (first
    | go_big_quiet_skip
    | (go_big_quiet_want
       first
       | (go_big_quiet_op
          go_big_quiet_on)))
  refine wpQuiet_nil ?_
  refine seg 6 [29, 30, 31] rfl (by kernel_rfl) whole_blind (C4.out) (by kernel_rfl) ?_
  change wpQuiet _ _ _ _ (_ :: _ :: _ :: []) _
  repeat (first
    | go_big_quiet_skip
    | (go_big_quiet_want
       first
       | (refine q_slc (.tmp 55) rfl gx 0 rfl c L.length cc FC.out ?_
          simp only [Act.put, List.setIfInBounds_toArray, List.set_cons_zero, List.set_cons_succ]
          go_big_quiet_on)
       | (go_big_quiet_op
          go_big_quiet_on)))
  refine wpQuiet_nil ?_
  refine lone_do (i := 32) 5 rfl (by kernel_rfl) rfl (by rfl) ?_
  intro K hK
  refine oper_calls 16 _ _ rfl #[(.slice c L.length cc), (.slice p L.length cp)] (by rw [List.map_toArray]; rfl) (enters Tryd.func16 (by kernel_rfl) rfl) (fun v w' => v = .bool true ∧ Below y4.heap.size y4 w') (by have K := hashes_any L L HL.out HL.out (by omega) c p cc cp y4 (FE.out _ C4.out) (FF.out _ C4.out); rw [decide_eq_true rfl] at K; exact K.mono (by rintro e w' ⟨rfl, g⟩; exact ⟨_, rfl, rfl, g⟩)) ?_
  rintro v y5 ⟨rfl, Z5⟩
  have C5 : Hid (C y5) := CK.out _ _ C4.out Z5
  clear Z5
  refine hK _ _ (C5.out) ?_
  clear hK K
  simp only [Act.put, List.setIfInBounds_toArray, List.set_cons_zero, List.set_cons_succ]
  refine lone_calm (i := 33) 4 rfl (by kernel_rfl) rfl rfl (C5.out) ?_
  repeat (first
    | go_big_quiet_skip
    | (go_big_quiet_want
       first
       | (go_big_quiet_op
          go_big_quiet_on)))
  refine wpQuiet_nil ?_
  refine lone_calm (i := 34) 3 rfl (by kernel_rfl) rfl rfl (C5.out) ?_
  repeat (first
    | go_big_quiet_skip
    | (go_big_quiet_want
       first
       | (go_big_quiet_op
          go_big_quiet_on)))
  refine wpQuiet_nil ?_
  refine lone_do (i := 35) 2 rfl (by kernel_rfl) rfl (by rfl) ?_
  intro K hK
  refine oper_calls 17 _ _ rfl #[] (by rw [List.map_toArray]; rfl) (enters Tryd.func17 (by kernel_rfl) rfl) (fun v w' => v = .bool true ∧ Below y5.heap.size y5 w') (by have K := known_any y5 (FT.out _ C5.out); exact K.mono (by rintro e w' ⟨rfl, g⟩; exact ⟨_, rfl, rfl, g⟩)) ?_
  rintro v y6 ⟨rfl, Z6⟩
  have C6 : Hid (C y6) := CK.out _ _ C5.out Z6
  clear Z6
  refine hK _ _ (C6.out) ?_
  clear hK K
  simp only [Act.put, List.setIfInBounds_toArray, List.set_cons_zero, List.set_cons_succ]
  refine lone_calm (i := 36) 1 rfl (by kernel_rfl) rfl rfl (C6.out) ?_
  repeat (first
    | go_big_quiet_skip
    | (go_big_quiet_want
       first
       | (go_big_quiet_op
          go_big_quiet_on)))
  refine wpQuiet_nil ?_
  refine lone_calm (i := 37) 0 rfl (by kernel_rfl) rfl rfl (C6.out) ?_
  repeat (first
    | go_big_quiet_skip
    | (go_big_quiet_want
       first
       | (go_big_quiet_op
          go_big_quiet_on)))
  refine wpQuiet_nil ?_
  refine anyC_done (by kernel_rfl) ⟨rfl, ?_⟩
  have ZE := ZZ.trans ((CE.out _ C6.out).mono ZZ.size)
  clear C0 C1 C2 C3 C4 C5 C6 CK CA CE FL FA FB FX FY FC FE FF FT hCp
  go_wp2
  go_ret
  exact ⟨rfl, ZE⟩
#print axioms tells_walk
end Go.Proofs.YtehkaploinklmaaDoor
