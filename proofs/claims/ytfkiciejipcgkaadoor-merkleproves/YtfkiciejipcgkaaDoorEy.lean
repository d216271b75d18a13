/-
  scrivenerlaw10.known: three leaves.
-/
import Derived.Test.YtfkiciejipcgkaaDoorEx
namespace Go.Proofs.YtfkiciejipcgkaaDoor
open Go Go.RowKit Go.Maps Sh
def kn (n : Nat) : List Nat := n :: List.replicate 31 0
theorem kn_hh (n : Nat) (h : n < 256) : Hh (kn n) := ⟨by simp [kn], by
  intro x hx
  rcases List.mem_cons.1 hx with e | e
  · omega
  · rw [List.eq_of_mem_replicate e]; decide⟩
theorem bs3 (w : World) : (Instr.buildSlice 22 3 #[(0, .agg (nums .u8 (kn 1)).toArray), (1, .agg (nums .u8 (kn 2)).toArray), (2, .agg (nums .u8 (kn 3)).toArray)]).run Tryd.prog w = .ok (.slice (some ⟨w.heap.size, 0, none⟩) 3 3) (w.alloc (.cells (nums .u8 (kn 1) ++ (nums .u8 (kn 2) ++ nums .u8 (kn 3))).toArray 30)) := by kernel_rfl
theorem bs3_wl {ops : Array Oper} {rest : List Oper} {o : Oper} {a : Act} {w : World} {Q : Exit → Act → World → Prop} (hg : o.guard = none) (x y z : Operand) (ho : o.op = .buildSlice 22 3 #[(0, x), (1, y), (2, z)]) (hx : a.eval x = .agg (nums .u8 (kn 1)).toArray) (hy : a.eval y = .agg (nums .u8 (kn 2)).toArray) (hz : a.eval z = .agg (nums .u8 (kn 3)).toArray)
    (h : wpList Tryd.prog ops Q rest (a.put o.dst (.slice (some ⟨w.heap.size, 0, none⟩) 3 3)) (w.alloc (.cells (nums .u8 (kn 1) ++ (nums .u8 (kn 2) ++ nums .u8 (kn 3))).toArray 30))) : wpList Tryd.prog ops Q (o :: rest) a w :=
  wpList_plain hg fun K hK => by
    unfold Oper.wp execOp
    simp only [ho, List.map_toArray, List.map_cons, List.map_nil, hx, hy, hz, Sem.run_bind, bs3, Result.andThen_ok, Sem.run_pure]
    exact hK _ _ h
theorem es3 (w : World) : ES (nums .u8) 32 (w.alloc (.cells (nums .u8 (kn 1) ++ (nums .u8 (kn 2) ++ nums .u8 (kn 3))).toArray 30)) (some ⟨w.heap.size, 0, none⟩) [kn 1, kn 2, kn 3] := by
  have B := blk_new w 30 (nums .u8 (kn 1) ++ (nums .u8 (kn 2) ++ nums .u8 (kn 3)))
  refine .inr ⟨_, _, rfl, fun i x hx => ?_⟩
  match i, hx with
  | 0, hx => obtain rfl := Option.some.inj hx; exact Blk.range (p := []) B
  | 1, hx => obtain rfl := Option.some.inj hx; exact Blk.range (p := nums .u8 (kn 1)) B
  | 2, hx =>
    obtain rfl := Option.some.inj hx
    have := Blk.range (p := nums .u8 (kn 1) ++ nums .u8 (kn 2)) (m := nums .u8 (kn 3)) (q := []) (by rw [List.append_nil, List.append_assoc]; exact B)
    exact this
  | i + 3, hx => simp at hx
theorem R_three (x y z : List Nat) : Mk.R nd em [x, y, z] = nd (nd x y) z := by
  rw [Mk.R_split nd em (T := 1) (by simp) (by simp)]
  show nd (Mk.R nd em [x, y]) (Mk.R nd em [z]) = _
  rw [Mk.R_one, Mk.R_split nd em (l := [x, y]) (T := 0) (by simp) (by simp)]
  show nd (nd (Mk.R nd em [x]) (Mk.R nd em [y])) z = _
  rw [Mk.R_one, Mk.R_one]
theorem bd_k1 (a : Act) : Tryd.prog.built 30 ((#[(0, Operand.const (.int .u8 1))] : Array (Nat × Operand)).map fun p => (p.1, a.eval p.2)).toList = some (nums .u8 (kn 1)).toArray := by kernel_rfl
theorem bd_k2 (a : Act) : Tryd.prog.built 30 ((#[(0, Operand.const (.int .u8 2))] : Array (Nat × Operand)).map fun p => (p.1, a.eval p.2)).toList = some (nums .u8 (kn 2)).toArray := by kernel_rfl
theorem bd_k3 (a : Act) : Tryd.prog.built 30 ((#[(0, Operand.const (.int .u8 3))] : Array (Nat × Operand)).map fun p => (p.1, a.eval p.2)).toList = some (nums .u8 (kn 3)).toArray := by kernel_rfl
set_option maxHeartbeats 2000000 in
set_option maxRecDepth 8000 in
theorem known_any (w : World) (hT : Tb w) :
    Calls Tryd.prog 12 #[] w fun e w' => e = .returned (.bool true) ∧ Below w.heap.size w w' := by
  have HTb : Hid (Tb w) := hT
  obtain ⟨k1, hk1⟩ : ∃ k, kn 1 = k := ⟨_, rfl⟩
  obtain ⟨k2, hk2⟩ : ∃ k, kn 2 = k := ⟨_, rfl⟩
  obtain ⟨k3, hk3⟩ : ∃ k, kn 3 = k := ⟨_, rfl⟩
  have H1 : Hid (Hh k1) := by rw [← hk1]; exact kn_hh 1 (by decide)
  have H2 : Hid (Hh k2) := by rw [← hk2]; exact kn_hh 2 (by decide)
  have H3 : Hid (Hh k3) := by rw [← hk3]; exact kn_hh 3 (by decide)
  have S1 : Hid ((Tryd.prog.info? 30).map (·.size) = some (nums .u8 k1).length ∧ (nums .u8 k1).length = (nums .u8 (List.replicate 32 0)).length) := ⟨sH H1.out, by rw [nums_length, nums_length, H1.out.1, List.length_replicate]⟩
  have S2 : Hid ((Tryd.prog.info? 30).map (·.size) = some (nums .u8 k2).length ∧ (nums .u8 k2).length = (nums .u8 (List.replicate 32 0)).length) := ⟨sH H2.out, by rw [nums_length, nums_length, H2.out.1, List.length_replicate]⟩
  have S3 : Hid ((Tryd.prog.info? 30).map (·.size) = some (nums .u8 k3).length ∧ (nums .u8 k3).length = (nums .u8 (List.replicate 32 0)).length) := ⟨sH H3.out, by rw [nums_length, nums_length, H3.out.1, List.length_replicate]⟩
  have D1 : Hid (∀ a : Act, Tryd.prog.built 30 ((#[(0, Operand.const (.int .u8 1))] : Array (Nat × Operand)).map fun p => (p.1, a.eval p.2)).toList = some (nums .u8 k1).toArray) := fun a => by rw [← hk1]; exact bd_k1 a
  have D2 : Hid (∀ a : Act, Tryd.prog.built 30 ((#[(0, Operand.const (.int .u8 2))] : Array (Nat × Operand)).map fun p => (p.1, a.eval p.2)).toList = some (nums .u8 k2).toArray) := fun a => by rw [← hk2]; exact bd_k2 a
  have D3 : Hid (∀ a : Act, Tryd.prog.built 30 ((#[(0, Operand.const (.int .u8 3))] : Array (Nat × Operand)).map fun p => (p.1, a.eval p.2)).toList = some (nums .u8 k3).toArray) := fun a => by rw [← hk3]; exact bd_k3 a
  clear hT
  go_enter Tryd.func12, Tryd.ntmps12
  go_wp2_with (first | (refine bd_row rfl 30 #[(0, .const (.int .u8 1))] rfl (nums .u8 k1) (D1.out _) ?_) | (refine bd_row rfl 30 #[(0, .const (.int .u8 2))] rfl (nums .u8 k2) (D2.out _) ?_) | (refine bd_row rfl 30 #[(0, .const (.int .u8 3))] rfl (nums .u8 k3) (D3.out _) ?_) | (refine al_zero rfl 30 rfl _ z25 ?_))
  intro g1 w1 l1 B1 G1
  have Z := (Below.refl w.heap.size w).grown G1 (Nat.le_refl _) (by simp)
  clear G1 D1 D2 D3
  go_wp2_with (refine al_zero rfl 30 rfl _ z25 ?_)
  intro g2 w2 l2 B2 G2
  have n12 : g1 ≠ g2 := by have := B1.lt; omega
  have B1 := B1.kept G2 (by simp)
  have hg1 := l1
  have hg2 : w.heap.size ≤ g2 := Nat.le_trans Z.size l2
  have Z := Z.grown G2 Z.size (by simp)
  clear G2
  go_wp2_with (refine al_zero rfl 30 rfl _ z25 ?_)
  intro g3 w3 l3 B3 G3
  have n13 : g1 ≠ g3 := by have := B1.lt; omega
  have n23 : g2 ≠ g3 := by have := B2.lt; omega
  have B1 := B1.kept G3 (by simp)
  have B2 := B2.kept G3 (by simp)
  have hg3 : w.heap.size ≤ g3 := Nat.le_trans Z.size l3
  have Z := Z.grown G3 Z.size (by simp)
  clear G3
  go_wp2_with (refine st_all rfl 30 (.tmp 1) (.tmp 8) rfl g1 30 (nums .u8 (List.replicate 32 0)) (nums .u8 k1) rfl rfl B1 S1.out.2 S1.out.1 (nums_one _ _) ?_)
  intro w4 B1 G4
  have B2 := B2.kept G4 (fun e => n12 (Option.some.inj e).symm)
  have B3 := B3.kept G4 (fun e => n13 (Option.some.inj e).symm)
  have Z := grown_below Z G4 Z.size hg1
  clear G4
  go_wp2_with (refine st_all rfl 30 (.tmp 2) (.tmp 9) rfl g2 30 (nums .u8 (List.replicate 32 0)) (nums .u8 k2) rfl rfl B2 S2.out.2 S2.out.1 (nums_one _ _) ?_)
  intro w5 B2 G5
  have B1 := B1.kept G5 (fun e => n12 (Option.some.inj e))
  have B3 := B3.kept G5 (fun e => n23 (Option.some.inj e).symm)
  have Z := grown_below Z G5 Z.size hg2
  clear G5
  go_wp2_with (refine st_all rfl 30 (.tmp 3) (.tmp 10) rfl g3 30 (nums .u8 (List.replicate 32 0)) (nums .u8 k3) rfl rfl B3 S3.out.2 S3.out.1 (nums_one _ _) ?_)
  intro w6 B3 G6
  have B1 := B1.kept G6 (fun e => n13 (Option.some.inj e))
  have B2 := B2.kept G6 (fun e => n23 (Option.some.inj e))
  have Z := grown_below Z G6 Z.size hg3
  obtain ⟨w7, hw7, Z7, es7⟩ : ∃ w7, w6.alloc (.cells (nums .u8 k1 ++ (nums .u8 k2 ++ nums .u8 k3)).toArray 30) = w7 ∧ Below w6.heap.size w6 w7 ∧ ES (nums .u8) 32 w7 (some ⟨w6.heap.size, 0, none⟩) [k1, k2, k3] := ⟨_, rfl, (Below.refl _ _).alloc (Nat.le_refl _) _, by rw [← hk1, ← hk2, ← hk3]; exact es3 w6⟩
  have Zm := Z.trans (Z7.mono Z.size)
  have KM := made_any (some ⟨w6.heap.size, 0, none⟩) 3 [k1, k2, k3] (by intro x hx; simp at hx; rcases hx with rfl | rfl | rfl; exact H1.out; exact H2.out; exact H3.out) (by simp) w7 (HTb.out.grow Zm) es7
  clear G6 es7
  go_wp2_with (first | (refine ld_mid rfl 30 (.tmp 1) rfl g1 0 rfl (nums .u8 k1) _ B1.all Tryd.underlying30 rfl S1.out.1 ?_) | (refine ld_mid rfl 30 (.tmp 2) rfl g2 0 rfl (nums .u8 k2) _ B2.all Tryd.underlying30 rfl S2.out.1 ?_) | (refine ld_mid rfl 30 (.tmp 3) rfl g3 0 rfl (nums .u8 k3) _ B3.all Tryd.underlying30 rfl S3.out.1 ?_) | (refine bs3_wl rfl (.tmp 12) (.tmp 13) (.tmp 14) rfl (by rw [hk1]; rfl) (by rw [hk2]; rfl) (by rw [hk3]; rfl) ?_; rw [hk1, hk2, hk3, hw7]))
  refine KM.mono ?_
  rintro e w8 ⟨bt, rfl, hTr, Z8⟩
  have B1 := (B1.below Z7 B1.lt).below Z8 (by have := Z7.size; have := B1.lt; omega)
  have B2 := (B2.below Z7 B2.lt).below Z8 (by have := Z7.size; have := B2.lt; omega)
  have B3 := (B3.below Z7 B3.lt).below Z8 (by have := Z7.size; have := B3.lt; omega)
  have Z := Zm.trans (Z8.mono Zm.size)
  obtain ⟨r, hr⟩ : ∃ r, Hid (r = Mk.R nd em [k1, k2, k3]) := ⟨_, rfl⟩
  have HE : Hid (r = nd (nd k1 k2) k3) := by show _ = _; rw [hr.out]; exact R_three k1 k2 k3
  have HR : Hid (Hh r) := by rw [HE.out]; exact nd_hh _ _
  have KR := root_in bt w7.heap.size [k1, k2, k3] (by intro x hx; simp at hx; rcases hx with rfl | rfl | rfl; exact H1.out; exact H2.out; exact H3.out) (by simp) 3 (by simp) w8 hTr
  have e3 : [k1, k2, k3].take 3 = [k1, k2, k3] := rfl
  rw [e3, ← hr.out] at KR
  have SR : Hid ((Tryd.prog.info? 30).map (·.size) = some (nums .u8 r).length ∧ (nums .u8 r).length = (nums .u8 (List.replicate 32 0)).length) := ⟨sH HR.out, by rw [nums_length, nums_length, HR.out.1, List.length_replicate]⟩
  clear hTr Z8 Z7 Zm KM e3 hr hk1 hk2 hk3
  go_wp2_with fail
  refine KR.mono ?_
  rintro e w9 ⟨rfl, Z9⟩
  have B1 := B1.below Z9 B1.lt
  have B2 := B2.below Z9 B2.lt
  have B3 := B3.below Z9 B3.lt
  have Z := Z.trans (Z9.mono Z.size)
  clear Z9 KR
  go_wp2_with (refine al_zero rfl 30 rfl _ z25 ?_)
  intro gr w10 lr BR GR
  have n1r : g1 ≠ gr := by have := B1.lt; omega
  have n2r : g2 ≠ gr := by have := B2.lt; omega
  have n3r : g3 ≠ gr := by have := B3.lt; omega
  have hgr : w.heap.size ≤ gr := Nat.le_trans Z.size lr
  have B1 := B1.kept GR (by simp)
  have B2 := B2.kept GR (by simp)
  have B3 := B3.kept GR (by simp)
  have Z := Z.grown GR Z.size (by simp)
  clear GR
  go_wp2_with (refine st_all rfl 30 (.tmp 6) (.tmp 24) rfl gr 30 (nums .u8 (List.replicate 32 0)) (nums .u8 r) rfl rfl BR SR.out.2 SR.out.1 (nums_one _ _) ?_)
  intro w8 BR G8
  have B1 := B1.kept G8 (fun e => n1r (Option.some.inj e))
  have B2 := B2.kept G8 (fun e => n2r (Option.some.inj e))
  have B3 := B3.kept G8 (fun e => n3r (Option.some.inj e))
  have Z := grown_below Z G8 Z.size hgr
  have eq := fun W => eq_hash HR.out HR.out W
  simp only [decide_true] at eq
  clear G8
  go_wp2_with fail
  obtain ⟨C, hC⟩ : ∃ C : World → Prop, C = fun W => Below w8.heap.size w8 W := ⟨_, rfl⟩
  have FR : Hid (∀ W, C W → W.rangeAt gr 0 (nums .u8 r)) := fun W hW => by rw [hC] at hW; exact (BR.below hW BR.lt).all
  have FA : Hid (∀ W, C W → W.rangeAt g1 0 (nums .u8 k1)) := fun W hW => by rw [hC] at hW; exact (B1.below hW B1.lt).all
  have FB : Hid (∀ W, C W → W.rangeAt g2 0 (nums .u8 k2)) := fun W hW => by rw [hC] at hW; exact (B2.below hW B2.lt).all
  have FC : Hid (∀ W, C W → W.rangeAt g3 0 (nums .u8 k3)) := fun W hW => by rw [hC] at hW; exact (B3.below hW B3.lt).all
  have CK : Hid (∀ W W', C W → Below W.heap.size W W' → C W') := fun W W' h1 h2 => by rw [hC] at h1 ⊢; exact h1.trans (h2.mono h1.size)
  have CA : Hid (∀ W W', C W → Below w8.heap.size W W' → C W') := fun W W' h1 h2 => by rw [hC] at h1 ⊢; exact h1.trans h2
  have CE : Hid (∀ W, C W → Below w8.heap.size w8 W) := fun W h => by rw [hC] at h; exact h
  have C0 : Hid (C { w8 with drawn := w8.drawn + 1 }) := by rw [hC]; exact Below.drew (Below.refl _ _)
  clear hC
  refine region_calm C 11 (by kernel_rfl) ?_
  have hCp : ∀ p : Prop, (∀ W, C W → p) ↔ p := fun p => ⟨fun h => h _ C0.out, fun h _ _ => h⟩
  generalize ({ w8 with drawn := w8.drawn + 1 } : World) = y0 at *
  refine seg 5 [0, 1, 2, 3, 4, 5, 7] rfl (by kernel_rfl) whole_blind (C0.out) (by kernel_rfl) ?_
  change wpQuiet _ _ _ _ (_ :: _ :: _ :: _ :: _ :: _ :: _ :: []) _
  repeat (first
    | go_big_quiet_skip
    | (go_big_quiet_want
       first
       | (refine q_load 30 (.tmp 6) rfl gr 0 rfl (nums .u8 r) _ FR.out Tryd.underlying30 rfl (sH HR.out) ?_
          simp only [Act.put, List.setIfInBounds_toArray, List.set_cons_zero, List.set_cons_succ]
          go_big_quiet_on)
       | (refine q_load 30 (.tmp 1) rfl g1 0 rfl (nums .u8 k1) _ FA.out Tryd.underlying30 rfl (sH H1.out) ?_
          simp only [Act.put, List.setIfInBounds_toArray, List.set_cons_zero, List.set_cons_succ]
          go_big_quiet_on)
       | (refine q_load 30 (.tmp 2) rfl g2 0 rfl (nums .u8 k2) _ FB.out Tryd.underlying30 rfl (sH H2.out) ?_
          simp only [Act.put, List.setIfInBounds_toArray, List.set_cons_zero, List.set_cons_succ]
          go_big_quiet_on)
       | (refine q_load 30 (.tmp 3) rfl g3 0 rfl (nums .u8 k3) _ FC.out Tryd.underlying30 rfl (sH H3.out) ?_
          simp only [Act.put, List.setIfInBounds_toArray, List.set_cons_zero, List.set_cons_succ]
          go_big_quiet_on)
       | (go_big_quiet_op
          go_big_quiet_on)))
  refine wpQuiet_nil ?_
  refine lone_do (i := 6) 4 rfl (by kernel_rfl) rfl (by rfl) ?_
  intro K hK
  refine oper_calls 25 _ _ rfl #[.agg (nums .u8 k1).toArray, .agg (nums .u8 k2).toArray] (by rw [List.map_toArray]; rfl) (enters Tryd.func25 (by kernel_rfl) rfl) (fun v w' => v = .agg (nums .u8 (nd k1 k2)).toArray ∧ Below y0.heap.size y0 w') ((rnode_any k1 k2 H1.out.1 H2.out.1 H1.out.2 H2.out.2 y0).mono (by rintro e w' ⟨rfl, g⟩; exact ⟨_, rfl, rfl, g⟩)) ?_
  rintro v y1 ⟨rfl, Z1⟩
  have C1 : Hid (C y1) := CK.out _ _ C0.out Z1
  clear Z1
  refine hK _ _ (C1.out) ?_
  clear hK K
  simp only [Act.put, List.setIfInBounds_toArray, List.set_cons_zero, List.set_cons_succ]
  refine lone_do (i := 8) 3 rfl (by kernel_rfl) rfl (by rfl) ?_
  intro K hK
  refine oper_calls 25 _ _ rfl #[.agg (nums .u8 (nd k1 k2)).toArray, .agg (nums .u8 k3).toArray] (by rw [List.map_toArray]; rfl) (enters Tryd.func25 (by kernel_rfl) rfl) (fun v w' => v = .agg (nums .u8 r).toArray ∧ Below y1.heap.size y1 w') (by have K := rnode_any (nd k1 k2) k3 (nd_hh _ _).1 H3.out.1 (nd_hh _ _).2 H3.out.2 y1; rw [HE.out]; exact K.mono (by rintro e w' ⟨rfl, g⟩; exact ⟨_, rfl, rfl, g⟩)) ?_
  rintro v y2 ⟨rfl, Z2⟩
  have C2 : Hid (C y2) := CK.out _ _ C1.out Z2
  clear Z2
  refine hK _ _ (C2.out) ?_
  clear hK K
  simp only [Act.put, List.setIfInBounds_toArray, List.set_cons_zero, List.set_cons_succ]
  refine lone_calm (i := 9) 2 rfl (by kernel_rfl) rfl rfl (C2.out) ?_
  repeat (first
    | go_big_quiet_skip
    | (go_big_quiet_want
       first
       | (go_big_quiet_op
          go_big_quiet_on)))
  refine wpQuiet_nil ?_
  refine lone_calm (i := 10) 1 rfl (by kernel_rfl) rfl rfl (C2.out) ?_
  repeat (first
    | go_big_quiet_skip
    | (go_big_quiet_want
       first
       | (go_big_quiet_op
          go_big_quiet_on)))
  refine wpQuiet_nil ?_
  refine lone_calm (i := 11) 0 rfl (by kernel_rfl) rfl rfl (C2.out) ?_
  repeat (first
    | go_big_quiet_skip
    | (go_big_quiet_want
       first
       | (go_big_quiet_op
          go_big_quiet_on)))
  refine wpQuiet_nil ?_
  refine anyC_done (by kernel_rfl) ⟨rfl, ?_⟩
  have ZZ := Z.trans ((CE.out _ C2.out).mono Z.size)
  clear C0 C1 C2 CK CA CE FR FA FB FC hCp
  go_wp2
  go_ret
  exact ⟨rfl, ZZ⟩
#print axioms known_any
end Go.Proofs.YtfkiciejipcgkaaDoor
