/-
  (*merkle.Tree).keep: the roots of the halves that the last leaf makes whole.
-/
import Derived.Test.YtlefdnjokppibaaGreatDoorVG44x
import Derived.Test.YtlefdnjokppibaaGreatDoorVEor
namespace Go.Proofs.YtlefdnjokppibaaGreatDoor.Mer
open Go Go.RowKit Go.Maps Sh
section
variable {o : Oper} {a : Act} {w : World} {K : Act → World → Prop} {Q : Exit → Act → World → Prop}
theorem oper_upd (t : TypeId) (x y z : Operand) (ho : o.op = .mapUpdate t x y z) (mb : Nat) (key val : Value) (hx : a.eval x = .map (some mb)) (hy : a.eval y = key) (hz : a.eval z = val) (w' : World) (hr : (Instr.mapUpdate t (.map (some mb)) key val).run Tryz.prog w = .ok () w') (hK : K (a.put o.dst undef) w') : Oper.wp Tryz.prog o a w K Q := by
  unfold Oper.wp
  simp [execOp, ho, hx, hy, hz, hr, Result.andThen]
  exact hK
end
/-- all blocks but two are as they were. -/
structure Kp (a b : Nat) (w w' : World) : Prop where
  os : w'.os = w.os
  tape : w'.tape = w.tape
  output : w'.output = w.output
  size : w.heap.size ≤ w'.heap.size
  block : ∀ k, k < w.heap.size → k ≠ a → k ≠ b → w'.heap[k]? = w.heap[k]?
theorem Kp.refl (a b : Nat) (w : World) : Kp a b w w := ⟨rfl, rfl, rfl, Nat.le_refl _, fun _ _ _ _ => rfl⟩
theorem Kp.below {a b : Nat} {w w' w'' : World} (h : Kp a b w w') (g : Below w'.heap.size w' w'') : Kp a b w w'' :=
  ⟨g.os.trans h.os, g.tape.trans h.tape, g.output.trans h.output, Nat.le_trans h.size g.size, fun k hk ha hb => (g.block k (Nat.lt_of_lt_of_le hk h.size)).trans (h.block k hk ha hb)⟩
theorem Kp.grown {a b c : Nat} {w w' w'' : World} (h : Kp a b w w') (g : w'.grownBy w'' (some c)) (hc : c = a ∨ c = b) : Kp a b w w'' :=
  ⟨g.os.trans h.os, g.tape.trans h.tape, g.output.trans h.output, Nat.le_trans h.size g.size, fun k hk ha hb => (g.block k (Nat.lt_of_lt_of_le hk h.size) (by intro e; injection e with e; rcases hc with rfl | rfl <;> contradiction)).trans (h.block k hk ha hb)⟩
theorem Kp.blk {a b c : Nat} {w w' : World} {t : TypeId} {vs : List Value} (h : Kp a b w w') (hb : Sh.Blk w c t vs) (h1 : c ≠ a) (h2 : c ≠ b) : Sh.Blk w' c t vs := by
  unfold Sh.Blk; rw [h.block c hb.lt h1 h2]; exact hb
theorem Kp.base {a b B : Nat} {w0 w w' : World} (z : Below B w0 w) (h : Kp a b w w') (hB : B ≤ w.heap.size) (h1 : B ≤ a) (h2 : B ≤ b) : Below B w0 w' :=
  ⟨h.os.trans z.os, h.tape.trans z.tape, h.output.trans z.output, Nat.le_trans z.size h.size, fun k hk => (h.block k (by omega) (by omega) (by omega)).trans (z.block k hk)⟩
theorem Kp.range {a b c o : Nat} {w w' : World} {cs : List Value} (h : Kp a b w w') (r : w.rangeAt c o cs) (h1 : c ≠ a) (h2 : c ≠ b) : w'.rangeAt c o cs := fun j v hj => by
  have e := r j v hj
  have hb := h.block c (World.block_lt_of_cell? w ⟨c, o + j, none⟩ e) h1 h2
  rw [← e]
  exact World.cell?_of_block (w := w) (a := ⟨c, o + j, none⟩) hb
/-- a map that bears the roots that end ahead of the last leaf, and those that end there up to a level. -/
def MOJ (D : DataW Value) (L : List (List Nat)) (j : Nat) : Prop := ∀ l o, 1 ≤ l → (o + 1) * 2 ^ l ≤ L.length → ((o + 1) * 2 ^ l = L.length → l ≤ j) → Bears D l o (Mk.R nd em (Mk.sg L (l, o)))
theorem MOK.start {D : DataW Value} {L : List (List Nat)} {h : List Nat} (m : MOK D L) : MOJ D (L ++ [h]) 0 := fun l o h1 h2 h3 => by
  rw [List.length_append, List.length_singleton] at h2 h3
  have h4 : (o + 1) * 2 ^ l ≤ L.length := by
    rcases Nat.lt_or_eq_of_le h2 with h | h
    · omega
    · have := h3 h; omega
  rw [sg_app L [h] l o h4]
  exact m l o h1 h4
theorem MOJ.last {D : DataW Value} {L : List (List Nat)} {c u : Nat} (m : MOJ D L c) (hN : L.length = (2 * u + 1) * 2 ^ c) : MOK D L := fun l o h1 h2 => by
  refine m l o h1 h2 fun e => ?_
  refine Nat.le_of_not_lt fun hc => ?_
  rw [hN] at e
  have e1 := Mk.pow_split (Nat.le_of_lt hc)
  have e2 := Mk.pow_even (k := l - c) (by omega)
  rw [e1, e2, Nat.mul_comm (2 ^ c), ← Nat.mul_assoc] at e
  have e3 := Nat.eq_of_mul_eq_mul_right (Mk.pow_pos2 c) e
  rw [Nat.mul_left_comm] at e3
  omega
theorem MOJ.step {D : DataW Value} {L : List (List Nat)} {j q3 : Nat} {kl : Lit} (m : MOJ D L j) (hD : IsMap D) (hN : L.length = (q3 + 1) * 2 ^ (j + 1)) (hk : keyOf Tryz.prog 144 (kv (j + 1) q3) = some kl) :
    MOJ (D.put kl (.held (.agg (nums .u8 (Mk.R nd em (Mk.sg L (j + 1, q3)))).toArray))) L (j + 1) := fun l o h1 h2 h3 => by
  by_cases e : l = j + 1 ∧ o = q3
  · obtain ⟨rfl, rfl⟩ := e
    exact Bears.put_same hD hk
  · refine Bears.put_other (m l o h1 h2 fun e2 => ?_) hk e
    have := h3 e2
    refine Nat.le_of_lt_succ (Nat.lt_of_le_of_ne this fun e3 => e ⟨e3, ?_⟩)
    subst e3
    rw [hN] at e2
    have := Nat.eq_of_mul_eq_mul_right (Mk.pow_pos2 _) e2
    omega
/-- the map of a tree. -/
def MapP (w : World) (base : Nat) (m : Option Nat) (L : List (List Nat)) : Prop := (m = none ∧ L = []) ∨ ∃ mb n D, m = some mb ∧ base ≤ mb ∧ w.ownsMap Tryz.prog 144 hR mb n D ∧ n ≤ 64 * L.length ∧ IsMap D ∧ MOK D L
theorem tb_base {B : Nat} {w w' : World} (h : Tb w) (g : Below B w w') (hB : 1 < B) : Tb w' := fun j hj => (g.cell (p := ⟨1, j, none⟩) hB).trans (h j hj)
set_option maxHeartbeats 2000000 in
set_option maxRecDepth 8000 in
theorem keep_nil (bt base : Nat) (h : List Nat) (hh : Hh h) (a : Option Addr) (cap : Nat) (w : World) (hT : Tb w) (hb : base ≤ bt) (hbw : base ≤ w.heap.size) (h1b : 1 < base) (BT : Sh.Blk w bt 125 [.slice a 1 cap, .map none]) (hO : OwE (nums .u8) 23 32 w base (.slice a 1 cap) [h]) :
    Calls Tryz.prog 78 #[.pointer (some ⟨bt, 0, none⟩), .agg (nums .u8 h).toArray] w fun e w' => e = .returned (.tuple #[]) ∧ ∃ m, Sh.Blk w' bt 125 [.slice a 1 cap, .map m] ∧ OwE (nums .u8) 23 32 w' base (.slice a 1 cap) [h] ∧ MapP w' base m [h] ∧ Below base w w' := by
  have HH : Hid (Hh h) := hh
  have HO : Hid (OwE (nums .u8) 23 32 w base (.slice a 1 cap) [h]) := hO
  obtain ⟨N, hN⟩ : ∃ N : Nat, Hid (N = 1) := ⟨_, rfl⟩
  have BT0 := BT
  rw [← hN.out] at BT ⊢
  have HTb : Hid (Tb w) := hT
  clear hh hO hT
  go_enter Tryz.func78, Tryz.ntmps78
  go_wp2_with (refine al_box rfl 23 (.tmp 1) rfl (nums .u8 h) rfl ?_)
  intro gl w1 l1 BL G1
  have Z := (Below.refl w.heap.size w).grown G1 (Nat.le_refl _) (by simp)
  have BT := BT.kept G1 (by simp)
  have c1 : w1.cell? ⟨bt, 1, none⟩ = some (.map none) := by rw [BT.cell]; rfl
  clear G1
  have mn := fun W => run_eql_map_nil (P := Tryz.prog) W 123 _ _ none Tryz.underlying123
  simp only [Option.isNone_none] at mn
  have mm : ∀ W : World, (Instr.makeMap 123 none).run Tryz.prog W = .ok (.map (some W.heap.size)) (W.alloc (.map #[] 0)) := fun _ => rfl
  have fz := (BT.alloc (.map #[] 0)).frozen 1
  have cz : (w1.alloc (.map #[] 0)).cell? ⟨bt, 1, none⟩ = some (.map none) := by rw [(BT.alloc (.map #[] 0)).cell]; rfl
  go_wp2_with fail
  obtain ⟨w2, HW, H2⟩ : ∃ w2, (w1.alloc (.map #[] 0)).setCell ⟨bt, 1, none⟩ (.map (some w1.heap.size)) = w2 ∧ Hid (Sh.Blk w2 bt 125 [.slice a N cap, .map (some w1.heap.size)] ∧ (w1.alloc (.map #[] 0)).grownBy w2 (some bt)) := ⟨_, rfl, (BT.alloc (.map #[] 0)).set 1 (.map (some w1.heap.size)), Sh.grown_setCell _ _ _⟩
  rw [HW]
  have OM : Hid (w2.ownsMap Tryz.prog 144 hR w1.heap.size 0 (.map [])) := (World.ownsMap_made w1 Tryz.prog 144 hR).kept H2.out.2 (by intro e; injection e with e; have := BT.lt; omega)
  have hgl : gl ≠ bt := by have := BT.lt; intro e; subst e; have e1 := BL; unfold Sh.Blk at e1; have e2 := BT; unfold Sh.Blk at e2; rw [e1] at e2; simp at e2
  have BL := (BL.alloc (.map #[] 0)).kept H2.out.2 (fun e => hgl (Option.some.inj e))
  have BT := H2.out.1
  have G12 := H2.out.2
  have ZB : Below base w w2 := by
    have z1 := (Z.mono hbw).alloc (by have := Z.size; omega) (.map #[] 0)
    exact grown_below z1 G12 (Nat.le_trans hbw z1.size) hb
  have HO2 : Hid (OwE (nums .u8) 23 32 w2 base (.slice a 1 cap) [h]) := by
    refine ((HO.out.grow Z).alloc (.map #[] 0)).kept G12 fun k hk e => ?_
    injection e with e
    subst e
    obtain ⟨g, cp, cur, hv, _, hc, _⟩ := (HO.out.1.2.resolve_left (by rintro ⟨_, h⟩; simp at h))
    rw [hv] at hk
    injection hk with hk
    subst hk
    have e1 := BT0
    unfold Sh.Blk at e1
    rw [hc] at e1
    simp at e1
  have HTb2 : Hid (Tb w2) := tb_base HTb.out ZB h1b
  have hmb : Hid (base ≤ w1.heap.size) := by show _ ≤ _; have := Z.size; omega
  obtain ⟨mb, hmbe⟩ : ∃ mb, w1.heap.size = mb := ⟨_, rfl⟩
  rw [hmbe] at OM BT hmb
  clear HW H2 G12 hgl c1 mn mm Z hmbe fz cz
  obtain ⟨C, hC⟩ : ∃ C : World → Prop, C = fun W => Below w2.heap.size w2 W := ⟨_, rfl⟩
  have FT : Hid (∀ W, C W → W.cell? ⟨bt, 0, none⟩ = some (.slice a N cap)) := fun W hW => by rw [hC] at hW; exact by rw [(BT.below hW BT.lt).cell]; rfl
  have FL : Hid (∀ W, C W → W.rangeAt gl 0 (nums .u8 h)) := fun W hW => by rw [hC] at hW; exact (BL.below hW BL.lt).all
  have CK : Hid (∀ W W', C W → Below W.heap.size W W' → C W') := fun W W' h1 h2 => by rw [hC] at h1 ⊢; exact h1.trans (h2.mono h1.size)
  have CA : Hid (∀ W W', C W → Below w2.heap.size W W' → C W') := fun W W' h1 h2 => by rw [hC] at h1 ⊢; exact h1.trans h2
  have CE : Hid (∀ W, C W → Below w2.heap.size w2 W) := fun W h => by rw [hC] at h; exact h
  have C0 : Hid (C { w2 with drawn := w2.drawn + 1 }) := by rw [hC]; exact Below.drew (Below.refl _ _)
  clear hC
  refine Gr.region_grow [8] (by kernel_rfl) ?_
  have hCp : ∀ p : Prop, (∀ W, C W → p) ↔ p := fun p => ⟨fun h => h _ C0.out, fun h _ _ => h⟩
  generalize ({ w2 with drawn := w2.drawn + 1 } : World) = y0 at *
  refine Gr.segR 4 [0, 1, 2, 3, 5] rfl (by kernel_rfl) whole_blind CK.out (C0.out) (by kernel_rfl) ?_
  change wpQuiet _ _ _ _ (_ :: _ :: _ :: _ :: _ :: []) _
  repeat (first
    | go_big_quiet_skip
    | (go_big_quiet_want
       first
       | (refine q_slc (.tmp 19) rfl bt 0 rfl a N cap FT.out ?_
          simp only [Act.put, List.setIfInBounds_toArray, List.set_cons_zero, List.set_cons_succ]
          go_big_quiet_on)
       | (refine q_load 23 (.tmp 3) rfl gl 0 rfl (nums .u8 h) _ FL.out Tryz.underlying23 rfl (sH HH.out) ?_
          simp only [Act.put, List.setIfInBounds_toArray, List.set_cons_zero, List.set_cons_succ]
          go_big_quiet_on)
       | (go_big_quiet_op
          go_big_quiet_on)))
  refine wpQuiet_nil ?_
  refine Gr.lenR (i := 4) 3 rfl (by kernel_rfl) whole_blind CK.out C0.out rfl (by kernel_rfl) (by rfl) (.tmp 20) 51 rfl 23 Tryz.underlying51 a N cap rfl ?_
  simp only [Act.put, List.setIfInBounds_toArray, List.set_cons_zero, List.set_cons_succ]
  refine Gr.newR (i := 6) 2 rfl (by kernel_rfl) rfl rfl 23 rfl _ Sh.z25 ?_
  intro g5 y1 Gn lx BX
  simp only [Act.put, List.setIfInBounds_toArray, List.set_cons_zero, List.set_cons_succ]
  refine Gr.loneR (C := Gr.Grow y1) (i := 7) 1 rfl (by kernel_rfl) rfl rfl (fun _ _ a b => Gr.Grow.trans a b) (Gr.Grow.refl _) ?_
  repeat (first
    | go_big_quiet_skip
    | (go_big_quiet_want
       first
       | (go_big_quiet_op
          go_big_quiet_on)))
  refine wpQuiet_nil ?_
  refine Gr.storeR (i := 8) 0 rfl (by kernel_rfl) (by simp) rfl rfl 23 (.tmp 5) (.tmp 22) rfl g5 23 _ (nums .u8 h) rfl rfl BX (by rw [nums_length, nums_length, HH.out.1, List.length_replicate]) (sH HH.out) (nums_one _ _) ?_
  intro y2 BX Gs
  simp only [Act.put]
  refine Gr.doneR (by kernel_rfl) ?_
  intro w3 Ge
  have E0 := CE.out _ C0.out
  have hgx : w2.heap.size ≤ g5 := Nat.le_trans E0.size lx
  have B5 : Sh.Blk w3 g5 23 (nums .u8 h) := BX.grow Ge
  have Z3 : Below w2.heap.size w2 w3 := by
    have x1 := Gr.Grow.below E0 E0.size Gn
    have x2 := Gr.Chg.below x1 Gs x1.size hgx
    exact Gr.Grow.below x2 x2.size Ge
  clear C0 CK CA CE FT FL hCp E0 Gn Gs Ge lx BX
  have BT := BT.below Z3 BT.lt
  have HTb3 : Hid (Tb w3) := HTb2.out.grow Z3
  have KT := tz_any 1 (by decide) (by decide) w3 HTb3.out
  have e1 : Lib.ctz 64 1 = 0 := by decide
  rw [e1] at KT
  have ZB3 := ZB.trans (Z3.mono (by have := ZB.size; omega))
  have HE : Hid (∃ m, Sh.Blk w3 bt 125 [.slice a N cap, .map m] ∧ OwE (nums .u8) 23 32 w3 base (.slice a 1 cap) [h] ∧ MapP w3 base m [h] ∧ Below base w w3) :=
    ⟨some mb, BT, HO2.out.grow Z3, .inr ⟨mb, 0, _, rfl, hmb.out, OM.out.kept (below_grown Z3) (by simp), by simp, ⟨[], rfl⟩, fun l o h1 h2 => by
      have := Mk.pow_even (k := l) (by omega)
      have := Mk.pow_pos2 (l - 1)
      have h3 := Nat.le_mul_of_pos_left (2 ^ l) (show 0 < o + 1 by omega)
      simp at h2
      omega⟩, ZB3⟩
  have hN1 : N = 1 := hN.out
  subst hN1
  clear B5 Z3 OM HO2 BT ZB ZB3 BL
  go_wp2_with fail
  refine KT.mono ?_
  rintro e w4 ⟨rfl, hw4⟩
  rw [hw4]
  clear hw4 w4 KT
  go_wp2
  go_loopw [26] (fun iv wr => iv = .int .i64 0 ∧ wr = w3) (fun _ _ => 0)
  case atStart => exact ⟨rfl, rfl⟩
  case round =>
    obtain ⟨rfl, rfl⟩ := hrel
    go_wp2
    (try simp only [Exit.inBlock, Exit.then])
    exact bodyPost_end (results_none rfl _ _ _) rfl ⟨rfl, HE.out⟩
set_option maxHeartbeats 4000000 in
set_option maxRecDepth 8000 in
theorem keep_some (bt base : Nat) (L : List (List Nat)) (hL : Hl L) (h : List Nat) (hh : Hh h) (N : Nat) (hN : Hid (N = L.length + 1)) (hN2 : N ≤ 2000000) (a : Option Addr) (cap : Nat) (w : World) (hT : Tb w) (hb : base ≤ bt) (hbw : base ≤ w.heap.size) (mb n0 : Nat) (D0 : DataW Value) (BT : Sh.Blk w bt 125 [.slice a N cap, .map (some mb)])
    (hO : OwE (nums .u8) 23 32 w base (.slice a N cap) (L ++ [h])) (hmb : base ≤ mb) (hM : w.ownsMap Tryz.prog 144 hR mb n0 D0) (hn0 : n0 ≤ 64 * L.length) (hD0 : IsMap D0) (hK : MOK D0 L) :
    Calls Tryz.prog 78 #[.pointer (some ⟨bt, 0, none⟩), .agg (nums .u8 h).toArray] w fun e w' => e = .returned (.tuple #[]) ∧ ∃ m, Sh.Blk w' bt 125 [.slice a N cap, .map m] ∧ OwE (nums .u8) 23 32 w' base (.slice a N cap) (L ++ [h]) ∧ MapP w' base m (L ++ [h]) ∧ Below base w w' := by
  have HH : Hid (Hh h) := hh
  have HO : Hid (OwE (nums .u8) 23 32 w base (.slice a N cap) (L ++ [h])) := hO
  obtain ⟨L', hL'⟩ : ∃ L', Hid (L' = L ++ [h]) := ⟨_, rfl⟩
  have HNl : Hid (L'.length = N) := by show _ = _; rw [hL'.out, hN.out, List.length_append]; rfl
  have HLl : Hid (Hl L') := by show Hl L'; rw [hL'.out]; exact hL.app (fun x hx => by rw [List.mem_singleton.1 hx]; exact hh)
  have HJ0 : Hid (MOJ D0 L' 0) := by show MOJ _ _ _; rw [hL'.out]; exact hK.start
  obtain ⟨c, u, hcu, hctz, hc64⟩ := odd_of N (by rw [hN.out]; omega) (by omega)
  have HCU : Hid (N = (2 * u + 1) * 2 ^ c) := hcu
  have hc40 : c ≤ 40 := by
    refine Nat.le_of_not_lt fun hc => ?_
    have h2 := Nat.pow_le_pow_right (n := 2) (by decide) (Nat.le_of_lt hc)
    have h3 := Nat.le_mul_of_pos_left (2 ^ c) (show 0 < 2 * u + 1 by omega)
    omega
  have HTb : Hid (Tb w) := hT
  have HM0 : Hid (w.ownsMap Tryz.prog 144 hR mb n0 D0 ∧ n0 ≤ 64 * L.length ∧ IsMap D0) := ⟨hM, hn0, hD0⟩
  have hmbw := hM.lt
  have hbtw := BT.lt
  have HROW : Hid (∀ i x, L'[i]? = some x → ∃ b off, a = some ⟨b, off, none⟩ ∧ w.rangeAt b (off + i * 32) (nums .u8 x) ∧ b < w.heap.size ∧ b ≠ mb) := by
    intro i x hx
    rw [hL'.out] at hx
    obtain ⟨a', cap', e0, _, _, es, hblk⟩ := hO.es
    injection e0 with e0 _ _
    subst e0
    obtain ⟨b, off, e1, r⟩ := es.at hx
    refine ⟨b, off, e1, r, (hblk _ e1).2, ?_⟩
    rintro rfl
    obtain ⟨es', ck, e2, _⟩ := hM
    have hx2 := (Hl.app hL (M := [h]) (fun x hx => by rw [List.mem_singleton.1 hx]; exact hh)).at hx
    have hr := r 0 (.int .u8 ((x.getD 0 0 : Nat) : Int)) (by rw [nums_get .u8 x 0 (by rw [hx2.1]; decide)])
    simp [World.cell?, e2] at hr
  have hbm : bt ≠ mb := by
    rintro rfl
    obtain ⟨es, ck, e1, _⟩ := hM
    have e2 := BT
    unfold Sh.Blk at e2
    rw [e1] at e2
    cases e2
  rw [← hL'.out] at HO ⊢
  clear hh hO hT hM hK hcu hL
  go_enter Tryz.func78, Tryz.ntmps78
  go_wp2_with (refine al_box rfl 23 (.tmp 1) rfl (nums .u8 h) rfl ?_)
  intro gl w2 l1 BL G1
  have Z := (Below.refl w.heap.size w).grown G1 (Nat.le_refl _) (by simp)
  have BT := BT.kept G1 (by simp)
  have c1 : w2.cell? ⟨bt, 1, none⟩ = some (.map (some mb)) := by rw [BT.cell]; rfl
  have mn := fun W => run_eql_map_nil (P := Tryz.prog) W 123 _ _ (some mb) Tryz.underlying123
  simp only [Option.isNone_some] at mn
  clear G1
  go_wp2_with fail
  clear mn c1
  obtain ⟨C, hC⟩ : ∃ C : World → Prop, C = fun W => Below w2.heap.size w2 W := ⟨_, rfl⟩
  have FT : Hid (∀ W, C W → W.cell? ⟨bt, 0, none⟩ = some (.slice a N cap)) := fun W hW => by rw [hC] at hW; exact by rw [(BT.below hW BT.lt).cell]; rfl
  have FL : Hid (∀ W, C W → W.rangeAt gl 0 (nums .u8 h)) := fun W hW => by rw [hC] at hW; exact (BL.below hW BL.lt).all
  have CK : Hid (∀ W W', C W → Below W.heap.size W W' → C W') := fun W W' h1 h2 => by rw [hC] at h1 ⊢; exact h1.trans (h2.mono h1.size)
  have CA : Hid (∀ W W', C W → Below w2.heap.size W W' → C W') := fun W W' h1 h2 => by rw [hC] at h1 ⊢; exact h1.trans h2
  have CE : Hid (∀ W, C W → Below w2.heap.size w2 W) := fun W h => by rw [hC] at h; exact h
  have C0 : Hid (C { w2 with drawn := w2.drawn + 1 }) := by rw [hC]; exact Below.drew (Below.refl _ _)
  clear hC
  refine Gr.region_grow [8] (by kernel_rfl) ?_
  have hCp : ∀ p : Prop, (∀ W, C W → p) ↔ p := fun p => ⟨fun h => h _ C0.out, fun h _ _ => h⟩
  generalize ({ w2 with drawn := w2.drawn + 1 } : World) = y0 at *
  refine Gr.segR 4 [0, 1, 2, 3, 5] rfl (by kernel_rfl) whole_blind CK.out (C0.out) (by kernel_rfl) ?_
  change wpQuiet _ _ _ _ (_ :: _ :: _ :: _ :: _ :: []) _
  repeat (first
    | go_big_quiet_skip
    | (go_big_quiet_want
       first
       | (refine q_slc (.tmp 19) rfl bt 0 rfl a N cap FT.out ?_
          simp only [Act.put, List.setIfInBounds_toArray, List.set_cons_zero, List.set_cons_succ]
          go_big_quiet_on)
       | (refine q_load 23 (.tmp 3) rfl gl 0 rfl (nums .u8 h) _ FL.out Tryz.underlying23 rfl (sH HH.out) ?_
          simp only [Act.put, List.setIfInBounds_toArray, List.set_cons_zero, List.set_cons_succ]
          go_big_quiet_on)
       | (go_big_quiet_op
          go_big_quiet_on)))
  refine wpQuiet_nil ?_
  refine Gr.lenR (i := 4) 3 rfl (by kernel_rfl) whole_blind CK.out C0.out rfl (by kernel_rfl) (by rfl) (.tmp 20) 51 rfl 23 Tryz.underlying51 a N cap rfl ?_
  simp only [Act.put, List.setIfInBounds_toArray, List.set_cons_zero, List.set_cons_succ]
  refine Gr.newR (i := 6) 2 rfl (by kernel_rfl) rfl rfl 23 rfl _ Sh.z25 ?_
  intro g5 y1 Gn lx BX
  simp only [Act.put, List.setIfInBounds_toArray, List.set_cons_zero, List.set_cons_succ]
  refine Gr.loneR (C := Gr.Grow y1) (i := 7) 1 rfl (by kernel_rfl) rfl rfl (fun _ _ a b => Gr.Grow.trans a b) (Gr.Grow.refl _) ?_
  repeat (first
    | go_big_quiet_skip
    | (go_big_quiet_want
       first
       | (go_big_quiet_op
          go_big_quiet_on)))
  refine wpQuiet_nil ?_
  refine Gr.storeR (i := 8) 0 rfl (by kernel_rfl) (by simp) rfl rfl 23 (.tmp 5) (.tmp 22) rfl g5 23 _ (nums .u8 h) rfl rfl BX (by rw [nums_length, nums_length, HH.out.1, List.length_replicate]) (sH HH.out) (nums_one _ _) ?_
  intro y2 BX Gs
  simp only [Act.put]
  refine Gr.doneR (by kernel_rfl) ?_
  intro w3 Ge
  have E0 := CE.out _ C0.out
  have hgx : w2.heap.size ≤ g5 := Nat.le_trans E0.size lx
  have B5 : Sh.Blk w3 g5 23 (nums .u8 h) := BX.grow Ge
  have Z3 : Below w2.heap.size w2 w3 := by
    have x1 := Gr.Grow.below E0 E0.size Gn
    have x2 := Gr.Chg.below x1 Gs x1.size hgx
    exact Gr.Grow.below x2 x2.size Ge
  clear C0 CK CA CE FT FL hCp E0 Gn Gs Ge lx BX
  have BT := BT.below Z3 BT.lt
  have hz2 := Z.size
  have Z := Z.trans (Z3.mono Z.size)
  have hbw3 : base ≤ w3.heap.size := Nat.le_trans hbw Z.size
  have hw3 : w.heap.size ≤ w3.heap.size := Z.size
  have HTb3 : Hid (Tb w3) := HTb.out.grow Z
  have KT := tz_any N (by have := hN.out; omega) (by omega) w3 HTb3.out
  rw [hctz] at KT
  have hg5 : w.heap.size ≤ g5 := by omega
  have hwrN : IntKind.u64.wrap (N : Int) = (N : Int) := by rw [IntKind.wrap_u64]; omega
  go_wp2_with fail
  refine KT.mono ?_
  rintro e w4 ⟨rfl, hw4⟩
  rw [hw4]
  clear hw4 w4 KT
  have HI0 : Hid (∃ n D, Sh.Blk w3 g5 23 (nums .u8 (Mk.R nd em (Mk.sg L' (0, (2 * u + 1) * 2 ^ (c - 0) - 1)))) ∧ w3.ownsMap Tryz.prog 144 hR mb n D ∧ n ≤ 64 * L.length + 0 ∧ IsMap D ∧ MOJ D L' 0 ∧ Kp g5 mb w3 w3) := by
    refine ⟨n0, D0, ?_, HM0.out.1.kept (below_grown Z) (by simp), by have := HM0.out.2.1; omega, HM0.out.2.2, HJ0.out, Kp.refl _ _ _⟩
    rw [Nat.sub_zero, ← HCU.out, sg_leaf L' (N - 1) h (by rw [hL'.out, hN.out]; simp)]
    exact B5
  clear B5 Z3 BL
  go_wp2
  go_loopw [26] (fun iv wr => ∃ j : Nat, j ≤ c ∧ iv = .int .i64 (j : Int) ∧ Hid (∃ n D, Sh.Blk wr g5 23 (nums .u8 (Mk.R nd em (Mk.sg L' (j, (2 * u + 1) * 2 ^ (c - j) - 1)))) ∧ wr.ownsMap Tryz.prog 144 hR mb n D ∧ n ≤ 64 * L.length + j ∧ IsMap D ∧ MOJ D L' j ∧ Kp g5 mb w3 wr)) (fun iv _ => c - (intOf iv).toNat)
  case atStart => exact ⟨0, Nat.zero_le _, rfl, HI0⟩
  case round =>
    clear HI0
    obtain ⟨j, hj, rfl, HI⟩ := hrel
    obtain ⟨n, D, B5, OM, hn, hD, HJ, KP⟩ := HI.out
    have hbg : bt ≠ g5 := by omega
    have hmg : mb ≠ g5 := by omega
    have BTr := KP.blk BT hbg hbm
    by_cases hlt : j < c
    · obtain ⟨q3, hq3⟩ : ∃ q3 : Nat, Hid ((2 * u + 1) * 2 ^ (c - (j + 1)) = q3 + 1) := ⟨(2 * u + 1) * 2 ^ (c - (j + 1)) - 1, by have := Nat.mul_pos (show 0 < 2 * u + 1 by omega) (Mk.pow_pos2 (c - (j + 1))); show _ = _; omega⟩
      obtain ⟨q, hq⟩ : ∃ q : Nat, Hid (q = 2 * q3 + 2) := ⟨_, rfl⟩
      obtain ⟨q2, hq2⟩ : ∃ q2 : Nat, Hid (q2 = 2 * q3) := ⟨_, rfl⟩
      have hqe : Hid ((2 * u + 1) * 2 ^ (c - j) = q) := by
        show _ = _
        rw [hq.out, Mk.pow_even (k := c - j) (by omega), Nat.mul_left_comm, show c - j - 1 = c - (j + 1) by omega, hq3.out]
        omega
      have hNq : Hid (N = q * 2 ^ j ∧ N = (q3 + 1) * 2 ^ (j + 1)) := by
        refine ⟨?_, ?_⟩
        · rw [← hqe.out, HCU.out, Nat.mul_assoc, ← Nat.pow_add]; congr 2; omega
        · rw [← hq3.out, HCU.out, Nat.mul_assoc, ← Nat.pow_add]; congr 2; omega
      have hqN : q ≤ N := by rw [hNq.out.1]; exact Nat.le_mul_of_pos_right _ (Mk.pow_pos2 j)
      have hq1 : q2 ≤ 2000000 := by have := hq.out; have := hq2.out; omega
      have hq3b : q3 ≤ 2000000 := by have := hq2.out; omega
      obtain ⟨x, hx⟩ : ∃ x, Hid (x = Mk.R nd em (Mk.sg L' (j, q2))) := ⟨_, rfl⟩
      obtain ⟨y, hy⟩ : ∃ y, Hid (y = Mk.R nd em (Mk.sg L' (j, q - 1))) := ⟨_, rfl⟩
      have HX : Hid (Hh x) := by show Hh x; rw [hx.out]; exact R_hh ((HLl.out.drop _).take _)
      have HY : Hid (Hh y) := by show Hh y; rw [hy.out]; exact R_hh ((HLl.out.drop _).take _)
      have HXY : Hid (Mk.R nd em (Mk.sg L' (j + 1, q3)) = nd x y) := by
        show _ = _
        rw [sg_two L' j q3 (by rw [HNl.out, ← hNq.out.2]; exact Nat.le_refl _), hx.out, hy.out, hq2.out, show q - 1 = 2 * q3 + 1 by have := hq.out; omega]
      have B5 : Sh.Blk wr g5 23 (nums .u8 y) := by rw [hqe.out, ← hy.out] at B5; exact B5
      have HWl : Wh wr bt j q2 x := by
        by_cases hj0 : j = 0
        · have e0 : q2 < N := by have := hq.out; have := hq2.out; omega
          obtain ⟨xx, hxx⟩ : ∃ xx, L'[q2]? = some xx := ⟨_, List.getElem?_eq_getElem (by rw [HNl.out]; exact e0)⟩
          obtain ⟨b, off, e1, r, hb1, hb2⟩ := HROW.out q2 xx hxx
          have r := KP.range (range_below r Z) (show b ≠ g5 by omega) hb2
          have ex : x = xx := by rw [hx.out, hj0]; exact sg_leaf L' q2 xx hxx
          rw [ex]
          rw [e1] at BTr
          exact .inl ⟨hj0, b, off, N, cap, some mb, BTr, e0, r⟩
        · refine .inr ⟨by omega, _, mb, n, D, BTr, OM, ?_⟩
          rw [hx.out]
          have e2 : (q2 + 1) * 2 ^ j + 2 ^ j = N := by rw [hNq.out.1, ← Nat.succ_mul]; congr 1; have := hq.out; have := hq2.out; omega
          have e3 := Mk.pow_pos2 j
          exact HJ j q2 (by omega) (by rw [HNl.out]; omega) (fun e => by rw [HNl.out] at e; omega)
      obtain ⟨kl, hkl⟩ := key_some (j + 1) q3 (by omega) (by omega)
      have HK : Hid (keyOf Tryz.prog 144 (kv (j + 1) q3) = some kl) := hkl
      have HJ2 : Hid (MOJ (D.put kl (.held (.agg (nums .u8 (nd x y)).toArray))) L' (j + 1)) := by
        rw [← HXY.out]
        exact HJ.step hD (by rw [HNl.out]; exact hNq.out.2) hkl
      have hD2 : Hid (IsMap (D.put kl (.held (.agg (nums .u8 (nd x y)).toArray)))) := isMap_put hD
      have ed : (N : Int) / 2 ^ j = (q : Int) := by
        have : N / 2 ^ j = q := by rw [hNq.out.1, Nat.mul_div_cancel _ (Mk.pow_pos2 j)]
        rw [← this]; simp
      have es : (q : Int) - 2 = (q2 : Int) := by have := hq.out; have := hq2.out; omega
      have eh : (q2 : Int) / 2 = (q3 : Int) := by have := hq2.out; omega
      have hj60 : j ≤ 60 := by omega
      have hnb : n + 1 ≤ 200000000 := by have := hN.out; omega
      have HE2 : Hid ((2 * u + 1) * 2 ^ (c - (j + 1)) - 1 = q3) := by show _ = _; rw [hq3.out]; rfl
      have HKP : Hid (Kp g5 mb w3 wr) := KP
      have HHN : Hid (n ≤ 64 * L.length + j) := hn
      clear HI hkl HJ hD KP hx hy hn
      go_wp2_with fail
      obtain ⟨w4, HW4, H4⟩ : ∃ w4, wr.alloc (Obj.cells #[.int .i64 (j : Int), .int .i64 (q2 : Int)] 144) = w4 ∧ Hid (Below wr.heap.size wr w4 ∧ Sh.Blk w4 wr.heap.size 144 [.int .i64 (j : Int), .int .i64 (q2 : Int)]) := ⟨_, rfl, (Below.refl _ _).alloc (Nat.le_refl _) _, Sh.blk_new wr _ _⟩
      rw [HW4]
      have l5 := B5.lt
      have lw := HKP.out.size
      have BV := H4.out.2
      have B5 := B5.below H4.out.1 B5.lt
      have HWl := HWl.below H4.out.1
      have OM := OM.kept (below_grown H4.out.1) (by simp)
      have KP4 : Hid (Kp g5 mb w3 w4) := HKP.out.below H4.out.1
      clear HW4 H4 HKP BTr
      obtain ⟨C, hC⟩ : ∃ C : World → Prop, C = fun W => Below w4.heap.size w4 W := ⟨_, rfl⟩
      have FV : Hid (∀ W, C W → W.rangeAt wr.heap.size 0 [.int .i64 (j : Int), .int .i64 (q2 : Int)]) := fun W hW => by rw [hC] at hW; exact (BV.below hW BV.lt).all
      have FW : Hid (∀ W, C W → Wh W bt j q2 x) := fun W hW => by rw [hC] at hW; exact HWl.below hW
      have F5 : Hid (∀ W, C W → Sh.Blk W g5 23 (nums .u8 y)) := fun W hW => by rw [hC] at hW; exact B5.below hW B5.lt
      have FR : Hid (∀ W, C W → W.rangeAt g5 0 (nums .u8 y)) := fun W hW => by rw [hC] at hW; exact (B5.below hW B5.lt).all
      have CK : Hid (∀ W W', C W → Below W.heap.size W W' → C W') := fun W W' h1 h2 => by rw [hC] at h1 ⊢; exact h1.trans (h2.mono h1.size)
      have CA : Hid (∀ W W', C W → Below w4.heap.size W W' → C W') := fun W W' h1 h2 => by rw [hC] at h1 ⊢; exact h1.trans h2
      have CE : Hid (∀ W, C W → Below w4.heap.size w4 W) := fun W h => by rw [hC] at h; exact h
      have C0 : Hid (C { w4 with drawn := w4.drawn + 1 }) := by rw [hC]; exact Below.drew (Below.refl _ _)
      clear hC
      refine region_calm C 5 (by kernel_rfl) ?_
      have hCp : ∀ p : Prop, (∀ W, C W → p) ↔ p := fun p => ⟨fun h => h _ C0.out, fun h _ _ => h⟩
      generalize ({ w4 with drawn := w4.drawn + 1 } : World) = y0 at *
      refine seg 3 [0, 1, 3] rfl (by kernel_rfl) whole_blind (C0.out) (by kernel_rfl) ?_
      change wpQuiet _ _ _ _ (_ :: _ :: _ :: []) _
      repeat (first
        | go_big_quiet_skip
        | (go_big_quiet_want
           first
           | (refine q_load 144 (.tmp 7) rfl wr.heap.size 0 rfl [.int .i64 (j : Int), .int .i64 (q2 : Int)] _ FV.out Tryz.underlying144 rfl (by kernel_rfl) ?_
              simp only [Act.put, List.setIfInBounds_toArray, List.set_cons_zero, List.set_cons_succ]
              go_big_quiet_on)
           | (refine q_load 23 (.tmp 5) rfl g5 0 rfl (nums .u8 y) _ FR.out Tryz.underlying23 rfl (sH HY.out) ?_
              simp only [Act.put, List.setIfInBounds_toArray, List.set_cons_zero, List.set_cons_succ]
              go_big_quiet_on)
           | (go_big_quiet_op
              go_big_quiet_on)))
      refine wpQuiet_nil ?_
      refine lone_do (i := 2) 2 rfl (by kernel_rfl) rfl (by rfl) ?_
      intro K hK
      refine oper_calls 99 _ _ rfl #[.pointer (some ⟨bt, 0, none⟩), .agg #[.int .i64 (j : Int), .int .i64 (q2 : Int)]] (by rw [List.map_toArray]; rfl) (enters Tryz.func99 (by kernel_rfl) rfl) (fun v w' => v = .agg (nums .u8 x).toArray ∧ Below y0.heap.size y0 w') ((twhole_any bt j q2 (by omega) (by omega) x HX.out y0 (FW.out _ C0.out)).mono (by rintro e w' ⟨rfl, g⟩; exact ⟨_, rfl, rfl, g⟩)) ?_
      rintro v y1 ⟨rfl, Z1⟩
      have C1 : Hid (C y1) := CK.out _ _ C0.out Z1
      clear Z1
      refine hK _ _ (C1.out) ?_
      clear hK K
      simp only [Act.put, List.setIfInBounds_toArray, List.set_cons_zero, List.set_cons_succ]
      refine lone_do (i := 4) 1 rfl (by kernel_rfl) rfl (by rfl) ?_
      intro K hK
      refine oper_calls 47 _ _ rfl #[.agg (nums .u8 x).toArray, .agg (nums .u8 y).toArray] (by rw [List.map_toArray]; rfl) (enters Tryz.func47 (by kernel_rfl) rfl) (fun v w' => v = .agg (nums .u8 (nd x y)).toArray ∧ Below y1.heap.size y1 w') ((node_any x y HX.out.1 HY.out.1 HX.out.2 HY.out.2 y1).mono (by rintro e w' ⟨rfl, g⟩; exact ⟨_, rfl, rfl, g⟩)) ?_
      rintro v y2 ⟨rfl, Z2⟩
      have C2 : Hid (C y2) := CK.out _ _ C1.out Z2
      clear Z2
      refine hK _ _ (C2.out) ?_
      clear hK K
      simp only [Act.put, List.setIfInBounds_toArray, List.set_cons_zero, List.set_cons_succ]
      refine lone_last (i := 5) 0 rfl rfl (by kernel_rfl) rfl (by rfl) ?_
      intro K hK
      refine oper_all 23 (.tmp 5) (.tmp 39) rfl g5 23 (nums .u8 y) (nums .u8 (nd x y)) rfl rfl (F5.out _ C2.out) (by rw [nums_length, nums_length, (nd_hh x y).1, HY.out.1]) (sH (nd_hh x y)) (nums_one _ _) ?_
      intro w5 B5 G5
      refine hK _ _ ?_
      clear hK K
      refine anyC_done (by kernel_rfl) ⟨rfl, ?_⟩
      simp only [Act.put]
      have E8 := CE.out _ C2.out
      have KP5 : Hid (Kp g5 mb w3 w5) := (KP4.out.below E8).grown G5 (.inl rfl)
      have BV := (BV.below E8 BV.lt).kept G5 (by intro e; injection e with e; omega)
      have OM := (OM.kept (below_grown E8) (by simp)).kept G5 (by intro e; injection e with e; exact hmg e)
      have BT5 := KP5.out.blk BT hbg hbm
      clear C0 C1 C2 CK CA CE FV FW F5 FR hCp E8 G5 HWl KP4
      go_wp2_with fail
      obtain ⟨C, hC⟩ : ∃ C : World → Prop, C = fun W => Below w5.heap.size w5 W := ⟨_, rfl⟩
      have FV : Hid (∀ W, C W → W.cell? ⟨wr.heap.size, 1, none⟩ = some (.int .i64 (q2 : Int))) := fun W hW => by rw [hC] at hW; exact by rw [(BV.below hW BV.lt).cell]; rfl
      have FT : Hid (∀ W, C W → W.cell? ⟨bt, 1, none⟩ = some (.map (some mb))) := fun W hW => by rw [hC] at hW; exact by rw [(BT5.below hW BT5.lt).cell]; rfl
      have FR : Hid (∀ W, C W → W.rangeAt g5 0 (nums .u8 (nd x y))) := fun W hW => by rw [hC] at hW; exact (B5.below hW B5.lt).all
      have FM : Hid (∀ W, C W → W.ownsMap Tryz.prog 144 hR mb n D) := fun W hW => by rw [hC] at hW; exact OM.kept (below_grown hW) (by simp)
      have CK : Hid (∀ W W', C W → Below W.heap.size W W' → C W') := fun W W' h1 h2 => by rw [hC] at h1 ⊢; exact h1.trans (h2.mono h1.size)
      have CA : Hid (∀ W W', C W → Below w5.heap.size W W' → C W') := fun W W' h1 h2 => by rw [hC] at h1 ⊢; exact h1.trans h2
      have CE : Hid (∀ W, C W → Below w5.heap.size w5 W) := fun W h => by rw [hC] at h; exact h
      have C0 : Hid (C { w5 with drawn := w5.drawn + 1 }) := by rw [hC]; exact Below.drew (Below.refl _ _)
      clear hC
      refine region_calm C 11 (by kernel_rfl) ?_
      have hCp : ∀ p : Prop, (∀ W, C W → p) ↔ p := fun p => ⟨fun h => h _ C0.out, fun h _ _ => h⟩
      generalize ({ w5 with drawn := w5.drawn + 1 } : World) = y0 at *
      refine seg 1 [0, 1, 2, 3, 4, 5, 6, 7, 8, 9, 10] rfl (by kernel_rfl) whole_blind (C0.out) (by kernel_rfl) ?_
      change wpQuiet _ _ _ _ (_ :: _ :: _ :: _ :: _ :: _ :: _ :: _ :: _ :: _ :: _ :: []) _
      repeat (first
        | go_big_quiet_skip
        | (go_big_quiet_want
           first
           | (refine q_map (.tmp 42) rfl bt 1 rfl (some mb) FT.out ?_
              simp only [Act.put, List.setIfInBounds_toArray, List.set_cons_zero, List.set_cons_succ]
              go_big_quiet_on)
           | (refine q_int (.tmp 46) rfl wr.heap.size 1 rfl (q2 : Int) FV.out ?_
              simp only [Act.put, List.setIfInBounds_toArray, List.set_cons_zero, List.set_cons_succ]
              go_big_quiet_on)
           | (refine q_load 23 (.tmp 5) rfl g5 0 rfl (nums .u8 (nd x y)) _ FR.out Tryz.underlying23 rfl (sH (nd_hh x y)) ?_
              simp only [Act.put, List.setIfInBounds_toArray, List.set_cons_zero, List.set_cons_succ]
              go_big_quiet_on)
           | (go_big_quiet_op
              go_big_quiet_on)))
      refine wpQuiet_nil ?_
      obtain ⟨w6, hrun, OM6, G6⟩ := (FM.out _ C0.out).update half_keyed Tryz.underlying123 (by unfold maxLen; omega) (val := .agg (nums .u8 (nd x y)).toArray) (d := .held (.agg (nums .u8 (nd x y)).toArray)) (ps := []) HK.out rfl
      refine lone_last (i := 11) 0 rfl rfl (by kernel_rfl) rfl (by rfl) ?_
      intro K hK
      refine oper_upd 123 (.tmp 43) (.tmp 49) (.tmp 50) rfl mb (kv (j + 1) q3) (.agg (nums .u8 (nd x y)).toArray) rfl rfl rfl w6 hrun ?_
      refine hK _ _ ?_
      clear hK K hrun
      refine anyC_done (by kernel_rfl) ⟨rfl, ?_⟩
      simp only [Act.put]
      have E9 := CE.out _ C0.out
      have KP6 : Hid (Kp g5 mb w3 w6) := (KP5.out.below E9).grown G6 (.inr rfl)
      have B5 := (B5.below E9 B5.lt).kept G6 (by intro e; injection e with e; exact hmg e.symm)
      have HI : Hid (∃ n D, Sh.Blk w6 g5 23 (nums .u8 (Mk.R nd em (Mk.sg L' (j + 1, (2 * u + 1) * 2 ^ (c - (j + 1)) - 1)))) ∧ w6.ownsMap Tryz.prog 144 hR mb n D ∧ n ≤ 64 * L.length + (j + 1) ∧ IsMap D ∧ MOJ D L' (j + 1) ∧ Kp g5 mb w3 w6) :=
        ⟨n + 1, _, by rw [HE2.out, HXY.out]; exact B5, OM6, by have := HHN.out; omega, hD2.out, HJ2.out, KP6.out⟩
      clear C0 CK CA CE FV FT FR FM hCp E9 G6 KP5 KP6 B5 BT5 OM OM6 HE2 HXY
      go_wp2
      go_roundw
      case rel => exact ⟨j + 1, hlt, by simp, HI⟩
      case measure => simp [intOf]; omega
    · obtain rfl : j = c := by omega
      have ZE : Below base w wr := Kp.base (Z.mono hbw) KP hbw3 (by omega) hmb
      have HO3 : OwE (nums .u8) 23 32 wr base (.slice a N cap) L' := by
        refine ⟨?_, HO.out.2⟩
        have o1 := (HO.out.grow Z).1
        refine ⟨o1.1, ?_⟩
        rcases o1.2 with hn | ⟨g, cp, cur, hv, h1, h2, h3⟩
        · exact .inl hn
        · refine .inr ⟨g, cp, cur, hv, h1, ?_, h3⟩
          have hgn : g < w.heap.size := (HO.out.1.lt g (by rw [hv]; rfl)).2
          rw [KP.block g (by omega) (by omega) ?_]
          · exact h2
          · rintro rfl
            obtain ⟨es', ck, e2, _⟩ := HM0.out.1.kept (below_grown Z) (by simp)
            rw [e2] at h2
            cases h2
      have HE : Hid (∃ m, Sh.Blk wr bt 125 [.slice a N cap, .map m] ∧ OwE (nums .u8) 23 32 wr base (.slice a N cap) L' ∧ MapP wr base m L' ∧ Below base w wr) := by
        refine ⟨some mb, BTr, HO3, .inr ⟨mb, n, D, rfl, hmb, OM, ?_, hD, HJ.last (c := j) (u := u) (by rw [HNl.out]; exact HCU.out)⟩, ZE⟩
        rw [HNl.out, hN.out]
        omega
      clear HI B5 OM KP HJ HO3 ZE BTr
      go_wp2
      (try simp only [Exit.inBlock, Exit.then])
      exact bodyPost_end (results_none rfl _ _ _) rfl ⟨rfl, HE.out⟩
end Go.Proofs.YtlefdnjokppibaaGreatDoor.Mer
