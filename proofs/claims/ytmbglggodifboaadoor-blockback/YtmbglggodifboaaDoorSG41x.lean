/-
  small: one with a table. · known: there and back. · Trees of digests over lists (no program): roots, ways up, paths, consistencies, and what they make again. · Consistencies over lists (no program).
-/
import Derived.Test.YtmbglggodifboaaDoorSG40x
import Derived.Test.YtmbglggodifboaaDoorRows
namespace Go.Proofs.YtmbglggodifboaaDoor.Sh
open Go Go.RowKit Math Mt
set_option linter.unusedVariables false
set_option linter.unusedSimpArgs false
def smE : En := ⟨5, ⟨#[116]⟩, 1, 0, 0, nv, zr, false, 0, 0⟩
def smB : Bk := ⟨0, 0, 0, zr, [smE]⟩
theorem smE_w : EnW smE := ⟨⟨by decide, by decide⟩, by decide, ⟨by decide, by decide⟩, ⟨by decide, by decide⟩, ⟨by decide, by decide⟩, wf_nv, h32_zr, ⟨by decide, by decide⟩, ⟨by decide, by decide⟩⟩
theorem smB_w : BkW smB := ⟨⟨by decide, by decide⟩, ⟨by decide, by decide⟩, ⟨by decide, by decide⟩, h32_zr, fun e he => by rw [List.mem_singleton.1 he]; exact smE_w, by decide⟩
theorem smB_lk : ∀ e ∈ smB.es, Lk e.v := fun e he => by rw [List.mem_singleton.1 he]; exact lk_nv
theorem bd_sm (a : Act) : Tryd.prog.built 43 ((#[(0, .const (.int .i64 5)), (2, .const (.int .i64 1)), (1, .const (.string ⟨#[116]⟩))] : Array (Nat × Operand)).map fun p => (p.1, a.eval p.2)).toList = some (eC smE none 0 none 0).toArray := by kernel_rfl
theorem bd_sb (a : Act) (g : Nat) (hx : a.eval (.tmp 2) = .slice (some ⟨g, 0, none⟩) 1 1) : Tryd.prog.built 26 ((#[(4, .tmp 2)] : Array (Nat × Operand)).map fun p => (p.1, a.eval p.2)).toList = some (bC smB (some ⟨g, 0, none⟩) 1).toArray := by
  simp only [List.map_toArray, List.map_cons, List.map_nil, hx]
  kernel_rfl
set_option maxHeartbeats 400000 in
set_option maxRecDepth 8000 in
theorem small_any (w : World) :
    Calls Tryd.prog 13 #[] w fun e' w' => ∃ g, e' = .returned (.agg (bC smB (some ⟨g, 0, none⟩) 1).toArray) ∧ Hid (EsM w' (some ⟨g, 0, none⟩) smB.es ∧ Below w.heap.size w w') := by
  go_enter Tryd.func13, Tryd.ntmps13
  go_wp2_with (refine al_zero rfl 26 rfl (bC noB none 0) zBl ?_)
  intro g0 w1 l0 B0 G0
  have Z := (Below.refl w.heap.size w).grown G0 (Nat.le_refl _) (by simp)
  clear G0
  have B0' := B0.alloc (.cells (eC smE none 0 none 0).toArray 43)
  have HZ : Hid (Below w.heap.size w (w1.alloc (.cells (eC smE none 0 none 0).toArray 43))) := Z.alloc Z.size _
  have HR : Hid ((w1.alloc (.cells (eC smE none 0 none 0).toArray 43)).rangeAt w1.heap.size 0 (eC smE none 0 none 0)) := fun j u hj => by
    rw [Nat.zero_add, World.cell?_alloc_new]
    show (eC smE none 0 none 0).toArray[j]? = some u
    rw [List.getElem?_toArray]
    exact hj
  have hb0 := B0.lt
  clear Z B0
  go_wp2_with (first
    | (refine bd_w (by rfl) 43 _ rfl (eC smE none 0 none 0) (bd_sm _) ?_)
    | (refine bs_en rfl (.tmp 1) rfl (eC smE none 0 none 0) rfl rfl ?_)
    | (refine bd_w (by rfl) 26 _ rfl (bC smB (some ⟨w1.heap.size, 0, none⟩) 1) (bd_sb _ _ rfl) ?_)
    | (refine st_all rfl 26 (.tmp 0) (.tmp 3) rfl g0 26 (bC noB none 0) (bC smB (some ⟨w1.heap.size, 0, none⟩) 1) rfl rfl B0' rfl (sB zr_len _ _) (bC_one _ _ _) ?_))
  intro wz BZ G0
  have HF : Hid (EsM wz (some ⟨w1.heap.size, 0, none⟩) smB.es ∧ Below w.heap.size w wz) := by
    refine ⟨.inr ⟨w1.heap.size, 0, rfl, fun i e he => ?_⟩, Sh.grown_below HZ.out G0 HZ.out.size l0⟩
    obtain ⟨hi, he'⟩ := List.getElem?_eq_some_iff.1 he
    have hi0 : i = 0 := by have : i < 1 := hi; omega
    subst hi0
    obtain rfl : smE = e := he'
    refine ⟨none, 0, none, 0, fun j u hj => ?_, (vl_lf wz 0 0 0 em).vl⟩
    exact G0.cell (HR.out j u hj) (by intro e; have := Option.some.inj e; simp at this; omega)
  clear G0 B0' HR HZ
  go_wp2
  (try simp only [Exit.inBlock, Exit.then])
  refine bodyPost_ret (Sh.res_row rfl _ g0 26 _ _ rfl BZ Tryd.underlying26 rfl (sB zr_len _ _)) rfl ⟨w1.heap.size, rfl, HF.out⟩
end Go.Proofs.YtmbglggodifboaaDoor.Sh
namespace Go.Proofs.YtmbglggodifboaaDoor.Sh
open Go Go.RowKit Math Mt
set_option linter.unusedVariables false
set_option linter.unusedSimpArgs false
theorem sm_chk : chkB smB = 0 := by kernel_rfl
theorem no_chk : chkB noB = 1 := by kernel_rfl
theorem sm_enc : encL smB true = blkB smB true := by unfold encL; rw [if_pos sm_chk]
theorem sm_len : (blkB smB true).length ≤ 65536 := of_decide_eq_true (by kernel_rfl)
theorem sm_oct : Oct (blkB smB true) := blk_oct smB_w (chk_zero sm_chk).2.1 true
theorem sm_dec : decB (blkB smB true) = 0 ∧ decK (blkB smB true) = smB := dec_bk smB_w sm_chk
set_option maxHeartbeats 1000000 in
set_option maxRecDepth 8000 in
theorem bknown_any (w : World) : Calls Tryd.prog 6 #[] w fun e' w' => e' = .returned (.bool true) ∧ Hid (Below w.heap.size w w') := by
  go_enter Tryd.func6, Tryd.ntmps6
  have K := small_any w
  go_wp2_with fail
  refine K.mono ?_
  clear K
  rintro e w1 ⟨g, rfl, H⟩
  have Z := H.out.2
  have K := enc_any smB smB_w smB_lk (some ⟨g, 0, none⟩) 1 true w1 H.out.1
  rw [sm_chk, sm_enc] at K
  clear H
  obtain ⟨L, hL⟩ : ∃ L, Hid (blkB smB true = L) := ⟨_, rfl⟩
  rw [hL.out] at K
  go_wp2_with fail
  refine K.mono ?_
  clear K
  rintro e w2 ⟨v, rfl, H⟩
  have Z := Z.trans (H.out.2.mono Z.size)
  have hO := H.out.1
  clear H
  obtain ⟨ax, cx, rfl, hB, hnil, hc, hcm⟩ := hO.byt
  unfold maxLen at hcm
  have HO : Hid (Own w2 w1.heap.size (.slice ax L.length cx) L) := hO
  have K := bdec_any w2 ax cx L hB hnil (by omega) (by omega) (by rw [← hL.out]; exact sm_oct) (by rw [← hL.out]; have := sm_len; omega) (bsf_short (by rw [← hL.out]; exact sm_oct) (by rw [← hL.out]; exact sm_len))
  have e1 : decB L = 0 := by rw [← hL.out]; exact sm_dec.1
  have e2 : decK L = smB := by rw [← hL.out]; exact sm_dec.2
  rw [e1, e2] at K
  clear hB hnil hc hO HO e1
  go_wp2_with fail
  refine K.mono ?_
  clear K
  rintro e w3 ⟨a, c, rfl, H⟩
  have Z := Z.trans (H.out.bl.mono Z.size)
  have HE : Hid (EsM w3 a smB.es) := by have h := H.out.esm; rw [e2] at h; exact h
  clear H e2 hL
  go_wp2_with (refine al_zero rfl 26 rfl (bC noB none 0) zBl ?_)
  intro g3 w4 l3 B3 G0
  have Z6 := (Below.refl w3.heap.size w3).grown G0 (Nat.le_refl _) (by simp)
  clear G0
  go_wp2_with (refine st_all rfl 26 (.tmp 3) (.tmp 13) rfl g3 26 (bC noB none 0) (bC smB a c) rfl rfl B3 (by rw [bC_len (b := smB) zr_len, bC_len zr_len]) (sB (b := smB) zr_len _ _) (bC_one _ _ _) ?_)
  intro w5 B3' G0
  have Z7 := Sh.grown_below Z6 G0 Z6.size l3
  have HE : Hid (EsM w5 a smB.es) := HE.out.below Z7
  have HZ : Hid (Below w.heap.size w w5) := Z.trans (Z7.mono Z.size)
  have HB : Hid (Blk w5 g3 26 (bC smB a c)) := B3'
  clear B3' G0 Z6 Z7 Z B3
  obtain ⟨C, hC⟩ : ∃ C : World → Prop, C = fun W => Below w5.heap.size w5 W := ⟨_, rfl⟩
  have C0 : Hid (C { w5 with drawn := w5.drawn + 1 }) := by rw [hC]; exact Below.drew (Below.refl _ _)
  have CO : Hid (∀ W, C W → Below w5.heap.size w5 W) := fun W h => by rw [hC] at h; exact h
  have CB : Hid (∀ W W', C W → Below W.heap.size W W' → C W') := fun W W' h h2 => by rw [hC] at h ⊢; exact h.trans (h2.mono h.size)
  have FB : Hid (∀ W, C W → W.rangeAt g3 0 (bC smB a c)) := fun W h => (HB.out.below (CO.out W h) HB.out.lt).all
  have FE : Hid (∀ W, C W → EsM W a smB.es) := fun W h => HE.out.below (CO.out W h)
  clear hC
  go_wp2_with fail
  refine region_calm C 16 (by kernel_rfl) ?_
  have hCp : ∀ p : Prop, (∀ W, C W → p) ↔ p := fun p => ⟨fun h => h _ C0.out, fun h _ _ => h⟩
  generalize ({ w5 with drawn := w5.drawn + 1 } : World) = y0 at *
  refine seg 10 [0, 1, 2, 3, 4, 5, 6] rfl (by kernel_rfl) whole_blind (C0.out) (by kernel_rfl) ?_
  change wpQuiet _ _ _ _ (_ :: _ :: _ :: _ :: _ :: _ :: _ :: []) _
  repeat (first
    | go_big_quiet_skip
    | (go_big_quiet_want
       first
       | (go_big_quiet_op
          go_big_quiet_on)))
  refine wpQuiet_nil ?_
  refine seg 9 [7] rfl (by kernel_rfl) whole_blind (C0.out) (by kernel_rfl) ?_
  change wpQuiet _ _ _ _ (_ :: []) _
  repeat (first
    | go_big_quiet_skip
    | (go_big_quiet_want
       first
       | (refine q_load 26 (.tmp 3) rfl g3 0 rfl (bC smB a c) _ FB.out Tryd.underlying26 rfl (sB (b := smB) zr_len _ _) ?_
          simp only [Act.put, List.setIfInBounds_toArray, List.set_cons_zero, List.set_cons_succ]
          go_big_quiet_on)
       | (go_big_quiet_op
          go_big_quiet_on)))
  refine wpQuiet_nil ?_
  refine lone_do (i := 8) 8 rfl (by kernel_rfl) rfl (by rfl) ?_
  intro K hK
  refine oper_call 13 _ _ rfl #[] (by rw [List.map_toArray]; rfl) (enters Tryd.func13 (by kernel_rfl) rfl) (fun v w' => ∃ g, v = .agg (bC smB (some ⟨g, 0, none⟩) 1).toArray ∧ Hid (EsM w' (some ⟨g, 0, none⟩) smB.es ∧ Below y0.heap.size y0 w')) ((small_any y0).mono (by rintro e w' ⟨g, rfl, h⟩; exact ⟨_, rfl, g, rfl, h⟩)) ?_
  rintro v y1 ⟨gs, rfl, HS⟩
  have C1 : Hid (C y1) := CB.out y0 y1 C0.out HS.out.2
  refine hK _ _ (C1.out) ?_
  clear hK K
  simp only [Act.put, List.setIfInBounds_toArray, List.set_cons_zero, List.set_cons_succ]
  refine lone_do (i := 9) 7 rfl (by kernel_rfl) rfl (by rfl) ?_
  intro K hK
  refine oper_call 8 _ _ rfl #[.agg (bC smB a c).toArray, .agg (bC smB (some ⟨gs, 0, none⟩) 1).toArray] (by rw [List.map_toArray]; rfl) (enters Tryd.func8 (by kernel_rfl) rfl) (fun v w' => v = .bool true ∧ Hid (Below y1.heap.size y1 w')) ((blocks_same smB smB_w a c (some ⟨gs, 0, none⟩) 1 y1 (FE.out _ C1.out) HS.out.1).mono (by rintro e w' ⟨rfl, h⟩; exact ⟨_, rfl, rfl, h⟩)) ?_
  rintro v y2 ⟨rfl, H2⟩
  have C2 : Hid (C y2) := CB.out y1 y2 C1.out H2.out
  clear hCp
  have hCp : ∀ p : Prop, (∀ W, C W → p) ↔ p := fun p => ⟨fun h => h _ C2.out, fun h _ _ => h⟩
  refine hK _ _ (C2.out) ?_
  clear hK K
  simp only [Act.put, List.setIfInBounds_toArray, List.set_cons_zero, List.set_cons_succ]
  refine seg 4 [10, 11, 12] rfl (by kernel_rfl) whole_blind (C2.out) (by kernel_rfl) ?_
  change wpQuiet _ _ _ _ (_ :: _ :: _ :: []) _
  repeat (first
    | go_big_quiet_skip
    | (go_big_quiet_want
       first
       | (refine q_bd 26 #[] rfl (bC noB none 0) (bd_blk _) ?_
          simp only [Act.put, List.setIfInBounds_toArray, List.set_cons_zero, List.set_cons_succ]
          go_big_quiet_on)
       | (go_big_quiet_op
          go_big_quiet_on)))
  refine wpQuiet_nil ?_
  refine lone_do (i := 13) 3 rfl (by kernel_rfl) rfl (by rfl) ?_
  intro K hK
  refine oper_call 14 _ _ rfl #[.agg (bC noB none 0).toArray] (by rw [List.map_toArray]; rfl) (enters Tryd.func14 (by kernel_rfl) rfl) (fun v w' => v = .int .i64 1 ∧ Below y2.heap.size y2 w') ((check_any noB w_noB (by simp [noB]) none 0 y2 (.inl rfl)).mono (by rintro e w' ⟨rfl, h⟩; rw [no_chk]; exact ⟨_, rfl, rfl, h⟩)) ?_
  rintro v y3 ⟨rfl, H3⟩
  have C3 : Hid (C y3) := CB.out y2 y3 C2.out H3
  refine hK _ _ (C3.out) ?_
  clear hK K
  simp only [Act.put, List.setIfInBounds_toArray, List.set_cons_zero, List.set_cons_succ]
  refine seg 1 [14, 15] rfl (by kernel_rfl) whole_blind (C3.out) (by kernel_rfl) ?_
  change wpQuiet _ _ _ _ (_ :: _ :: []) _
  repeat (first
    | go_big_quiet_skip
    | (go_big_quiet_want
       first
       | (go_big_quiet_op
          go_big_quiet_on)))
  refine wpQuiet_nil ?_
  refine lone_calm (i := 16) 0 rfl (by kernel_rfl) rfl rfl (C3.out) ?_
  repeat (first
    | go_big_quiet_skip
    | (go_big_quiet_want
       first
       | (go_big_quiet_op
          go_big_quiet_on)))
  refine wpQuiet_nil ?_
  refine anyC_done (by kernel_rfl) ⟨rfl, ?_⟩
  have HF : Hid (Below w.heap.size w y3) := HZ.out.trans ((CO.out _ C3.out).mono HZ.out.size)
  clear C0 C1 C2 C3 CO CB FB FE hCp
  go_wp2
  go_ret
  exact ⟨rfl, HF.out⟩
end Go.Proofs.YtmbglggodifboaaDoor.Sh
namespace Go.Proofs.YtmbglggodifboaaDoor.Mer
namespace Mk

/-! ### powers of two -/
theorem pow_pos2 (n : Nat) : 0 < 2 ^ n := Nat.pow_pos (by decide)
theorem pow_split {a b : Nat} (h : a ≤ b) : 2 ^ b = 2 ^ a * 2 ^ (b - a) := by rw [← Nat.pow_add]; congr 1; omega
theorem pow_even {k : Nat} (h : 0 < k) : 2 ^ k = 2 * 2 ^ (k - 1) := by
  obtain ⟨j, rfl⟩ : ∃ j, k = j + 1 := ⟨k - 1, by omega⟩
  rw [Nat.pow_succ, Nat.mul_comm, Nat.add_sub_cancel]
theorem two_exists (n : Nat) (h : 2 ≤ n) : ∃ T, 2 ^ T < n ∧ n ≤ 2 ^ (T + 1) := by
  refine ⟨Nat.log2 (n - 1), ?_, ?_⟩
  · have := Nat.log2_self_le (n := n - 1) (by omega); omega
  · have := Nat.lt_log2_self (n := n - 1); omega
theorem two_one {n T T' : Nat} (h1 : 2 ^ T < n) (h2 : n ≤ 2 ^ (T + 1)) (h3 : 2 ^ T' < n) (h4 : n ≤ 2 ^ (T' + 1)) : T = T' := by
  rcases Nat.lt_trichotomy T T' with h | h | h
  · have := Nat.pow_le_pow_right (n := 2) (by decide) (show T + 1 ≤ T' by omega); omega
  · exact h
  · have := Nat.pow_le_pow_right (n := 2) (by decide) (show T' + 1 ≤ T by omega); omega
/-- the greatest power of two below n. -/
def hp (n : Nat) : Nat := 2 ^ Nat.log2 (n - 1)
theorem hp_of {n T : Nat} (h1 : 2 ^ T < n) (h2 : n ≤ 2 ^ (T + 1)) : hp n = 2 ^ T := by
  have hp0 := pow_pos2 T
  have a := Nat.log2_self_le (n := n - 1) (by omega)
  have b := Nat.lt_log2_self (n := n - 1)
  unfold hp
  rw [two_one (n := n) (T := Nat.log2 (n - 1)) (T' := T) (by omega) (by omega) h1 h2]

section
variable {H : Type} (nd : H → H → H) (em : H)

/-! ### the root -/
def rtF : Nat → List H → H
  | 0, l => l.headD em
  | f + 1, l => if l.length ≤ 1 then l.headD em else nd (rtF f (l.take (hp l.length))) (rtF f (l.drop (hp l.length)))
def R (l : List H) : H := rtF nd em l.length l
theorem rtF_eq : ∀ (f g : Nat) (l : List H), l.length ≤ f → l.length ≤ g → rtF nd em f l = rtF nd em g l
  | 0, 0, _, _, _ => rfl
  | 0, g + 1, l, h, _ => by rw [rtF, rtF, if_pos (by omega)]
  | f + 1, 0, l, _, h => by rw [rtF, rtF, if_pos (by omega)]
  | f + 1, g + 1, l, h1, h2 => by
    rw [rtF, rtF]
    by_cases hl : l.length ≤ 1
    · rw [if_pos hl, if_pos hl]
    · rw [if_neg hl, if_neg hl]
      obtain ⟨T, a, b⟩ := two_exists l.length (by omega)
      have e := hp_of a b
      have := pow_pos2 T
      have c : (l.take (hp l.length)).length ≤ l.length - 1 := by rw [List.length_take, e]; omega
      have d : (l.drop (hp l.length)).length ≤ l.length - 1 := by rw [List.length_drop, e]; omega
      rw [rtF_eq f g _ (by omega) (by omega), rtF_eq f g _ (by omega) (by omega)]
theorem R_one (x : H) : R nd em [x] = x := by show rtF nd em 1 [x] = x; rw [rtF, if_pos (by simp)]; rfl
theorem R_split {l : List H} {T : Nat} (h1 : 2 ^ T < l.length) (h2 : l.length ≤ 2 ^ (T + 1)) : R nd em l = nd (R nd em (l.take (2 ^ T))) (R nd em (l.drop (2 ^ T))) := by
  have := pow_pos2 T
  obtain ⟨f, hf⟩ : ∃ f, l.length = f + 1 := ⟨l.length - 1, by omega⟩
  show rtF nd em l.length l = _
  rw [hf, rtF, if_neg (by omega), hp_of h1 h2]
  show _ = nd (rtF nd em _ _) (rtF nd em _ _)
  rw [rtF_eq nd em f (l.take (2 ^ T)).length _ (by rw [List.length_take]; omega) (Nat.le_refl _), rtF_eq nd em f (l.drop (2 ^ T)).length _ (by rw [List.length_drop]; omega) (Nat.le_refl _)]

/-! ### halves beside a way -/
def xr (a : Nat) : Nat := if a % 2 = 0 then a + 1 else a - 1
theorem xr_add (a k : Nat) : xr (2 * k + a) = 2 * k + xr a := by
  unfold xr
  rw [show (2 * k + a) % 2 = a % 2 by omega]
  split <;> omega
theorem xr_lt {a k : Nat} (h : a < 2 * k) : xr a < 2 * k := by unfold xr; split <;> omega
def bes (lev p size : Nat) : Nat → List (Nat × Nat)
  | 0 => []
  | j + 1 => bes lev p size j ++ (if xr (p / 2 ^ j) * 2 ^ (lev + j) < size then [(lev + j, xr (p / 2 ^ j))] else [])
theorem bes_step {lev p size j : Nat} (h1 : size ≤ 2 ^ (lev + j)) (h2 : p * 2 ^ lev < size) : bes lev p size (j + 1) = bes lev p size j := by
  have h3 : p < 2 ^ j := by
    rw [Nat.pow_add, Nat.mul_comm] at h1
    exact Nat.lt_of_mul_lt_mul_right (Nat.lt_of_lt_of_le h2 h1)
  rw [bes, Nat.div_eq_of_lt h3, if_neg (by show ¬ 1 * _ < _; omega), List.append_nil]
theorem bes_more {lev p size j : Nat} (h1 : size ≤ 2 ^ (lev + j)) (h2 : p * 2 ^ lev < size) : ∀ d, bes lev p size (j + d) = bes lev p size j
  | 0 => rfl
  | d + 1 => by
    rw [← Nat.add_assoc, bes_step _ h2, bes_more h1 h2 d]
    exact Nat.le_trans h1 (Nat.pow_le_pow_right (by decide) (by omega))
/-- the halves beside the way from the half p of a level up to the root of n. -/
def wy (lev p n : Nat) : List (Nat × Nat) := bes lev p n n
theorem wy_eq {lev p n j : Nat} (h1 : n ≤ 2 ^ (lev + j)) (h2 : p * 2 ^ lev < n) : wy lev p n = bes lev p n j := by
  have h0 : n ≤ 2 ^ (lev + n) := Nat.le_trans (Nat.le_of_lt Nat.lt_two_pow_self) (Nat.pow_le_pow_right (by decide) (by omega))
  unfold wy
  rcases Nat.le_total n j with h | h
  · obtain ⟨d, rfl⟩ := Nat.le.dest h; exact (bes_more h0 h2 d).symm
  · obtain ⟨d, e⟩ := Nat.le.dest h
    have := bes_more h1 h2 d
    rw [e] at this; exact this
theorem bes_left {lev p n T : Nat} (hT : 2 ^ T < n) (hl : lev ≤ T) (hp : p * 2 ^ lev < 2 ^ T) : ∀ j, j ≤ T - lev → bes lev p n j = bes lev p (2 ^ T) j
  | 0, _ => rfl
  | j + 1, h => by
    rw [bes, bes, bes_left hT hl hp j (by omega)]
    have e : 2 ^ T = 2 ^ (lev + j) * 2 ^ (T - (lev + j)) := pow_split (by omega)
    have e2 := pow_even (k := T - (lev + j)) (by omega)
    have ha : p / 2 ^ j < 2 ^ (T - (lev + j)) := by
      rw [Nat.div_lt_iff_lt_mul (pow_pos2 j)]
      rw [e, Nat.pow_add] at hp
      have : p * 2 ^ lev < 2 ^ (T - (lev + j)) * 2 ^ j * 2 ^ lev := by
        refine Nat.lt_of_lt_of_le hp (Nat.le_of_eq ?_)
        rw [Nat.mul_comm (2 ^ lev * 2 ^ j), Nat.mul_comm (2 ^ lev), ← Nat.mul_assoc]
      exact Nat.lt_of_mul_lt_mul_right this
    have hx : xr (p / 2 ^ j) < 2 ^ (T - (lev + j)) := by rw [e2] at ha ⊢; exact xr_lt ha
    have hy : xr (p / 2 ^ j) * 2 ^ (lev + j) < 2 ^ T := by
      rw [e, Nat.mul_comm]
      exact Nat.mul_lt_mul_of_pos_left hx (pow_pos2 _)
    rw [if_pos hy, if_pos (by omega)]
def sh (T : Nat) (x : Nat × Nat) : Nat × Nat := (x.1, 2 ^ (T - x.1) + x.2)
theorem bes_right {lev q n T : Nat} (hT : 2 ^ T < n) (hl : lev ≤ T) : ∀ j, j ≤ T - lev → bes lev (2 ^ (T - lev) + q) n j = (bes lev q (n - 2 ^ T) j).map (sh T)
  | 0, _ => rfl
  | j + 1, h => by
    rw [bes, bes, bes_right hT hl j (by omega), List.map_append]
    congr 1
    have e1 : 2 ^ (T - lev) = 2 ^ j * 2 ^ (T - (lev + j)) := by rw [← Nat.pow_add]; congr 1; omega
    have e2 := pow_even (k := T - (lev + j)) (by omega)
    have e3 : (2 ^ (T - lev) + q) / 2 ^ j = 2 ^ (T - (lev + j)) + q / 2 ^ j := by
      rw [e1, Nat.mul_add_div (pow_pos2 j)]
    have e4 : xr ((2 ^ (T - lev) + q) / 2 ^ j) = 2 ^ (T - (lev + j)) + xr (q / 2 ^ j) := by rw [e3, e2, xr_add]
    have e5 : (2 ^ (T - (lev + j)) + xr (q / 2 ^ j)) * 2 ^ (lev + j) = 2 ^ T + xr (q / 2 ^ j) * 2 ^ (lev + j) := by
      rw [Nat.add_mul, ← Nat.pow_add]; congr 2; omega
    rw [e4, e5]
    by_cases hc : xr (q / 2 ^ j) * 2 ^ (lev + j) < n - 2 ^ T
    · rw [if_pos hc, if_pos (by omega)]; rfl
    · rw [if_neg hc, if_neg (by omega)]; rfl
theorem wy_left {lev p n T : Nat} (h1 : 2 ^ T < n) (h2 : n ≤ 2 ^ (T + 1)) (hl : lev ≤ T) (hp : p * 2 ^ lev < 2 ^ T) : wy lev p n = wy lev p (2 ^ T) ++ [(T, 1)] := by
  have e : lev + (T - lev) = T := by omega
  rw [wy_eq (j := T - lev + 1) (by rw [← Nat.add_assoc, e]; exact h2) (by omega), bes, bes_left h1 hl hp _ (Nat.le_refl _), ← wy_eq (j := T - lev) (by rw [e]; exact Nat.le_refl _) hp]
  have h3 : p < 2 ^ (T - lev) := by
    have := pow_split hl
    rw [this, Nat.mul_comm] at hp
    exact Nat.lt_of_mul_lt_mul_left hp
  rw [Nat.div_eq_of_lt h3, e, if_pos (by show 1 * _ < _; omega)]
  rfl
theorem wy_right {lev q n T : Nat} (h1 : 2 ^ T < n) (h2 : n ≤ 2 ^ (T + 1)) (hl : lev ≤ T) (hq : q * 2 ^ lev < n - 2 ^ T) : wy lev (2 ^ (T - lev) + q) n = (wy lev q (n - 2 ^ T)).map (sh T) ++ [(T, 0)] := by
  have e : lev + (T - lev) = T := by omega
  have e1 : 2 ^ (T - lev) * 2 ^ lev = 2 ^ T := by rw [Nat.mul_comm]; exact (pow_split hl).symm
  have e2 : 2 ^ (T + 1) = 2 * 2 ^ T := by rw [Nat.pow_succ, Nat.mul_comm]
  rw [wy_eq (j := T - lev + 1) (by rw [← Nat.add_assoc, e]; exact h2) (by rw [Nat.add_mul, e1]; omega), bes, bes_right h1 hl _ (Nat.le_refl _), ← wy_eq (j := T - lev) (by rw [e]; omega) hq]
  have h3 : q < 2 ^ (T - lev) := by
    have : q * 2 ^ lev < 2 ^ (T - lev) * 2 ^ lev := by rw [e1]; omega
    exact Nat.lt_of_mul_lt_mul_right this
  have e3 : (2 ^ (T - lev) + q) / 2 ^ (T - lev) = 1 := by
    rw [Nat.add_comm, Nat.add_div_right _ (pow_pos2 _), Nat.div_eq_of_lt h3]
  rw [e3, e, if_pos (by show 0 * _ < _; omega)]
  rfl
theorem wy_one {lev p n : Nat} (h1 : n ≤ 2 ^ lev) (h2 : p * 2 ^ lev < n) : wy lev p n = [] := wy_eq (j := 0) h1 h2

/-! ### segments -/
def sg (l : List H) (x : Nat × Nat) : List H := (l.drop (x.2 * 2 ^ x.1)).take (2 ^ x.1)
/-- what lies beside a way lies below its end. -/
theorem mem_bes {lev p size : Nat} : ∀ {j : Nat} {x : Nat × Nat}, x ∈ bes lev p size j → x.2 * 2 ^ x.1 < size ∧ lev ≤ x.1 ∧ x.1 < lev + j
  | 0, _, h => by simp [bes] at h
  | j + 1, x, h => by
    rw [bes, List.mem_append] at h
    rcases h with h | h
    · have := mem_bes h; omega
    · split at h
      · rw [List.mem_singleton] at h; subst h; simp only; omega
      · simp at h
theorem mem_wy {lev p n T : Nat} (h1 : n ≤ 2 ^ T) (hl : lev ≤ T) (hp : p * 2 ^ lev < n) {x : Nat × Nat} (h : x ∈ wy lev p n) : x.2 * 2 ^ x.1 < n ∧ lev ≤ x.1 ∧ x.1 < T := by
  have e : lev + (T - lev) = T := by omega
  rw [wy_eq (j := T - lev) (by rw [e]; exact h1) hp] at h
  obtain ⟨a, b, c⟩ := mem_bes h
  exact ⟨a, b, by omega⟩
/-! ### what a path makes -/
def fo : H → List (Nat × Nat) → List H → H
  | h, x :: os, p :: ps => fo (if x.2 % 2 = 0 then nd p h else nd h p) os ps
  | h, _, _ => h
theorem fo_app : ∀ (h : H) (os : List (Nat × Nat)) (ps : List H) (x : Nat × Nat) (q : H), os.length = ps.length → fo nd h (os ++ [x]) (ps ++ [q]) = if x.2 % 2 = 0 then nd q (fo nd h os ps) else nd (fo nd h os ps) q
  | h, [], [], x, q, _ => rfl
  | h, y :: os, p :: ps, x, q, e => by
    rw [List.cons_append, List.cons_append, fo, fo_app _ os ps x q (by simpa using e), fo]
theorem fo_sh (T : Nat) : ∀ (h : H) (os : List (Nat × Nat)) (ps : List H), (∀ x ∈ os, x.1 < T) → fo nd h (os.map (sh T)) ps = fo nd h os ps
  | h, [], ps, _ => by cases ps <;> rfl
  | h, y :: os, [], _ => rfl
  | h, y :: os, p :: ps, hx => by
    rw [List.map_cons, fo, fo, fo_sh T _ os ps (fun x m => hx x (by simp [m]))]
    have e2 := pow_even (k := T - y.1) (by have := hx y (by simp); omega)
    have : (sh T y).2 % 2 = y.2 % 2 := by show (2 ^ (T - y.1) + y.2) % 2 = _; rw [e2]; omega
    rw [this]
theorem sh_lt {lev q n T : Nat} (h2 : n ≤ 2 ^ T) (hl : lev < T) (hq : q * 2 ^ lev < n) : ∀ x ∈ wy lev q n, x.1 < T := fun x hx => (mem_wy h2 (by omega) hq hx).2.2
end
end Mk
end Go.Proofs.YtmbglggodifboaaDoor.Mer
namespace Go.Proofs.YtmbglggodifboaaDoor.Mer
namespace Mk
section
variable {H : Type} (nd : H → H → H) (em : H)
end
end Mk
end Go.Proofs.YtmbglggodifboaaDoor.Mer
