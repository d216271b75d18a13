/-
  small: one with a table. · known: there and back. · Trees of digests over lists (no program): roots, ways up, paths, consistencies, and what they make again. · Consistencies over lists (no program). · Rows of digests and of halves in memory, and the operations on them.
-/
import Derived.Test.YtmbglggodifboaaGreatDoorSG37x
import Derived.Test.YtmbglggodifboaaGreatDoorRows
import Derived.Test.YtmbglggodifboaaGreatDoorSG12x
import Derived.Test.YtmbglggodifboaaGreatDoorSG15x
import Derived.Test.YtmbglggodifboaaGreatDoorSOrz
import Derived.Laws.AppendOwnNone
import Derived.Laws.MakeOwn
namespace Go.Proofs.YtmbglggodifboaaGreatDoor.Sh
open Go Go.RowKit Math Mt
set_option linter.unusedVariables false
set_option linter.unusedSimpArgs false
def smE : En := ⟨5, ⟨#[116]⟩, 1, 0, 0, nv, zr, false, 0, 0⟩
def smB : Bk := ⟨0, 0, 0, zr, [smE]⟩
theorem smE_w : EnW smE := ⟨⟨by decide, by decide⟩, by decide, ⟨by decide, by decide⟩, ⟨by decide, by decide⟩, ⟨by decide, by decide⟩, wf_nv, h32_zr, ⟨by decide, by decide⟩, ⟨by decide, by decide⟩⟩
theorem smB_w : BkW smB := ⟨⟨by decide, by decide⟩, ⟨by decide, by decide⟩, ⟨by decide, by decide⟩, h32_zr, fun e he => by rw [List.mem_singleton.1 he]; exact smE_w, by decide⟩
theorem smB_lk : ∀ e ∈ smB.es, Lk e.v := fun e he => by rw [List.mem_singleton.1 he]; exact lk_nv
theorem bd_sm (a : Act) : Tryz.prog.built 45 ((#[(0, .const (.int .i64 5)), (2, .const (.int .i64 1)), (1, .const (.string ⟨#[116]⟩))] : Array (Nat × Operand)).map fun p => (p.1, a.eval p.2)).toList = some (eC smE none 0 none 0).toArray := by kernel_rfl
theorem bd_sb (a : Act) (g : Nat) (hx : a.eval (.tmp 2) = .slice (some ⟨g, 0, none⟩) 1 1) : Tryz.prog.built 26 ((#[(4, .tmp 2)] : Array (Nat × Operand)).map fun p => (p.1, a.eval p.2)).toList = some (bC smB (some ⟨g, 0, none⟩) 1).toArray := by
  simp only [List.map_toArray, List.map_cons, List.map_nil, hx]
  kernel_rfl
set_option maxHeartbeats 400000 in
set_option maxRecDepth 8000 in
theorem small_any (w : World) :
    Calls Tryz.prog 42 #[] w fun e' w' => ∃ g, e' = .returned (.agg (bC smB (some ⟨g, 0, none⟩) 1).toArray) ∧ Hid (EsM w' (some ⟨g, 0, none⟩) smB.es ∧ Below w.heap.size w w') := by
  go_enter Tryz.func42, Tryz.ntmps42
  go_wp2_with (refine al_zero rfl 26 rfl (bC noB none 0) zBl ?_)
  intro g0 w1 l0 B0 G0
  have Z := (Below.refl w.heap.size w).grown G0 (Nat.le_refl _) (by simp)
  clear G0
  have B0' := B0.alloc (.cells (eC smE none 0 none 0).toArray 45)
  have HZ : Hid (Below w.heap.size w (w1.alloc (.cells (eC smE none 0 none 0).toArray 45))) := Z.alloc Z.size _
  have HR : Hid ((w1.alloc (.cells (eC smE none 0 none 0).toArray 45)).rangeAt w1.heap.size 0 (eC smE none 0 none 0)) := fun j u hj => by
    rw [Nat.zero_add, World.cell?_alloc_new]
    show (eC smE none 0 none 0).toArray[j]? = some u
    rw [List.getElem?_toArray]
    exact hj
  have hb0 := B0.lt
  clear Z B0
  go_wp2_with (first
    | (refine bd_w (by rfl) 45 _ rfl (eC smE none 0 none 0) (bd_sm _) ?_)
    | (refine bs_en rfl (.tmp 1) rfl (eC smE none 0 none 0) rfl rfl ?_)
    | (refine bd_w (by rfl) 26 _ rfl (bC smB (some ⟨w1.heap.size, 0, none⟩) 1) (bd_sb _ _ rfl) ?_)
    | (refine st_all rfl 26 (.tmp 0) (.tmp 3) rfl g0 26 (bC noB none 0) (bC smB (some ⟨w1.heap.size, 0, none⟩) 1) rfl rfl B0' rfl (sB zr_len _ _) (bC_one _ _ _) ?_))
  intro wz BZ G0
  have HF : Hid (EsM wz (some ⟨w1.heap.size, 0, none⟩) smB.es ∧ Below w.heap.size w wz) := by
    refine ⟨.inr ⟨w1.heap.size, 0, rfl, fun i e he => ?_⟩, Sh.grown_below HZ.out G0 HZ.out.size l0⟩
    obtain ⟨hi, he'⟩ := List.getElem?_eq_some_iff.1 he
    have hi0 : i = 0 := by have : i < 1 := hi; omega
    subst hi0
    obtain rfl : smE = e := he'
    refine ⟨none, 0, none, 0, fun j u hj => ?_, (vl_lf wz 0 0 0 em).vl⟩
    exact G0.cell (HR.out j u hj) (by intro e; have := Option.some.inj e; simp at this; omega)
  clear G0 B0' HR HZ
  go_wp2
  (try simp only [Exit.inBlock, Exit.then])
  refine bodyPost_ret (Sh.res_row rfl _ g0 26 _ _ rfl BZ Tryz.underlying26 rfl (sB zr_len _ _)) rfl ⟨w1.heap.size, rfl, HF.out⟩
end Go.Proofs.YtmbglggodifboaaGreatDoor.Sh
namespace Go.Proofs.YtmbglggodifboaaGreatDoor.Sh
open Go Go.RowKit Math Mt
set_option linter.unusedVariables false
set_option linter.unusedSimpArgs false
theorem sm_chk : chkB smB = 0 := by kernel_rfl
theorem no_chk : chkB noB = 1 := by kernel_rfl
theorem sm_enc : encL smB true = blkB smB true := by unfold encL; rw [if_pos sm_chk]
theorem sm_len : (blkB smB true).length ≤ 65536 := of_decide_eq_true (by kernel_rfl)
theorem sm_oct : Oct (blkB smB true) := blk_oct smB_w (chk_zero sm_chk).2.1 true
theorem sm_dec : decB (blkB smB true) = 0 ∧ decK (blkB smB true) = smB := dec_bk smB_w sm_chk
set_option maxHeartbeats 1000000 in
set_option maxRecDepth 8000 in
theorem bknown_any (w : World) : Calls Tryz.prog 17 #[] w fun e' w' => e' = .returned (.bool true) ∧ Hid (Below w.heap.size w w') := by
  go_enter Tryz.func17, Tryz.ntmps17
  have K := small_any w
  go_wp2_with fail
  refine K.mono ?_
  clear K
  rintro e w1 ⟨g, rfl, H⟩
  have Z := H.out.2
  have K := enc_any smB smB_w smB_lk (some ⟨g, 0, none⟩) 1 true w1 H.out.1
  rw [sm_chk, sm_enc] at K
  clear H
  obtain ⟨L, hL⟩ : ∃ L, Hid (blkB smB true = L) := ⟨_, rfl⟩
  rw [hL.out] at K
  go_wp2_with fail
  refine K.mono ?_
  clear K
  rintro e w2 ⟨v, rfl, H⟩
  have Z := Z.trans (H.out.2.mono Z.size)
  have hO := H.out.1
  clear H
  obtain ⟨ax, cx, rfl, hB, hnil, hc, hcm⟩ := hO.byt
  unfold maxLen at hcm
  have HO : Hid (Own w2 w1.heap.size (.slice ax L.length cx) L) := hO
  have K := bdec_any w2 ax cx L hB hnil (by omega) (by omega) (by rw [← hL.out]; exact sm_oct) (by rw [← hL.out]; have := sm_len; omega) (bsf_short (by rw [← hL.out]; exact sm_oct) (by rw [← hL.out]; exact sm_len))
  have e1 : decB L = 0 := by rw [← hL.out]; exact sm_dec.1
  have e2 : decK L = smB := by rw [← hL.out]; exact sm_dec.2
  rw [e1, e2] at K
  clear hB hnil hc hO HO e1
  go_wp2_with fail
  refine K.mono ?_
  clear K
  rintro e w3 ⟨a, c, rfl, H⟩
  have Z := Z.trans (H.out.bl.mono Z.size)
  have HE : Hid (EsM w3 a smB.es) := by have h := H.out.esm; rw [e2] at h; exact h
  clear H e2 hL
  go_wp2_with (refine al_zero rfl 26 rfl (bC noB none 0) zBl ?_)
  intro g3 w4 l3 B3 G0
  have Z6 := (Below.refl w3.heap.size w3).grown G0 (Nat.le_refl _) (by simp)
  clear G0
  go_wp2_with (refine st_all rfl 26 (.tmp 3) (.tmp 13) rfl g3 26 (bC noB none 0) (bC smB a c) rfl rfl B3 (by rw [bC_len (b := smB) zr_len, bC_len zr_len]) (sB (b := smB) zr_len _ _) (bC_one _ _ _) ?_)
  intro w5 B3' G0
  have Z7 := Sh.grown_below Z6 G0 Z6.size l3
  have HE : Hid (EsM w5 a smB.es) := HE.out.below Z7
  have HZ : Hid (Below w.heap.size w w5) := Z.trans (Z7.mono Z.size)
  have HB : Hid (Blk w5 g3 26 (bC smB a c)) := B3'
  clear B3' G0 Z6 Z7 Z B3
  obtain ⟨C, hC⟩ : ∃ C : World → Prop, C = fun W => Below w5.heap.size w5 W := ⟨_, rfl⟩
  have C0 : Hid (C { w5 with drawn := w5.drawn + 1 }) := by rw [hC]; exact Below.drew (Below.refl _ _)
  have CO : Hid (∀ W, C W → Below w5.heap.size w5 W) := fun W h => by rw [hC] at h; exact h
  have CB : Hid (∀ W W', C W → Below W.heap.size W W' → C W') := fun W W' h h2 => by rw [hC] at h ⊢; exact h.trans (h2.mono h.size)
  have FB : Hid (∀ W, C W → W.rangeAt g3 0 (bC smB a c)) := fun W h => (HB.out.below (CO.out W h) HB.out.lt).all
  have FE : Hid (∀ W, C W → EsM W a smB.es) := fun W h => HE.out.below (CO.out W h)
  clear hC
  go_wp2_with fail
  refine region_calm C 16 (by kernel_rfl) ?_
  have hCp : ∀ p : Prop, (∀ W, C W → p) ↔ p := fun p => ⟨fun h => h _ C0.out, fun h _ _ => h⟩
  generalize ({ w5 with drawn := w5.drawn + 1 } : World) = y0 at *
  refine seg 10 [0, 1, 2, 3, 4, 5, 6] rfl (by kernel_rfl) whole_blind (C0.out) (by kernel_rfl) ?_
  change wpQuiet _ _ _ _ (_ :: _ :: _ :: _ :: _ :: _ :: _ :: []) _
  repeat (first
    | go_big_quiet_skip
    | (go_big_quiet_want
       first
       | (go_big_quiet_op
          go_big_quiet_on)))
  refine wpQuiet_nil ?_
  refine seg 9 [7] rfl (by kernel_rfl) whole_blind (C0.out) (by kernel_rfl) ?_
  change wpQuiet _ _ _ _ (_ :: []) _
  repeat (first
    | go_big_quiet_skip
    | (go_big_quiet_want
       first
       | (refine q_load 26 (.tmp 3) rfl g3 0 rfl (bC smB a c) _ FB.out Tryz.underlying26 rfl (sB (b := smB) zr_len _ _) ?_
          simp only [Act.put, List.setIfInBounds_toArray, List.set_cons_zero, List.set_cons_succ]
          go_big_quiet_on)
       | (go_big_quiet_op
          go_big_quiet_on)))
  refine wpQuiet_nil ?_
  refine lone_do (i := 8) 8 rfl (by kernel_rfl) rfl (by rfl) ?_
  intro K hK
  refine oper_call 42 _ _ rfl #[] (by rw [List.map_toArray]; rfl) (enters Tryz.func42 (by kernel_rfl) rfl) (fun v w' => ∃ g, v = .agg (bC smB (some ⟨g, 0, none⟩) 1).toArray ∧ Hid (EsM w' (some ⟨g, 0, none⟩) smB.es ∧ Below y0.heap.size y0 w')) ((small_any y0).mono (by rintro e w' ⟨g, rfl, h⟩; exact ⟨_, rfl, g, rfl, h⟩)) ?_
  rintro v y1 ⟨gs, rfl, HS⟩
  have C1 : Hid (C y1) := CB.out y0 y1 C0.out HS.out.2
  refine hK _ _ (C1.out) ?_
  clear hK K
  simp only [Act.put, List.setIfInBounds_toArray, List.set_cons_zero, List.set_cons_succ]
  refine lone_do (i := 9) 7 rfl (by kernel_rfl) rfl (by rfl) ?_
  intro K hK
  refine oper_call 16 _ _ rfl #[.agg (bC smB a c).toArray, .agg (bC smB (some ⟨gs, 0, none⟩) 1).toArray] (by rw [List.map_toArray]; rfl) (enters Tryz.func16 (by kernel_rfl) rfl) (fun v w' => v = .bool true ∧ Hid (Below y1.heap.size y1 w')) ((blocks_same smB smB_w a c (some ⟨gs, 0, none⟩) 1 y1 (FE.out _ C1.out) HS.out.1).mono (by rintro e w' ⟨rfl, h⟩; exact ⟨_, rfl, rfl, h⟩)) ?_
  rintro v y2 ⟨rfl, H2⟩
  have C2 : Hid (C y2) := CB.out y1 y2 C1.out H2.out
  clear hCp
  have hCp : ∀ p : Prop, (∀ W, C W → p) ↔ p := fun p => ⟨fun h => h _ C2.out, fun h _ _ => h⟩
  refine hK _ _ (C2.out) ?_
  clear hK K
  simp only [Act.put, List.setIfInBounds_toArray, List.set_cons_zero, List.set_cons_succ]
  refine seg 4 [10, 11, 12] rfl (by kernel_rfl) whole_blind (C2.out) (by kernel_rfl) ?_
  change wpQuiet _ _ _ _ (_ :: _ :: _ :: []) _
  repeat (first
    | go_big_quiet_skip
    | (go_big_quiet_want
       first
       | (refine q_bd 26 #[] rfl (bC noB none 0) (bd_blk _) ?_
          simp only [Act.put, List.setIfInBounds_toArray, List.set_cons_zero, List.set_cons_succ]
          go_big_quiet_on)
       | (go_big_quiet_op
          go_big_quiet_on)))
  refine wpQuiet_nil ?_
  refine lone_do (i := 13) 3 rfl (by kernel_rfl) rfl (by rfl) ?_
  intro K hK
  refine oper_call 10 _ _ rfl #[.agg (bC noB none 0).toArray] (by rw [List.map_toArray]; rfl) (enters Tryz.func10 (by kernel_rfl) rfl) (fun v w' => v = .int .i64 1 ∧ Below y2.heap.size y2 w') ((check_any noB w_noB (by simp [noB]) none 0 y2 (.inl rfl)).mono (by rintro e w' ⟨rfl, h⟩; rw [no_chk]; exact ⟨_, rfl, rfl, h⟩)) ?_
  rintro v y3 ⟨rfl, H3⟩
  have C3 : Hid (C y3) := CB.out y2 y3 C2.out H3
  refine hK _ _ (C3.out) ?_
  clear hK K
  simp only [Act.put, List.setIfInBounds_toArray, List.set_cons_zero, List.set_cons_succ]
  refine seg 1 [14, 15] rfl (by kernel_rfl) whole_blind (C3.out) (by kernel_rfl) ?_
  change wpQuiet _ _ _ _ (_ :: _ :: []) _
  repeat (first
    | go_big_quiet_skip
    | (go_big_quiet_want
       first
       | (go_big_quiet_op
          go_big_quiet_on)))
  refine wpQuiet_nil ?_
  refine lone_calm (i := 16) 0 rfl (by kernel_rfl) rfl rfl (C3.out) ?_
  repeat (first
    | go_big_quiet_skip
    | (go_big_quiet_want
       first
       | (go_big_quiet_op
          go_big_quiet_on)))
  refine wpQuiet_nil ?_
  refine anyC_done (by kernel_rfl) ⟨rfl, ?_⟩
  have HF : Hid (Below w.heap.size w y3) := HZ.out.trans ((CO.out _ C3.out).mono HZ.out.size)
  clear C0 C1 C2 C3 CO CB FB FE hCp
  go_wp2
  go_ret
  exact ⟨rfl, HF.out⟩
end Go.Proofs.YtmbglggodifboaaGreatDoor.Sh
namespace Go.Proofs.YtmbglggodifboaaGreatDoor.Mer
namespace Mk

/-! ### powers of two -/
theorem pow_pos2 (n : Nat) : 0 < 2 ^ n := Nat.pow_pos (by decide)
theorem pow_split {a b : Nat} (h : a ≤ b) : 2 ^ b = 2 ^ a * 2 ^ (b - a) := by rw [← Nat.pow_add]; congr 1; omega
theorem pow_even {k : Nat} (h : 0 < k) : 2 ^ k = 2 * 2 ^ (k - 1) := by
  obtain ⟨j, rfl⟩ : ∃ j, k = j + 1 := ⟨k - 1, by omega⟩
  rw [Nat.pow_succ, Nat.mul_comm, Nat.add_sub_cancel]
theorem two_exists (n : Nat) (h : 2 ≤ n) : ∃ T, 2 ^ T < n ∧ n ≤ 2 ^ (T + 1) := by
  refine ⟨Nat.log2 (n - 1), ?_, ?_⟩
  · have := Nat.log2_self_le (n := n - 1) (by omega); omega
  · have := Nat.lt_log2_self (n := n - 1); omega
theorem two_one {n T T' : Nat} (h1 : 2 ^ T < n) (h2 : n ≤ 2 ^ (T + 1)) (h3 : 2 ^ T' < n) (h4 : n ≤ 2 ^ (T' + 1)) : T = T' := by
  rcases Nat.lt_trichotomy T T' with h | h | h
  · have := Nat.pow_le_pow_right (n := 2) (by decide) (show T + 1 ≤ T' by omega); omega
  · exact h
  · have := Nat.pow_le_pow_right (n := 2) (by decide) (show T' + 1 ≤ T by omega); omega
/-- the greatest power of two below n. -/
def hp (n : Nat) : Nat := 2 ^ Nat.log2 (n - 1)
theorem hp_of {n T : Nat} (h1 : 2 ^ T < n) (h2 : n ≤ 2 ^ (T + 1)) : hp n = 2 ^ T := by
  have hp0 := pow_pos2 T
  have a := Nat.log2_self_le (n := n - 1) (by omega)
  have b := Nat.lt_log2_self (n := n - 1)
  unfold hp
  rw [two_one (n := n) (T := Nat.log2 (n - 1)) (T' := T) (by omega) (by omega) h1 h2]

section
variable {H : Type} (nd : H → H → H) (em : H)

/-! ### the root -/
def rtF : Nat → List H → H
  | 0, l => l.headD em
  | f + 1, l => if l.length ≤ 1 then l.headD em else nd (rtF f (l.take (hp l.length))) (rtF f (l.drop (hp l.length)))
def R (l : List H) : H := rtF nd em l.length l
theorem rtF_eq : ∀ (f g : Nat) (l : List H), l.length ≤ f → l.length ≤ g → rtF nd em f l = rtF nd em g l
  | 0, 0, _, _, _ => rfl
  | 0, g + 1, l, h, _ => by rw [rtF, rtF, if_pos (by omega)]
  | f + 1, 0, l, _, h => by rw [rtF, rtF, if_pos (by omega)]
  | f + 1, g + 1, l, h1, h2 => by
    rw [rtF, rtF]
    by_cases hl : l.length ≤ 1
    · rw [if_pos hl, if_pos hl]
    · rw [if_neg hl, if_neg hl]
      obtain ⟨T, a, b⟩ := two_exists l.length (by omega)
      have e := hp_of a b
      have := pow_pos2 T
      have c : (l.take (hp l.length)).length ≤ l.length - 1 := by rw [List.length_take, e]; omega
      have d : (l.drop (hp l.length)).length ≤ l.length - 1 := by rw [List.length_drop, e]; omega
      rw [rtF_eq f g _ (by omega) (by omega), rtF_eq f g _ (by omega) (by omega)]
theorem R_one (x : H) : R nd em [x] = x := by show rtF nd em 1 [x] = x; rw [rtF, if_pos (by simp)]; rfl
theorem R_split {l : List H} {T : Nat} (h1 : 2 ^ T < l.length) (h2 : l.length ≤ 2 ^ (T + 1)) : R nd em l = nd (R nd em (l.take (2 ^ T))) (R nd em (l.drop (2 ^ T))) := by
  have := pow_pos2 T
  obtain ⟨f, hf⟩ : ∃ f, l.length = f + 1 := ⟨l.length - 1, by omega⟩
  show rtF nd em l.length l = _
  rw [hf, rtF, if_neg (by omega), hp_of h1 h2]
  show _ = nd (rtF nd em _ _) (rtF nd em _ _)
  rw [rtF_eq nd em f (l.take (2 ^ T)).length _ (by rw [List.length_take]; omega) (Nat.le_refl _), rtF_eq nd em f (l.drop (2 ^ T)).length _ (by rw [List.length_drop]; omega) (Nat.le_refl _)]

/-! ### halves beside a way -/
def xr (a : Nat) : Nat := if a % 2 = 0 then a + 1 else a - 1
def bes (lev p size : Nat) : Nat → List (Nat × Nat)
  | 0 => []
  | j + 1 => bes lev p size j ++ (if xr (p / 2 ^ j) * 2 ^ (lev + j) < size then [(lev + j, xr (p / 2 ^ j))] else [])
/-- the halves beside the way from the half p of a level up to the root of n. -/
def wy (lev p n : Nat) : List (Nat × Nat) := bes lev p n n
/-! ### segments -/
def sg (l : List H) (x : Nat × Nat) : List H := (l.drop (x.2 * 2 ^ x.1)).take (2 ^ x.1)
/-! ### what a path makes -/
end
end Mk
end Go.Proofs.YtmbglggodifboaaGreatDoor.Mer
namespace Go.Proofs.YtmbglggodifboaaGreatDoor.Mer
namespace Mk
section
variable {H : Type} (nd : H → H → H) (em : H)
end
end Mk
end Go.Proofs.YtmbglggodifboaaGreatDoor.Mer
namespace Go.Proofs.YtmbglggodifboaaGreatDoor.Mer
open Go.RowKit Sh
/-- a digest. -/
def Hh (h : List Nat) : Prop := h.length = 32 ∧ Oct h
def Hl (L : List (List Nat)) : Prop := ∀ h ∈ L, Hh h
def encV (x : Nat × Nat) : List Value := [.int .i64 (x.1 : Int), .int .i64 (x.2 : Int)]
theorem Hl.take {L : List (List Nat)} (h : Hl L) (k : Nat) : Hl (L.take k) := fun x hx => h x (List.mem_of_mem_take hx)
theorem Hl.drop {L : List (List Nat)} (h : Hl L) (k : Nat) : Hl (L.drop k) := fun x hx => h x (List.mem_of_mem_drop hx)
theorem Hl.app {L M : List (List Nat)} (h : Hl L) (g : Hl M) : Hl (L ++ M) := fun x hx => (List.mem_append.1 hx).elim (h x) (g x)
theorem Hl.at {L : List (List Nat)} (h : Hl L) {i : Nat} {x : List Nat} (e : L[i]? = some x) : Hh x := h x (List.mem_of_getElem? e)
section
variable {α : Type} {enc : α → List Value} {n : Nat} {w w' : World} {a : Option Addr} {L : List α}
/-- a slice's elements, each of n cells. -/
def ES (enc : α → List Value) (n : Nat) (w : World) (a : Option Addr) (L : List α) : Prop := L = [] ∨ ∃ b off, a = some ⟨b, off, none⟩ ∧ ∀ i x, L[i]? = some x → w.rangeAt b (off + i * n) (enc x)
theorem range_below {b o : Nat} {cs : List Value} (h : w.rangeAt b o cs) (g : Below w.heap.size w w') : w'.rangeAt b o cs := fun j v hj =>
  (g.cell (p := ⟨b, o + j, none⟩) (World.block_lt_of_cell? w _ (h j v hj))).trans (h j v hj)
theorem ES.below (h : ES enc n w a L) (g : Below w.heap.size w w') : ES enc n w' a L := by
  rcases h with h | ⟨b, off, e, h⟩
  · exact .inl h
  · exact .inr ⟨b, off, e, fun i x hx => range_below (h i x hx) g⟩
theorem ES.take (h : ES enc n w a L) (k : Nat) : ES enc n w a (L.take k) := by
  rcases h with h | ⟨b, off, e, h⟩
  · exact .inl (by rw [h, List.take_nil])
  · refine .inr ⟨b, off, e, fun i x hx => h i x ?_⟩
    rw [List.getElem?_take] at hx
    split at hx
    · exact hx
    · cases hx
theorem ES.drop {b off : Nat} (h : ES enc n w (some ⟨b, off, none⟩) L) (k : Nat) : ES enc n w (some ⟨b, off + k * n, none⟩) (L.drop k) := by
  rcases h with h | ⟨b', off', e, h⟩
  · exact .inl (by rw [h, List.drop_nil])
  · injection e with e; injection e with e1 e2 e3
    subst e1 e2
    refine .inr ⟨_, _, rfl, fun i x hx => ?_⟩
    rw [List.getElem?_drop] at hx
    rw [Nat.add_assoc, ← Nat.add_mul]
    exact h _ x hx
theorem ES.at (h : ES enc n w a L) {i : Nat} {x : α} (hx : L[i]? = some x) : ∃ b off, a = some ⟨b, off, none⟩ ∧ w.rangeAt b (off + i * n) (enc x) := by
  rcases h with h | ⟨b, off, e, h⟩
  · rw [h] at hx; cases hx
  · exact ⟨b, off, e, h i x hx⟩
theorem flat_at (hn : ∀ x ∈ L, (enc x).length = n) : ∀ (i : Nat) (x : α), L[i]? = some x → ∀ j v, (enc x)[j]? = some v → (L.flatMap enc)[i * n + j]? = some v := by
  induction L with
  | nil => intro i x h; cases h
  | cons y r ih =>
    intro i x h j v hv
    have hy := hn y (by simp)
    rw [List.flatMap_cons]
    cases i with
    | zero =>
      simp at h
      subst h
      rw [Nat.zero_mul, Nat.zero_add, List.getElem?_append_left (List.getElem?_eq_some_iff.1 hv).1]
      exact hv
    | succ i =>
      simp at h
      rw [List.getElem?_append_right (by rw [hy, Nat.succ_mul]; omega), hy, show (i + 1) * n + j - n = i * n + j by rw [Nat.succ_mul]; omega]
      exact ih (fun z hz => hn z (by simp [hz])) i x h j v hv
theorem flat_len (hn : ∀ x ∈ L, (enc x).length = n) : (L.flatMap enc).length = L.length * n := by
  induction L with
  | nil => simp
  | cons y r ih => rw [List.flatMap_cons, List.length_append, hn y (by simp), ih (fun z hz => hn z (by simp [hz])), List.length_cons, Nat.succ_mul]; omega
/-- a row of the call's own. -/
def OwE (enc : α → List Value) (t : TypeId) (n : Nat) (w : World) (base : Nat) (v : Value) (L : List α) : Prop := w.ownsRow base t n v L.length (L.flatMap enc) ∧ ∀ x ∈ L, (enc x).length = n
theorem OwE.es {t : TypeId} {base : Nat} {v : Value} (h : OwE enc t n w base v L) : ∃ a cap, v = .slice a L.length cap ∧ L.length ≤ cap ∧ (a = none → cap = 0 ∧ L = []) ∧ ES enc n w a L ∧ ∀ ad, a = some ad → base ≤ ad.block ∧ ad.block < w.heap.size := by
  obtain ⟨h, hn⟩ := h
  have hc := @World.ownsRow.cells w base t n v L.length (L.flatMap enc) h
  have hlt := h.lt
  rcases h.2 with ⟨rfl, h0⟩ | ⟨g, cap, cur, rfl, hb, hg, hle, hm, hs, ht⟩
  · have : L = [] := List.eq_nil_of_length_eq_zero h0
    subst this
    exact ⟨none, 0, rfl, Nat.le_refl _, fun _ => ⟨rfl, rfl⟩, .inl rfl, fun _ e => by cases e⟩
  · refine ⟨_, cap, rfl, hle, (fun e => by cases e), .inr ⟨g, 0, rfl, fun i x hx j v hv => ?_⟩, (fun ad e => by cases e; exact hlt g rfl)⟩
    have := hc rfl (i * n + j) v (flat_at hn i x hx j v hv)
    rw [Addr.add_lit] at this
    simpa using this
theorem OwE.kept {t : TypeId} {base : Nat} {v : Value} {row : Option Nat} (h : OwE enc t n w base v L) (g : w.grownBy w' row) (hne : ∀ k, v.ownBlock = some k → row ≠ some k) : OwE enc t n w' base v L :=
  ⟨h.1.kept g (by
    cases e : v.ownBlock with
    | none => exact .inl rfl
    | some k => exact .inr fun h => hne k e h.symm), h.2⟩
end
/-! ### operations -/
theorem fold_set : ∀ (cs : List Value) (k : Nat) (Z : List Value), k + cs.length ≤ Z.length → (cs.zipIdx k).foldl (fun (c : Array Value) (p : Value × Nat) => c.setIfInBounds (0 + p.2) p.1) Z.toArray = (Z.take k ++ (cs ++ Z.drop (k + cs.length))).toArray
  | [], k, Z, h => by simp
  | x :: r, k, Z, h => by
    simp only [List.length_cons] at h
    rw [List.zipIdx_cons, List.foldl_cons]
    simp only [Nat.zero_add, List.setIfInBounds_toArray]
    have := fold_set r (k + 1) (Z.set k x) (by rw [List.length_set]; omega)
    simp only [Nat.zero_add] at this
    rw [this]
    congr 1
    have e1 : (Z.set k x).take (k + 1) = Z.take k ++ [x] := by
      rw [List.take_succ_eq_append_getElem (by rw [List.length_set]; omega), List.take_set, List.getElem_set_self]
      rw [List.set_eq_of_length_le (by rw [List.length_take]; omega)]
    have e2 : (Z.set k x).drop (k + 1 + r.length) = Z.drop (k + (r.length + 1)) := by
      rw [List.drop_set_of_lt (by omega)]; congr 1; omega
    rw [e1, e2, List.length_cons]
    simp
theorem fill_one (cs Z : List Value) (n : Nat) (h1 : cs.length = n) (h2 : Z.length = n) : Instr.fill (fun i => some (i * n, n)) Z.toArray [(0, .agg cs.toArray)] = some cs.toArray := by
  have := fold_set cs 0 Z (by omega)
  unfold Instr.fill
  simp only [Value.cells, List.size_toArray, h1, h2, Nat.zero_mul, Nat.zero_add, ne_eq, not_true_eq_false, decide_false, Bool.false_or, gt_iff_lt, Nat.lt_irrefl, Bool.false_eq_true, if_false]
  rw [Instr.fill]
  rw [h1, List.drop_of_length_le (by omega)] at this
  simp only [Nat.zero_add, List.take_zero, List.nil_append, List.append_nil] at this
  congr 1
  simpa using this
section
variable {ops : Array Oper} {rest : List Oper} {o : Oper} {a : Act} {w : World} {K : Act → World → Prop} {Q : Exit → Act → World → Prop}
/-- a slice of one element of several cells. -/
theorem bs_one (t e : TypeId) (x : Operand) (ho : o.op = .buildSlice t 1 #[(0, x)]) (ht : Tryz.prog.underlying t = some (.slice e)) (n : Nat) (hn : 0 < n) (hn2 : n ≤ 1000) (z : List Value) (hs : ∀ w, (Go.sizeOf e).run Tryz.prog w = .ok n w) (hz : ∀ w, (zeroValue e).run Tryz.prog w = .ok (.agg z.toArray) w) (cs : List Value) (hc : cs.length = n)
    (hx : a.eval x = .agg cs.toArray) (h : K (a.put o.dst (.slice (some ⟨w.heap.size, 0, none⟩) 1 1)) (w.alloc (.cells cs.toArray e))) : Oper.wp Tryz.prog o a w K Q := by
  unfold Oper.wp execOp
  have hf := fill_one cs ((Array.range (1 * n)).map (fun i => (z.toArray[i % z.toArray.size]!))).toList n hc (by simp)
  simp only [Array.toArray_toList] at hf
  have h0 : ¬ (1 * n = 0) := by omega
  have h1 : ¬ (1 * n > 2 ^ 24) := by omega
  simp only [ho, Instr.buildSlice, Sem.run_bind, run_underlying ht, Result.andThen_ok, hs, hz, h0, h1, if_false, Sem.run_pure, List.map_toArray, List.map_cons, List.map_nil, hx, Value.cells]
  erw [hf]
  simp only [newRow, Sem.run_bind, Sem.run_pure]
  exact h
/-- a load of several cells, in a straight walk. -/
theorem ld_mid (hg : o.guard = none) (ty : TypeId) (x : Operand) (ho : o.op = .load ty x) (b k : Nat) (hx : a.eval x = .pointer (some ⟨b, k, none⟩)) (cs : List Value) (d : TypeDesc) (hS : w.rangeAt b k cs) (hu : Tryz.prog.underlying ty = some d) (hd : d.isRow = true) (hi : (Tryz.prog.info? ty).map (·.size) = some cs.length)
    (h : wpList Tryz.prog ops Q rest (a.put o.dst (.agg cs.toArray)) w) : wpList Tryz.prog ops Q (o :: rest) a w :=
  wpList_plain hg fun _ hK => wp_load_mid ty x ho b k hx cs d hS hu hd hi (hK _ _ h)
/-- append of elements onto a row of the call's own. -/
theorem app_wp {α : Type} {enc : α → List Value} {n : Nat} (s x : Operand) (t e : TypeId) (ho : o.op = .call { callee := .builtin .append, args := #[s, x], argTypes := #[t, t] }) (ht : Tryz.prog.underlying t = some (.slice e)) (z : List Value) (bytes : Nat)
    (hi : (Tryz.prog.info? e).map (fun i => (i.zero, i.size, i.bytes)) = some (some (.agg z.toArray), n, bytes)) (hz : z.length = n) (hn : 0 < n) (hb : bytes ≤ 1000) (base : Nat) (v : Value) (L M : List α) (hs : a.eval s = v) (hown : OwE enc e n w base v L) (ad : Option Addr) (cap : Nat) (hx : a.eval x = .slice ad M.length cap)
    (hM : ES enc n w ad M) (hnil : ad = none → cap = 0) (hMn : ∀ y ∈ M, (enc y).length = n ∧ ∀ u ∈ enc y, u.oneCell' = true) (hlen : L.length + M.length ≤ 100000000) (hbase : base ≤ w.heap.size)
    (h : ∀ v' w', OwE enc e n w' base v' (L ++ M) → w.grownBy w' v.ownBlock → K (a.put o.dst v') w') : Oper.wp Tryz.prog o a w K Q := by
  obtain ⟨i, hi1, hz0, hz1, hz2⟩ : ∃ i, Tryz.prog.info? e = some i ∧ i.zero = some (.agg z.toArray) ∧ i.size = n ∧ i.bytes = bytes := by
    cases hq : Tryz.prog.info? e with
    | none => rw [hq] at hi; cases hi
    | some i =>
      rw [hq] at hi
      simp only [Option.map_some, Option.some.injEq, Prod.mk.injEq] at hi
      exact ⟨i, rfl, hi⟩
  have go : ∀ b off, ad = some ⟨b, off, none⟩ → (∀ i x, M[i]? = some x → w.rangeAt b (off + i * n) (enc x)) → Oper.wp Tryz.prog o a w K Q := fun b off had hr => by
    subst had
    refine wp_append_own w s x t ho base e i (.agg z.toArray) n bytes ht hi1 hz0 hz1 hz2 (by simp [Value.cells, hz]) hn v L.length (L.flatMap enc) hs hown.1 ⟨b, off, none⟩ M.length cap (M.flatMap enc) hx (flat_len fun y hy => (hMn y hy).1) (fun j u hj => ?_) (fun u hu => ?_) (by unfold maxLen; omega) ?_ hbase ?_
    · have hjl := (List.getElem?_eq_some_iff.1 hj).1
      rw [flat_len fun y hy => (hMn y hy).1] at hjl
      have hq : j / n < M.length := (Nat.div_lt_iff_lt_mul hn).2 hjl
      have hy := (hMn _ (List.getElem_mem hq)).1
      have hv : (enc M[j / n])[j % n]? = some u := by
        have hlt : j % n < (enc M[j / n]).length := by rw [hy]; exact Nat.mod_lt _ hn
        have e1 := flat_at (enc := enc) (n := n) (fun y hy => (hMn y hy).1) (j / n) M[j / n] (List.getElem?_eq_getElem hq) (j % n) _ (List.getElem?_eq_getElem hlt)
        rw [Nat.mul_comm, Nat.div_add_mod, hj] at e1
        rw [List.getElem?_eq_getElem hlt, ← e1]
      have := hr (j / n) _ (List.getElem?_eq_getElem hq) (j % n) u hv
      rw [Nat.add_assoc, Nat.mul_comm, Nat.div_add_mod] at this
      rw [Addr.add_mid]
      exact this
    · obtain ⟨y, hy, hu⟩ := List.mem_flatMap.1 hu
      exact (hMn y hy).2 u hu
    · have := Nat.mul_le_mul hlen hb
      omega
    · intro v' w' h1 h2 _
      refine h v' w' ⟨?_, ?_⟩ h2
      · rw [List.length_append, List.flatMap_append]; exact h1
      · intro y hy
        rcases List.mem_append.1 hy with hy | hy
        · exact hown.2 y hy
        · exact (hMn y hy).1
  rcases hM with rfl | ⟨b, off, had, hr⟩
  · cases hc : ad with
    | none =>
      have hcap := hnil hc
      subst hc hcap
      have hrun := run_append_owned_none (P := Tryz.prog) (w := w) base t o.type e i n ht hi1 v L.length (L.flatMap enc) hown.1
      unfold Oper.wp
      simp only [execOp, ho, resolve, invoke, builtin, Sem.run_bind, Sem.run_pure, Result.andThen_ok, List.map_toArray, List.map_cons, List.map_nil, hs, hx, List.length_nil, hrun]
      exact h v w (by rw [List.append_nil]; exact hown) ⟨rfl, rfl, rfl, Nat.le_refl _, fun _ _ _ => rfl⟩
    | some q =>
      obtain ⟨b, off, f⟩ := q
      subst hc
      refine wp_append_own w s x t ho base e i (.agg z.toArray) n bytes ht hi1 hz0 hz1 hz2 (by simp [Value.cells, hz]) hn v L.length (L.flatMap enc) hs hown.1 ⟨b, off, f⟩ 0 cap [] hx (by simp) (fun j u hj => by cases hj) (fun u hu => by cases hu) (by unfold maxLen; omega) (by have := Nat.mul_le_mul hlen hb; simp only [List.length_nil] at this; omega) hbase ?_
      intro v' w' h1 h2 _
      exact h v' w' ⟨by simpa using h1, by simpa using hown.2⟩ h2
  · exact go b off had hr
theorem oper_calls (k : Nat) (xs : Array Operand) (ts : Array TypeId) (hop : o.op = Op.call { callee := Callee.value (Operand.func k), args := xs, argTypes := ts }) (args : Array Value) (hargs : xs.map a.eval = args)
    (hent : ∀ (args : Array Value) (w : World), (callFunc k args).run Tryz.prog w = .ok (.enter k args) w) (R : Value → World → Prop)
    (hc : Calls Tryz.prog k args w fun e w' => ∃ v, e = .returned v ∧ R v w') (hK : ∀ v w', R v w' → K (a.put o.dst v) w') : Oper.wp Tryz.prog o a w K Q := by
  unfold Oper.wp
  have : (execOp a.eval o).run Tryz.prog w = .ok (.enter k args) w := by
    simp [execOp, hop, resolve, invoke, Act.eval, hargs, hent, Deferred.ofValue]
  rw [this, Oper.upon_enter]
  refine hc.mono ?_
  rintro e w' ⟨v, rfl, hr⟩
  exact hK v w' hr
theorem oper_row (ty : TypeId) (x y : Operand) (ho : o.op = .store ty x y) (b off : Nat) (t : TypeId) (p m q m' : List Value)
    (hx : a.eval x = .pointer (some ⟨b, off, none⟩)) (hy : a.eval y = .agg m'.toArray) (hp : p.length = off) (hb : Sh.Blk w b t (p ++ (m ++ q))) (hl : m'.length = m.length)
    (hi : (Tryz.prog.info? ty).map (·.size) = some m'.length) (h1 : ∀ v ∈ m', v.oneCell' = true)
    (h : ∀ w', Sh.Blk w' b t (p ++ (m' ++ q)) → w.grownBy w' (some b) → K (a.put o.dst undef) w') : Oper.wp Tryz.prog o a w K Q := by
  subst hp
  refine wp_store_mid ty x y ho b p.length m'.toArray hx hy (hb.there _ _ (by simp; omega)) (by simpa using hi) (all_oneCell_toArray h1) ?_
  exact h _ (by simpa using Sh.Blk.setCells q m' m p w hl hb) (by simpa using Sh.grown_setCells b m' p.length w)
theorem oper_all (ty : TypeId) (x y : Operand) (ho : o.op = .store ty x y) (b : Nat) (t : TypeId) (m m' : List Value)
    (hx : a.eval x = .pointer (some ⟨b, 0, none⟩)) (hy : a.eval y = .agg m'.toArray) (hb : Sh.Blk w b t m) (hl : m'.length = m.length)
    (hi : (Tryz.prog.info? ty).map (·.size) = some m'.length) (h1 : ∀ v ∈ m', v.oneCell' = true)
    (h : ∀ w', Sh.Blk w' b t m' → w.grownBy w' (some b) → K (a.put o.dst undef) w') : Oper.wp Tryz.prog o a w K Q :=
  oper_row ty x y ho b 0 t [] m [] m' hx hy rfl (by simpa using hb) hl hi h1 (by simpa using h)
/-! loads of one cell, in a class of worlds -/
theorem q_slc {C : World → Prop} {K : Act → Prop} (x : Operand) (ho : o.op = .load 51 x) (b k : Nat) (hx : a.eval x = .pointer (some ⟨b, k, none⟩)) (y : Option Addr) (n c : Nat) (hS : ∀ w, C w → w.cell? ⟨b, k, none⟩ = some (.slice y n c)) (hk : K (a.put o.dst (.slice y n c))) : o.quiet Tryz.prog a C K :=
  ⟨_, fun w hw => by
    have h := hS w hw
    unfold Oper.quietAt execOp
    simp only [ho, hx]
    go_simp, hk⟩
theorem q_map {C : World → Prop} {K : Act → Prop} (x : Operand) (ho : o.op = .load 123 x) (b k : Nat) (hx : a.eval x = .pointer (some ⟨b, k, none⟩)) (m : Option Nat) (hS : ∀ w, C w → w.cell? ⟨b, k, none⟩ = some (.map m)) (hk : K (a.put o.dst (.map m))) : o.quiet Tryz.prog a C K :=
  ⟨_, fun w hw => by
    have h := hS w hw
    unfold Oper.quietAt execOp
    simp only [ho, hx]
    go_simp, hk⟩
theorem q_int {C : World → Prop} {K : Act → Prop} (x : Operand) (ho : o.op = .load 3 x) (b k : Nat) (hx : a.eval x = .pointer (some ⟨b, k, none⟩)) (z : Int) (hS : ∀ w, C w → w.cell? ⟨b, k, none⟩ = some (.int .i64 z)) (hk : K (a.put o.dst (.int .i64 z))) : o.quiet Tryz.prog a C K :=
  ⟨_, fun w hw => by
    have h := hS w hw
    unfold Oper.quietAt execOp
    simp only [ho, hx]
    go_simp, hk⟩
theorem q_load {C : World → Prop} {K : Act → Prop} (ty : TypeId) (x : Operand) (ho : o.op = .load ty x) (b k : Nat) (hx : a.eval x = .pointer (some ⟨b, k, none⟩)) (cs : List Value) (d : TypeDesc) (hS : ∀ w, C w → w.rangeAt b k cs)
    (hu : Tryz.prog.underlying ty = some d) (hd : d.isRow = true) (hi : (Tryz.prog.info? ty).map (·.size) = some cs.length) (hk : K (a.put o.dst (.agg cs.toArray))) : o.quiet Tryz.prog a C K :=
  ⟨_, fun w hw => by
    unfold Oper.quietAt execOp
    simp only [ho, hx, Instr.loadAt, Instr.sureAddr, Sem.run_bind, Sem.run_pure, Result.andThen_ok, run_loadVar_mid w b k ty cs d (hS w hw) hu hd hi]
    exact ⟨rfl, rfl⟩, hk⟩
end
theorem enters {P : Program} {f : FuncId} {fn : Func} {c : Code} (hf : P.funcs[f]? = some fn) (hname : (fn.name == "runtime.NumGoroutine") = false) (hb : fn.body = some c) : ∀ (args : Array Value) (w : World), (callFunc f args).run P w = .ok (.enter f args) w := by
  intro args w
  have h1 : fn.name ≠ "runtime.NumGoroutine" := by simpa using hname
  simp [callFunc, hf, h1, hb]
/-! ### digests are held against each other -/
end Go.Proofs.YtmbglggodifboaaGreatDoor.Mer
