/-
  What the document's own Path and Sub make, over lists (no program). · The document's own Root. · The document's own Path and Sub. · The document's own Tree: Root, Prove, Consist, in range and out of it; and the program's, as one answer. · MerkleProves' walk.
-/
import Derived.Test.YtfkiciejipcgkaaDoorEb
import Derived.Test.YtfkiciejipcgkaaDoorEx
import Derived.Test.YtfkiciejipcgkaaDoorEs
import Derived.Test.YtfkiciejipcgkaaDoorSRnode
import Derived.Test.YtfkiciejipcgkaaDoorEw
import Derived.Test.YtfkiciejipcgkaaDoorE12
import Derived.Test.YtfkiciejipcgkaaDoorE5m
import Derived.Test.YtfkiciejipcgkaaDoorEy
import Derived.Test.YtfkiciejipcgkaaDoorE6
namespace Go.Proofs.YtfkiciejipcgkaaDoor
namespace Mk
section
variable {H : Type} (nd : H → H → H) (em : H)
/-- the path of a leaf. -/
def ptF : Nat → Nat → List H → List H
  | 0, _, _ => []
  | T + 1, i, l =>
    if l.length ≤ 2 ^ T then ptF T i l
    else if i < 2 ^ T then ptF T i (l.take (2 ^ T)) ++ [R nd em (l.drop (2 ^ T))]
    else ptF T (i - 2 ^ T) (l.drop (2 ^ T)) ++ [R nd em (l.take (2 ^ T))]
theorem ptF_rts : ∀ (T i : Nat) (l : List H), i < l.length → l.length ≤ 2 ^ T → ptF nd em T i l = rts nd em l (wy 0 i l.length)
  | 0, i, l, hi, hn => by
    rw [wy_one (by simpa using hn) (by simpa using hi)]; rfl
  | T + 1, i, l, hi, hn => by
    rw [ptF]
    by_cases hs : l.length ≤ 2 ^ T
    · rw [if_pos hs]; exact ptF_rts T i l hi hs
    · have h1 : 2 ^ T < l.length := by omega
      have hl : (l.take (2 ^ T)).length = 2 ^ T := by rw [List.length_take]; omega
      rw [if_neg hs]
      by_cases hc : i < 2 ^ T
      · have hp : i * 2 ^ 0 < 2 ^ T := by simpa using hc
        rw [if_pos hc, rts_left nd em h1 hn (Nat.zero_le _) hp, ptF_rts T i _ (by omega) (by omega), hl]
      · rw [if_neg hc]
        obtain ⟨q, rfl⟩ := Nat.le.dest (Nat.not_lt.1 hc)
        have hd : (l.drop (2 ^ T)).length = l.length - 2 ^ T := List.length_drop
        have hq : q * 2 ^ 0 < l.length - 2 ^ T := by simp; omega
        have e0 : 2 ^ (T - 0) + q = 2 ^ T + q := rfl
        rw [Nat.add_sub_cancel_left, ← e0, rts_right nd em h1 hn (Nat.zero_le _) hq, ptF_rts T q _ (by omega) (by rw [Nat.pow_succ] at hn; omega), hd]
/-- the consistency of the first m. -/
def sbF : Nat → Nat → List H → Bool → List H
  | 0, _, l, w => if w then [] else [R nd em l]
  | T + 1, m, l, w =>
    if l.length ≤ 2 ^ T then sbF T m l w
    else if m = l.length then (if w then [] else [R nd em l])
    else if m ≤ 2 ^ T then sbF T m (l.take (2 ^ T)) w ++ [R nd em (l.drop (2 ^ T))]
    else sbF T (m - 2 ^ T) (l.drop (2 ^ T)) false ++ [R nd em (l.take (2 ^ T))]
theorem sbF_same : ∀ (T : Nat) (l : List H) (w : Bool), sbF nd em T l.length l w = if w then [] else [R nd em l]
  | 0, l, w => rfl
  | T + 1, l, w => by
    rw [sbF]
    split
    · exact sbF_same T l w
    · rw [if_pos rfl]
def hd2 (c u : Nat) (w : Bool) (n : Nat) : List (Nat × Nat) := if w = true ∧ u = 0 then wy c (2 * u) n else (c, 2 * u) :: wy c (2 * u) n
theorem rts_cons (l : List H) (x : Nat × Nat) (os : List (Nat × Nat)) : rts nd em l (x :: os) = R nd em (sg l x) :: rts nd em l os := rfl
theorem sbF_rts : ∀ (T : Nat) (l : List H) (c u : Nat) (w : Bool), l.length ≤ 2 ^ T → ((2 * u + 1) * 2 ^ c < l.length ∨ u = 0 ∧ 2 ^ c = l.length) →
    sbF nd em T ((2 * u + 1) * 2 ^ c) l w = rts nd em l (hd2 c u w l.length)
  | T, l, c, u, w, h, .inr ⟨hu, hc⟩ => by
    subst hu
    have e : (2 * 0 + 1) * 2 ^ c = l.length := by omega
    rw [e, sbF_same]
    unfold hd2
    rw [show 2 * 0 = 0 from rfl, wy_one (by omega) (by have := pow_pos2 c; omega)]
    cases w
    · rw [if_neg (by simp), if_neg (by simp), rts_cons, sg_last l c hc.symm]; rfl
    · rw [if_pos rfl, if_pos ⟨rfl, rfl⟩]; rfl
  | 0, l, c, u, w, h, .inl hm => by
    have := pow_pos2 c
    have : 1 * 1 ≤ (2 * u + 1) * 2 ^ c := Nat.mul_le_mul (by omega) (by omega)
    rw [Nat.pow_zero] at h
    omega
  | T + 1, l, c, u, w, h, .inl hm => by
    rw [sbF]
    by_cases hs : l.length ≤ 2 ^ T
    · rw [if_pos hs]; exact sbF_rts T l c u w hs (.inl hm)
    · have h1 : 2 ^ T < l.length := by omega
      rw [if_neg hs, if_neg (by omega)]
      by_cases hi2 : (2 * u + 1) * 2 ^ c ≤ 2 ^ T
      · obtain ⟨hc, hp⟩ := odd_left hi2
        have hl : (l.take (2 ^ T)).length = 2 ^ T := by rw [List.length_take]; omega
        have hd : (2 * u + 1) * 2 ^ c < 2 ^ T ∨ u = 0 ∧ 2 ^ c = 2 ^ T := by
          rcases Nat.lt_or_eq_of_le hi2 with h3 | h3
          · exact .inl h3
          · have e := pow_split hc
            rw [e, Nat.mul_comm] at h3
            have h4 := Nat.eq_of_mul_eq_mul_left (pow_pos2 c) h3
            by_cases hT : T - c = 0
            · rw [hT] at h4
              exact .inr ⟨by simp at h4; omega, by rw [show T = c by omega]⟩
            · have := pow_even (k := T - c) (by omega); omega
        have ih := sbF_rts T (l.take (2 ^ T)) c u w (by omega) (by rw [hl]; exact hd)
        rw [if_pos hi2, ih, hl]
        unfold hd2
        split
        · rw [rts_left nd em h1 h hc hp]
        · rw [rts_cons, rts_cons, rts_left nd em h1 h hc hp, sg_left l T (c, 2 * u) hi2]; rfl
      · obtain ⟨hc, v, hv, hw, hu⟩ := odd_right (c := c) (u := u) (T := T) (by omega) (by omega)
        have hq : 2 * v * 2 ^ c < l.length - 2 ^ T := by
          have := pow_pos2 c
          rw [Nat.add_mul, Nat.one_mul] at hw
          omega
        have hl : (l.drop (2 ^ T)).length = l.length - 2 ^ T := List.length_drop
        have hle : l.length - 2 ^ T ≤ 2 ^ T := by rw [Nat.pow_succ] at h; omega
        have es : sg l (c, 2 * u) = sg (l.drop (2 ^ T)) (c, 2 * v) := by
          have := sg_shift l T (c, 2 * v) (Nat.le_of_lt hc)
          unfold sh at this; rw [← hv] at this; exact this
        have ih := sbF_rts T (l.drop (2 ^ T)) c v false (by rw [hl]; exact hle) (.inl (by rw [hw, hl]; omega))
        rw [if_neg hi2, ← hw, ih, hl]
        unfold hd2
        rw [if_neg (by simp), if_neg (by omega), rts_cons, rts_cons, es, hv, rts_right nd em h1 h (Nat.le_of_lt hc) hq]; rfl
end
end Mk
#print axioms Mk.sbF_rts
#print axioms Mk.ptF_rts
end Go.Proofs.YtfkiciejipcgkaaDoor
namespace Go.Proofs.YtfkiciejipcgkaaDoor
open Go Go.RowKit Go.Maps Sh
/-- Root of at most so many leaves. -/
def RootC (B : Nat) : Prop := ∀ (a : Option Addr) (cap : Nat) (L : List (List Nat)) (w : World), L.length ≤ B → Hl L → L.length ≤ cap → ES (nums .u8) 32 w a L →
    Calls Tryd.prog 18 #[.slice a L.length cap] w fun e w' => e = .returned (.agg (nums .u8 (Mk.R nd em L)).toArray) ∧ Below w.heap.size w w'
set_option maxHeartbeats 2000000 in
set_option maxRecDepth 8000 in
theorem rroot_nil (a : Option Addr) (cap : Nat) (w : World) : Calls Tryd.prog 18 #[.slice a 0 cap] w fun e w' => e = .returned (.agg (nums .u8 em).toArray) ∧ Below w.heap.size w w' := by
  have HS1 : Hid ((Tryd.prog.info? 30).map (·.size) = some (nums .u8 em).length) := sH em_hh
  have HL1 : Hid ((nums .u8 em).length = (nums .u8 (List.replicate 32 0)).length) := by show _ = _; rw [nums_length, nums_length, em_hh.1, List.length_replicate]
  have KS := fun W => rsum_any none 0 [] (by simp) W (.inl rfl) (fun _ => rfl) (by intro x hx; cases hx)
  obtain ⟨E, hE⟩ : ∃ E, E = em := ⟨_, rfl⟩
  have KS' : Hid (∀ W, Calls Tryd.prog 34 #[.slice none 0 0] W fun e w' => e = .returned (.agg (nums .u8 E).toArray) ∧ Below W.heap.size W w') := by rw [hE]; exact KS
  rw [← hE] at HS1 HL1 ⊢
  clear KS hE
  go_enter Tryd.func18, Tryd.ntmps18
  go_wp2_with (refine al_zero rfl 30 rfl _ z25 ?_)
  intro g1 w1 l1 B1 G1
  have Z := (Below.refl w.heap.size w).grown G1 (Nat.le_refl _) (by simp)
  clear G1
  go_wp2_with fail
  refine (KS'.out w1).mono ?_
  rintro e w2 ⟨rfl, Z2⟩
  have B1 := B1.below Z2 B1.lt
  have Z := Z.trans (Z2.mono Z.size)
  clear Z2
  go_wp2_with (refine st_all rfl 30 (.tmp 2) (.tmp 8) rfl g1 30 (nums .u8 (List.replicate 32 0)) (nums .u8 E) rfl rfl B1 HL1.out HS1.out (nums_one _ _) ?_)
  intro we BE GE
  go_wp2
  (try simp only [Exit.inBlock, Exit.then])
  refine bodyPost_ret (res_row rfl _ g1 30 _ _ rfl BE Tryd.underlying30 rfl HS1.out) rfl ⟨rfl, grown_below Z GE Z.size l1⟩
set_option maxHeartbeats 2000000 in
set_option maxRecDepth 8000 in
theorem rroot_one (a : Option Addr) (cap : Nat) (x : List Nat) (hx : Hh x) (w : World) (hS : ES (nums .u8) 32 w a [x]) : Calls Tryd.prog 18 #[.slice a 1 cap] w fun e w' => e = .returned (.agg (nums .u8 x).toArray) ∧ Below w.heap.size w w' := by
  have HX : Hid (Hh x) := hx
  have HS1 : Hid ((Tryd.prog.info? 30).map (·.size) = some (nums .u8 x).length) := sH hx
  have HL1 : Hid ((nums .u8 x).length = (nums .u8 (List.replicate 32 0)).length) := by show _ = _; rw [nums_length, nums_length, hx.1, List.length_replicate]
  obtain ⟨b, off, rfl, rl⟩ := hS.at (i := 0) (x := x) rfl
  rw [Nat.zero_mul, Nat.add_zero] at rl
  clear hx hS
  go_enter Tryd.func18, Tryd.ntmps18
  go_wp2_with (refine al_zero rfl 30 rfl _ z25 ?_)
  intro g1 w1 l1 B1 G1
  have Z := (Below.refl w.heap.size w).grown G1 (Nat.le_refl _) (by simp)
  have RL := range_below rl Z
  clear G1 rl
  go_wp2_with (first | (refine ld_mid rfl 30 (.tmp 12) rfl b off (by first | rfl | simp [Act.eval]) (nums .u8 x) _ RL Tryd.underlying30 rfl (sH HX.out) ?_) | (refine st_all rfl 30 (.tmp 2) (.tmp 13) rfl g1 30 (nums .u8 (List.replicate 32 0)) (nums .u8 x) rfl rfl B1 HL1.out HS1.out (nums_one _ _) ?_))
  intro we BE GE
  go_wp2
  (try simp only [Exit.inBlock, Exit.then])
  refine bodyPost_ret (res_row rfl _ g1 30 _ _ rfl BE Tryd.underlying30 rfl HS1.out) rfl ⟨rfl, grown_below Z GE Z.size l1⟩
set_option maxHeartbeats 2000000 in
set_option maxRecDepth 8000 in
theorem rroot_step (T P : Nat) (hP : Hid (P = 2 ^ T)) (ih : RootC P) (L : List (List Nat)) (hL : Hl L) (a : Option Addr) (cap : Nat) (h1 : P < L.length) (h2 : L.length ≤ 2 * P) (hlen : L.length ≤ 1000000) (hcap : L.length ≤ cap) (w : World) (hS : ES (nums .u8) 32 w a L) :
    Calls Tryd.prog 18 #[.slice a L.length cap] w fun e w' => e = .returned (.agg (nums .u8 (Mk.R nd em L)).toArray) ∧ Below w.heap.size w w' := by
  have hp1 : 1 ≤ P := by rw [hP.out]; exact Mk.pow_pos2 T
  obtain ⟨LT, hLT⟩ : ∃ LT, Hid (LT = L.take P) := ⟨_, rfl⟩
  obtain ⟨LD, hLD⟩ : ∃ LD, Hid (LD = L.drop P) := ⟨_, rfl⟩
  have lT : Hid (LT.length = P) := by show _ = _; rw [hLT.out, List.length_take]; omega
  have lD : Hid (LD.length = L.length - P) := by show _ = _; rw [hLD.out, List.length_drop]
  have HLT : Hid (Hl LT) := by show Hl LT; rw [hLT.out]; exact hL.take P
  have HLD : Hid (Hl LD) := by show Hl LD; rw [hLD.out]; exact hL.drop P
  have HA : Hid (ES (nums .u8) 32 w (lo a cap 0) LT) := by show ES _ _ _ _ LT; rw [hLT.out]; exact lo_zero (hS.take P) cap
  have HB : Hid (ES (nums .u8) 32 w (lo a cap P) LD) := by show ES _ _ _ _ LD; rw [hLD.out]; exact hS.lo cap P hcap
  obtain ⟨x, hx⟩ : ∃ x, Hid (x = Mk.R nd em LT) := ⟨_, rfl⟩
  obtain ⟨y, hy⟩ : ∃ y, Hid (y = Mk.R nd em LD) := ⟨_, rfl⟩
  have HX : Hid (Hh x) := by show Hh x; rw [hx.out]; exact R_hh HLT.out
  have HY : Hid (Hh y) := by show Hh y; rw [hy.out]; exact R_hh HLD.out
  have HR : Mk.R nd em L = nd x y := by rw [hx.out, hy.out, hLT.out, hLD.out, hP.out]; exact Mk.R_split nd em (T := T) (by rw [← hP.out]; exact h1) (by rw [Nat.pow_succ, ← hP.out]; omega)
  have KX : Hid (∀ W, ES (nums .u8) 32 W (lo a cap 0) LT → Calls Tryd.prog 18 #[.slice (lo a cap 0) P cap] W fun e w' => e = .returned (.agg (nums .u8 x).toArray) ∧ Below W.heap.size W w') := fun W hW => by
    have K := ih (lo a cap 0) cap LT W (by rw [lT.out]; exact Nat.le_refl _) HLT.out (by rw [lT.out]; omega) hW
    rw [lT.out, ← hx.out] at K; exact K
  have KY : Hid (∀ W, ES (nums .u8) 32 W (lo a cap P) LD → Calls Tryd.prog 18 #[.slice (lo a cap P) (L.length - P) (cap - P)] W fun e w' => e = .returned (.agg (nums .u8 y).toArray) ∧ Below W.heap.size W w') := fun W hW => by
    have K := ih (lo a cap P) (cap - P) LD W (by rw [lD.out]; omega) HLD.out (by rw [lD.out]; omega) hW
    rw [lD.out, ← hy.out] at K; exact K
  have KHH : Hid (∀ W, Calls Tryd.prog 35 #[.int .i64 (L.length : Int)] W fun e w' => e = .returned (.int .i64 (P : Int)) ∧ w' = W) := fun W => half_any L.length T P hP (by rw [← hP.out]; exact h1) (by rw [Nat.pow_succ, ← hP.out]; omega) (by omega) W
  have HNs : Hid ((Tryd.prog.info? 30).map (·.size) = some (nums .u8 (nd x y)).length) := sH (nd_hh _ _)
  have HNl : Hid ((nums .u8 (nd x y)).length = (nums .u8 (List.replicate 32 0)).length) := by show _ = _; rw [nums_length, nums_length, (nd_hh x y).1, List.length_replicate]
  have hne0 : ((L.length : Int) == 0) = false := by rw [beq_eq_false_iff_ne]; omega
  have hne1 : ((L.length : Int) == 1) = false := by rw [beq_eq_false_iff_ne]; omega
  rw [HR]
  clear hL hS ih HR hLT hLD lT lD hx hy
  go_enter Tryd.func18, Tryd.ntmps18
  go_wp2_with (refine al_zero rfl 30 rfl _ z25 ?_)
  intro g1 w1 l1 B1 G1
  have Z := (Below.refl w.heap.size w).grown G1 (Nat.le_refl _) (by simp)
  clear G1
  go_wp2_with fail
  refine (KHH.out w1).mono ?_
  rintro e w1' ⟨rfl, hw1⟩
  rw [hw1]
  clear hw1 w1'
  go_wp2_with fail
  obtain ⟨C, hC⟩ : ∃ C : World → Prop, C = fun W => Below w1.heap.size w1 W := ⟨_, rfl⟩
  have FA : Hid (∀ W, C W → ES (nums .u8) 32 W (lo a cap 0) LT) := fun W hW => by rw [hC] at hW; exact HA.out.below (Z.trans (hW.mono Z.size))
  have FB : Hid (∀ W, C W → ES (nums .u8) 32 W (lo a cap P) LD) := fun W hW => by rw [hC] at hW; exact HB.out.below (Z.trans (hW.mono Z.size))
  have F1 : Hid (∀ W, C W → Blk W g1 30 (nums .u8 (List.replicate 32 0))) := fun W hW => by rw [hC] at hW; exact B1.below hW B1.lt
  have CK : Hid (∀ W W', C W → Below W.heap.size W W' → C W') := fun W W' h1 h2 => by rw [hC] at h1 ⊢; exact h1.trans (h2.mono h1.size)
  have CA : Hid (∀ W W', C W → Below w1.heap.size W W' → C W') := fun W W' h1 h2 => by rw [hC] at h1 ⊢; exact h1.trans h2
  have CE : Hid (∀ W, C W → Below w1.heap.size w1 W) := fun W h => by rw [hC] at h; exact h
  have C0 : Hid (C { w1 with drawn := w1.drawn + 1 }) := by rw [hC]; exact Below.drew (Below.refl _ _)
  clear hC
  refine region_calm C 9 (by kernel_rfl) ?_
  have hCp : ∀ p : Prop, (∀ W, C W → p) ↔ p := fun p => ⟨fun h => h _ C0.out, fun h _ _ => h⟩
  generalize ({ w1 with drawn := w1.drawn + 1 } : World) = y0 at *
  refine seg 4 [0, 1, 2, 4, 5, 6] rfl (by kernel_rfl) whole_blind (C0.out) (by kernel_rfl) ?_
  change wpQuiet _ _ _ _ (_ :: _ :: _ :: _ :: _ :: _ :: []) _
  repeat (first
    | go_big_quiet_skip
    | (go_big_quiet_want
       first
       | (refine q_hi (.tmp 17) (.tmp 18) rfl a L.length cap P rfl rfl (by omega) ?_
          simp only [Act.put, List.setIfInBounds_toArray, List.set_cons_zero, List.set_cons_succ]
          go_big_quiet_on)
       | (refine q_lo (.tmp 21) (.tmp 22) rfl a L.length cap P rfl rfl (by omega) (by omega) ?_
          simp only [Act.put, List.setIfInBounds_toArray, List.set_cons_zero, List.set_cons_succ]
          go_big_quiet_on)
       | (go_big_quiet_op
          go_big_quiet_on)))
  refine wpQuiet_nil ?_
  refine lone_do (i := 3) 3 rfl (by kernel_rfl) rfl (by rfl) ?_
  intro K hK
  refine oper_calls 18 _ _ rfl #[.slice (lo a cap 0) P cap] (by rw [List.map_toArray]; rfl) (enters Tryd.func18 (by kernel_rfl) rfl) (fun v w' => v = .agg (nums .u8 x).toArray ∧ Below y0.heap.size y0 w') ((KX.out y0 (FA.out _ C0.out)).mono (by rintro e w' ⟨rfl, g⟩; exact ⟨_, rfl, rfl, g⟩)) ?_
  rintro v y1 ⟨rfl, Z1⟩
  have C1 : Hid (C y1) := CK.out _ _ C0.out Z1
  clear Z1
  refine hK _ _ (C1.out) ?_
  clear hK K
  simp only [Act.put, List.setIfInBounds_toArray, List.set_cons_zero, List.set_cons_succ]
  refine lone_do (i := 7) 2 rfl (by kernel_rfl) rfl (by rfl) ?_
  intro K hK
  refine oper_calls 18 _ _ rfl #[.slice (lo a cap P) (L.length - P) (cap - P)] (by rw [List.map_toArray]; rfl) (enters Tryd.func18 (by kernel_rfl) rfl) (fun v w' => v = .agg (nums .u8 y).toArray ∧ Below y1.heap.size y1 w') ((KY.out y1 (FB.out _ C1.out)).mono (by rintro e w' ⟨rfl, g⟩; exact ⟨_, rfl, rfl, g⟩)) ?_
  rintro v y2 ⟨rfl, Z2⟩
  have C2 : Hid (C y2) := CK.out _ _ C1.out Z2
  clear Z2
  refine hK _ _ (C2.out) ?_
  clear hK K
  simp only [Act.put, List.setIfInBounds_toArray, List.set_cons_zero, List.set_cons_succ]
  refine lone_do (i := 8) 1 rfl (by kernel_rfl) rfl (by rfl) ?_
  intro K hK
  refine oper_calls 25 _ _ rfl #[.agg (nums .u8 x).toArray, .agg (nums .u8 y).toArray] (by rw [List.map_toArray]; rfl) (enters Tryd.func25 (by kernel_rfl) rfl) (fun v w' => v = .agg (nums .u8 (nd x y)).toArray ∧ Below y2.heap.size y2 w') ((rnode_any x y HX.out.1 HY.out.1 HX.out.2 HY.out.2 y2).mono (by rintro e w' ⟨rfl, g⟩; exact ⟨_, rfl, rfl, g⟩)) ?_
  rintro v y3 ⟨rfl, Z3⟩
  have C3 : Hid (C y3) := CK.out _ _ C2.out Z3
  clear Z3
  refine hK _ _ (C3.out) ?_
  clear hK K
  simp only [Act.put, List.setIfInBounds_toArray, List.set_cons_zero, List.set_cons_succ]
  refine lone_last (i := 9) 0 rfl rfl (by kernel_rfl) rfl (by rfl) ?_
  intro K hK
  refine oper_all 30 (.tmp 2) (.tmp 25) rfl g1 30 (nums .u8 (List.replicate 32 0)) (nums .u8 (nd x y)) rfl rfl (F1.out _ C3.out) HNl.out HNs.out (nums_one _ _) ?_
  intro y4 B4 G4
  refine hK _ _ ?_
  clear hK K
  refine anyC_done (by kernel_rfl) ⟨rfl, ?_⟩
  simp only [Act.put]
  have ZE := grown_below (Z.trans ((CE.out _ C3.out).mono Z.size)) G4 (Z.trans ((CE.out _ C3.out).mono Z.size)).size l1
  clear C0 C1 C2 C3 CK CA CE FA FB F1 hCp
  go_wp2
  (try simp only [Exit.inBlock, Exit.then])
  refine bodyPost_ret (res_row rfl _ g1 30 _ _ rfl B4 Tryd.underlying30 rfl HNs.out) rfl ⟨rfl, ZE⟩
theorem rroot_all : ∀ T, T ≤ 19 → RootC (2 ^ T)
  | 0, _ => fun a cap L w hn hL hcap hS => by
    match L, hn, hL, hS with
    | [], _, _, _ => exact rroot_nil a cap w
    | [x], _, hL, hS => rw [Mk.R_one]; exact rroot_one a cap x (hL x (by simp)) w hS
    | x :: y :: r, hn, _, _ => simp at hn
  | T + 1, hT => fun a cap L w hn hL hcap hS => by
    have ih := rroot_all T (by omega)
    by_cases hs : L.length ≤ 2 ^ T
    · exact ih a cap L w hs hL hcap hS
    · have hb : 2 ^ (T + 1) ≤ 2 ^ 19 := Nat.pow_le_pow_right (by decide) hT
      have e2 : 2 ^ (T + 1) = 2 * 2 ^ T := by rw [Nat.pow_succ, Nat.mul_comm]
      exact rroot_step T (2 ^ T) rfl ih L hL a cap (by omega) (by omega) (by omega) hcap w hS
theorem rroot_any : RootC 524288 := rroot_all 19 (Nat.le_refl _)
#print axioms rroot_any
end Go.Proofs.YtfkiciejipcgkaaDoor
namespace Go.Proofs.YtfkiciejipcgkaaDoor
open Go Go.RowKit Go.Maps Sh
theorem own_mono {w : World} {base base' : Nat} {e : TypeId} {size : Nat} {v : Value} {n : Nat} {xs : List Value} (h : w.ownsRow base e size v n xs) (hb : base' ≤ base) : w.ownsRow base' e size v n xs := by
  rcases h with ⟨h1, h2 | ⟨g, cap, cur, e1, e2, e3⟩⟩
  · exact ⟨h1, .inl h2⟩
  · exact ⟨h1, .inr ⟨g, cap, cur, e1, Nat.le_trans hb e2, e3⟩⟩
theorem ptF_one : ∀ (T i : Nat) (l : List (List Nat)), l.length ≤ 1 → Mk.ptF nd em T i l = []
  | 0, _, _, _ => rfl
  | T + 1, i, l, h => by
    rw [Mk.ptF, if_pos (by have := Mk.pow_pos2 T; omega)]
    exact ptF_one T i l h
theorem ptF_len : ∀ (T i : Nat) (l : List (List Nat)), (Mk.ptF nd em T i l).length ≤ T
  | 0, _, _ => Nat.le_refl _
  | T + 1, i, l => by
    rw [Mk.ptF]
    split
    · have := ptF_len T i l; omega
    · split
      · have := ptF_len T i (l.take (2 ^ T)); simp only [List.length_append, List.length_singleton]; omega
      · have := ptF_len T (i - 2 ^ T) (l.drop (2 ^ T)); simp only [List.length_append, List.length_singleton]; omega
theorem sbF_len : ∀ (T m : Nat) (l : List (List Nat)) (b : Bool), (Mk.sbF nd em T m l b).length ≤ T + 1
  | 0, _, l, b => by unfold Mk.sbF; split <;> simp
  | T + 1, m, l, b => by
    rw [Mk.sbF]
    split
    · have := sbF_len T m l b; omega
    · split
      · split <;> simp
      · split
        · have := sbF_len T m (l.take (2 ^ T)) b; simp only [List.length_append, List.length_singleton]; omega
        · have := sbF_len T (m - 2 ^ T) (l.drop (2 ^ T)) false; simp only [List.length_append, List.length_singleton]; omega
theorem owe_lit' {α : Type} {enc : α → List Value} {n : Nat} (w : World) (t : TypeId) (x : α) (h : (enc x).length = n) : OwE enc t n (w.alloc (.cells (enc x).toArray t)) w.heap.size (.slice (some ⟨w.heap.size, 0, none⟩) 1 1) [x] :=
  ⟨⟨by simp [h], .inr ⟨w.heap.size, 1, (enc x).toArray, rfl, Nat.le_refl _, heap_alloc_new w _, Nat.le_refl _, by unfold maxLen; omega, by simp [h], by simp [← h]⟩⟩, by intro y hy; rw [List.mem_singleton.1 hy]; exact h⟩
/-- Path of at most so many leaves. -/
def PathC (T : Nat) : Prop := ∀ (i : Nat) (a : Option Addr) (cap : Nat) (L : List (List Nat)) (w : World), L.length ≤ 2 ^ T → i ≤ 1000000 → Hl L → L.length ≤ cap → ES (nums .u8) 32 w a L →
    Calls Tryd.prog 21 #[.int .i64 (i : Int), .slice a L.length cap] w fun e w' => ∃ v, e = .returned v ∧ OwE (nums .u8) 30 32 w' w.heap.size v (Mk.ptF nd em T i L) ∧ Below w.heap.size w w'
theorem path_nil (T i : Nat) (a : Option Addr) (cap : Nat) (L : List (List Nat)) (h : L.length ≤ 1) (w : World) :
    Calls Tryd.prog 21 #[.int .i64 (i : Int), .slice a L.length cap] w fun e w' => ∃ v, e = .returned v ∧ OwE (nums .u8) 30 32 w' w.heap.size v (Mk.ptF nd em T i L) ∧ Below w.heap.size w w' := by
  have HN : Hid (OwE (nums .u8) 30 32 w w.heap.size (.slice none 0 0) (Mk.ptF nd em T i L)) := by
    show OwE _ _ _ _ _ _ _
    rw [ptF_one T i L h]
    exact ⟨World.ownsRow_nil _ _ _ _, by simp⟩
  have h2 : (L.length : Int) < 2 := by omega
  clear h
  go_enter Tryd.func21, Tryd.ntmps21
  go_wp2
  go_ret
  exact ⟨_, rfl, HN.out, Below.refl _ _⟩
set_option maxHeartbeats 2000000 in
set_option maxRecDepth 8000 in
theorem path_left (T P : Nat) (hP : Hid (P = 2 ^ T)) (hT : T ≤ 18) (ih : PathC T) (L : List (List Nat)) (hL : Hl L) (a : Option Addr) (cap : Nat) (h1 : P < L.length) (h2 : L.length ≤ 2 * P) (hlen : L.length ≤ 1000000) (hcap : L.length ≤ cap) (w : World) (hS : ES (nums .u8) 32 w a L) (i : Nat) (hi : i < P) :
    Calls Tryd.prog 21 #[.int .i64 (i : Int), .slice a L.length cap] w fun e w' => ∃ v, e = .returned v ∧ OwE (nums .u8) 30 32 w' w.heap.size v (Mk.ptF nd em (T + 1) i L) ∧ Below w.heap.size w w' := by
  have hP18 : P ≤ 262144 := by rw [hP.out]; exact Nat.le_trans (Nat.pow_le_pow_right (by decide) hT) (by decide)
  have hp1 : 1 ≤ P := by rw [hP.out]; exact Mk.pow_pos2 T
  obtain ⟨LT, hLT⟩ : ∃ LT, Hid (LT = L.take P) := ⟨_, rfl⟩
  obtain ⟨LD, hLD⟩ : ∃ LD, Hid (LD = L.drop P) := ⟨_, rfl⟩
  have lT : Hid (LT.length = P) := by show _ = _; rw [hLT.out, List.length_take]; omega
  have lD : Hid (LD.length = L.length - P) := by show _ = _; rw [hLD.out, List.length_drop]
  have HLT : Hid (Hl LT) := by show Hl LT; rw [hLT.out]; exact hL.take P
  have HLD : Hid (Hl LD) := by show Hl LD; rw [hLD.out]; exact hL.drop P
  have HA : Hid (ES (nums .u8) 32 w (lo a cap 0) LT) := by show ES _ _ _ _ LT; rw [hLT.out]; exact lo_zero (hS.take P) cap
  have HB : Hid (ES (nums .u8) 32 w (lo a cap P) LD) := by show ES _ _ _ _ LD; rw [hLD.out]; exact hS.lo cap P hcap
  have KHH : Hid (∀ W, Calls Tryd.prog 35 #[.int .i64 (L.length : Int)] W fun e w' => e = .returned (.int .i64 (P : Int)) ∧ w' = W) := fun W => half_any L.length T P hP (by rw [← hP.out]; exact h1) (by rw [Nat.pow_succ, ← hP.out]; omega) (by omega) W
  obtain ⟨x, hx⟩ : ∃ x, Hid (x = Mk.R nd em LD) := ⟨_, rfl⟩
  have HX : Hid (Hh x) := by show Hh x; rw [hx.out]; exact R_hh HLD.out
  have KX : Hid (∀ W, ES (nums .u8) 32 W (lo a cap P) LD → Calls Tryd.prog 18 #[.slice (lo a cap P) (L.length - P) (cap - P)] W fun e w' => e = .returned (.agg (nums .u8 x).toArray) ∧ Below W.heap.size W w') := fun W hW => by
    have K := rroot_any (lo a cap P) (cap - P) LD W (by rw [lD.out]; omega) HLD.out (by rw [lD.out]; omega) hW
    rw [lD.out, ← hx.out] at K; exact K
  obtain ⟨M, hM⟩ : ∃ M, Hid (M = Mk.ptF nd em T i LT) := ⟨_, rfl⟩
  have lM : M.length ≤ 30 := by rw [hM.out]; have := ptF_len T i LT; omega
  have KP : Hid (∀ W, ES (nums .u8) 32 W (lo a cap 0) LT → Calls Tryd.prog 21 #[.int .i64 (i : Int), .slice (lo a cap 0) P cap] W fun e w' => ∃ v, e = .returned v ∧ OwE (nums .u8) 30 32 w' W.heap.size v M ∧ Below W.heap.size W w') := fun W hW => by
    have K := ih i (lo a cap 0) cap LT W (by rw [lT.out, ← hP.out]; omega) (by omega) HLT.out (by rw [lT.out]; omega) hW
    rw [lT.out, ← hM.out] at K; exact K
  have HM : Hid (Mk.ptF nd em (T + 1) i L = M ++ [x]) := by
    show _ = _
    rw [Mk.ptF, ← hP.out, if_neg (by omega), if_pos hi, hM.out, hx.out, hLT.out, hLD.out]
  have g1 : ¬ (L.length : Int) < 2 := by omega
  have g2 : (i : Int) < (P : Int) := by omega
  clear hL hS ih hLT hLD lT lD hx hM
  go_enter Tryd.func21, Tryd.ntmps21
  go_wp2_with fail
  refine (KHH.out w).mono ?_
  rintro e w1 ⟨rfl, hw1⟩
  rw [hw1]
  clear hw1 w1
  have Z := Below.refl w.heap.size w
  go_wp2_with fail
  obtain ⟨C, hC⟩ : ∃ C : World → Prop, C = fun W => Below w.heap.size w W := ⟨_, rfl⟩
  have FA : Hid (∀ W, C W → ES (nums .u8) 32 W (lo a cap 0) LT) := fun W hW => by rw [hC] at hW; exact HA.out.below (Z.trans (hW.mono Z.size))
  have FB : Hid (∀ W, C W → ES (nums .u8) 32 W (lo a cap P) LD) := fun W hW => by rw [hC] at hW; exact HB.out.below (Z.trans (hW.mono Z.size))
  have CK : Hid (∀ W W', C W → Below W.heap.size W W' → C W') := fun W W' h1 h2 => by rw [hC] at h1 ⊢; exact h1.trans (h2.mono h1.size)
  have CA : Hid (∀ W W', C W → Below w.heap.size W W' → C W') := fun W W' h1 h2 => by rw [hC] at h1 ⊢; exact h1.trans h2
  have CE : Hid (∀ W, C W → Below w.heap.size w W) := fun W h => by rw [hC] at h; exact h
  have C0 : Hid (C { w with drawn := w.drawn + 1 }) := by rw [hC]; exact Below.drew (Below.refl _ _)
  clear hC
  refine region_calm C 11 (by kernel_rfl) ?_
  have hCp : ∀ p : Prop, (∀ W, C W → p) ↔ p := fun p => ⟨fun h => h _ C0.out, fun h _ _ => h⟩
  generalize ({ w with drawn := w.drawn + 1 } : World) = y0 at *
  refine seg 5 [0, 1, 2, 3, 5, 6, 7] rfl (by kernel_rfl) whole_blind (C0.out) (by kernel_rfl) ?_
  change wpQuiet _ _ _ _ (_ :: _ :: _ :: _ :: _ :: _ :: _ :: []) _
  repeat (first
    | go_big_quiet_skip
    | (go_big_quiet_want
       first
       | (refine q_hi (.tmp 16) (.tmp 17) rfl a L.length cap P rfl rfl (by omega) ?_
          simp only [Act.put, List.setIfInBounds_toArray, List.set_cons_zero, List.set_cons_succ]
          go_big_quiet_on)
       | (refine q_lo (.tmp 20) (.tmp 21) rfl a L.length cap P rfl rfl (by omega) (by omega) ?_
          simp only [Act.put, List.setIfInBounds_toArray, List.set_cons_zero, List.set_cons_succ]
          go_big_quiet_on)
       | (go_big_quiet_op
          go_big_quiet_on)))
  refine wpQuiet_nil ?_
  refine lone_do (i := 4) 4 rfl (by kernel_rfl) rfl (by rfl) ?_
  intro K hK
  refine oper_calls 21 _ _ rfl #[.int .i64 (i : Int), .slice (lo a cap 0) P cap] (by rw [List.map_toArray]; rfl) (enters Tryd.func21 (by kernel_rfl) rfl) (fun v w' => OwE (nums .u8) 30 32 w' y0.heap.size v M ∧ Below y0.heap.size y0 w') ((KP.out y0 (FA.out _ C0.out)).mono (by rintro e w' ⟨v, rfl, o, g⟩; exact ⟨v, rfl, o, g⟩)) ?_
  rintro v y1 ⟨O1, Z1⟩
  have C1 : Hid (C y1) := CK.out _ _ C0.out Z1
  have O1 : Hid (OwE (nums .u8) 30 32 y1 y0.heap.size v M) := O1
  have s1 := Z1.size
  clear Z1
  refine hK _ _ (C1.out) ?_
  clear hK K
  simp only [Act.put, List.setIfInBounds_toArray, List.set_cons_zero, List.set_cons_succ]
  refine lone_do (i := 8) 3 rfl (by kernel_rfl) rfl (by rfl) ?_
  intro K hK
  refine oper_calls 18 _ _ rfl #[.slice (lo a cap P) (L.length - P) (cap - P)] (by rw [List.map_toArray]; rfl) (enters Tryd.func18 (by kernel_rfl) rfl) (fun v w' => v = .agg (nums .u8 x).toArray ∧ Below y1.heap.size y1 w') ((KX.out y1 (FB.out _ C1.out)).mono (by rintro e w' ⟨rfl, g⟩; exact ⟨_, rfl, rfl, g⟩)) ?_
  rintro u y2 ⟨rfl, Z2⟩
  have C2 : Hid (C y2) := CK.out _ _ C1.out Z2
  have O2 : Hid (OwE (nums .u8) 30 32 y2 y0.heap.size v M) := O1.out.grow Z2
  have s2 := Z2.size
  clear Z2 O1
  refine hK _ _ (C2.out) ?_
  clear hK K
  simp only [Act.put, List.setIfInBounds_toArray, List.set_cons_zero, List.set_cons_succ]
  refine lone_do (i := 9) 2 rfl (by kernel_rfl) rfl (by rfl) ?_
  intro K hK
  refine bs_one 22 30 (.tmp 23) rfl Tryd.underlying22 32 (by decide) (by decide) _ Tryd.sizeOf30 Tryd.zeroValue30 (nums .u8 x) (by rw [nums_length]; exact HX.out.1) rfl ?_
  have C3 : Hid (C (y2.alloc (.cells (nums .u8 x).toArray 30))) := CK.out _ _ C2.out ((Below.refl _ _).alloc (Nat.le_refl _) _)
  have O3 : Hid (OwE (nums .u8) 30 32 (y2.alloc (.cells (nums .u8 x).toArray 30)) y0.heap.size v M) := O2.out.alloc _
  have ES3 : Hid (ES (nums .u8) 32 (y2.alloc (.cells (nums .u8 x).toArray 30)) (some ⟨y2.heap.size, 0, none⟩) [x]) := es_lit y2 30 x
  have s3 : y2.heap.size ≤ (y2.alloc (.cells (nums .u8 x).toArray 30)).heap.size := by simp
  refine hK _ _ C3.out ?_
  clear hK K O2
  simp only [Act.put, List.setIfInBounds_toArray, List.set_cons_zero, List.set_cons_succ]
  obtain ⟨y3, hy3⟩ : ∃ y3, y2.alloc (.cells (nums .u8 x).toArray 30) = y3 := ⟨_, rfl⟩
  rw [hy3] at C3 O3 ES3 s3 ⊢
  clear hy3
  refine lone_do (i := 10) 1 rfl (by kernel_rfl) rfl (by rfl) ?_
  intro K hK
  refine app_wp (.tmp 19) (.tmp 24) 22 30 rfl Tryd.underlying22 _ 32 iH (by decide) (by decide) (by decide) y0.heap.size v M [x] rfl O3.out (some ⟨y2.heap.size, 0, none⟩) 1 rfl ES3.out (fun e => by cases e) (fun y hy => by rw [List.mem_singleton.1 hy, nums_length]; exact ⟨HX.out.1, nums_one _ _⟩) (by simp; omega) (by omega) ?_
  intro v4 y4 O4 G4
  have s0 := (CE.out _ C0.out).size
  have C4 : Hid (C y4) := CA.out _ _ C3.out ((Below.refl _ _).grown G4 (by omega) (fun k hk => by have := (O3.out.1.lt k hk).1; omega))
  have HO : Hid (OwE (nums .u8) 30 32 y4 w.heap.size v4 (M ++ [x])) := ⟨own_mono O4.1 (by have := Z.size; omega), O4.2⟩
  clear O4 G4 O3 ES3
  refine hK _ _ C4.out ?_
  clear hK K
  simp only [Act.put, List.setIfInBounds_toArray, List.set_cons_zero, List.set_cons_succ]
  refine lone_calm (i := 11) 0 rfl (by kernel_rfl) rfl rfl (C4.out) ?_
  repeat (first
    | go_big_quiet_skip
    | (go_big_quiet_want
       first
       | (go_big_quiet_op
          go_big_quiet_on)))
  refine wpQuiet_nil ?_
  refine anyC_done (by kernel_rfl) ⟨rfl, ?_⟩
  have ZE := Z.trans ((CE.out _ C4.out).mono Z.size)
  clear C0 C1 C2 C3 C4 CK CA CE FA FB hCp
  go_wp2
  go_ret
  exact ⟨_, rfl, by rw [HM.out]; exact HO.out, ZE⟩
set_option maxHeartbeats 2000000 in
set_option maxRecDepth 8000 in
theorem path_right (T P : Nat) (hP : Hid (P = 2 ^ T)) (hT : T ≤ 18) (ih : PathC T) (L : List (List Nat)) (hL : Hl L) (a : Option Addr) (cap : Nat) (h1 : P < L.length) (h2 : L.length ≤ 2 * P) (hlen : L.length ≤ 1000000) (hcap : L.length ≤ cap) (w : World) (hS : ES (nums .u8) 32 w a L) (i q : Nat) (hi : i = P + q) (hq : i ≤ 1000000) :
    Calls Tryd.prog 21 #[.int .i64 (i : Int), .slice a L.length cap] w fun e w' => ∃ v, e = .returned v ∧ OwE (nums .u8) 30 32 w' w.heap.size v (Mk.ptF nd em (T + 1) i L) ∧ Below w.heap.size w w' := by
  have hP18 : P ≤ 262144 := by rw [hP.out]; exact Nat.le_trans (Nat.pow_le_pow_right (by decide) hT) (by decide)
  have hp1 : 1 ≤ P := by rw [hP.out]; exact Mk.pow_pos2 T
  obtain ⟨LT, hLT⟩ : ∃ LT, Hid (LT = L.take P) := ⟨_, rfl⟩
  obtain ⟨LD, hLD⟩ : ∃ LD, Hid (LD = L.drop P) := ⟨_, rfl⟩
  have lT : Hid (LT.length = P) := by show _ = _; rw [hLT.out, List.length_take]; omega
  have lD : Hid (LD.length = L.length - P) := by show _ = _; rw [hLD.out, List.length_drop]
  have HLT : Hid (Hl LT) := by show Hl LT; rw [hLT.out]; exact hL.take P
  have HLD : Hid (Hl LD) := by show Hl LD; rw [hLD.out]; exact hL.drop P
  have HA : Hid (ES (nums .u8) 32 w (lo a cap 0) LT) := by show ES _ _ _ _ LT; rw [hLT.out]; exact lo_zero (hS.take P) cap
  have HB : Hid (ES (nums .u8) 32 w (lo a cap P) LD) := by show ES _ _ _ _ LD; rw [hLD.out]; exact hS.lo cap P hcap
  have KHH : Hid (∀ W, Calls Tryd.prog 35 #[.int .i64 (L.length : Int)] W fun e w' => e = .returned (.int .i64 (P : Int)) ∧ w' = W) := fun W => half_any L.length T P hP (by rw [← hP.out]; exact h1) (by rw [Nat.pow_succ, ← hP.out]; omega) (by omega) W
  obtain ⟨x, hx⟩ : ∃ x, Hid (x = Mk.R nd em LT) := ⟨_, rfl⟩
  have HX : Hid (Hh x) := by show Hh x; rw [hx.out]; exact R_hh HLT.out
  have KX : Hid (∀ W, ES (nums .u8) 32 W (lo a cap 0) LT → Calls Tryd.prog 18 #[.slice (lo a cap 0) P cap] W fun e w' => e = .returned (.agg (nums .u8 x).toArray) ∧ Below W.heap.size W w') := fun W hW => by
    have K := rroot_any (lo a cap 0) cap LT W (by rw [lT.out]; omega) HLT.out (by rw [lT.out]; omega) hW
    rw [lT.out, ← hx.out] at K; exact K
  obtain ⟨M, hM⟩ : ∃ M, Hid (M = Mk.ptF nd em T q LD) := ⟨_, rfl⟩
  have lM : M.length ≤ 30 := by rw [hM.out]; have := ptF_len T q LD; omega
  have KP : Hid (∀ W, ES (nums .u8) 32 W (lo a cap P) LD → Calls Tryd.prog 21 #[.int .i64 (q : Int), .slice (lo a cap P) (L.length - P) (cap - P)] W fun e w' => ∃ v, e = .returned v ∧ OwE (nums .u8) 30 32 w' W.heap.size v M ∧ Below W.heap.size W w') := fun W hW => by
    have K := ih q (lo a cap P) (cap - P) LD W (by rw [lD.out, ← hP.out]; omega) (by omega) HLD.out (by rw [lD.out]; omega) hW
    rw [lD.out, ← hM.out] at K; exact K
  have HM : Hid (Mk.ptF nd em (T + 1) i L = M ++ [x]) := by
    show _ = _
    rw [Mk.ptF, ← hP.out, if_neg (by omega), if_neg (by omega), hM.out, hx.out, hLT.out, hLD.out, show i - P = q by omega]
  have g1 : ¬ (L.length : Int) < 2 := by omega
  have g2 : ¬ (i : Int) < (P : Int) := by omega
  have g3 : (i : Int) - (P : Int) = (q : Int) := by omega
  clear hL hS ih hLT hLD lT lD hx hM hi
  go_enter Tryd.func21, Tryd.ntmps21
  go_wp2_with fail
  refine (KHH.out w).mono ?_
  rintro e w1 ⟨rfl, hw1⟩
  rw [hw1]
  clear hw1 w1
  have Z := Below.refl w.heap.size w
  go_wp2_with fail
  obtain ⟨C, hC⟩ : ∃ C : World → Prop, C = fun W => Below w.heap.size w W := ⟨_, rfl⟩
  have FA : Hid (∀ W, C W → ES (nums .u8) 32 W (lo a cap 0) LT) := fun W hW => by rw [hC] at hW; exact HA.out.below (Z.trans (hW.mono Z.size))
  have FB : Hid (∀ W, C W → ES (nums .u8) 32 W (lo a cap P) LD) := fun W hW => by rw [hC] at hW; exact HB.out.below (Z.trans (hW.mono Z.size))
  have CK : Hid (∀ W W', C W → Below W.heap.size W W' → C W') := fun W W' h1 h2 => by rw [hC] at h1 ⊢; exact h1.trans (h2.mono h1.size)
  have CA : Hid (∀ W W', C W → Below w.heap.size W W' → C W') := fun W W' h1 h2 => by rw [hC] at h1 ⊢; exact h1.trans h2
  have CE : Hid (∀ W, C W → Below w.heap.size w W) := fun W h => by rw [hC] at h; exact h
  have C0 : Hid (C { w with drawn := w.drawn + 1 }) := by rw [hC]; exact Below.drew (Below.refl _ _)
  clear hC
  refine region_calm C 13 (by kernel_rfl) ?_
  have hCp : ∀ p : Prop, (∀ W, C W → p) ↔ p := fun p => ⟨fun h => h _ C0.out, fun h _ _ => h⟩
  generalize ({ w with drawn := w.drawn + 1 } : World) = y0 at *
  refine seg 5 [0, 1, 2, 3, 4, 5, 7, 8, 9] rfl (by kernel_rfl) whole_blind (C0.out) (by kernel_rfl) ?_
  change wpQuiet _ _ _ _ (_ :: _ :: _ :: _ :: _ :: _ :: _ :: _ :: _ :: []) _
  repeat (first
    | go_big_quiet_skip
    | (go_big_quiet_want
       first
       | (refine q_lo (.tmp 29) (.tmp 30) rfl a L.length cap P rfl rfl (by omega) (by omega) ?_
          simp only [Act.put, List.setIfInBounds_toArray, List.set_cons_zero, List.set_cons_succ]
          go_big_quiet_on)
       | (refine q_hi (.tmp 33) (.tmp 34) rfl a L.length cap P rfl rfl (by omega) ?_
          simp only [Act.put, List.setIfInBounds_toArray, List.set_cons_zero, List.set_cons_succ]
          go_big_quiet_on)
       | (go_big_quiet_op
          go_big_quiet_on)))
  refine wpQuiet_nil ?_
  refine lone_do (i := 6) 4 rfl (by kernel_rfl) rfl (by rfl) ?_
  intro K hK
  refine oper_calls 21 _ _ rfl #[.int .i64 (q : Int), .slice (lo a cap P) (L.length - P) (cap - P)] (by rw [List.map_toArray]; rfl) (enters Tryd.func21 (by kernel_rfl) rfl) (fun v w' => OwE (nums .u8) 30 32 w' y0.heap.size v M ∧ Below y0.heap.size y0 w') ((KP.out y0 (FB.out _ C0.out)).mono (by rintro e w' ⟨v, rfl, o, g⟩; exact ⟨v, rfl, o, g⟩)) ?_
  rintro v y1 ⟨O1, Z1⟩
  have C1 : Hid (C y1) := CK.out _ _ C0.out Z1
  have O1 : Hid (OwE (nums .u8) 30 32 y1 y0.heap.size v M) := O1
  have s1 := Z1.size
  clear Z1
  refine hK _ _ (C1.out) ?_
  clear hK K
  simp only [Act.put, List.setIfInBounds_toArray, List.set_cons_zero, List.set_cons_succ]
  refine lone_do (i := 10) 3 rfl (by kernel_rfl) rfl (by rfl) ?_
  intro K hK
  refine oper_calls 18 _ _ rfl #[.slice (lo a cap 0) P cap] (by rw [List.map_toArray]; rfl) (enters Tryd.func18 (by kernel_rfl) rfl) (fun v w' => v = .agg (nums .u8 x).toArray ∧ Below y1.heap.size y1 w') ((KX.out y1 (FA.out _ C1.out)).mono (by rintro e w' ⟨rfl, g⟩; exact ⟨_, rfl, rfl, g⟩)) ?_
  rintro u y2 ⟨rfl, Z2⟩
  have C2 : Hid (C y2) := CK.out _ _ C1.out Z2
  have O2 : Hid (OwE (nums .u8) 30 32 y2 y0.heap.size v M) := O1.out.grow Z2
  have s2 := Z2.size
  clear Z2 O1
  refine hK _ _ (C2.out) ?_
  clear hK K
  simp only [Act.put, List.setIfInBounds_toArray, List.set_cons_zero, List.set_cons_succ]
  refine lone_do (i := 11) 2 rfl (by kernel_rfl) rfl (by rfl) ?_
  intro K hK
  refine bs_one 22 30 (.tmp 36) rfl Tryd.underlying22 32 (by decide) (by decide) _ Tryd.sizeOf30 Tryd.zeroValue30 (nums .u8 x) (by rw [nums_length]; exact HX.out.1) rfl ?_
  have C3 : Hid (C (y2.alloc (.cells (nums .u8 x).toArray 30))) := CK.out _ _ C2.out ((Below.refl _ _).alloc (Nat.le_refl _) _)
  have O3 : Hid (OwE (nums .u8) 30 32 (y2.alloc (.cells (nums .u8 x).toArray 30)) y0.heap.size v M) := O2.out.alloc _
  have ES3 : Hid (ES (nums .u8) 32 (y2.alloc (.cells (nums .u8 x).toArray 30)) (some ⟨y2.heap.size, 0, none⟩) [x]) := es_lit y2 30 x
  have s3 : y2.heap.size ≤ (y2.alloc (.cells (nums .u8 x).toArray 30)).heap.size := by simp
  refine hK _ _ C3.out ?_
  clear hK K O2
  simp only [Act.put, List.setIfInBounds_toArray, List.set_cons_zero, List.set_cons_succ]
  obtain ⟨y3, hy3⟩ : ∃ y3, y2.alloc (.cells (nums .u8 x).toArray 30) = y3 := ⟨_, rfl⟩
  rw [hy3] at C3 O3 ES3 s3 ⊢
  clear hy3
  refine lone_do (i := 12) 1 rfl (by kernel_rfl) rfl (by rfl) ?_
  intro K hK
  refine app_wp (.tmp 32) (.tmp 37) 22 30 rfl Tryd.underlying22 _ 32 iH (by decide) (by decide) (by decide) y0.heap.size v M [x] rfl O3.out (some ⟨y2.heap.size, 0, none⟩) 1 rfl ES3.out (fun e => by cases e) (fun y hy => by rw [List.mem_singleton.1 hy, nums_length]; exact ⟨HX.out.1, nums_one _ _⟩) (by simp; omega) (by omega) ?_
  intro v4 y4 O4 G4
  have s0 := (CE.out _ C0.out).size
  have C4 : Hid (C y4) := CA.out _ _ C3.out ((Below.refl _ _).grown G4 (by omega) (fun k hk => by have := (O3.out.1.lt k hk).1; omega))
  have HO : Hid (OwE (nums .u8) 30 32 y4 w.heap.size v4 (M ++ [x])) := ⟨own_mono O4.1 (by have := Z.size; omega), O4.2⟩
  clear O4 G4 O3 ES3
  refine hK _ _ C4.out ?_
  clear hK K
  simp only [Act.put, List.setIfInBounds_toArray, List.set_cons_zero, List.set_cons_succ]
  refine lone_calm (i := 13) 0 rfl (by kernel_rfl) rfl rfl (C4.out) ?_
  repeat (first
    | go_big_quiet_skip
    | (go_big_quiet_want
       first
       | (go_big_quiet_op
          go_big_quiet_on)))
  refine wpQuiet_nil ?_
  refine anyC_done (by kernel_rfl) ⟨rfl, ?_⟩
  have ZE := Z.trans ((CE.out _ C4.out).mono Z.size)
  clear C0 C1 C2 C3 C4 CK CA CE FA FB hCp
  go_wp2
  go_ret
  exact ⟨_, rfl, by rw [HM.out]; exact HO.out, ZE⟩
theorem path_all : ∀ T, T ≤ 19 → PathC T
  | 0, _ => fun i a cap L w hn _ _ _ _ => path_nil 0 i a cap L (by simpa using hn) w
  | T + 1, hT => fun i a cap L w hn hi hL hcap hS => by
    have ih := path_all T (by omega)
    by_cases hs : L.length ≤ 2 ^ T
    · have e : Mk.ptF nd em (T + 1) i L = Mk.ptF nd em T i L := by rw [Mk.ptF, if_pos hs]
      rw [e]
      exact ih i a cap L w hs hi hL hcap hS
    · have hb : 2 ^ (T + 1) ≤ 2 ^ 19 := Nat.pow_le_pow_right (by decide) hT
      have e2 : 2 ^ (T + 1) = 2 * 2 ^ T := by rw [Nat.pow_succ, Nat.mul_comm]
      by_cases hc : i < 2 ^ T
      · exact path_left T (2 ^ T) rfl (by omega) ih L hL a cap (by omega) (by omega) (by omega) hcap w hS i hc
      · exact path_right T (2 ^ T) rfl (by omega) ih L hL a cap (by omega) (by omega) (by omega) hcap w hS i (i - 2 ^ T) (by omega) hi
#print axioms path_all
/-- Sub of at most so many leaves. -/
def SubC (T : Nat) : Prop := ∀ (m : Nat) (a : Option Addr) (cap : Nat) (L : List (List Nat)) (b : Bool) (w : World), L.length ≤ 2 ^ T → 1 ≤ m → m ≤ L.length → Hl L → L.length ≤ cap → ES (nums .u8) 32 w a L →
    Calls Tryd.prog 24 #[.int .i64 (m : Int), .slice a L.length cap, .bool b] w fun e w' => ∃ v, e = .returned v ∧ OwE (nums .u8) 30 32 w' w.heap.size v (Mk.sbF nd em T m L b) ∧ Below w.heap.size w w'
set_option maxHeartbeats 2000000 in
set_option maxRecDepth 8000 in
theorem sub_same (T : Nat) (a : Option Addr) (cap : Nat) (L : List (List Nat)) (hlen : L.length ≤ 500000) (hL : Hl L) (hcap : L.length ≤ cap) (b : Bool) (w : World) (hS : ES (nums .u8) 32 w a L) :
    Calls Tryd.prog 24 #[.int .i64 (L.length : Int), .slice a L.length cap, .bool b] w fun e w' => ∃ v, e = .returned v ∧ OwE (nums .u8) 30 32 w' w.heap.size v (Mk.sbF nd em T L.length L b) ∧ Below w.heap.size w w' := by
  obtain ⟨M, hM⟩ : ∃ M, Hid (M = Mk.sbF nd em T L.length L b) := ⟨_, rfl⟩
  rw [← hM.out]
  have HE : Hid (M = if b then [] else [Mk.R nd em L]) := by show _ = _; rw [hM.out]; exact Mk.sbF_same nd em T L b
  cases b with
  | true =>
    have HN : Hid (OwE (nums .u8) 30 32 w w.heap.size (.slice none 0 0) M) := by
      show OwE _ _ _ _ _ _ _
      rw [HE.out]
      exact ⟨World.ownsRow_nil _ _ _ _, by simp⟩
    clear hS HE hM
    go_enter Tryd.func24, Tryd.ntmps24
    go_wp2
    go_ret
    exact ⟨_, rfl, HN.out, Below.refl _ _⟩
  | false =>
    obtain ⟨x, hx⟩ : ∃ x, Hid (x = Mk.R nd em L) := ⟨_, rfl⟩
    have HX : Hid (Hh x) := by show Hh x; rw [hx.out]; exact R_hh hL
    have HE : Hid (M = [x]) := by show _ = _; rw [HE.out, hx.out]; rfl
    have K := rroot_any a cap L w (by omega) hL hcap hS
    rw [← hx.out] at K
    clear hS hx hM
    go_enter Tryd.func24, Tryd.ntmps24
    go_wp2_with fail
    refine K.mono ?_
    rintro e w1 ⟨rfl, Z⟩
    have HO : Hid (OwE (nums .u8) 30 32 (w1.alloc (.cells (nums .u8 x).toArray 30)) w.heap.size (.slice (some ⟨w1.heap.size, 0, none⟩) 1 1) M) := by
      show OwE _ _ _ _ _ _ _
      rw [HE.out]
      have o := owe_lit' (enc := nums .u8) (n := 32) w1 30 x (by rw [nums_length]; exact HX.out.1)
      exact ⟨own_mono o.1 Z.size, o.2⟩
    have ZE := Z.alloc Z.size (.cells (nums .u8 x).toArray 30)
    clear K HE Z
    go_wp2_with (refine wpList_plain rfl fun K hK => bs_one 22 30 (.tmp 14) rfl Tryd.underlying22 32 (by decide) (by decide) _ Tryd.sizeOf30 Tryd.zeroValue30 (nums .u8 x) (by rw [nums_length]; exact HX.out.1) rfl (hK _ _ ?_))
    go_ret
    exact ⟨_, rfl, HO.out, ZE⟩
set_option maxHeartbeats 2000000 in
set_option maxRecDepth 8000 in
theorem sub_left (T P : Nat) (hP : Hid (P = 2 ^ T)) (hT : T ≤ 18) (ih : SubC T) (L : List (List Nat)) (hL : Hl L) (a : Option Addr) (cap : Nat) (h1 : P < L.length) (h2 : L.length ≤ 2 * P) (hlen : L.length ≤ 1000000) (hcap : L.length ≤ cap) (w : World) (hS : ES (nums .u8) 32 w a L) (m : Nat) (b : Bool) (hm0 : 1 ≤ m) (hi : m ≤ P) :
    Calls Tryd.prog 24 #[.int .i64 (m : Int), .slice a L.length cap, .bool b] w fun e w' => ∃ v, e = .returned v ∧ OwE (nums .u8) 30 32 w' w.heap.size v (Mk.sbF nd em (T + 1) m L b) ∧ Below w.heap.size w w' := by
  have hP18 : P ≤ 262144 := by rw [hP.out]; exact Nat.le_trans (Nat.pow_le_pow_right (by decide) hT) (by decide)
  have hp1 : 1 ≤ P := by rw [hP.out]; exact Mk.pow_pos2 T
  obtain ⟨LT, hLT⟩ : ∃ LT, Hid (LT = L.take P) := ⟨_, rfl⟩
  obtain ⟨LD, hLD⟩ : ∃ LD, Hid (LD = L.drop P) := ⟨_, rfl⟩
  have lT : Hid (LT.length = P) := by show _ = _; rw [hLT.out, List.length_take]; omega
  have lD : Hid (LD.length = L.length - P) := by show _ = _; rw [hLD.out, List.length_drop]
  have HLT : Hid (Hl LT) := by show Hl LT; rw [hLT.out]; exact hL.take P
  have HLD : Hid (Hl LD) := by show Hl LD; rw [hLD.out]; exact hL.drop P
  have HA : Hid (ES (nums .u8) 32 w (lo a cap 0) LT) := by show ES _ _ _ _ LT; rw [hLT.out]; exact lo_zero (hS.take P) cap
  have HB : Hid (ES (nums .u8) 32 w (lo a cap P) LD) := by show ES _ _ _ _ LD; rw [hLD.out]; exact hS.lo cap P hcap
  have KHH : Hid (∀ W, Calls Tryd.prog 35 #[.int .i64 (L.length : Int)] W fun e w' => e = .returned (.int .i64 (P : Int)) ∧ w' = W) := fun W => half_any L.length T P hP (by rw [← hP.out]; exact h1) (by rw [Nat.pow_succ, ← hP.out]; omega) (by omega) W
  obtain ⟨x, hx⟩ : ∃ x, Hid (x = Mk.R nd em LD) := ⟨_, rfl⟩
  have HX : Hid (Hh x) := by show Hh x; rw [hx.out]; exact R_hh HLD.out
  have KX : Hid (∀ W, ES (nums .u8) 32 W (lo a cap P) LD → Calls Tryd.prog 18 #[.slice (lo a cap P) (L.length - P) (cap - P)] W fun e w' => e = .returned (.agg (nums .u8 x).toArray) ∧ Below W.heap.size W w') := fun W hW => by
    have K := rroot_any (lo a cap P) (cap - P) LD W (by rw [lD.out]; omega) HLD.out (by rw [lD.out]; omega) hW
    rw [lD.out, ← hx.out] at K; exact K
  obtain ⟨M, hM⟩ : ∃ M, Hid (M = Mk.sbF nd em T m LT b) := ⟨_, rfl⟩
  have lM : M.length ≤ 30 := by rw [hM.out]; have := sbF_len T m LT b; omega
  have KP : Hid (∀ W, ES (nums .u8) 32 W (lo a cap 0) LT → Calls Tryd.prog 24 #[.int .i64 (m : Int), .slice (lo a cap 0) P cap, .bool b] W fun e w' => ∃ v, e = .returned v ∧ OwE (nums .u8) 30 32 w' W.heap.size v M ∧ Below W.heap.size W w') := fun W hW => by
    have K := ih m (lo a cap 0) cap LT b W (by rw [lT.out, ← hP.out]; omega) (by omega) (by rw [lT.out]; omega) HLT.out (by rw [lT.out]; omega) hW
    rw [lT.out, ← hM.out] at K; exact K
  have HM : Hid (Mk.sbF nd em (T + 1) m L b = M ++ [x]) := by
    show _ = _
    rw [Mk.sbF, ← hP.out, if_neg (by omega), if_neg (by omega), if_pos hi, hM.out, hx.out, hLT.out, hLD.out]
  have g1 : ((m : Int) == (L.length : Int)) = false := by rw [beq_eq_false_iff_ne]; omega
  have g2 : (m : Int) ≤ (P : Int) := by omega
  clear hL hS ih hLT hLD lT lD hx hM
  go_enter Tryd.func24, Tryd.ntmps24
  go_wp2_with fail
  refine (KHH.out w).mono ?_
  rintro e w1 ⟨rfl, hw1⟩
  rw [hw1]
  clear hw1 w1
  have Z := Below.refl w.heap.size w
  go_wp2_with fail
  obtain ⟨C, hC⟩ : ∃ C : World → Prop, C = fun W => Below w.heap.size w W := ⟨_, rfl⟩
  have FA : Hid (∀ W, C W → ES (nums .u8) 32 W (lo a cap 0) LT) := fun W hW => by rw [hC] at hW; exact HA.out.below (Z.trans (hW.mono Z.size))
  have FB : Hid (∀ W, C W → ES (nums .u8) 32 W (lo a cap P) LD) := fun W hW => by rw [hC] at hW; exact HB.out.below (Z.trans (hW.mono Z.size))
  have CK : Hid (∀ W W', C W → Below W.heap.size W W' → C W') := fun W W' h1 h2 => by rw [hC] at h1 ⊢; exact h1.trans (h2.mono h1.size)
  have CA : Hid (∀ W W', C W → Below w.heap.size W W' → C W') := fun W W' h1 h2 => by rw [hC] at h1 ⊢; exact h1.trans h2
  have CE : Hid (∀ W, C W → Below w.heap.size w W) := fun W h => by rw [hC] at h; exact h
  have C0 : Hid (C { w with drawn := w.drawn + 1 }) := by rw [hC]; exact Below.drew (Below.refl _ _)
  clear hC
  refine region_calm C 12 (by kernel_rfl) ?_
  have hCp : ∀ p : Prop, (∀ W, C W → p) ↔ p := fun p => ⟨fun h => h _ C0.out, fun h _ _ => h⟩
  generalize ({ w with drawn := w.drawn + 1 } : World) = y0 at *
  refine seg 5 [0, 1, 2, 3, 4, 6, 7, 8] rfl (by kernel_rfl) whole_blind (C0.out) (by kernel_rfl) ?_
  change wpQuiet _ _ _ _ (_ :: _ :: _ :: _ :: _ :: _ :: _ :: _ :: []) _
  repeat (first
    | go_big_quiet_skip
    | (go_big_quiet_want
       first
       | (refine q_hi (.tmp 23) (.tmp 24) rfl a L.length cap P rfl rfl (by omega) ?_
          simp only [Act.put, List.setIfInBounds_toArray, List.set_cons_zero, List.set_cons_succ]
          go_big_quiet_on)
       | (refine q_lo (.tmp 28) (.tmp 29) rfl a L.length cap P rfl rfl (by omega) (by omega) ?_
          simp only [Act.put, List.setIfInBounds_toArray, List.set_cons_zero, List.set_cons_succ]
          go_big_quiet_on)
       | (go_big_quiet_op
          go_big_quiet_on)))
  refine wpQuiet_nil ?_
  refine lone_do (i := 5) 4 rfl (by kernel_rfl) rfl (by rfl) ?_
  intro K hK
  refine oper_calls 24 _ _ rfl #[.int .i64 (m : Int), .slice (lo a cap 0) P cap, .bool b] (by rw [List.map_toArray]; rfl) (enters Tryd.func24 (by kernel_rfl) rfl) (fun v w' => OwE (nums .u8) 30 32 w' y0.heap.size v M ∧ Below y0.heap.size y0 w') ((KP.out y0 (FA.out _ C0.out)).mono (by rintro e w' ⟨v, rfl, o, g⟩; exact ⟨v, rfl, o, g⟩)) ?_
  rintro v y1 ⟨O1, Z1⟩
  have C1 : Hid (C y1) := CK.out _ _ C0.out Z1
  have O1 : Hid (OwE (nums .u8) 30 32 y1 y0.heap.size v M) := O1
  have s1 := Z1.size
  clear Z1
  refine hK _ _ (C1.out) ?_
  clear hK K
  simp only [Act.put, List.setIfInBounds_toArray, List.set_cons_zero, List.set_cons_succ]
  refine lone_do (i := 9) 3 rfl (by kernel_rfl) rfl (by rfl) ?_
  intro K hK
  refine oper_calls 18 _ _ rfl #[.slice (lo a cap P) (L.length - P) (cap - P)] (by rw [List.map_toArray]; rfl) (enters Tryd.func18 (by kernel_rfl) rfl) (fun v w' => v = .agg (nums .u8 x).toArray ∧ Below y1.heap.size y1 w') ((KX.out y1 (FB.out _ C1.out)).mono (by rintro e w' ⟨rfl, g⟩; exact ⟨_, rfl, rfl, g⟩)) ?_
  rintro u y2 ⟨rfl, Z2⟩
  have C2 : Hid (C y2) := CK.out _ _ C1.out Z2
  have O2 : Hid (OwE (nums .u8) 30 32 y2 y0.heap.size v M) := O1.out.grow Z2
  have s2 := Z2.size
  clear Z2 O1
  refine hK _ _ (C2.out) ?_
  clear hK K
  simp only [Act.put, List.setIfInBounds_toArray, List.set_cons_zero, List.set_cons_succ]
  refine lone_do (i := 10) 2 rfl (by kernel_rfl) rfl (by rfl) ?_
  intro K hK
  refine bs_one 22 30 (.tmp 31) rfl Tryd.underlying22 32 (by decide) (by decide) _ Tryd.sizeOf30 Tryd.zeroValue30 (nums .u8 x) (by rw [nums_length]; exact HX.out.1) rfl ?_
  have C3 : Hid (C (y2.alloc (.cells (nums .u8 x).toArray 30))) := CK.out _ _ C2.out ((Below.refl _ _).alloc (Nat.le_refl _) _)
  have O3 : Hid (OwE (nums .u8) 30 32 (y2.alloc (.cells (nums .u8 x).toArray 30)) y0.heap.size v M) := O2.out.alloc _
  have ES3 : Hid (ES (nums .u8) 32 (y2.alloc (.cells (nums .u8 x).toArray 30)) (some ⟨y2.heap.size, 0, none⟩) [x]) := es_lit y2 30 x
  have s3 : y2.heap.size ≤ (y2.alloc (.cells (nums .u8 x).toArray 30)).heap.size := by simp
  refine hK _ _ C3.out ?_
  clear hK K O2
  simp only [Act.put, List.setIfInBounds_toArray, List.set_cons_zero, List.set_cons_succ]
  obtain ⟨y3, hy3⟩ : ∃ y3, y2.alloc (.cells (nums .u8 x).toArray 30) = y3 := ⟨_, rfl⟩
  rw [hy3] at C3 O3 ES3 s3 ⊢
  clear hy3
  refine lone_do (i := 11) 1 rfl (by kernel_rfl) rfl (by rfl) ?_
  intro K hK
  refine app_wp (.tmp 27) (.tmp 32) 22 30 rfl Tryd.underlying22 _ 32 iH (by decide) (by decide) (by decide) y0.heap.size v M [x] rfl O3.out (some ⟨y2.heap.size, 0, none⟩) 1 rfl ES3.out (fun e => by cases e) (fun y hy => by rw [List.mem_singleton.1 hy, nums_length]; exact ⟨HX.out.1, nums_one _ _⟩) (by simp; omega) (by omega) ?_
  intro v4 y4 O4 G4
  have s0 := (CE.out _ C0.out).size
  have C4 : Hid (C y4) := CA.out _ _ C3.out ((Below.refl _ _).grown G4 (by omega) (fun k hk => by have := (O3.out.1.lt k hk).1; omega))
  have HO : Hid (OwE (nums .u8) 30 32 y4 w.heap.size v4 (M ++ [x])) := ⟨own_mono O4.1 (by have := Z.size; omega), O4.2⟩
  clear O4 G4 O3 ES3
  refine hK _ _ C4.out ?_
  clear hK K
  simp only [Act.put, List.setIfInBounds_toArray, List.set_cons_zero, List.set_cons_succ]
  refine lone_calm (i := 12) 0 rfl (by kernel_rfl) rfl rfl (C4.out) ?_
  repeat (first
    | go_big_quiet_skip
    | (go_big_quiet_want
       first
       | (go_big_quiet_op
          go_big_quiet_on)))
  refine wpQuiet_nil ?_
  refine anyC_done (by kernel_rfl) ⟨rfl, ?_⟩
  have ZE := Z.trans ((CE.out _ C4.out).mono Z.size)
  clear C0 C1 C2 C3 C4 CK CA CE FA FB hCp
  go_wp2
  go_ret
  exact ⟨_, rfl, by rw [HM.out]; exact HO.out, ZE⟩
set_option maxHeartbeats 2000000 in
set_option maxRecDepth 8000 in
theorem sub_right (T P : Nat) (hP : Hid (P = 2 ^ T)) (hT : T ≤ 18) (ih : SubC T) (L : List (List Nat)) (hL : Hl L) (a : Option Addr) (cap : Nat) (h1 : P < L.length) (h2 : L.length ≤ 2 * P) (hlen : L.length ≤ 1000000) (hcap : L.length ≤ cap) (w : World) (hS : ES (nums .u8) 32 w a L) (m q : Nat) (b : Bool) (hi : m = P + q) (hq : 1 ≤ q) (hm : m < L.length) :
    Calls Tryd.prog 24 #[.int .i64 (m : Int), .slice a L.length cap, .bool b] w fun e w' => ∃ v, e = .returned v ∧ OwE (nums .u8) 30 32 w' w.heap.size v (Mk.sbF nd em (T + 1) m L b) ∧ Below w.heap.size w w' := by
  have hP18 : P ≤ 262144 := by rw [hP.out]; exact Nat.le_trans (Nat.pow_le_pow_right (by decide) hT) (by decide)
  have hp1 : 1 ≤ P := by rw [hP.out]; exact Mk.pow_pos2 T
  obtain ⟨LT, hLT⟩ : ∃ LT, Hid (LT = L.take P) := ⟨_, rfl⟩
  obtain ⟨LD, hLD⟩ : ∃ LD, Hid (LD = L.drop P) := ⟨_, rfl⟩
  have lT : Hid (LT.length = P) := by show _ = _; rw [hLT.out, List.length_take]; omega
  have lD : Hid (LD.length = L.length - P) := by show _ = _; rw [hLD.out, List.length_drop]
  have HLT : Hid (Hl LT) := by show Hl LT; rw [hLT.out]; exact hL.take P
  have HLD : Hid (Hl LD) := by show Hl LD; rw [hLD.out]; exact hL.drop P
  have HA : Hid (ES (nums .u8) 32 w (lo a cap 0) LT) := by show ES _ _ _ _ LT; rw [hLT.out]; exact lo_zero (hS.take P) cap
  have HB : Hid (ES (nums .u8) 32 w (lo a cap P) LD) := by show ES _ _ _ _ LD; rw [hLD.out]; exact hS.lo cap P hcap
  have KHH : Hid (∀ W, Calls Tryd.prog 35 #[.int .i64 (L.length : Int)] W fun e w' => e = .returned (.int .i64 (P : Int)) ∧ w' = W) := fun W => half_any L.length T P hP (by rw [← hP.out]; exact h1) (by rw [Nat.pow_succ, ← hP.out]; omega) (by omega) W
  obtain ⟨x, hx⟩ : ∃ x, Hid (x = Mk.R nd em LT) := ⟨_, rfl⟩
  have HX : Hid (Hh x) := by show Hh x; rw [hx.out]; exact R_hh HLT.out
  have KX : Hid (∀ W, ES (nums .u8) 32 W (lo a cap 0) LT → Calls Tryd.prog 18 #[.slice (lo a cap 0) P cap] W fun e w' => e = .returned (.agg (nums .u8 x).toArray) ∧ Below W.heap.size W w') := fun W hW => by
    have K := rroot_any (lo a cap 0) cap LT W (by rw [lT.out]; omega) HLT.out (by rw [lT.out]; omega) hW
    rw [lT.out, ← hx.out] at K; exact K
  obtain ⟨M, hM⟩ : ∃ M, Hid (M = Mk.sbF nd em T q LD false) := ⟨_, rfl⟩
  have lM : M.length ≤ 30 := by rw [hM.out]; have := sbF_len T q LD false; omega
  have KP : Hid (∀ W, ES (nums .u8) 32 W (lo a cap P) LD → Calls Tryd.prog 24 #[.int .i64 (q : Int), .slice (lo a cap P) (L.length - P) (cap - P), .bool false] W fun e w' => ∃ v, e = .returned v ∧ OwE (nums .u8) 30 32 w' W.heap.size v M ∧ Below W.heap.size W w') := fun W hW => by
    have K := ih q (lo a cap P) (cap - P) LD false W (by rw [lD.out, ← hP.out]; omega) (by omega) (by rw [lD.out]; omega) HLD.out (by rw [lD.out]; omega) hW
    rw [lD.out, ← hM.out] at K; exact K
  have HM : Hid (Mk.sbF nd em (T + 1) m L b = M ++ [x]) := by
    show _ = _
    rw [Mk.sbF, ← hP.out, if_neg (by omega), if_neg (by omega), if_neg (by omega), hM.out, hx.out, hLT.out, hLD.out, show m - P = q by omega]
  have g1 : ((m : Int) == (L.length : Int)) = false := by rw [beq_eq_false_iff_ne]; omega
  have g2 : ¬ (m : Int) ≤ (P : Int) := by omega
  have g3 : (m : Int) - (P : Int) = (q : Int) := by omega
  clear hL hS ih hLT hLD lT lD hx hM hi
  go_enter Tryd.func24, Tryd.ntmps24
  go_wp2_with fail
  refine (KHH.out w).mono ?_
  rintro e w1 ⟨rfl, hw1⟩
  rw [hw1]
  clear hw1 w1
  have Z := Below.refl w.heap.size w
  go_wp2_with fail
  obtain ⟨C, hC⟩ : ∃ C : World → Prop, C = fun W => Below w.heap.size w W := ⟨_, rfl⟩
  have FA : Hid (∀ W, C W → ES (nums .u8) 32 W (lo a cap 0) LT) := fun W hW => by rw [hC] at hW; exact HA.out.below (Z.trans (hW.mono Z.size))
  have FB : Hid (∀ W, C W → ES (nums .u8) 32 W (lo a cap P) LD) := fun W hW => by rw [hC] at hW; exact HB.out.below (Z.trans (hW.mono Z.size))
  have CK : Hid (∀ W W', C W → Below W.heap.size W W' → C W') := fun W W' h1 h2 => by rw [hC] at h1 ⊢; exact h1.trans (h2.mono h1.size)
  have CA : Hid (∀ W W', C W → Below w.heap.size W W' → C W') := fun W W' h1 h2 => by rw [hC] at h1 ⊢; exact h1.trans h2
  have CE : Hid (∀ W, C W → Below w.heap.size w W) := fun W h => by rw [hC] at h; exact h
  have C0 : Hid (C { w with drawn := w.drawn + 1 }) := by rw [hC]; exact Below.drew (Below.refl _ _)
  clear hC
  refine region_calm C 13 (by kernel_rfl) ?_
  have hCp : ∀ p : Prop, (∀ W, C W → p) ↔ p := fun p => ⟨fun h => h _ C0.out, fun h _ _ => h⟩
  generalize ({ w with drawn := w.drawn + 1 } : World) = y0 at *
  refine seg 5 [0, 1, 2, 3, 4, 5, 7, 8, 9] rfl (by kernel_rfl) whole_blind (C0.out) (by kernel_rfl) ?_
  change wpQuiet _ _ _ _ (_ :: _ :: _ :: _ :: _ :: _ :: _ :: _ :: _ :: []) _
  repeat (first
    | go_big_quiet_skip
    | (go_big_quiet_want
       first
       | (refine q_lo (.tmp 37) (.tmp 38) rfl a L.length cap P rfl rfl (by omega) (by omega) ?_
          simp only [Act.put, List.setIfInBounds_toArray, List.set_cons_zero, List.set_cons_succ]
          go_big_quiet_on)
       | (refine q_hi (.tmp 41) (.tmp 42) rfl a L.length cap P rfl rfl (by omega) ?_
          simp only [Act.put, List.setIfInBounds_toArray, List.set_cons_zero, List.set_cons_succ]
          go_big_quiet_on)
       | (go_big_quiet_op
          go_big_quiet_on)))
  refine wpQuiet_nil ?_
  refine lone_do (i := 6) 4 rfl (by kernel_rfl) rfl (by rfl) ?_
  intro K hK
  refine oper_calls 24 _ _ rfl #[.int .i64 (q : Int), .slice (lo a cap P) (L.length - P) (cap - P), .bool false] (by rw [List.map_toArray]; rfl) (enters Tryd.func24 (by kernel_rfl) rfl) (fun v w' => OwE (nums .u8) 30 32 w' y0.heap.size v M ∧ Below y0.heap.size y0 w') ((KP.out y0 (FB.out _ C0.out)).mono (by rintro e w' ⟨v, rfl, o, g⟩; exact ⟨v, rfl, o, g⟩)) ?_
  rintro v y1 ⟨O1, Z1⟩
  have C1 : Hid (C y1) := CK.out _ _ C0.out Z1
  have O1 : Hid (OwE (nums .u8) 30 32 y1 y0.heap.size v M) := O1
  have s1 := Z1.size
  clear Z1
  refine hK _ _ (C1.out) ?_
  clear hK K
  simp only [Act.put, List.setIfInBounds_toArray, List.set_cons_zero, List.set_cons_succ]
  refine lone_do (i := 10) 3 rfl (by kernel_rfl) rfl (by rfl) ?_
  intro K hK
  refine oper_calls 18 _ _ rfl #[.slice (lo a cap 0) P cap] (by rw [List.map_toArray]; rfl) (enters Tryd.func18 (by kernel_rfl) rfl) (fun v w' => v = .agg (nums .u8 x).toArray ∧ Below y1.heap.size y1 w') ((KX.out y1 (FA.out _ C1.out)).mono (by rintro e w' ⟨rfl, g⟩; exact ⟨_, rfl, rfl, g⟩)) ?_
  rintro u y2 ⟨rfl, Z2⟩
  have C2 : Hid (C y2) := CK.out _ _ C1.out Z2
  have O2 : Hid (OwE (nums .u8) 30 32 y2 y0.heap.size v M) := O1.out.grow Z2
  have s2 := Z2.size
  clear Z2 O1
  refine hK _ _ (C2.out) ?_
  clear hK K
  simp only [Act.put, List.setIfInBounds_toArray, List.set_cons_zero, List.set_cons_succ]
  refine lone_do (i := 11) 2 rfl (by kernel_rfl) rfl (by rfl) ?_
  intro K hK
  refine bs_one 22 30 (.tmp 44) rfl Tryd.underlying22 32 (by decide) (by decide) _ Tryd.sizeOf30 Tryd.zeroValue30 (nums .u8 x) (by rw [nums_length]; exact HX.out.1) rfl ?_
  have C3 : Hid (C (y2.alloc (.cells (nums .u8 x).toArray 30))) := CK.out _ _ C2.out ((Below.refl _ _).alloc (Nat.le_refl _) _)
  have O3 : Hid (OwE (nums .u8) 30 32 (y2.alloc (.cells (nums .u8 x).toArray 30)) y0.heap.size v M) := O2.out.alloc _
  have ES3 : Hid (ES (nums .u8) 32 (y2.alloc (.cells (nums .u8 x).toArray 30)) (some ⟨y2.heap.size, 0, none⟩) [x]) := es_lit y2 30 x
  have s3 : y2.heap.size ≤ (y2.alloc (.cells (nums .u8 x).toArray 30)).heap.size := by simp
  refine hK _ _ C3.out ?_
  clear hK K O2
  simp only [Act.put, List.setIfInBounds_toArray, List.set_cons_zero, List.set_cons_succ]
  obtain ⟨y3, hy3⟩ : ∃ y3, y2.alloc (.cells (nums .u8 x).toArray 30) = y3 := ⟨_, rfl⟩
  rw [hy3] at C3 O3 ES3 s3 ⊢
  clear hy3
  refine lone_do (i := 12) 1 rfl (by kernel_rfl) rfl (by rfl) ?_
  intro K hK
  refine app_wp (.tmp 40) (.tmp 45) 22 30 rfl Tryd.underlying22 _ 32 iH (by decide) (by decide) (by decide) y0.heap.size v M [x] rfl O3.out (some ⟨y2.heap.size, 0, none⟩) 1 rfl ES3.out (fun e => by cases e) (fun y hy => by rw [List.mem_singleton.1 hy, nums_length]; exact ⟨HX.out.1, nums_one _ _⟩) (by simp; omega) (by omega) ?_
  intro v4 y4 O4 G4
  have s0 := (CE.out _ C0.out).size
  have C4 : Hid (C y4) := CA.out _ _ C3.out ((Below.refl _ _).grown G4 (by omega) (fun k hk => by have := (O3.out.1.lt k hk).1; omega))
  have HO : Hid (OwE (nums .u8) 30 32 y4 w.heap.size v4 (M ++ [x])) := ⟨own_mono O4.1 (by have := Z.size; omega), O4.2⟩
  clear O4 G4 O3 ES3
  refine hK _ _ C4.out ?_
  clear hK K
  simp only [Act.put, List.setIfInBounds_toArray, List.set_cons_zero, List.set_cons_succ]
  refine lone_calm (i := 13) 0 rfl (by kernel_rfl) rfl rfl (C4.out) ?_
  repeat (first
    | go_big_quiet_skip
    | (go_big_quiet_want
       first
       | (go_big_quiet_op
          go_big_quiet_on)))
  refine wpQuiet_nil ?_
  refine anyC_done (by kernel_rfl) ⟨rfl, ?_⟩
  have ZE := Z.trans ((CE.out _ C4.out).mono Z.size)
  clear C0 C1 C2 C3 C4 CK CA CE FA FB hCp
  go_wp2
  go_ret
  exact ⟨_, rfl, by rw [HM.out]; exact HO.out, ZE⟩
theorem sub_all : ∀ T, T ≤ 18 → SubC T
  | 0, _ => fun m a cap L b w hn h1 hm hL hcap hS => by
    obtain rfl : m = L.length := by simp at hn; omega
    exact sub_same 0 a cap L (by simp at hn; omega) hL hcap b w hS
  | T + 1, hT => fun m a cap L b w hn h1 hm hL hcap hS => by
    have ih := sub_all T (by omega)
    have hb : 2 ^ (T + 1) ≤ 2 ^ 18 := Nat.pow_le_pow_right (by decide) hT
    have e2 : 2 ^ (T + 1) = 2 * 2 ^ T := by rw [Nat.pow_succ, Nat.mul_comm]
    by_cases hml : m = L.length
    · subst hml
      exact sub_same (T + 1) a cap L (by omega) hL hcap b w hS
    by_cases hs : L.length ≤ 2 ^ T
    · have e : Mk.sbF nd em (T + 1) m L b = Mk.sbF nd em T m L b := by rw [Mk.sbF, if_pos hs]
      rw [e]
      exact ih m a cap L b w hs h1 hm hL hcap hS
    · by_cases hc : m ≤ 2 ^ T
      · exact sub_left T (2 ^ T) rfl (by omega) ih L hL a cap (by omega) (by omega) (by omega) hcap w hS m b h1 hc
      · exact sub_right T (2 ^ T) rfl (by omega) ih L hL a cap (by omega) (by omega) (by omega) hcap w hS m (m - 2 ^ T) b (by omega) (by omega) (by omega)
#print axioms sub_all
end Go.Proofs.YtfkiciejipcgkaaDoor
namespace Go.Proofs.YtfkiciejipcgkaaDoor
open Go Go.RowKit Go.Maps Sh
/-- what Root, Prove and Consist answer. -/
def rR (L : List (List Nat)) (n : Int) : List Nat := if 0 ≤ n ∧ n ≤ (L.length : Int) then Mk.R nd em (L.take n.toNat) else List.replicate 32 0
def rE (L : List (List Nat)) (n : Int) : Int := if 0 ≤ n ∧ n ≤ (L.length : Int) then 0 else 1
def pvP (L : List (List Nat)) (i n : Int) : Prop := 0 ≤ i ∧ i < n ∧ n ≤ (L.length : Int)
def csP (L : List (List Nat)) (m n : Int) : Prop := 1 ≤ m ∧ m ≤ n ∧ n ≤ (L.length : Int)
def pvL (L : List (List Nat)) (i n : Int) : List (List Nat) := if 0 ≤ i ∧ i < n ∧ n ≤ (L.length : Int) then Mk.ptF nd em 7 i.toNat (L.take n.toNat) else []
def pvE (L : List (List Nat)) (i n : Int) : Int := if 0 ≤ i ∧ i < n ∧ n ≤ (L.length : Int) then 0 else 1
def csL (L : List (List Nat)) (m n : Int) : List (List Nat) := if 1 ≤ m ∧ m ≤ n ∧ n ≤ (L.length : Int) then Mk.sbF nd em 7 m.toNat (L.take n.toNat) true else []
def csE (L : List (List Nat)) (m n : Int) : Int := if 1 ≤ m ∧ m ≤ n ∧ n ≤ (L.length : Int) then 0 else 1
/-- a list of digests that may be written. -/
def Wv (w : World) (B : Nat) (a : Option Addr) (M : List (List Nat)) : Prop := M = [] ∨ ∃ g, a = some ⟨g, 0, none⟩ ∧ B ≤ g ∧ Blk w g 30 (M.flatMap (nums .u8))
theorem Wv.es {w : World} {B : Nat} {a : Option Addr} {M : List (List Nat)} (h : Wv w B a M) (hM : Hl M) : ES (nums .u8) 32 w a M := by
  rcases h with h | ⟨g, rfl, _, h⟩
  · exact .inl h
  · exact es_blk hM h
theorem pv_eq (L : List (List Nat)) (i n : Nat) (h80 : L.length ≤ 80) (hi : i < n) (hn : n ≤ L.length) : pvL L (i : Int) (n : Int) = rtsn L n (Mk.wy 0 i n) := by
  unfold pvL
  rw [if_pos ⟨by omega, by omega, by omega⟩, Int.toNat_natCast, Int.toNat_natCast]
  have hl : (L.take n).length = n := by rw [List.length_take]; omega
  rw [Mk.ptF_rts nd em 7 i (L.take n) (by omega) (by rw [hl]; simp; omega), hl]; rfl
theorem cs_eq (L : List (List Nat)) (m n c u : Nat) (hm : m = (2 * u + 1) * 2 ^ c) (h80 : L.length ≤ 80) (h1 : 1 ≤ m) (hmn : m ≤ n) (hn : n ≤ L.length) : csL L (m : Int) (n : Int) = csl L m n c u := by
  unfold csL csl
  rw [if_pos ⟨by omega, by omega, by omega⟩, Int.toNat_natCast, Int.toNat_natCast]
  have hl : (L.take n).length = n := by rw [List.length_take]; omega
  by_cases e : m = n
  · rw [if_pos e]
    have h := Mk.sbF_same nd em 7 (L.take n) true
    rw [hl, ← e] at h
    rw [← e]; exact h
  · rw [if_neg e, hm, Mk.sbF_rts nd em 7 (L.take n) c u true (by rw [hl]; simp; omega) (.inl (by rw [hl, ← hm]; omega)), hl]
    have eh : Mk.hd2 c u true n = cnh c u n := by
      unfold Mk.hd2 cnh
      by_cases hu : u = 0
      · rw [if_pos ⟨rfl, hu⟩, if_pos hu]
      · rw [if_neg (fun h => hu h.2), if_neg hu]
    rw [eh]; rfl
theorem rR_hh (L : List (List Nat)) (hL : Hl L) (n : Int) : Hh (rR L n) := by
  unfold rR
  split
  · exact R_hh (hL.take _)
  · exact ⟨List.length_replicate, fun x hx => by have := List.eq_of_mem_replicate hx; omega⟩
theorem pvL_hl (L : List (List Nat)) (hL : Hl L) (h80 : L.length ≤ 80) (i n : Int) : Hl (pvL L i n) := by
  by_cases h : 0 ≤ i ∧ i < n ∧ n ≤ (L.length : Int)
  · have e := pv_eq L i.toNat n.toNat h80 (by omega) (by omega)
    rw [Int.toNat_of_nonneg h.1, Int.toNat_of_nonneg (show 0 ≤ n by omega)] at e
    rw [e]; exact rtsn_hl hL _ _
  · unfold pvL; rw [if_neg h]; intro x hx; cases hx
theorem csL_hl (L : List (List Nat)) (hL : Hl L) (h80 : L.length ≤ 80) (m n : Int) : Hl (csL L m n) := by
  by_cases h : 1 ≤ m ∧ m ≤ n ∧ n ≤ (L.length : Int)
  · obtain ⟨c0, u0, HM0, _, _⟩ := odd_of m.toNat (by omega) (by omega)
    have e := cs_eq L m.toNat n.toNat c0 u0 HM0 h80 (by omega) (by omega) (by omega)
    rw [Int.toNat_of_nonneg (show 0 ≤ m by omega), Int.toNat_of_nonneg (show 0 ≤ n by omega)] at e
    rw [e]; exact csl_hl hL _ _ _ _
  · unfold csL; rw [if_neg h]; intro x hx; cases hx
theorem pvL_len (L : List (List Nat)) (i n : Int) : (pvL L i n).length ≤ 7 := by
  unfold pvL
  split
  · exact ptF_len 7 _ _
  · simp
theorem csL_len (L : List (List Nat)) (i n : Int) : (csL L i n).length ≤ 8 := by
  unfold csL
  split
  · exact sbF_len 7 _ _ _
  · simp
/-! ### the program's -/
theorem root_x (bt base : Nat) (L : List (List Nat)) (hL : Hl L) (h80 : L.length ≤ 80) (n : Int) (w : World) (hTr : Tr w bt base L) :
    Calls Tryd.prog 5 #[.pointer (some ⟨bt, 0, none⟩), .int .i64 n] w fun e w' => e = .returned (.tuple #[.agg (nums .u8 (rR L n)).toArray, .int .i64 (rE L n)]) ∧ Below w.heap.size w w' := by
  by_cases h : 0 ≤ n ∧ n ≤ (L.length : Int)
  · have K := root_in bt base L hL (by omega) n.toNat (by omega) w hTr
    rw [Int.toNat_of_nonneg h.1] at K
    unfold rR rE; rw [if_pos h, if_pos h]; exact K
  · unfold rR rE; rw [if_neg h, if_neg h]; exact root_out bt base L n h w hTr
theorem prove_x (bt base : Nat) (L : List (List Nat)) (hL : Hl L) (h80 : L.length ≤ 80) (i n : Int) (w : World) (hTr : Tr w bt base L) :
    Calls Tryd.prog 7 #[.pointer (some ⟨bt, 0, none⟩), .int .i64 i, .int .i64 n] w fun e w' => ∃ a cap, e = .returned (.tuple #[.agg #[.slice a (pvL L i n).length cap], .int .i64 (pvE L i n)]) ∧ (pvL L i n).length ≤ cap ∧ Wv w' w.heap.size a (pvL L i n) ∧ Below w.heap.size w w' := by
  by_cases h : 0 ≤ i ∧ i < n ∧ n ≤ (L.length : Int)
  · have K := prove_in bt base L hL (by omega) i.toNat n.toNat (by omega) (by omega) w hTr
    rw [← pv_eq L i.toNat n.toNat h80 (by omega) (by omega), Int.toNat_of_nonneg h.1, Int.toNat_of_nonneg (show 0 ≤ n by omega)] at K
    have e : pvE L i n = 0 := by unfold pvE; rw [if_pos h]
    rw [e]
    exact K.mono (by rintro e w' ⟨g, rfl, hg, B, Z⟩; exact ⟨_, _, rfl, Nat.le_refl _, .inr ⟨g, rfl, hg, B⟩, Z⟩)
  · have e1 : pvL L i n = [] := by unfold pvL; rw [if_neg h]
    have e2 : pvE L i n = 1 := by unfold pvE; rw [if_neg h]
    rw [e1, e2]
    exact (prove_out bt base L i n h w hTr).mono (by rintro e w' ⟨rfl, Z⟩; exact ⟨none, 0, rfl, Nat.le_refl _, .inl rfl, Z⟩)
theorem consist_x (bt base : Nat) (L : List (List Nat)) (hL : Hl L) (h80 : L.length ≤ 80) (m n : Int) (w : World) (hTr : Tr w bt base L) (hT : Tb w) :
    Calls Tryd.prog 9 #[.pointer (some ⟨bt, 0, none⟩), .int .i64 m, .int .i64 n] w fun e w' => ∃ a cap, e = .returned (.tuple #[.agg #[.slice a (csL L m n).length cap], .int .i64 (csE L m n)]) ∧ (csL L m n).length ≤ cap ∧ Wv w' w.heap.size a (csL L m n) ∧ Below w.heap.size w w' := by
  by_cases h : 1 ≤ m ∧ m ≤ n ∧ n ≤ (L.length : Int)
  · obtain ⟨c0, u0, HM0, _, _⟩ := odd_of m.toNat (by omega) (by omega)
    have e := cs_eq L m.toNat n.toNat c0 u0 HM0 h80 (by omega) (by omega) (by omega)
    rw [Int.toNat_of_nonneg (show 0 ≤ m by omega), Int.toNat_of_nonneg (show 0 ≤ n by omega)] at e
    have e2 : csE L m n = 0 := by unfold csE; rw [if_pos h]
    rw [e, e2]
    by_cases he : m.toNat = n.toNat
    · have ec : csl L m.toNat n.toNat c0 u0 = [] := if_pos he
      rw [ec]
      have K := consist_same bt base L n.toNat (by omega) (by omega) w hTr
      rw [Int.toNat_of_nonneg (show 0 ≤ n by omega)] at K
      have emn : m = n := by omega
      rw [emn]
      exact K.mono (by rintro e w' ⟨rfl, Z⟩; exact ⟨none, 0, rfl, Nat.le_refl _, .inl rfl, Z⟩)
    · have ec : csl L m.toNat n.toNat c0 u0 = rtsn L n.toNat (cnh c0 u0 n.toNat) := if_neg he
      rw [ec]
      have K := consist_in bt base L hL (by omega) m.toNat n.toNat c0 u0 HM0 (by omega) (by omega) w hT hTr
      rw [Int.toNat_of_nonneg (show 0 ≤ m by omega), Int.toNat_of_nonneg (show 0 ≤ n by omega)] at K
      exact K.mono (by rintro e w' ⟨g, rfl, hb, B, Z⟩; exact ⟨some ⟨g, 0, none⟩, _, rfl, Nat.le_refl _, .inr ⟨g, rfl, hb, B⟩, Z⟩)
  · have e1 : csL L m n = [] := by unfold csL; rw [if_neg h]
    have e2 : csE L m n = 1 := by unfold csE; rw [if_neg h]
    rw [e1, e2]
    exact (consist_out bt base L m n h w hTr).mono (by rintro e w' ⟨rfl, Z⟩; exact ⟨none, 0, rfl, Nat.le_refl _, .inl rfl, Z⟩)
/-! ### the document's -/
set_option maxHeartbeats 2000000 in
set_option maxRecDepth 8000 in
theorem droot_x (gt : Nat) (a : Option Addr) (cap : Nat) (L : List (List Nat)) (hL : Hl L) (h80 : L.length ≤ 80) (hcap : L.length ≤ cap) (n : Int) (w : World) (hT : Blk w gt 28 [.slice a L.length cap]) (hS : ES (nums .u8) 32 w a L) :
    Calls Tryd.prog 6 #[.pointer (some ⟨gt, 0, none⟩), .int .i64 n] w fun e w' => e = .returned (.tuple #[.agg (nums .u8 (rR L n)).toArray, .int .i64 (rE L n)]) ∧ Below w.heap.size w w' := by
  have hz : Hid ((Tryd.prog.info? 30).map (·.size) = some (nums .u8 (List.replicate 32 0)).length) := zS'
  by_cases h : 0 ≤ n ∧ n ≤ (L.length : Int)
  · obtain ⟨k, rfl⟩ : ∃ k : Nat, n = (k : Int) := ⟨n.toNat, by omega⟩
    have hk : k ≤ L.length := by omega
    obtain ⟨x, hx⟩ : ∃ x, Hid (x = Mk.R nd em (L.take k)) := ⟨_, rfl⟩
    have HX : Hid (Hh x) := by show Hh x; rw [hx.out]; exact R_hh (hL.take k)
    have e1 : rR L (k : Int) = x := by unfold rR; rw [if_pos h, hx.out, Int.toNat_natCast]
    have e2 : rE L (k : Int) = 0 := by unfold rE; rw [if_pos h]
    have lk : Hid ((L.take k).length = k) := by show _ = _; rw [List.length_take]; omega
    have KX : Hid (∀ W, ES (nums .u8) 32 W a (L.take k) → Calls Tryd.prog 18 #[.slice a k cap] W fun e w' => e = .returned (.agg (nums .u8 x).toArray) ∧ Below W.heap.size W w') := fun W hW => by
      have K := rroot_any a cap (L.take k) W (by rw [lk.out]; omega) (hL.take k) (by rw [lk.out]; omega) hW
      rw [lk.out, ← hx.out] at K; exact K
    have SX : Hid ((Tryd.prog.info? 30).map (·.size) = some (nums .u8 x).length ∧ (nums .u8 x).length = (nums .u8 (List.replicate 32 0)).length) := ⟨sH HX.out, by rw [nums_length, nums_length, HX.out.1, List.length_replicate]⟩
    rw [e1, e2]
    have i1 : ¬ (k : Int) < 0 := by omega
    have i2 : ¬ (L.length : Int) < (k : Int) := by omega
    have i3 : (k : Int) ≤ (cap : Int) := by omega
    clear e1 e2 h hL hx lk
    go_enter Tryd.func6, Tryd.ntmps6
    go_wp2_with (refine al_zero rfl 30 rfl _ z25 ?_)
    intro g1 w1 l1 B1 G1
    have Z := (Below.refl w.heap.size w).grown G1 (Nat.le_refl _) (by simp)
    have ct : w1.cell? ⟨gt, 0, none⟩ = some (.slice a L.length cap) := by rw [(hT.below Z hT.lt).cell]; rfl
    have HS1 : Hid (ES (nums .u8) 32 w1 a L) := hS.below Z
    clear G1 hT hS
    have K := KX.out w1 (HS1.out.take k)
    go_wp2_with fail
    refine K.mono ?_
    rintro e w2 ⟨rfl, Z2⟩
    have B1 := B1.below Z2 B1.lt
    have Z := Z.trans (Z2.mono Z.size)
    clear Z2 K
    go_wp2_with (refine st_all rfl 30 (.tmp 4) (.tmp 24) rfl g1 30 (nums .u8 (List.replicate 32 0)) (nums .u8 x) rfl rfl B1 SX.out.2 SX.out.1 (nums_one _ _) ?_)
    intro w3 B3 G3
    go_wp2
    refine bodyPost_ret (res_two rfl _ g1 30 _ _ rfl B3 Tryd.underlying30 rfl SX.out.1) rfl ⟨rfl, grown_below Z G3 Z.size l1⟩
  · have e1 : rR L n = List.replicate 32 0 := by unfold rR; rw [if_neg h]
    have e2 : rE L n = 1 := by unfold rE; rw [if_neg h]
    rw [e1, e2]
    clear e1 e2 hL
    go_enter Tryd.func6, Tryd.ntmps6
    go_wp2_with (refine al_zero rfl 30 rfl _ z25 ?_)
    intro g1 w1 l1 B1 G1
    have Z := (Below.refl w.heap.size w).grown G1 (Nat.le_refl _) (by simp)
    have ct : w1.cell? ⟨gt, 0, none⟩ = some (.slice a L.length cap) := by rw [(hT.below Z hT.lt).cell]; rfl
    have HS1 : Hid (ES (nums .u8) 32 w1 a L) := hS.below Z
    clear G1 hT hS
    by_cases c0 : n < 0
    · go_wp2_with (first | (refine bd_row rfl 30 #[] rfl (nums .u8 (List.replicate 32 0)) (by kernel_rfl) ?_) | (refine st_all rfl 30 (.tmp 4) (.tmp 17) rfl g1 30 (nums .u8 (List.replicate 32 0)) (nums .u8 (List.replicate 32 0)) rfl rfl B1 rfl hz.out (nums_one _ _) ?_))
      intro w2 B2 G2
      go_wp2
      refine bodyPost_ret (res_two rfl _ g1 30 _ _ rfl B2 Tryd.underlying30 rfl hz.out) rfl ⟨rfl, grown_below Z G2 Z.size l1⟩
    have c9 : (L.length : Int) < n := by omega
    go_wp2_with (first | (refine bd_row rfl 30 #[] rfl (nums .u8 (List.replicate 32 0)) (by kernel_rfl) ?_) | (refine st_all rfl 30 (.tmp 4) (.tmp 17) rfl g1 30 (nums .u8 (List.replicate 32 0)) (nums .u8 (List.replicate 32 0)) rfl rfl B1 rfl hz.out (nums_one _ _) ?_))
    intro w2 B2 G2
    go_wp2
    refine bodyPost_ret (res_two rfl _ g1 30 _ _ rfl B2 Tryd.underlying30 rfl hz.out) rfl ⟨rfl, grown_below Z G2 Z.size l1⟩
#print axioms droot_x
theorem es_keepn {w w' : World} {a : Option Addr} {M : List (List Nat)} {g : Nat} (h : ES (nums .u8) 32 w a M) (G : w.grownBy w' (some g)) (hb : ∀ ad, a = some ad → ad.block ≠ g) : ES (nums .u8) 32 w' a M := by
  rcases h with h | ⟨b, off, rfl, h⟩
  · exact .inl h
  · refine .inr ⟨b, off, rfl, fun i x hx j v hj => ?_⟩
    exact G.cell (h i x hx j v hj) (by intro e; exact hb _ rfl (Option.some.inj e))
set_option maxHeartbeats 2000000 in
set_option maxRecDepth 8000 in
theorem dprove_x (gt : Nat) (a : Option Addr) (cap : Nat) (L : List (List Nat)) (hL : Hl L) (h80 : L.length ≤ 80) (hcap : L.length ≤ cap) (i n : Int) (w : World) (hT : Blk w gt 28 [.slice a L.length cap]) (hS : ES (nums .u8) 32 w a L) :
    Calls Tryd.prog 8 #[.pointer (some ⟨gt, 0, none⟩), .int .i64 i, .int .i64 n] w fun e w' => ∃ a' c', e = .returned (.tuple #[.agg #[.slice a' (pvL L i n).length c'], .int .i64 (pvE L i n)]) ∧ ES (nums .u8) 32 w' a' (pvL L i n) ∧ (∀ ad, a' = some ad → w.heap.size ≤ ad.block) ∧ Below w.heap.size w w' := by
  by_cases h : 0 ≤ i ∧ i < n ∧ n ≤ (L.length : Int)
  · obtain ⟨q, rfl⟩ : ∃ q : Nat, i = (q : Int) := ⟨i.toNat, by omega⟩
    obtain ⟨k, rfl⟩ : ∃ k : Nat, n = (k : Int) := ⟨n.toNat, by omega⟩
    have hk : k ≤ L.length := by omega
    have lk : Hid ((L.take k).length = k) := by show _ = _; rw [List.length_take]; omega
    obtain ⟨M, hM⟩ : ∃ M, Hid (M = pvL L (q : Int) (k : Int)) := ⟨_, rfl⟩
    have KX : Hid (∀ W, ES (nums .u8) 32 W a (L.take k) → Calls Tryd.prog 21 #[.int .i64 (q : Int), .slice a k cap] W fun e w' => ∃ v, e = .returned v ∧ OwE (nums .u8) 30 32 w' W.heap.size v M ∧ Below W.heap.size W w') := fun W hW => by
      have K := path_all 7 (by omega) q a cap (L.take k) W (by rw [lk.out]; simp; omega) (by omega) (hL.take k) (by rw [lk.out]; omega) hW
      have e : M = Mk.ptF nd em 7 q (L.take k) := by rw [hM.out]; unfold pvL; rw [if_pos h, Int.toNat_natCast, Int.toNat_natCast]
      rw [lk.out, ← e] at K; exact K
    have e2 : pvE L (q : Int) (k : Int) = 0 := by unfold pvE; rw [if_pos h]
    rw [e2, ← hM.out]
    have i1 : ¬ (k : Int) < 1 := by omega
    have i2 : ¬ (L.length : Int) < (k : Int) := by omega
    have i3 : ¬ (q : Int) < 0 := by omega
    have i4 : ¬ (k : Int) ≤ (q : Int) := by omega
    have i5 : (k : Int) ≤ (cap : Int) := by omega
    clear e2 h hL hM lk
    go_enter Tryd.func8, Tryd.ntmps8
    go_wp2_with (refine al_zero rfl 37 rfl [.slice none 0 0] (by kernel_rfl) ?_)
    intro g1 w1 l1 B1 G1
    have Z := (Below.refl w.heap.size w).grown G1 (Nat.le_refl _) (by simp)
    have B1L := B1.lt
    have ct : w1.cell? ⟨gt, 0, none⟩ = some (.slice a L.length cap) := by rw [(hT.below Z hT.lt).cell]; rfl
    have HS1 : Hid (ES (nums .u8) 32 w1 a L) := hS.below Z
    clear G1 hT hS
    have K := KX.out w1 (HS1.out.take k)
    go_wp2_with fail
    refine K.mono ?_
    rintro e w2 ⟨v, rfl, O2, Z2⟩
    have B1 := B1.below Z2 B1.lt
    have Z := Z.trans (Z2.mono Z.size)
    have l2 := Z2.size
    obtain ⟨a2, c2, rfl, _, _, E2, hb2⟩ := O2.es
    have hb1 := B1.lt
    have g2n : ∀ ad, a2 = some ad → ad.block ≠ g1 := fun ad e => by have := (hb2 ad e).1; have := B1L; omega
    have g2w : ∀ ad, a2 = some ad → w.heap.size ≤ ad.block := fun ad e => by have := (hb2 ad e).1; omega
    clear Z2 K O2
    go_wp2_with (refine st_all rfl 37 (.tmp 6) (.tmp 37) rfl g1 37 [.slice none 0 0] [.slice a2 M.length c2] rfl rfl B1 rfl (by kernel_rfl) (by simp [Value.oneCell']) ?_)
    intro w3 B3 G3
    have E3 : ES (nums .u8) 32 w3 a2 M := es_keepn E2 G3 g2n
    go_wp2
    refine bodyPost_ret (res_two rfl _ g1 37 _ _ rfl B3 Tryd.underlying37 rfl (by kernel_rfl)) rfl ⟨a2, c2, rfl, E3, g2w, grown_below Z G3 Z.size l1⟩
  · have e1 : pvL L i n = [] := by unfold pvL; rw [if_neg h]
    have e2 : pvE L i n = 1 := by unfold pvE; rw [if_neg h]
    rw [e1, e2]
    clear e1 e2 hL
    go_enter Tryd.func8, Tryd.ntmps8
    go_wp2_with (refine al_zero rfl 37 rfl [.slice none 0 0] (by kernel_rfl) ?_)
    intro g1 w1 l1 B1 G1
    have Z := (Below.refl w.heap.size w).grown G1 (Nat.le_refl _) (by simp)
    have ct : w1.cell? ⟨gt, 0, none⟩ = some (.slice a L.length cap) := by rw [(hT.below Z hT.lt).cell]; rfl
    have HS1 : Hid (ES (nums .u8) 32 w1 a L) := hS.below Z
    clear G1 hT hS
    by_cases c0 : n < 1
    · go_wp2_with (first | (refine st_all rfl 37 (.tmp 6) (.tmp 28) rfl g1 37 [.slice none 0 0] [.slice none 0 0] rfl rfl B1 rfl (by kernel_rfl) (by simp [Value.oneCell']) ?_))
      intro w2 B2 G2
      go_wp2
      refine bodyPost_ret (res_two rfl _ g1 37 _ _ rfl B2 Tryd.underlying37 rfl (by kernel_rfl)) rfl ⟨none, 0, rfl, .inl rfl, (by intro ad e; cases e), grown_below Z G2 Z.size l1⟩
    by_cases c1 : (L.length : Int) < n
    · go_wp2_with (first | (refine st_all rfl 37 (.tmp 6) (.tmp 28) rfl g1 37 [.slice none 0 0] [.slice none 0 0] rfl rfl B1 rfl (by kernel_rfl) (by simp [Value.oneCell']) ?_))
      intro w2 B2 G2
      go_wp2
      refine bodyPost_ret (res_two rfl _ g1 37 _ _ rfl B2 Tryd.underlying37 rfl (by kernel_rfl)) rfl ⟨none, 0, rfl, .inl rfl, (by intro ad e; cases e), grown_below Z G2 Z.size l1⟩
    by_cases c2 : i < 0
    · go_wp2_with (first | (refine st_all rfl 37 (.tmp 6) (.tmp 28) rfl g1 37 [.slice none 0 0] [.slice none 0 0] rfl rfl B1 rfl (by kernel_rfl) (by simp [Value.oneCell']) ?_))
      intro w2 B2 G2
      go_wp2
      refine bodyPost_ret (res_two rfl _ g1 37 _ _ rfl B2 Tryd.underlying37 rfl (by kernel_rfl)) rfl ⟨none, 0, rfl, .inl rfl, (by intro ad e; cases e), grown_below Z G2 Z.size l1⟩
    have c9 : n ≤ i := by omega
    go_wp2_with (first | (refine st_all rfl 37 (.tmp 6) (.tmp 28) rfl g1 37 [.slice none 0 0] [.slice none 0 0] rfl rfl B1 rfl (by kernel_rfl) (by simp [Value.oneCell']) ?_))
    intro w2 B2 G2
    go_wp2
    refine bodyPost_ret (res_two rfl _ g1 37 _ _ rfl B2 Tryd.underlying37 rfl (by kernel_rfl)) rfl ⟨none, 0, rfl, .inl rfl, (by intro ad e; cases e), grown_below Z G2 Z.size l1⟩
#print axioms dprove_x
set_option maxHeartbeats 2000000 in
set_option maxRecDepth 8000 in
theorem dconsist_x (gt : Nat) (a : Option Addr) (cap : Nat) (L : List (List Nat)) (hL : Hl L) (h80 : L.length ≤ 80) (hcap : L.length ≤ cap) (i n : Int) (w : World) (hT : Blk w gt 28 [.slice a L.length cap]) (hS : ES (nums .u8) 32 w a L) :
    Calls Tryd.prog 10 #[.pointer (some ⟨gt, 0, none⟩), .int .i64 i, .int .i64 n] w fun e w' => ∃ a' c', e = .returned (.tuple #[.agg #[.slice a' (csL L i n).length c'], .int .i64 (csE L i n)]) ∧ ES (nums .u8) 32 w' a' (csL L i n) ∧ (∀ ad, a' = some ad → w.heap.size ≤ ad.block) ∧ Below w.heap.size w w' := by
  by_cases h : 1 ≤ i ∧ i ≤ n ∧ n ≤ (L.length : Int)
  · obtain ⟨q, rfl⟩ : ∃ q : Nat, i = (q : Int) := ⟨i.toNat, by omega⟩
    obtain ⟨k, rfl⟩ : ∃ k : Nat, n = (k : Int) := ⟨n.toNat, by omega⟩
    have hk : k ≤ L.length := by omega
    have lk : Hid ((L.take k).length = k) := by show _ = _; rw [List.length_take]; omega
    obtain ⟨M, hM⟩ : ∃ M, Hid (M = csL L (q : Int) (k : Int)) := ⟨_, rfl⟩
    have KX : Hid (∀ W, ES (nums .u8) 32 W a (L.take k) → Calls Tryd.prog 24 #[.int .i64 (q : Int), .slice a k cap, .bool true] W fun e w' => ∃ v, e = .returned v ∧ OwE (nums .u8) 30 32 w' W.heap.size v M ∧ Below W.heap.size W w') := fun W hW => by
      have K := sub_all 7 (by omega) q a cap (L.take k) true W (by rw [lk.out]; simp; omega) (by omega) (by rw [lk.out]; omega) (hL.take k) (by rw [lk.out]; omega) hW
      have e : M = Mk.sbF nd em 7 q (L.take k) true := by rw [hM.out]; unfold csL; rw [if_pos h, Int.toNat_natCast, Int.toNat_natCast]
      rw [lk.out, ← e] at K; exact K
    have e2 : csE L (q : Int) (k : Int) = 0 := by unfold csE; rw [if_pos h]
    rw [e2, ← hM.out]
    have i1 : ¬ (k : Int) < 1 := by omega
    have i2 : ¬ (L.length : Int) < (k : Int) := by omega
    have i3 : ¬ (q : Int) < 1 := by omega
    have i4 : ¬ (k : Int) < (q : Int) := by omega
    have i5 : (k : Int) ≤ (cap : Int) := by omega
    clear e2 h hL hM lk
    go_enter Tryd.func10, Tryd.ntmps10
    go_wp2_with (refine al_zero rfl 37 rfl [.slice none 0 0] (by kernel_rfl) ?_)
    intro g1 w1 l1 B1 G1
    have Z := (Below.refl w.heap.size w).grown G1 (Nat.le_refl _) (by simp)
    have B1L := B1.lt
    have ct : w1.cell? ⟨gt, 0, none⟩ = some (.slice a L.length cap) := by rw [(hT.below Z hT.lt).cell]; rfl
    have HS1 : Hid (ES (nums .u8) 32 w1 a L) := hS.below Z
    clear G1 hT hS
    have K := KX.out w1 (HS1.out.take k)
    go_wp2_with fail
    refine K.mono ?_
    rintro e w2 ⟨v, rfl, O2, Z2⟩
    have B1 := B1.below Z2 B1.lt
    have Z := Z.trans (Z2.mono Z.size)
    have l2 := Z2.size
    obtain ⟨a2, c2, rfl, _, _, E2, hb2⟩ := O2.es
    have hb1 := B1.lt
    have g2n : ∀ ad, a2 = some ad → ad.block ≠ g1 := fun ad e => by have := (hb2 ad e).1; have := B1L; omega
    have g2w : ∀ ad, a2 = some ad → w.heap.size ≤ ad.block := fun ad e => by have := (hb2 ad e).1; omega
    clear Z2 K O2
    go_wp2_with (refine st_all rfl 37 (.tmp 6) (.tmp 37) rfl g1 37 [.slice none 0 0] [.slice a2 M.length c2] rfl rfl B1 rfl (by kernel_rfl) (by simp [Value.oneCell']) ?_)
    intro w3 B3 G3
    have E3 : ES (nums .u8) 32 w3 a2 M := es_keepn E2 G3 g2n
    go_wp2
    refine bodyPost_ret (res_two rfl _ g1 37 _ _ rfl B3 Tryd.underlying37 rfl (by kernel_rfl)) rfl ⟨a2, c2, rfl, E3, g2w, grown_below Z G3 Z.size l1⟩
  · have e1 : csL L i n = [] := by unfold csL; rw [if_neg h]
    have e2 : csE L i n = 1 := by unfold csE; rw [if_neg h]
    rw [e1, e2]
    clear e1 e2 hL
    go_enter Tryd.func10, Tryd.ntmps10
    go_wp2_with (refine al_zero rfl 37 rfl [.slice none 0 0] (by kernel_rfl) ?_)
    intro g1 w1 l1 B1 G1
    have Z := (Below.refl w.heap.size w).grown G1 (Nat.le_refl _) (by simp)
    have ct : w1.cell? ⟨gt, 0, none⟩ = some (.slice a L.length cap) := by rw [(hT.below Z hT.lt).cell]; rfl
    have HS1 : Hid (ES (nums .u8) 32 w1 a L) := hS.below Z
    clear G1 hT hS
    by_cases c0 : n < 1
    · go_wp2_with (first | (refine st_all rfl 37 (.tmp 6) (.tmp 28) rfl g1 37 [.slice none 0 0] [.slice none 0 0] rfl rfl B1 rfl (by kernel_rfl) (by simp [Value.oneCell']) ?_))
      intro w2 B2 G2
      go_wp2
      refine bodyPost_ret (res_two rfl _ g1 37 _ _ rfl B2 Tryd.underlying37 rfl (by kernel_rfl)) rfl ⟨none, 0, rfl, .inl rfl, (by intro ad e; cases e), grown_below Z G2 Z.size l1⟩
    by_cases c1 : (L.length : Int) < n
    · go_wp2_with (first | (refine st_all rfl 37 (.tmp 6) (.tmp 28) rfl g1 37 [.slice none 0 0] [.slice none 0 0] rfl rfl B1 rfl (by kernel_rfl) (by simp [Value.oneCell']) ?_))
      intro w2 B2 G2
      go_wp2
      refine bodyPost_ret (res_two rfl _ g1 37 _ _ rfl B2 Tryd.underlying37 rfl (by kernel_rfl)) rfl ⟨none, 0, rfl, .inl rfl, (by intro ad e; cases e), grown_below Z G2 Z.size l1⟩
    by_cases c2 : i < 1
    · go_wp2_with (first | (refine st_all rfl 37 (.tmp 6) (.tmp 28) rfl g1 37 [.slice none 0 0] [.slice none 0 0] rfl rfl B1 rfl (by kernel_rfl) (by simp [Value.oneCell']) ?_))
      intro w2 B2 G2
      go_wp2
      refine bodyPost_ret (res_two rfl _ g1 37 _ _ rfl B2 Tryd.underlying37 rfl (by kernel_rfl)) rfl ⟨none, 0, rfl, .inl rfl, (by intro ad e; cases e), grown_below Z G2 Z.size l1⟩
    have c9 : n < i := by omega
    go_wp2_with (first | (refine st_all rfl 37 (.tmp 6) (.tmp 28) rfl g1 37 [.slice none 0 0] [.slice none 0 0] rfl rfl B1 rfl (by kernel_rfl) (by simp [Value.oneCell']) ?_))
    intro w2 B2 G2
    go_wp2
    refine bodyPost_ret (res_two rfl _ g1 37 _ _ rfl B2 Tryd.underlying37 rfl (by kernel_rfl)) rfl ⟨none, 0, rfl, .inl rfl, (by intro ad e; cases e), grown_below Z G2 Z.size l1⟩
#print axioms dconsist_x
end Go.Proofs.YtfkiciejipcgkaaDoor
namespace Go.Proofs.YtfkiciejipcgkaaDoor
open Go Go.RowKit Go.Maps Sh
theorem Wv.ge {w : World} {B : Nat} {a : Option Addr} {M : List (List Nat)} (h : Wv w B a M) : ∀ k, M ≠ [] → a = some k → B ≤ k.block := fun k hne e => by
  obtain ⟨g, rfl, h, _⟩ := h.resolve_left hne
  rw [← Option.some.inj e]; exact h
theorem Wv.lt {w : World} {B : Nat} {a : Option Addr} {M : List (List Nat)} (h : Wv w B a M) : ∀ k, M ≠ [] → a = some k → k.block < w.heap.size := fun k hne e => by
  obtain ⟨g, rfl, _, h⟩ := h.resolve_left hne
  rw [← Option.some.inj e]; exact h.lt
theorem Wv.ne {w : World} {B : Nat} {a : Option Addr} {M : List (List Nat)} (h : Wv w B a M) {g : Nat} (hg : w.heap.size ≤ g) : ∀ k, M ≠ [] → a = some k → k.block ≠ g := fun k hne e => by have := h.lt k hne e; omega
theorem Wv.kept {w w' : World} {B : Nat} {a : Option Addr} {M : List (List Nat)} {row : Option Nat} (h : Wv w B a M) (G : w.grownBy w' row) (hne : ∀ k, M ≠ [] → a = some k → some k.block ≠ row) : Wv w' B a M := by
  by_cases hM : M = []
  · exact .inl hM
  · obtain ⟨g, rfl, hb, h⟩ := h.resolve_left hM
    exact .inr ⟨g, rfl, hb, h.kept G (hne _ hM rfl)⟩
theorem es_keepm {w w' : World} {a : Option Addr} {M : List (List Nat)} {g : Nat} (h : ES (nums .u8) 32 w a M) (G : w.grownBy w' (some g)) (hb : ∀ ad, a = some ad → M ≠ [] → ad.block ≠ g) : ES (nums .u8) 32 w' a M := by
  by_cases hM : M = []
  · exact .inl hM
  · exact es_keepn h G fun ad e => hb ad e hM
def gkb : Option Addr → Nat
  | some a => a.block
  | none => 0
/-- while noughts are written over the hashes. -/
structure LpI (w wr : World) (B : Nat) (a : Option Addr) (pl M : List (List Nat)) : Prop where
  wv : Wv wr B a M
  len : M.length = pl.length
  hl : Hl M
  gr : ∀ row : Option Nat, w.grownBy wr (if pl = [] then row else some (gkb a))
theorem flat_parts (M : List (List Nat)) (k : Nat) (h : k < M.length) : M.flatMap (nums .u8) = (M.take k).flatMap (nums .u8) ++ (nums .u8 M[k] ++ (M.drop (k + 1)).flatMap (nums .u8)) := by
  have e : M = M.take k ++ (M[k] :: M.drop (k + 1)) := by rw [List.getElem_cons_drop, List.take_append_drop]
  conv => lhs; rw [e]
  rw [List.flatMap_append, List.flatMap_cons]
theorem set_parts (M : List (List Nat)) (k : Nat) (x : List Nat) (h : k < M.length) : (M.set k x).flatMap (nums .u8) = (M.take k).flatMap (nums .u8) ++ (nums .u8 x ++ (M.drop (k + 1)).flatMap (nums .u8)) := by
  rw [List.set_eq_take_append_cons_drop, if_pos h, List.flatMap_append, List.flatMap_cons]
theorem LpI.next {w wr w' : World} {B g : Nat} {pl M : List (List Nat)} (h : LpI w wr B (some ⟨g, 0, none⟩) pl M) {k : Nat} (hk : k < M.length) (hg : B ≤ g) (hb : Blk w' g 30 ((M.take k).flatMap (nums .u8) ++ ((nums .u8 (List.replicate 32 0)) ++ (M.drop (k + 1)).flatMap (nums .u8)))) (G : wr.grownBy w' (some g)) : LpI w w' B (some ⟨g, 0, none⟩) pl (M.set k (List.replicate 32 0)) := by
  have hne : pl ≠ [] := by intro e; have := h.len; rw [e] at this; simp at this; rw [this] at hk; cases hk
  refine ⟨.inr ⟨g, rfl, hg, by rw [set_parts M k _ hk]; exact hb⟩, by rw [List.length_set]; exact h.len, fun y hy => ?_, fun row => ?_⟩
  · rcases List.mem_or_eq_of_mem_set hy with h1 | h1
    · exact h.hl y h1
    · rw [h1]; exact ⟨List.length_replicate, fun x hx => by have := List.eq_of_mem_replicate hx; omega⟩
  · have := h.gr row
    rw [if_neg hne] at this ⊢
    exact this.trans G
theorem LpI.g1 {w wr : World} {B : Nat} {a : Option Addr} {pl M : List (List Nat)} (h : LpI w wr B a pl M) (hne : pl ≠ []) : w.grownBy wr (some (gkb a)) := by
  have := h.gr none; rw [if_neg hne] at this; exact this
theorem LpI.g0 {w wr : World} {B : Nat} {a : Option Addr} {pl M : List (List Nat)} (h : LpI w wr B a pl M) (h0 : pl = []) : w.grownBy wr none := by
  have := h.gr none; rw [if_pos h0] at this; exact this
set_option maxHeartbeats 2000000 in
set_option maxRecDepth 8000 in
theorem proves_in (L : List (List Nat)) (hL : Hl L) (a : Option Addr) (ca : Nat) (i size old : Int) (h80 : L.length ≤ 80) (hca : L.length ≤ ca) (w : World) (hSa : ES (nums .u8) 32 w a L) (hT : Tb w) :
    Calls Tryd.prog 3 #[.slice a L.length ca, .int .i64 i, .int .i64 size, .int .i64 old] w fun e w' => e = .returned (.bool true) ∧ Below w.heap.size w w' := by
  have HL : Hid (Hl L) := hL
  have HTb : Hid (Tb w) := hT
  have HSa : Hid (ES (nums .u8) 32 w a L) := hSa
  have KA := made_any a ca L HL.out (by omega) w HTb.out hSa
  obtain ⟨r, hr⟩ : ∃ r, Hid (rR L size = r) := ⟨_, rfl⟩
  obtain ⟨re, hre⟩ : ∃ r, Hid (rE L size = r) := ⟨_, rfl⟩
  obtain ⟨pl, hpl⟩ : ∃ r, Hid (pvL L i size = r) := ⟨_, rfl⟩
  obtain ⟨pe, hpe⟩ : ∃ r, Hid (pvE L i size = r) := ⟨_, rfl⟩
  obtain ⟨cl, hcl⟩ : ∃ r, Hid (csL L old size = r) := ⟨_, rfl⟩
  obtain ⟨ce, hce⟩ : ∃ r, Hid (csE L old size = r) := ⟨_, rfl⟩
  have HR : Hid (Hh r) := by show Hh r; rw [← hr.out]; exact rR_hh L hL size
  have HPl : Hid (Hl pl) := by show Hl pl; rw [← hpl.out]; exact pvL_hl L hL h80 i size
  have HCl : Hid (Hl cl) := by show Hl cl; rw [← hcl.out]; exact csL_hl L hL h80 old size
  have lpl : pl.length ≤ 7 := by rw [← hpl.out]; exact pvL_len L i size
  have lcl : cl.length ≤ 8 := by rw [← hcl.out]; exact csL_len L old size
  have Sr : Hid ((Tryd.prog.info? 30).map (·.size) = some (nums .u8 r).length ∧ (nums .u8 r).length = (nums .u8 (List.replicate 32 0)).length) := ⟨sH HR.out, by rw [nums_length, nums_length, HR.out.1, List.length_replicate]⟩
  have Heq : Hid (∀ w, (Op.equalIn 10000 30 (.agg (nums .u8 r).toArray) (.agg (nums .u8 r).toArray)).run Tryd.prog w = .ok true w) := fun w => eql_same r HR.out.1 w
  have i1 : ¬ (80 : Int) < (L.length : Int) := by omega
  clear hL hSa hT
  go_enter Tryd.func3, Tryd.ntmps3
  go_wp2_with fail
  refine KA.mono ?_
  rintro e w1 ⟨bt, rfl, hTr, ZZ⟩
  have T1 : Hid (Tr w1 bt w.heap.size L) := hTr
  clear hTr KA
  have Y := Below.refl w1.heap.size w1
  go_wp2_with (refine al_box rfl 28 (.tmp 36) rfl [.slice a L.length ca] rfl ?_)
  intro gt w2 lgt BT G0
  have hgt : w1.heap.size ≤ gt := lgt
  have Y := Y.grown G0 Y.size (by simp)
  clear G0
  have KR := root_x bt w.heap.size L HL.out h80 size w2 (T1.out.grow Y)
  rw [hr.out, hre.out] at KR
  go_wp2_with fail
  refine KR.mono ?_
  rintro e w3 ⟨rfl, Z0⟩
  clear KR
  have BT := BT.below Z0 BT.lt
  have Y := Y.trans (Z0.mono Y.size)
  clear Z0
  go_wp2_with (refine al_zero rfl 30 rfl _ z25 ?_)
  intro gr w4 lgr B0 G0
  have hgr : w1.heap.size ≤ gr := Nat.le_trans Y.size lgr
  have ngtgr : gt ≠ gr := by have := BT.lt; omega
  have BT := BT.kept G0 (by simp)
  have Y := Y.grown G0 Y.size (by simp)
  clear G0
  go_wp2_with (refine st_all rfl 30 (.tmp 12) (.tmp 42) rfl gr 30 (nums .u8 (List.replicate 32 0)) (nums .u8 r) rfl rfl B0 Sr.out.2 Sr.out.1 (nums_one _ _) ?_)
  intro w5 BR G0
  have BT := BT.kept G0 (fun e => ngtgr (Option.some.inj e))
  have Y := grown_below Y G0 Y.size hgr
  clear G0 B0
  have KR := droot_x gt a ca L HL.out h80 hca size w5 BT (HSa.out.below (ZZ.trans (Y.mono ZZ.size)))
  rw [hr.out, hre.out] at KR
  go_wp2_with fail
  refine KR.mono ?_
  rintro e w6 ⟨rfl, Z0⟩
  clear KR
  have BT := BT.below Z0 BT.lt
  have BR := BR.below Z0 BR.lt
  have Y := Y.trans (Z0.mono Y.size)
  clear Z0
  go_wp2_with (refine al_zero rfl 30 rfl _ z25 ?_)
  intro gs w7 lgs B0 G0
  have hgs : w1.heap.size ≤ gs := Nat.le_trans Y.size lgs
  have ngtgs : gt ≠ gs := by have := BT.lt; omega
  have BT := BT.kept G0 (by simp)
  have ngrgs : gr ≠ gs := by have := BR.lt; omega
  have BR := BR.kept G0 (by simp)
  have Y := Y.grown G0 Y.size (by simp)
  clear G0
  go_wp2_with (refine st_all rfl 30 (.tmp 14) (.tmp 48) rfl gs 30 (nums .u8 (List.replicate 32 0)) (nums .u8 r) rfl rfl B0 Sr.out.2 Sr.out.1 (nums_one _ _) ?_)
  intro w8 BS G0
  have BT := BT.kept G0 (fun e => ngtgs (Option.some.inj e))
  have BR := BR.kept G0 (fun e => ngrgs (Option.some.inj e))
  have Y := grown_below Y G0 Y.size hgs
  clear G0 B0
  have z8 := Y.size
  have KR := prove_x bt w.heap.size L HL.out h80 i size w8 (T1.out.grow Y)
  rw [hpl.out, hpe.out] at KR
  go_wp2_with fail
  refine KR.mono ?_
  rintro e w9 ⟨ap, cp, rfl, hcp, WP, Z0⟩
  clear KR
  have BT := BT.below Z0 BT.lt
  have BR := BR.below Z0 BR.lt
  have BS := BS.below Z0 BS.lt
  have Y := Y.trans (Z0.mono Y.size)
  clear Z0
  have HB9 : Hid (∀ k, pl ≠ [] → ap = some k → w8.heap.size ≤ k.block ∧ k.block < w9.heap.size) := fun k h h2 => ⟨WP.ge k h h2, WP.lt k h h2⟩
  go_wp2_with (refine al_zero rfl 37 rfl [.slice none 0 0] (by kernel_rfl) ?_)
  intro gp w10 lgp B0 G0
  have hgp : w1.heap.size ≤ gp := Nat.le_trans Y.size lgp
  have ngtgp : gt ≠ gp := by have := BT.lt; omega
  have BT := BT.kept G0 (by simp)
  have ngrgp : gr ≠ gp := by have := BR.lt; omega
  have BR := BR.kept G0 (by simp)
  have ngsgp : gs ≠ gp := by have := BS.lt; omega
  have BS := BS.kept G0 (by simp)
  have WN := WP.ne lgp
  have WP := WP.kept G0 (by intro k _ _ e; cases e)
  have Y := Y.grown G0 Y.size (by simp)
  clear G0
  go_wp2_with (refine st_all rfl 37 (.tmp 16) (.tmp 55) rfl gp 37 [.slice none 0 0] [.slice ap pl.length cp] rfl rfl B0 rfl (by kernel_rfl) (by simp [Value.oneCell']) ?_)
  intro w11 BP G0
  have BT := BT.kept G0 (fun e => ngtgp (Option.some.inj e))
  have BR := BR.kept G0 (fun e => ngrgp (Option.some.inj e))
  have BS := BS.kept G0 (fun e => ngsgp (Option.some.inj e))
  have WP := WP.kept G0 (by intro k h h2 e; exact WN k h h2 (Option.some.inj e))
  clear WN
  have Y := grown_below Y G0 Y.size hgp
  clear G0 B0
  have z11 : w9.heap.size ≤ w11.heap.size := by have := BP.lt; omega
  have hp11 : gp < w11.heap.size := BP.lt
  have KR := dprove_x gt a ca L HL.out h80 hca i size w11 BT (HSa.out.below (ZZ.trans (Y.mono ZZ.size)))
  rw [hpl.out, hpe.out] at KR
  go_wp2_with fail
  refine KR.mono ?_
  rintro e w12 ⟨aq, cq, rfl, EQ, hbq, Z0⟩
  clear KR
  have z12 := Z0.size
  have BT := BT.below Z0 BT.lt
  have BR := BR.below Z0 BR.lt
  have BS := BS.below Z0 BS.lt
  have BP := BP.below Z0 BP.lt
  have WP := WP.kept (below_grown Z0) (by intro k _ _ e; cases e)
  have Y := Y.trans (Z0.mono Y.size)
  clear Z0
  go_wp2_with (refine al_zero rfl 37 rfl [.slice none 0 0] (by kernel_rfl) ?_)
  intro gq w13 lgq B0 G0
  have hgq : w1.heap.size ≤ gq := Nat.le_trans Y.size lgq
  have ngtgq : gt ≠ gq := by have := BT.lt; omega
  have BT := BT.kept G0 (by simp)
  have ngrgq : gr ≠ gq := by have := BR.lt; omega
  have BR := BR.kept G0 (by simp)
  have ngsgq : gs ≠ gq := by have := BS.lt; omega
  have BS := BS.kept G0 (by simp)
  have ngpgq : gp ≠ gq := by have := BP.lt; omega
  have BP := BP.kept G0 (by simp)
  have hbEQ := es_before EQ lgq HPl.out
  have EQ := EQ.below (below_alloc0 G0)
  have WN := WP.ne lgq
  have WP := WP.kept G0 (by intro k _ _ e; cases e)
  have Y := Y.grown G0 Y.size (by simp)
  clear G0
  go_wp2_with (refine st_all rfl 37 (.tmp 18) (.tmp 62) rfl gq 37 [.slice none 0 0] [.slice aq pl.length cq] rfl rfl B0 rfl (by kernel_rfl) (by simp [Value.oneCell']) ?_)
  intro w14 BQ G0
  have BT := BT.kept G0 (fun e => ngtgq (Option.some.inj e))
  have BR := BR.kept G0 (fun e => ngrgq (Option.some.inj e))
  have BS := BS.kept G0 (fun e => ngsgq (Option.some.inj e))
  have BP := BP.kept G0 (fun e => ngpgq (Option.some.inj e))
  have EQ := es_kept EQ G0 hbEQ
  clear hbEQ
  have WP := WP.kept G0 (by intro k h h2 e; exact WN k h h2 (Option.some.inj e))
  clear WN
  have Y := grown_below Y G0 Y.size hgq
  clear G0 B0
  have KR := consist_x bt w.heap.size L HL.out h80 old size w14 (T1.out.grow Y) (HTb.out.grow (ZZ.trans (Y.mono ZZ.size)))
  rw [hcl.out, hce.out] at KR
  go_wp2_with fail
  refine KR.mono ?_
  rintro e w15 ⟨ac, cc, rfl, hcc, WC, Z0⟩
  clear KR
  have BT := BT.below Z0 BT.lt
  have BR := BR.below Z0 BR.lt
  have BS := BS.below Z0 BS.lt
  have BP := BP.below Z0 BP.lt
  have BQ := BQ.below Z0 BQ.lt
  have EQ := EQ.below Z0
  have WP := WP.kept (below_grown Z0) (by intro k _ _ e; cases e)
  have Y := Y.trans (Z0.mono Y.size)
  clear Z0
  have EC := WC.es HCl.out
  clear WC
  go_wp2_with (refine al_zero rfl 37 rfl [.slice none 0 0] (by kernel_rfl) ?_)
  intro gc w16 lgc B0 G0
  have hgc : w1.heap.size ≤ gc := Nat.le_trans Y.size lgc
  have ngtgc : gt ≠ gc := by have := BT.lt; omega
  have BT := BT.kept G0 (by simp)
  have ngrgc : gr ≠ gc := by have := BR.lt; omega
  have BR := BR.kept G0 (by simp)
  have ngsgc : gs ≠ gc := by have := BS.lt; omega
  have BS := BS.kept G0 (by simp)
  have ngpgc : gp ≠ gc := by have := BP.lt; omega
  have BP := BP.kept G0 (by simp)
  have ngqgc : gq ≠ gc := by have := BQ.lt; omega
  have BQ := BQ.kept G0 (by simp)
  have hbEQ := es_before EQ lgc HPl.out
  have EQ := EQ.below (below_alloc0 G0)
  have hbEC := es_before EC lgc HCl.out
  have EC := EC.below (below_alloc0 G0)
  have WN := WP.ne lgc
  have WP := WP.kept G0 (by intro k _ _ e; cases e)
  have Y := Y.grown G0 Y.size (by simp)
  clear G0
  go_wp2_with (refine st_all rfl 37 (.tmp 20) (.tmp 69) rfl gc 37 [.slice none 0 0] [.slice ac cl.length cc] rfl rfl B0 rfl (by kernel_rfl) (by simp [Value.oneCell']) ?_)
  intro w17 BC G0
  have BT := BT.kept G0 (fun e => ngtgc (Option.some.inj e))
  have BR := BR.kept G0 (fun e => ngrgc (Option.some.inj e))
  have BS := BS.kept G0 (fun e => ngsgc (Option.some.inj e))
  have BP := BP.kept G0 (fun e => ngpgc (Option.some.inj e))
  have BQ := BQ.kept G0 (fun e => ngqgc (Option.some.inj e))
  have EQ := es_kept EQ G0 hbEQ
  clear hbEQ
  have EC := es_kept EC G0 hbEC
  clear hbEC
  have WP := WP.kept G0 (by intro k h h2 e; exact WN k h h2 (Option.some.inj e))
  clear WN
  have Y := grown_below Y G0 Y.size hgc
  clear G0 B0
  have KR := dconsist_x gt a ca L HL.out h80 hca old size w17 BT (HSa.out.below (ZZ.trans (Y.mono ZZ.size)))
  rw [hcl.out, hce.out] at KR
  go_wp2_with fail
  refine KR.mono ?_
  rintro e w18 ⟨ad, cd, rfl, ED, _, Z0⟩
  clear KR
  have BT := BT.below Z0 BT.lt
  have BR := BR.below Z0 BR.lt
  have BS := BS.below Z0 BS.lt
  have BP := BP.below Z0 BP.lt
  have BQ := BQ.below Z0 BQ.lt
  have BC := BC.below Z0 BC.lt
  have EQ := EQ.below Z0
  have EC := EC.below Z0
  have WP := WP.kept (below_grown Z0) (by intro k _ _ e; cases e)
  have Y := Y.trans (Z0.mono Y.size)
  clear Z0
  go_wp2_with (refine al_zero rfl 37 rfl [.slice none 0 0] (by kernel_rfl) ?_)
  intro gd w19 lgd B0 G0
  have hgd : w1.heap.size ≤ gd := Nat.le_trans Y.size lgd
  have ngtgd : gt ≠ gd := by have := BT.lt; omega
  have BT := BT.kept G0 (by simp)
  have ngrgd : gr ≠ gd := by have := BR.lt; omega
  have BR := BR.kept G0 (by simp)
  have ngsgd : gs ≠ gd := by have := BS.lt; omega
  have BS := BS.kept G0 (by simp)
  have ngpgd : gp ≠ gd := by have := BP.lt; omega
  have BP := BP.kept G0 (by simp)
  have ngqgd : gq ≠ gd := by have := BQ.lt; omega
  have BQ := BQ.kept G0 (by simp)
  have ngcgd : gc ≠ gd := by have := BC.lt; omega
  have BC := BC.kept G0 (by simp)
  have hbEQ := es_before EQ lgd HPl.out
  have EQ := EQ.below (below_alloc0 G0)
  have hbEC := es_before EC lgd HCl.out
  have EC := EC.below (below_alloc0 G0)
  have hbED := es_before ED lgd HCl.out
  have ED := ED.below (below_alloc0 G0)
  have WN := WP.ne lgd
  have WP := WP.kept G0 (by intro k _ _ e; cases e)
  have Y := Y.grown G0 Y.size (by simp)
  clear G0
  go_wp2_with (refine st_all rfl 37 (.tmp 22) (.tmp 76) rfl gd 37 [.slice none 0 0] [.slice ad cl.length cd] rfl rfl B0 rfl (by kernel_rfl) (by simp [Value.oneCell']) ?_)
  intro w20 BD G0
  have BT := BT.kept G0 (fun e => ngtgd (Option.some.inj e))
  have BR := BR.kept G0 (fun e => ngrgd (Option.some.inj e))
  have BS := BS.kept G0 (fun e => ngsgd (Option.some.inj e))
  have BP := BP.kept G0 (fun e => ngpgd (Option.some.inj e))
  have BQ := BQ.kept G0 (fun e => ngqgd (Option.some.inj e))
  have BC := BC.kept G0 (fun e => ngcgd (Option.some.inj e))
  have EQ := es_kept EQ G0 hbEQ
  clear hbEQ
  have EC := es_kept EC G0 hbEC
  clear hbEC
  have ED := es_kept ED G0 hbED
  clear hbED
  have WP := WP.kept G0 (by intro k h h2 e; exact WN k h h2 (Option.some.inj e))
  clear WN
  have Y := grown_below Y G0 Y.size hgd
  clear G0 B0
  have cP : w20.cell? ⟨gp, 0, none⟩ = some (.slice ap pl.length cp) := by rw [BP.cell]; rfl
  have cQ : w20.cell? ⟨gq, 0, none⟩ = some (.slice aq pl.length cq) := by rw [BQ.cell]; rfl
  have heq := Heq.out
  have KR := hashes_any pl pl HPl.out HPl.out (by omega) ap aq cp cq w20 (WP.es HPl.out) EQ
  rw [decide_eq_true (show pl = pl from rfl)] at KR
  go_wp2_with (first | (refine ld_want (by rfl) 30 (.tmp 12) rfl gr 0 rfl (nums .u8 r) _ BR.all Tryd.underlying30 rfl Sr.out.1 ?_) | (refine ld_want (by rfl) 30 (.tmp 14) rfl gs 0 rfl (nums .u8 r) _ BS.all Tryd.underlying30 rfl Sr.out.1 ?_))
  refine KR.mono ?_
  rintro e w21 ⟨rfl, Z0⟩
  clear KR cP cQ heq
  have BT := BT.below Z0 BT.lt
  have BR := BR.below Z0 BR.lt
  have BS := BS.below Z0 BS.lt
  have BP := BP.below Z0 BP.lt
  have BQ := BQ.below Z0 BQ.lt
  have BC := BC.below Z0 BC.lt
  have BD := BD.below Z0 BD.lt
  have EQ := EQ.below Z0
  have EC := EC.below Z0
  have ED := ED.below Z0
  have WP := WP.kept (below_grown Z0) (by intro k _ _ e; cases e)
  have Y := Y.trans (Z0.mono Y.size)
  clear Z0
  have cC : w21.cell? ⟨gc, 0, none⟩ = some (.slice ac cl.length cc) := by rw [BC.cell]; rfl
  have cD : w21.cell? ⟨gd, 0, none⟩ = some (.slice ad cl.length cd) := by rw [BD.cell]; rfl
  have KR := hashes_any cl cl HCl.out HCl.out (by omega) ac ad cc cd w21 EC ED
  rw [decide_eq_true (show cl = cl from rfl)] at KR
  go_wp2_with fail
  refine KR.mono ?_
  rintro e w22 ⟨rfl, Z0⟩
  clear KR cC cD
  have BT := BT.below Z0 BT.lt
  have BR := BR.below Z0 BR.lt
  have BS := BS.below Z0 BS.lt
  have BP := BP.below Z0 BP.lt
  have BQ := BQ.below Z0 BQ.lt
  have BC := BC.below Z0 BC.lt
  have BD := BD.below Z0 BD.lt
  have EQ := EQ.below Z0
  have EC := EC.below Z0
  have ED := ED.below Z0
  have WP := WP.kept (below_grown Z0) (by intro k _ _ e; cases e)
  have Y := Y.trans (Z0.mono Y.size)
  clear Z0
  have HY : Hid (Below w1.heap.size w1 w22) := Y
  have HBP : Hid (Blk w22 gp 37 [.slice ap pl.length cp]) := BP
  have HBQ : Hid (Blk w22 gq 37 [.slice aq pl.length cq]) := BQ
  have HEQ : Hid (ES (nums .u8) 32 w22 aq pl) := EQ
  have HWP : Hid (Wv w22 w8.heap.size ap pl) := WP
  have hpq : gp ≠ gq := ngpgq
  have hgq : w9.heap.size ≤ gq := by omega
  have HQ : Hid (∀ k, aq = some k → w11.heap.size ≤ k.block) := hbq
  have HN : Hid (∀ k, pl ≠ [] → ap = some k → w8.heap.size ≤ k.block ∧ k.block < w9.heap.size) := HB9.out
  clear Y BP BQ EQ WP BT BR BS BC BD EC ED hbq HB9
  clear ngtgr ngtgs ngrgs ngtgp ngrgp ngsgp ngtgq ngrgq ngsgq ngpgq ngtgc ngrgc ngsgc ngpgc ngqgc ngtgd ngrgd ngsgd ngpgd ngqgd ngcgd
  have HI0 : Hid (LpI w22 w22 w8.heap.size ap pl pl) := ⟨HWP.out, rfl, HPl.out, fun row => World.grownBy.refl _ _⟩
  go_wp2
  go_loopw [24] (fun iv wr => ∃ (k : Nat) (M : List (List Nat)), k ≤ pl.length ∧ iv = .int .i64 (k : Int) ∧ Hid (LpI w22 wr w8.heap.size ap pl M)) (fun iv _ => pl.length - (intOf iv).toNat)
  case atStart => exact ⟨0, pl, Nat.zero_le _, rfl, HI0.out⟩
  case round =>
    clear HI0
    obtain ⟨k, M, hk, rfl, HI⟩ := hrel
    have ngp : pl ≠ [] → gp ≠ gkb ap := fun h => by
      obtain ⟨g, e, _⟩ := HWP.out.resolve_left h
      have := (HN.out _ h e).2
      rw [e]; simp only [gkb]; simp only at this; omega
    have ngq : pl ≠ [] → gq ≠ gkb ap := fun h => by
      obtain ⟨g, e, _⟩ := HWP.out.resolve_left h
      have := (HN.out _ h e).2
      rw [e]; simp only [gkb]; simp only at this; omega
    have HGR : Hid (∃ row, w22.grownBy wr row ∧ (∀ k, row = some k → pl ≠ [] ∧ k = gkb ap)) := by
      by_cases h0 : pl = []
      · exact ⟨none, HI.out.g0 h0, by intro k e; cases e⟩
      · exact ⟨some (gkb ap), HI.out.g1 h0, by intro k e; exact ⟨h0, (Option.some.inj e).symm⟩⟩
    obtain ⟨row, G, hrow⟩ := HGR.out
    have BP : Blk wr gp 37 [.slice ap pl.length cp] := HBP.out.kept G (fun e => by obtain ⟨h1, h2⟩ := hrow _ e.symm; exact ngp h1 h2)
    have BQ : Blk wr gq 37 [.slice aq pl.length cq] := HBQ.out.kept G (fun e => by obtain ⟨h1, h2⟩ := hrow _ e.symm; exact ngq h1 h2)
    have Y : Below w1.heap.size w1 wr := HY.out.grown G HY.out.size (fun x e => by
      obtain ⟨h1, h2⟩ := hrow _ e
      obtain ⟨g, e2, _⟩ := HWP.out.resolve_left h1
      have := (HN.out _ h1 e2).1
      rw [h2, e2]; simp only [gkb]; simp only at this; omega)
    have EQ : ES (nums .u8) 32 wr aq pl := by
      rcases HEQ.out with h | ⟨b, off, rfl, h⟩
      · exact .inl h
      · refine .inr ⟨b, off, rfl, fun i x hx j v hj => G.cell (h i x hx j v hj) (fun e => ?_)⟩
        obtain ⟨h1, h2⟩ := hrow _ e.symm
        obtain ⟨g, e2, _⟩ := HWP.out.resolve_left h1
        have h3 := (HN.out _ h1 e2).2
        have h4 := HQ.out _ rfl
        rw [e2] at h2
        simp only [gkb] at h2
        simp only at h3 h4
        omega
    clear hrow G HGR ngp ngq
    have cP : wr.cell? ⟨gp, 0, none⟩ = some (.slice ap pl.length cp) := by rw [BP.cell]; rfl
    by_cases hlt : k < pl.length
    · have hne : pl ≠ [] := by intro e; rw [e] at hlt; cases hlt
      obtain ⟨g, hap, hg8, BM⟩ := HI.out.wv.resolve_left (by intro e; have := HI.out.len; rw [e] at this; simp at this; omega)
      have hkM : k < M.length := by rw [HI.out.len]; exact hlt
      have HSP : Hid (M.flatMap (nums .u8) = (M.take k).flatMap (nums .u8) ++ (nums .u8 M[k] ++ (M.drop (k + 1)).flatMap (nums .u8))) := flat_parts M k hkM
      have lk : Hid (((M.take k).flatMap (nums .u8)).length = k * 32) := by
        show _ = _
        rw [flat_len (n := 32) (fun q hq => by rw [nums_length]; exact (HI.out.hl q (List.mem_of_mem_take hq)).1), List.length_take]
        congr 1; omega
      have HB2 : Hid (Blk wr g 30 ((M.take k).flatMap (nums .u8) ++ (nums .u8 M[k] ++ (M.drop (k + 1)).flatMap (nums .u8)))) := by rw [← HSP.out]; exact BM
      have HZl : Hid ((nums .u8 (List.replicate 32 0)).length = (nums .u8 M[k]).length) := by show _ = _; rw [nums_length, nums_length, (HI.out.hl _ (List.getElem_mem hkM)).1, List.length_replicate]
      have hz : Hid ((Tryd.prog.info? 30).map (·.size) = some (nums .u8 (List.replicate 32 0)).length) := zS'
      subst hap
      clear BM HSP BP BQ EQ Y hne
      have cP' := cP
      go_wp2_with (first | (refine bd_row rfl 30 #[] rfl (nums .u8 (List.replicate 32 0)) (by kernel_rfl) ?_) | (refine st_row rfl 30 (.tmp 123) (.tmp 122) rfl g (k * 32) 30 ((M.take k).flatMap (nums .u8)) (nums .u8 M[k]) ((M.drop (k + 1)).flatMap (nums .u8)) (nums .u8 (List.replicate 32 0)) (by simp [Act.eval]) rfl lk.out HB2.out HZl.out hz.out (nums_one _ _) ?_))
      intro w23 BN GN
      have HI2 : Hid (LpI w22 w23 w8.heap.size (some ⟨g, 0, none⟩) pl (M.set k (List.replicate 32 0))) := HI.out.next hkM hg8 BN GN
      clear BN GN HB2 HZl hz lk cP cP'
      go_wp2
      go_roundw
      case rel => exact ⟨k + 1, _, by omega, by go_num, HI2.out⟩
      case measure => simp [intOf]; omega
    · have HY2 : Hid (Below w1.heap.size w1 wr) := Y
      have KR := prove_x bt w.heap.size L HL.out h80 i size wr (T1.out.grow HY2.out)
      rw [hpl.out, hpe.out] at KR
      go_wp2_with fail
      refine KR.mono ?_
      rintro e w23 ⟨a3, c3, rfl, hc3, WP3, Z0⟩
      have BP0 := BP.lt
      have BP := BP.below Z0 BP.lt
      have BQ := BQ.below Z0 BQ.lt
      have gplt : gp < wr.heap.size := BP0
      have hq4 : ∀ ad, aq = some ad → pl ≠ [] → ad.block ≠ gp := fun ad e h => by
        obtain ⟨ad', e', h'⟩ : ∃ ad', aq = some ad' ∧ w11.heap.size ≤ ad'.block := ⟨ad, e, HQ.out ad e⟩
        obtain rfl := Option.some.inj (e.symm.trans e')
        omega
      have EQ := EQ.below Z0
      have hbp := BP.lt
      have E3 := WP3.es HPl.out
      have hgp3 : gp < wr.heap.size := gplt
      have h3 : ∀ ad, a3 = some ad → pl ≠ [] → ad.block ≠ gp := fun ad e h => by have := WP3.ge ad h e; omega
      have Y := Y.trans (Z0.mono Y.size)
      clear KR Z0 cP WP3
      go_wp2_with (refine st_all rfl 37 (.tmp 16) (.tmp 129) rfl gp 37 [.slice ap pl.length cp] [.slice a3 pl.length c3] rfl rfl BP rfl (by kernel_rfl) (by simp [Value.oneCell']) ?_)
      intro w24 BP4 G4
      have BQ := BQ.kept G4 (fun e => hpq.symm (Option.some.inj e))
      have E3 : ES (nums .u8) 32 w24 a3 pl := es_keepm E3 G4 h3
      have EQ : ES (nums .u8) 32 w24 aq pl := es_keepm EQ G4 (fun ad e h => hq4 ad e h)
      have Y := grown_below Y G4 Y.size hgp
      clear G4 BP
      have cP : w24.cell? ⟨gp, 0, none⟩ = some (.slice a3 pl.length c3) := by rw [BP4.cell]; rfl
      have cQ : w24.cell? ⟨gq, 0, none⟩ = some (.slice aq pl.length cq) := by rw [BQ.cell]; rfl
      have KR := hashes_any pl pl HPl.out HPl.out (by omega) a3 aq c3 cq w24 E3 EQ
      rw [decide_eq_true (show pl = pl from rfl)] at KR
      go_wp2_with fail
      refine KR.mono ?_
      rintro e w25 ⟨rfl, Z0⟩
      have Y := Y.trans (Z0.mono Y.size)
      clear KR Z0 cP cQ E3 EQ BP4 BQ
      have KK := known_any w25 (HTb.out.grow (ZZ.trans (Y.mono ZZ.size)))
      go_wp2_with fail
      refine KK.mono ?_
      rintro e w26 ⟨rfl, Z0⟩
      have ZE := ZZ.trans ((Y.trans (Z0.mono Y.size)).mono ZZ.size)
      clear KK Z0
      go_wp2
      go_ret
      exact ⟨rfl, ZE⟩
theorem proves_walk (L : List (List Nat)) (hL : Hl L) (a : Option Addr) (ca : Nat) (i size old : Int) (hla : L.length ≤ 140737488355328) (hca : L.length ≤ ca) (w : World) (hSa : ES (nums .u8) 32 w a L) (hT : Tb w) :
    Calls Tryd.prog 3 #[.slice a L.length ca, .int .i64 i, .int .i64 size, .int .i64 old] w fun e w' => e = .returned (.bool true) ∧ Below w.heap.size w w' := by
  by_cases h80 : L.length ≤ 80
  · exact proves_in L hL a ca i size old h80 hca w hSa hT
  · have c : (80 : Int) < (L.length : Int) := by omega
    clear hSa hT
    go_enter Tryd.func3, Tryd.ntmps3
    go_wp2
    go_ret
    exact ⟨rfl, Below.refl _ _⟩
#print axioms proves_walk
end Go.Proofs.YtfkiciejipcgkaaDoor
