/-
  merkle.Verify: whether hashes prove a leaf.
-/
import Derived.Test.YtehkaploinklmaaDoorEg
namespace Go.Proofs.YtehkaploinklmaaDoor
open Go.RowKit Sh
theorem fo_hh {os : List (Nat × Nat)} : ∀ {L : List (List Nat)} {h : List Nat}, Hh h → Hh (Mk.fo nd h os L) := by
  induction os with
  | nil => intro L h hh; cases L <;> exact hh
  | cons x os ih =>
    intro L h hh
    cases L with
    | nil => exact hh
    | cons p ps => rw [Mk.fo]; exact ih (by split <;> exact nd_hh _ _)
theorem fo_step {os : List (Nat × Nat)} {L : List (List Nat)} {h : List Nat} {k : Nat} {x : Nat × Nat} {q : List Nat} (hx : os[k]? = some x) (hq : L[k]? = some q) :
    Mk.fo nd h (os.take (k + 1)) (L.take (k + 1)) = if x.2 % 2 = 0 then nd q (Mk.fo nd h (os.take k) (L.take k)) else nd (Mk.fo nd h (os.take k) (L.take k)) q := by
  obtain ⟨h1, e1⟩ := List.getElem?_eq_some_iff.1 hx
  obtain ⟨h2, e2⟩ := List.getElem?_eq_some_iff.1 hq
  rw [List.take_succ_eq_append_getElem h1, List.take_succ_eq_append_getElem h2, e1, e2]
  exact Mk.fo_app nd h _ _ x q (by rw [List.length_take, List.length_take]; omega)
/-- what Verify answers. -/
def vfy (lf : List Nat) (i n : Nat) (L : List (List Nat)) (rt : List Nat) : Bool := decide (L.length = (Mk.wy 0 i n).length ∧ Mk.fo nd lf (Mk.wy 0 i n) L = rt)
set_option maxHeartbeats 2000000 in
set_option maxRecDepth 8000 in
theorem verify_in (lf rt : List Nat) (hlf : Hh lf) (hrt : Hh rt) (i n : Nat) (hi : i < n) (hn : n ≤ 1099511627776) (a : Option Addr) (cap : Nat) (L : List (List Nat)) (hL : Hl L) (w : World) (hS : ES (nums .u8) 32 w a L) :
    Calls Tryd.prog 18 #[.agg (nums .u8 lf).toArray, .int .i64 (i : Int), .int .i64 (n : Int), .agg #[.slice a L.length cap], .agg (nums .u8 rt).toArray] w fun e w' => e = .returned (.bool (vfy lf i n L rt)) ∧ Below w.heap.size w w' := by
  have HF : Hid (Hh lf) := hlf
  have HT : Hid (Hh rt) := hrt
  have HS : Hid (ES (nums .u8) 32 w a L) := hS
  have HL : Hid (Hl L) := hL
  have hi1 : ¬ (n : Int) ≤ (i : Int) := by omega
  have hn1 : ¬ (1099511627776 : Int) < (n : Int) := by omega
  have hi0 : ¬ (i : Int) < 0 := by omega
  have KO := fun W => others_any 0 i n hn (by simpa using hi) (by omega) W
  obtain ⟨os, hos⟩ : ∃ os, Hid (os = Mk.wy 0 i n) := ⟨_, rfl⟩
  have hol : os.length ≤ 41 := by rw [hos.out]; exact Mk.wy_len (T := 41) (by omega) (by omega) (by simpa using hi)
  have hob : Hid (∀ x ∈ os, x.2 ≤ 1000000000000000) := by
    intro x hx
    rw [hos.out] at hx
    have := Mk.mem_wy (T := 41) (by omega) (by omega) (by simpa using hi) hx
    have h2 := Nat.le_mul_of_pos_right x.2 (Mk.pow_pos2 x.1)
    omega
  obtain ⟨ans, HA⟩ : ∃ ans, Hid (vfy lf i n L rt = ans) := ⟨_, rfl⟩
  have HB : Hid (ans = decide (L.length = os.length ∧ Mk.fo nd lf os L = rt)) := by show _ = _; rw [← HA.out, hos.out]; rfl
  rw [HA.out]
  simp only [← hos.out] at KO
  clear HA
  clear hlf hrt hS hL
  go_enter Tryd.func18, Tryd.ntmps18
  go_wp2_with (refine al_box rfl 30 (.tmp 0) rfl (nums .u8 lf) rfl ?_)
  intro ga wa la BA GA
  have Z := (Below.refl w.heap.size w).grown GA (Nat.le_refl _) (by simp)
  clear GA
  go_wp2_with (refine al_box rfl 37 (.tmp 3) rfl [.slice a L.length cap] rfl ?_)
  intro gp wp lp BP GP
  have BA := BA.kept GP (by simp)
  have Z := Z.grown GP Z.size (by simp)
  clear GP
  go_wp2_with (refine al_box rfl 30 (.tmp 4) rfl (nums .u8 rt) rfl ?_)
  intro gr w0 lr BR GR
  have BA := BA.kept GR (by simp)
  have BP := BP.kept GR (by simp)
  have Z := Z.grown GR Z.size (by simp)
  clear GR
  go_wp2_with fail
  refine (KO w0).mono ?_
  rintro e w1 ⟨ov, rfl, hown, Z1⟩
  have BA := BA.below Z1 BA.lt
  have BP := BP.below Z1 BP.lt
  have BR := BR.below Z1 BR.lt
  have Z := Z.trans (Z1.mono Z.size)
  obtain ⟨oa, ocap, rfl, _, _, hoes, hoblk⟩ := hown.es
  have HO : Hid (ES encV 2 w1 oa os) := hoes
  have HOb : Hid (∀ ad, oa = some ad → ad.block < w1.heap.size) := fun ad h => (hoblk ad h).2
  have cP : w1.cell? ⟨gp, 0, none⟩ = some (.slice a L.length cap) := by rw [BP.cell]; rfl
  clear Z1 KO hown hoes hoblk
  by_cases hle : L.length = os.length
  · rw [hle] at cP BP
    have HLe : Hid (L.length = os.length) := hle
    rw [hle]
    clear hle
    go_wp2_with (first | (refine ld_mid rfl 30 (.tmp 5) rfl ga 0 rfl (nums .u8 lf) _ BA.all Tryd.underlying30 rfl (sH HF.out) ?_) | (refine al_zero rfl 30 rfl _ z25 ?_))
    intro gh w2 lh BH GH
    have Z2 := (Below.refl w1.heap.size w1).grown GH (Nat.le_refl _) (by simp)
    have SL : Hid ((Tryd.prog.info? 30).map (·.size) = some (nums .u8 lf).length) := sH HF.out
    have NL : Hid ((nums .u8 lf).length = (nums .u8 (List.replicate 32 0)).length) := by show _ = _; rw [nums_length, nums_length, HF.out.1, List.length_replicate]
    clear GH
    go_wp2_with (refine st_all rfl 30 (.tmp 12) (.tmp 36) rfl gh 30 (nums .u8 (List.replicate 32 0)) (nums .u8 lf) rfl rfl BH NL.out SL.out (nums_one _ _) ?_)
    intro w3 BH3 G3
    have Z3 := grown_below Z2 G3 Z2.size lh
    have HI : Hid (Blk w3 gh 30 (nums .u8 (Mk.fo nd lf (os.take 0) (L.take 0))) ∧ Below w1.heap.size w1 w3) := ⟨by rw [List.take_zero, List.take_zero]; exact BH3, Z3⟩
    clear G3 BH3 BH Z2 Z3 SL NL BA
    go_wp2
    go_loopw [39] (fun iv wr => ∃ k : Nat, k ≤ os.length ∧ iv = .int .i64 (k : Int) ∧ Hid (Blk wr gh 30 (nums .u8 (Mk.fo nd lf (os.take k) (L.take k))) ∧ Below w1.heap.size w1 wr)) (fun iv _ => os.length - (intOf iv).toNat)
    case atStart => exact ⟨0, Nat.zero_le _, rfl, HI⟩
    case round =>
      clear HI
      obtain ⟨k, hk, rfl, HI⟩ := hrel
      obtain ⟨h, hh⟩ : ∃ h, Hid (h = Mk.fo nd lf (os.take k) (L.take k)) := ⟨_, rfl⟩
      have Hh' : Hid (Hh h) := by show Hh h; rw [hh.out]; exact fo_hh HF.out
      have BH : Blk wr gh 30 (nums .u8 h) := by rw [hh.out]; exact HI.out.1
      have Zr := HI.out.2
      have BP := BP.below Zr BP.lt
      have BR := BR.below Zr BR.lt
      have ZZ := Z.trans (Zr.mono Z.size)
      by_cases hlt : k < os.length
      · obtain ⟨l, o, hx⟩ : ∃ l o, os[k]? = some (l, o) := ⟨_, _, List.getElem?_eq_getElem hlt⟩
        obtain ⟨q, hq⟩ : ∃ q, L[k]? = some q := ⟨_, List.getElem?_eq_getElem (by rw [HLe.out]; exact hlt)⟩
        obtain ⟨b1, o1, rfl, R1⟩ := HO.out.at hx
        obtain ⟨b2, o2, rfl, R2⟩ := HS.out.at hq
        have R1 := range_belowB R1 Zr (HOb.out _ rfl)
        have R2 := range_below R2 ZZ
        have ho : o ≤ 1000000000000000 := hob.out _ (List.mem_of_getElem? hx)
        have HQ : Hid (Hh q) := HL.out.at hq
        have HN : Hid (Mk.fo nd lf (os.take (k + 1)) (L.take (k + 1)) = if o % 2 = 0 then nd q h else nd h q) := by show _ = _; rw [fo_step hx hq, hh.out]
        clear HI hx hq hh
        go_wp2_with (refine ld_mid rfl 60 (.tmp 42) rfl b1 (o1 + k * 2) rfl [.int .i64 (l : Int), .int .i64 (o : Int)] _ R1 Tryd.underlying60 rfl (by kernel_rfl) ?_)
        have BHlt := BH.lt
        have HNh : Hid (Hh (if o % 2 = 0 then nd q h else nd h q)) := by show Hh _; split <;> exact nd_hh _ _
        have HNl : Hid ((nums .u8 (if o % 2 = 0 then nd q h else nd h q)).length = (nums .u8 h).length) := by show _ = _; rw [nums_length, nums_length, HNh.out.1, Hh'.out.1]
        have HNs : Hid ((Tryd.prog.info? 30).map (·.size) = some (nums .u8 (if o % 2 = 0 then nd q h else nd h q)).length) := sH HNh.out
        obtain ⟨wk, HW, ZK⟩ : ∃ wk, wr.alloc (Obj.cells #[.int .i64 (l : Int), .int .i64 (o : Int)] 60) = wk ∧ Hid (Below wr.heap.size wr wk ∧ Blk wk wr.heap.size 60 [.int .i64 (l : Int), .int .i64 (o : Int)]) := ⟨_, rfl, (Below.refl _ _).alloc (Nat.le_refl _) _, blk_new wr _ _⟩
        rw [HW]
        clear HW
        have BV := ZK.out.2
        have BH := BH.below ZK.out.1 BH.lt
        have BP := BP.below ZK.out.1 BP.lt
        have R2 := range_below R2 ZK.out.1
        have hgk : gh < wr.heap.size := BHlt
        obtain ⟨C, hC⟩ : ∃ C : World → Prop, C = fun W => Below wk.heap.size wk W := ⟨_, rfl⟩
        have FV : Hid (∀ W, C W → W.rangeAt wr.heap.size 0 [.int .i64 (l : Int), .int .i64 (o : Int)]) := fun W hW => by rw [hC] at hW; exact (BV.below hW BV.lt).all
        have FP : Hid (∀ W, C W → W.cell? ⟨gp, 0, none⟩ = some (.slice (some ⟨b2, o2, none⟩) os.length cap)) := fun W hW => by rw [hC] at hW; exact by rw [(BP.below hW BP.lt).cell]; rfl
        have FQ : Hid (∀ W, C W → W.rangeAt b2 (o2 + k * 32) (nums .u8 q)) := fun W hW => by rw [hC] at hW; exact range_below R2 hW
        have FH : Hid (∀ W, C W → Blk W gh 30 (nums .u8 h)) := fun W hW => by rw [hC] at hW; exact BH.below hW BH.lt
        have FR : Hid (∀ W, C W → W.rangeAt gh 0 (nums .u8 h)) := fun W hW => by rw [hC] at hW; exact (BH.below hW BH.lt).all
        have CK : Hid (∀ W W', C W → Below W.heap.size W W' → C W') := fun W W' h1 h2 => by rw [hC] at h1 ⊢; exact h1.trans (h2.mono h1.size)
        have CA : Hid (∀ W W', C W → Below wk.heap.size W W' → C W') := fun W W' h1 h2 => by rw [hC] at h1 ⊢; exact h1.trans h2
        have CE : Hid (∀ W, C W → Below wk.heap.size wk W) := fun W h => by rw [hC] at h; exact h
        have C0 : Hid (C { wk with drawn := wk.drawn + 1 }) := by rw [hC]; exact Below.drew (Below.refl _ _)
        clear hC
        clear BV BP R2 BH
        refine region_calm C 8 (by kernel_rfl) ?_
        have hCp : ∀ p : Prop, (∀ W, C W → p) ↔ p := fun p => ⟨fun h => h _ C0.out, fun h _ _ => h⟩
        generalize ({ wk with drawn := wk.drawn + 1 } : World) = y0 at *
        refine seg 2 [0, 1, 2, 3, 4, 5, 6] rfl (by kernel_rfl) whole_blind (C0.out) (by kernel_rfl) ?_
        change wpQuiet _ _ _ _ (_ :: _ :: _ :: _ :: _ :: _ :: _ :: []) _
        repeat (first
          | go_big_quiet_skip
          | (go_big_quiet_want
             first
             | (refine q_load 60 (.tmp 14) rfl wr.heap.size 0 rfl [.int .i64 (l : Int), .int .i64 (o : Int)] _ FV.out Tryd.underlying60 rfl (by kernel_rfl) ?_
                simp only [Act.put, List.setIfInBounds_toArray, List.set_cons_zero, List.set_cons_succ]
                go_big_quiet_on)
             | (refine q_slc (.tmp 45) rfl gp 0 rfl (some ⟨b2, o2, none⟩) os.length cap FP.out ?_
                simp only [Act.put, List.setIfInBounds_toArray, List.set_cons_zero, List.set_cons_succ]
                go_big_quiet_on)
             | (refine q_load 30 (.tmp 48) rfl b2 (o2 + k * 32) rfl (nums .u8 q) _ FQ.out Tryd.underlying30 rfl (sH HQ.out) ?_
                simp only [Act.put, List.setIfInBounds_toArray, List.set_cons_zero, List.set_cons_succ]
                go_big_quiet_on)
             | (refine q_load 30 (.tmp 12) rfl gh 0 rfl (nums .u8 h) _ FR.out Tryd.underlying30 rfl (sH Hh'.out) ?_
                simp only [Act.put, List.setIfInBounds_toArray, List.set_cons_zero, List.set_cons_succ]
                go_big_quiet_on)
             | (go_big_quiet_op
                go_big_quiet_on)))
        refine wpQuiet_nil ?_
        refine lone_do (i := 7) 1 rfl (by kernel_rfl) rfl (by rfl) ?_
        intro K hK
        refine oper_calls 35 _ _ rfl #[.agg #[.int .i64 (l : Int), .int .i64 (o : Int)], .agg (nums .u8 q).toArray, .agg (nums .u8 h).toArray] (by rw [List.map_toArray]; rfl) (enters Tryd.func35 (by kernel_rfl) rfl) ((fun v w' => v = .agg (nums .u8 (if o % 2 = 0 then nd q h else nd h q)).toArray ∧ Below y0.heap.size y0 w')) ((join_any l o q h HQ.out Hh'.out ho y0).mono (by rintro e w' ⟨rfl, g⟩; exact ⟨_, rfl, rfl, g⟩)) ?_
        rintro v y1 ⟨rfl, Z1⟩
        have C1 : Hid (C y1) := CK.out _ _ C0.out Z1
        clear Z1
        refine hK _ _ (C1.out) ?_
        clear hK K
        simp only [Act.put, List.setIfInBounds_toArray, List.set_cons_zero, List.set_cons_succ]
        refine lone_last (i := 8) 0 rfl rfl (by kernel_rfl) rfl (by rfl) ?_
        intro K hK
        refine oper_all 30 (.tmp 12) (.tmp 51) rfl gh 30 (nums .u8 h) (nums .u8 (if o % 2 = 0 then nd q h else nd h q)) rfl rfl (FH.out _ C1.out) HNl.out HNs.out (nums_one _ _) ?_
        intro y2 B2 G2
        refine hK _ _ ?_
        clear hK K
        refine anyC_done (by kernel_rfl) ⟨rfl, ?_⟩
        simp only [Act.put]
        have Zk := CE.out _ C1.out
        have HI : Hid (Blk y2 gh 30 (nums .u8 (Mk.fo nd lf (os.take (k + 1)) (L.take (k + 1)))) ∧ Below w1.heap.size w1 y2) := by
          refine ⟨by rw [HN.out]; exact B2, ?_⟩
          have z1 := Zr.trans (ZK.out.1.mono Zr.size)
          have z2 := z1.trans (Zk.mono z1.size)
          exact grown_below z2 G2 z2.size lh
        clear B2 G2 Zk C1 CK CA CE FV FP FQ FH FR hCp HN HNl HNs HNh C0
        go_wp2
        go_roundw
        case rel => exact ⟨k + 1, hlt, by simp, HI⟩
        case measure => simp [intOf]; omega
      · obtain rfl : k = os.length := by omega
        have e1 : Hid (h = Mk.fo nd lf os L) := by show _ = _; rw [hh.out, List.take_of_length_le (Nat.le_refl _), List.take_of_length_le (by rw [HLe.out]; exact Nat.le_refl _)]
        have HC : Hid (decide (h = rt) = ans) := by show _ = _; rw [HB.out, e1.out, HLe.out]; simp
        have eq := fun W => eq_hash Hh'.out HT.out W
        clear HI hh e1 HB
        go_wp2_with (first | (refine ld_mid rfl 30 (.tmp 12) rfl gh 0 rfl (nums .u8 h) _ BH.all Tryd.underlying30 rfl (sH Hh'.out) ?_) | (refine ld_mid rfl 30 (.tmp 9) rfl gr 0 rfl (nums .u8 rt) _ BR.all Tryd.underlying30 rfl (sH HT.out) ?_))
        go_ret
        exact ⟨by rw [← HC.out]; rfl, ZZ⟩
  · have ed : ans = false := by rw [HB.out]; simp [hle]
    subst ed
    have hle' : ¬ ((L.length : Int) = (os.length : Int)) := by omega
    go_wp2
    go_ret
    exact ⟨rfl, Z⟩
/-- what Verify answers, of whatever numbers. -/
def vf (lf : List Nat) (i n : Int) (L : List (List Nat)) (rt : List Nat) : Bool := decide (0 ≤ i ∧ i < n ∧ n ≤ 1099511627776) && vfy lf i.toNat n.toNat L rt
theorem verify_any (lf rt : List Nat) (hlf : Hh lf) (hrt : Hh rt) (i n : Int) (a : Option Addr) (cap : Nat) (L : List (List Nat)) (hL : Hl L) (w : World) (hS : ES (nums .u8) 32 w a L) :
    Calls Tryd.prog 18 #[.agg (nums .u8 lf).toArray, .int .i64 i, .int .i64 n, .agg #[.slice a L.length cap], .agg (nums .u8 rt).toArray] w fun e w' => e = .returned (.bool (vf lf i n L rt)) ∧ Below w.heap.size w w' := by
  by_cases hin : 0 ≤ i ∧ i < n ∧ n ≤ 1099511627776
  · have K := verify_in lf rt hlf hrt i.toNat n.toNat (by omega) (by omega) a cap L hL w hS
    rw [Int.toNat_of_nonneg (by omega), Int.toNat_of_nonneg (by omega)] at K
    unfold vf
    rw [decide_eq_true hin, Bool.true_and]
    exact K
  · unfold vf
    rw [decide_eq_false hin, Bool.false_and]
    have hd : ((decide (i < 0) || decide (n ≤ i)) || decide (1099511627776 < n)) = true := by
      simp only [Bool.or_eq_true, decide_eq_true_eq]; omega
    clear hin
    go_enter Tryd.func18, Tryd.ntmps18
    go_wp2_with (refine al_box rfl 30 (.tmp 0) rfl (nums .u8 lf) rfl ?_)
    intro ga wa la BA GA
    have Z := (Below.refl w.heap.size w).grown GA (Nat.le_refl _) (by simp)
    clear GA BA
    go_wp2_with (refine al_box rfl 37 (.tmp 3) rfl [.slice a L.length cap] rfl ?_)
    intro gp wp lp BP GP
    have Z := Z.grown GP Z.size (by simp)
    clear GP BP
    go_wp2_with (refine al_box rfl 30 (.tmp 4) rfl (nums .u8 rt) rfl ?_)
    intro gr w0 lr BR GR
    have Z := Z.grown GR Z.size (by simp)
    clear GR BR
    go_wp2
    all_goals first
      | (go_ret; exact ⟨rfl, Z⟩)
      | (exfalso; simp only [Bool.or_eq_true, decide_eq_true_eq] at hd; omega)
#print axioms verify_any
end Go.Proofs.YtehkaploinklmaaDoor
