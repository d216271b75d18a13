/-
  MerkleTrue's walk.
-/
import Derived.Test.YtehkaploinklmaaDoorEy
import Derived.Test.YtehkaploinklmaaDoorE4
namespace Go.Proofs.YtehkaploinklmaaDoor
open Go Go.RowKit Go.Maps Sh
theorem es_blk {w : World} {g : Nat} {t : TypeId} {M : List (List Nat)} (hM : Hl M) (B : Blk w g t (M.flatMap (nums .u8))) : ES (nums .u8) 32 w (some ⟨g, 0, none⟩) M :=
  .inr ⟨g, 0, rfl, fun i x hx j v hj => by
    rw [B.cell, Nat.zero_add]
    exact flat_at (fun y hy => by rw [nums_length]; exact (hM y hy).1) i x hx j v hj⟩
theorem below_alloc0 {w w' : World} (g : w.grownBy w' none) : Below w.heap.size w w' := (Below.refl _ _).grown g (Nat.le_refl _) (by simp)
theorem es_before {w : World} {a : Option Addr} {M : List (List Nat)} (h : ES (nums .u8) 32 w a M) {g : Nat} (hg : w.heap.size ≤ g) (hM : Hl M) : ∀ ad, a = some ad → M ≠ [] → ad.block < g := by
  intro ad e hne
  subst e
  obtain ⟨x, r, rfl⟩ : ∃ x r, M = x :: r := by cases M with
    | nil => exact absurd rfl hne
    | cons x r => exact ⟨x, r, rfl⟩
  obtain ⟨b, off, e, r⟩ := h.at (i := 0) (x := x) rfl
  have hx := hM x (List.mem_cons_self ..)
  obtain ⟨v, hv⟩ : ∃ v, (nums .u8 x)[0]? = some v := ⟨_, List.getElem?_eq_getElem (by rw [nums_length, hx.1]; omega)⟩
  have := World.block_lt_of_cell? w _ (r 0 v hv)
  rw [Option.some.inj e]
  exact Nat.lt_of_lt_of_le this hg
theorem es_kept {w w' : World} {a : Option Addr} {M : List (List Nat)} {g : Nat} (h : ES (nums .u8) 32 w a M) (G : w.grownBy w' (some g)) (hb : ∀ ad, a = some ad → M ≠ [] → ad.block < g) : ES (nums .u8) 32 w' a M := by
  rcases h with h | ⟨b, off, rfl, h⟩
  · exact .inl h
  · refine .inr ⟨b, off, rfl, fun i x hx j v hj => ?_⟩
    have hlt := hb _ rfl (by intro e; rw [e] at hx; cases hx)
    exact G.cell (h i x hx j v hj) (by intro e; have := Option.some.inj e; simp at this; simp at hlt; omega)
/-- the hashes of a consistency. -/
def csl (L : List (List Nat)) (m n c u : Nat) : List (List Nat) := if m = n then [] else rtsn L n (cnh c u n)
theorem csl_hl {L : List (List Nat)} (hL : Hl L) (m n c u : Nat) : Hl (csl L m n c u) := by
  unfold csl
  split
  · intro x hx; cases hx
  · exact rtsn_hl hL n _
theorem vfy_true (L : List (List Nat)) (n i : Nat) (x : List Nat) (hi : i < n) (hn : n ≤ L.length) (hx : L[i]? = some x) : vfy x i n (rtsn L n (Mk.wy 0 i n)) (Mk.R nd em (L.take n)) = true := by
  have hl : (L.take n).length = n := by rw [List.length_take]; omega
  have h := Mk.fo_path nd em n (L.take n) i x (by rw [hl]; exact Nat.le_of_lt Nat.lt_two_pow_self) (by rw [List.getElem?_take_of_lt hi]; exact hx)
  rw [hl] at h
  unfold vfy
  rw [decide_eq_true_iff]
  exact ⟨rtsn_len L n _, h⟩
theorem vcs_true (L : List (List Nat)) (m n c u : Nat) (hm : m = (2 * u + 1) * 2 ^ c) (hmn : m ≤ n) (hn : n ≤ L.length) : vcs m c u n (csl L m n c u) (Mk.R nd em (L.take m)) (Mk.R nd em (L.take n)) = true := by
  have hl : (L.take n).length = n := by rw [List.length_take]; omega
  unfold vcs csl
  by_cases he : m = n
  · rw [if_pos he, if_pos he, he]; simp
  · rw [if_neg he, if_neg he]
    have h := Mk.fb_sub nd em n (L.take n) c u (by rw [hl]; exact Nat.le_of_lt Nat.lt_two_pow_self) (.inl (by rw [hl, ← hm]; omega))
    rw [hl, ← hm, List.take_take, Nat.min_eq_left hmn] at h
    unfold cnh
    by_cases hu : u = 0
    · rw [if_pos hu, if_pos hu]
      have e : Mk.sg (L.take n) (c, 2 * u) = L.take m := by
        subst hu
        rw [show 2 * 0 = 0 from rfl, Mk.sg_zero, List.take_take, Nat.min_eq_left (by rw [hm] at hmn; simpa using hmn), hm]
        simp
      rw [e] at h
      unfold mt
      rw [decide_eq_true_iff]
      exact ⟨rtsn_len L n _, by rw [show rtsn L n (Mk.wy c (2 * u) n) = Mk.rts nd em (L.take n) (Mk.wy c (2 * u) n) from rfl, h], by rw [show rtsn L n (Mk.wy c (2 * u) n) = Mk.rts nd em (L.take n) (Mk.wy c (2 * u) n) from rfl, h]⟩
    · rw [if_neg hu, if_neg hu]
      show mt (Mk.R nd em (Mk.sg (L.take n) (c, 2 * u))) _ (rtsn L n (Mk.wy c (2 * u) n)) _ _ = true
      unfold mt
      rw [decide_eq_true_iff]
      exact ⟨rtsn_len L n _, by rw [show rtsn L n (Mk.wy c (2 * u) n) = Mk.rts nd em (L.take n) (Mk.wy c (2 * u) n) from rfl, h], by rw [show rtsn L n (Mk.wy c (2 * u) n) = Mk.rts nd em (L.take n) (Mk.wy c (2 * u) n) from rfl, h]⟩
theorem consist_any (bt base : Nat) (L : List (List Nat)) (hL : Hl L) (hlen : L.length ≤ 2000000) (m n c u : Nat) (hm : m = (2 * u + 1) * 2 ^ c) (hmn : m ≤ n) (hn : n ≤ L.length) (w : World) (hTr : Tr w bt base L) (hT : Tb w) :
    Calls Tryd.prog 14 #[.pointer (some ⟨bt, 0, none⟩), .int .i64 (m : Int), .int .i64 (n : Int)] w fun e w' => ∃ a cap, e = .returned (.tuple #[.agg #[.slice a (csl L m n c u).length cap], .int .i64 0]) ∧ (csl L m n c u).length ≤ cap ∧ ES (nums .u8) 32 w' a (csl L m n c u) ∧ Below w.heap.size w w' := by
  have h0 : 0 < m := by rw [hm]; exact Nat.mul_pos (by omega) (Mk.pow_pos2 c)
  by_cases he : m = n
  · subst he
    have ec : csl L m m c u = [] := if_pos rfl
    rw [ec]
    refine (consist_same bt base L m h0 hn w hTr).mono ?_
    rintro e w' ⟨rfl, Z⟩
    exact ⟨none, 0, rfl, Nat.le_refl _, .inl rfl, Z⟩
  · have ec : csl L m n c u = rtsn L n (cnh c u n) := if_neg he
    rw [ec]
    refine (consist_in bt base L hL hlen m n c u hm (by omega) hn w hT hTr).mono ?_
    rintro e w' ⟨g, rfl, _, B, Z⟩
    exact ⟨some ⟨g, 0, none⟩, _, rfl, Nat.le_refl _, es_blk (rtsn_hl hL n _) B, Z⟩
set_option maxHeartbeats 2000000 in
set_option maxRecDepth 8000 in
theorem true_in (L : List (List Nat)) (hL : Hl L) (a : Option Addr) (ca k n m : Nat) (h80 : L.length ≤ 80) (hkn : k < n) (hnL : n ≤ L.length) (hm1 : 1 ≤ m) (hmn : m ≤ n) (w : World) (hSa : ES (nums .u8) 32 w a L) (hT : Tb w) :
    Calls Tryd.prog 4 #[.slice a L.length ca, .int .i64 (k : Int), .int .i64 (n : Int), .int .i64 (m : Int)] w fun e w' => e = .returned (.bool true) ∧ Below w.heap.size w w' := by
  have HL : Hid (Hl L) := hL
  have HTb : Hid (Tb w) := hT
  obtain ⟨c, u, HM0, _, _⟩ := odd_of m (by omega) (by omega)
  have HM : Hid (m = (2 * u + 1) * 2 ^ c) := HM0
  obtain ⟨x, hx⟩ : ∃ x, L[k]? = some x := ⟨_, List.getElem?_eq_getElem (by omega)⟩
  have HX : Hid (Hh x) := hL.at hx
  obtain ⟨b, off, rfl, rl⟩ := hSa.at hx
  have HRL : Hid (w.rangeAt b (off + k * 32) (nums .u8 x)) := rl
  have KA := made_any (some ⟨b, off, none⟩) ca L HL.out (by omega) w HTb.out hSa
  obtain ⟨r, hr⟩ : ∃ r, Hid (r = Mk.R nd em (L.take n)) := ⟨_, rfl⟩
  obtain ⟨o, ho⟩ : ∃ o, Hid (o = Mk.R nd em (L.take m)) := ⟨_, rfl⟩
  obtain ⟨pl, hpl⟩ : ∃ pl, Hid (pl = rtsn L n (Mk.wy 0 k n)) := ⟨_, rfl⟩
  obtain ⟨cl, hcl⟩ : ∃ cl, Hid (cl = csl L m n c u) := ⟨_, rfl⟩
  have HR : Hid (Hh r) := by show Hh r; rw [hr.out]; exact R_hh (HL.out.take n)
  have HO : Hid (Hh o) := by show Hh o; rw [ho.out]; exact R_hh (HL.out.take m)
  have HPl : Hid (Hl pl) := by show Hl pl; rw [hpl.out]; exact rtsn_hl HL.out n _
  have HCl : Hid (Hl cl) := by show Hl cl; rw [hcl.out]; exact csl_hl HL.out m n c u
  have HV : Hid (vfy x k n pl r = true) := by show _ = _; rw [hpl.out, hr.out]; exact vfy_true L n k x hkn hnL hx
  have HS : Hid (vcs m c u n cl o r = true) := by show _ = _; rw [hcl.out, ho.out, hr.out]; exact vcs_true L m n c u HM.out hmn hnL
  have Sr : Hid ((Tryd.prog.info? 30).map (·.size) = some (nums .u8 r).length ∧ (nums .u8 r).length = (nums .u8 (List.replicate 32 0)).length) := ⟨sH HR.out, by rw [nums_length, nums_length, HR.out.1, List.length_replicate]⟩
  have So : Hid ((Tryd.prog.info? 30).map (·.size) = some (nums .u8 o).length ∧ (nums .u8 o).length = (nums .u8 (List.replicate 32 0)).length) := ⟨sH HO.out, by rw [nums_length, nums_length, HO.out.1, List.length_replicate]⟩
  have i1 : ¬ (80 : Int) < (L.length : Int) := by omega
  have i2 : ¬ (n : Int) < 1 := by omega
  have i3 : ¬ (L.length : Int) < (n : Int) := by omega
  have i4 : ¬ (k : Int) < 0 := by omega
  have i5 : ¬ (n : Int) ≤ (k : Int) := by omega
  have i6 : ¬ (m : Int) < 1 := by omega
  have i7 : ¬ (n : Int) < (m : Int) := by omega
  have hkL : k < L.length := by omega
  clear hL hSa hT HM0 hx rl
  go_enter Tryd.func4, Tryd.ntmps4
  go_wp2_with fail
  refine KA.mono ?_
  rintro e w1 ⟨bt, rfl, hTr, ZZ⟩
  have T1 : Hid (Tr w1 bt w.heap.size L) := hTr
  have HK : Hid (∀ y, Tr y bt w.heap.size L → Tb y → Calls Tryd.prog 14 #[.pointer (some ⟨bt, 0, none⟩), .int .i64 (m : Int), .int .i64 (n : Int)] y fun e w' => ∃ a cap, e = .returned (.tuple #[.agg #[.slice a cl.length cap], .int .i64 0]) ∧ cl.length ≤ cap ∧ ES (nums .u8) 32 w' a cl ∧ Below y.heap.size y w') := fun y h1 h2 => by rw [hcl.out]; exact consist_any bt _ L HL.out (by omega) m n c u HM.out hmn hnL y h1 h2
  clear hTr KA
  have Y := Below.refl w1.heap.size w1
  have KR := root_in bt w.heap.size L HL.out (by omega) n hnL w1 T1.out
  rw [← hr.out] at KR
  go_wp2_with fail
  refine KR.mono ?_
  rintro e w2 ⟨rfl, Z0⟩
  have Y := Y.trans (Z0.mono Y.size)
  clear KR Z0
  go_wp2_with (refine al_zero rfl 30 rfl _ z25 ?_)
  intro gr w3a lgr B0 G0
  have hg : w1.heap.size ≤ gr := Nat.le_trans Y.size lgr
  have Y := Y.grown G0 Y.size (by simp)
  clear G0
  go_wp2_with (refine st_all rfl 30 (.tmp 11) (.tmp 62) rfl gr 30 (nums .u8 (List.replicate 32 0)) (nums .u8 r) rfl rfl B0 Sr.out.2 Sr.out.1 (nums_one _ _) ?_)
  intro w3 BR G0
  have Y := grown_below Y G0 Y.size hg
  clear G0 B0
  have KR := root_in bt w.heap.size L HL.out (by omega) m (by omega) w3 (T1.out.grow Y)
  rw [← ho.out] at KR
  go_wp2_with fail
  refine KR.mono ?_
  rintro e w4 ⟨rfl, Z0⟩
  have BR := BR.below Z0 BR.lt
  have Y := Y.trans (Z0.mono Y.size)
  clear KR Z0
  go_wp2_with (refine al_zero rfl 30 rfl _ z25 ?_)
  intro go w5a lgo B0 G0
  have hg : w1.heap.size ≤ go := Nat.le_trans Y.size lgo
  have ngr : gr ≠ go := by have := BR.lt; omega
  have BR := BR.kept G0 (by simp)
  have Y := Y.grown G0 Y.size (by simp)
  clear G0
  go_wp2_with (refine st_all rfl 30 (.tmp 13) (.tmp 68) rfl go 30 (nums .u8 (List.replicate 32 0)) (nums .u8 o) rfl rfl B0 So.out.2 So.out.1 (nums_one _ _) ?_)
  intro w5 BO G0
  have BR := BR.kept G0 (fun e => ngr (Option.some.inj e))
  have Y := grown_below Y G0 Y.size hg
  clear G0 B0
  have KR := prove_in bt w.heap.size L HL.out (by omega) k n hkn hnL w5 (T1.out.grow Y)
  rw [← hpl.out] at KR
  go_wp2_with fail
  refine KR.mono ?_
  rintro e w6 ⟨g, rfl, hg0, BG, Z0⟩
  have BR := BR.below Z0 BR.lt
  have BO := BO.below Z0 BO.lt
  have Y := Y.trans (Z0.mono Y.size)
  clear KR Z0
  go_wp2_with (refine al_zero rfl 37 rfl [.slice none 0 0] (by kernel_rfl) ?_)
  intro gp w7a lgp B0 G0
  have hg : w1.heap.size ≤ gp := Nat.le_trans Y.size lgp
  have ngr : gr ≠ gp := by have := BR.lt; omega
  have BR := BR.kept G0 (by simp)
  have ngo : go ≠ gp := by have := BO.lt; omega
  have BO := BO.kept G0 (by simp)
  have ng : g ≠ gp := by have := BG.lt; omega
  have BG := BG.kept G0 (by simp)
  have Y := Y.grown G0 Y.size (by simp)
  clear G0
  go_wp2_with (refine st_all rfl 37 (.tmp 15) (.tmp 75) rfl gp 37 [.slice none 0 0] [(.slice (some ⟨g, 0, none⟩) pl.length pl.length)] rfl rfl B0 rfl (by kernel_rfl) (by simp [Value.oneCell']) ?_)
  intro w7 BP G0
  have BR := BR.kept G0 (fun e => ngr (Option.some.inj e))
  have BO := BO.kept G0 (fun e => ngo (Option.some.inj e))
  have BG := BG.kept G0 (fun e => ng (Option.some.inj e))
  have Y := grown_below Y G0 Y.size hg
  clear G0 B0
  have KR := HK.out w7 (T1.out.grow Y) (HTb.out.grow (ZZ.trans (Y.mono ZZ.size)))
  go_wp2_with fail
  refine KR.mono ?_
  rintro e w8 ⟨ac, cc, rfl, hcc, EC0, Z0⟩
  have BR := BR.below Z0 BR.lt
  have BO := BO.below Z0 BO.lt
  have BG := BG.below Z0 BG.lt
  have BP := BP.below Z0 BP.lt
  have Y := Y.trans (Z0.mono Y.size)
  clear KR Z0
  have HEC : Hid (ES (nums .u8) 32 w8 ac cl) := EC0
  clear EC0
  go_wp2_with (refine al_zero rfl 37 rfl [.slice none 0 0] (by kernel_rfl) ?_)
  intro gc w20a lgc B0 G0
  have EK : Hid (ES (nums .u8) 32 w20a ac cl) := HEC.out.below (below_alloc0 G0)
  have EB : Hid (∀ ad, ac = some ad → cl ≠ [] → ad.block < gc) := es_before HEC.out lgc HCl.out
  have hg : w1.heap.size ≤ gc := Nat.le_trans Y.size lgc
  have ngr : gr ≠ gc := by have := BR.lt; omega
  have BR := BR.kept G0 (by simp)
  have ngo : go ≠ gc := by have := BO.lt; omega
  have BO := BO.kept G0 (by simp)
  have ng : g ≠ gc := by have := BG.lt; omega
  have BG := BG.kept G0 (by simp)
  have ngp : gp ≠ gc := by have := BP.lt; omega
  have BP := BP.kept G0 (by simp)
  have Y := Y.grown G0 Y.size (by simp)
  clear G0
  go_wp2_with (refine st_all rfl 37 (.tmp 17) (.tmp 82) rfl gc 37 [.slice none 0 0] [(.slice ac cl.length cc)] rfl rfl B0 rfl (by kernel_rfl) (by simp [Value.oneCell']) ?_)
  intro w20 BC G0
  have EC : Hid (ES (nums .u8) 32 w20 ac cl) := es_kept EK.out G0 EB.out
  have BR := BR.kept G0 (fun e => ngr (Option.some.inj e))
  have BO := BO.kept G0 (fun e => ngo (Option.some.inj e))
  have BG := BG.kept G0 (fun e => ng (Option.some.inj e))
  have BP := BP.kept G0 (fun e => ngp (Option.some.inj e))
  have Y := grown_below Y G0 Y.size hg
  clear G0 B0
  have EG : Hid (ES (nums .u8) 32 w20 (some ⟨g, 0, none⟩) pl) := es_blk HPl.out BG
  have ZZ := ZZ.trans (Y.mono ZZ.size)
  have RL := range_below HRL.out ZZ
  clear Y T1 BG HEC EK EB HK
  go_wp2_with fail
  obtain ⟨C, hC⟩ : ∃ C : World → Prop, C = fun W => Below w20.heap.size w20 W := ⟨_, rfl⟩
  have FL : Hid (∀ W, C W → W.rangeAt b (off + k * 32) (nums .u8 x)) := fun W hW => by rw [hC] at hW; exact range_below RL hW
  have FR : Hid (∀ W, C W → W.rangeAt gr 0 (nums .u8 r)) := fun W hW => by rw [hC] at hW; exact (BR.below hW BR.lt).all
  have FO : Hid (∀ W, C W → W.rangeAt go 0 (nums .u8 o)) := fun W hW => by rw [hC] at hW; exact (BO.below hW BO.lt).all
  have FP : Hid (∀ W, C W → W.rangeAt gp 0 [(.slice (some ⟨g, 0, none⟩) pl.length pl.length)]) := fun W hW => by rw [hC] at hW; exact (BP.below hW BP.lt).all
  have FC : Hid (∀ W, C W → W.rangeAt gc 0 [(.slice ac cl.length cc)]) := fun W hW => by rw [hC] at hW; exact (BC.below hW BC.lt).all
  have FG : Hid (∀ W, C W → ES (nums .u8) 32 W (some ⟨g, 0, none⟩) pl) := fun W hW => by rw [hC] at hW; exact EG.out.below hW
  have FH : Hid (∀ W, C W → ES (nums .u8) 32 W ac cl) := fun W hW => by rw [hC] at hW; exact EC.out.below hW
  have FT : Hid (∀ W, C W → Tb W) := fun W hW => by rw [hC] at hW; exact (HTb.out.grow (ZZ.trans (hW.mono ZZ.size)))
  have CK : Hid (∀ W W', C W → Below W.heap.size W W' → C W') := fun W W' h1 h2 => by rw [hC] at h1 ⊢; exact h1.trans (h2.mono h1.size)
  have CA : Hid (∀ W W', C W → Below w20.heap.size W W' → C W') := fun W W' h1 h2 => by rw [hC] at h1 ⊢; exact h1.trans h2
  have CE : Hid (∀ W, C W → Below w20.heap.size w20 W) := fun W h => by rw [hC] at h; exact h
  have C0 : Hid (C { w20 with drawn := w20.drawn + 1 }) := by rw [hC]; exact Below.drew (Below.refl _ _)
  clear hC
  clear BR BO BP BC RL EG EC
  refine region_calm C 36 (by kernel_rfl) ?_
  have hCp : ∀ p : Prop, (∀ W, C W → p) ↔ p := fun p => ⟨fun h => h _ C0.out, fun h _ _ => h⟩
  generalize ({ w20 with drawn := w20.drawn + 1 } : World) = y0 at *
  refine seg 14 [0, 1, 2, 3, 4, 5, 6, 7, 8, 9, 10, 11, 12, 13, 14, 15, 16, 17, 18, 19, 20, 21, 22] rfl (by kernel_rfl) whole_blind (C0.out) (by kernel_rfl) ?_
  change wpQuiet _ _ _ _ (_ :: _ :: _ :: _ :: _ :: _ :: _ :: _ :: _ :: _ :: _ :: _ :: _ :: _ :: _ :: _ :: _ :: _ :: _ :: _ :: _ :: _ :: _ :: []) _
  repeat (first
    | go_big_quiet_skip
    | (go_big_quiet_want
       first
       | (refine q_load 30 (.tmp 101) rfl b (off + k * 32) rfl (nums .u8 x) _ FL.out Tryd.underlying30 rfl (sH HX.out) ?_
          simp only [Act.put, List.setIfInBounds_toArray, List.set_cons_zero, List.set_cons_succ]
          go_big_quiet_on)
       | (refine q_load 37 (.tmp 15) rfl gp 0 rfl [(.slice (some ⟨g, 0, none⟩) pl.length pl.length)] _ FP.out Tryd.underlying37 rfl (by kernel_rfl) ?_
          simp only [Act.put, List.setIfInBounds_toArray, List.set_cons_zero, List.set_cons_succ]
          go_big_quiet_on)
       | (refine q_load 30 (.tmp 11) rfl gr 0 rfl (nums .u8 r) _ FR.out Tryd.underlying30 rfl (sH HR.out) ?_
          simp only [Act.put, List.setIfInBounds_toArray, List.set_cons_zero, List.set_cons_succ]
          go_big_quiet_on)
       | (go_big_quiet_op
          go_big_quiet_on)))
  refine wpQuiet_nil ?_
  refine lone_do (i := 23) 13 rfl (by kernel_rfl) rfl (by rfl) ?_
  intro K hK
  refine oper_calls 18 _ _ rfl #[.agg (nums .u8 x).toArray, .int .i64 (k : Int), .int .i64 (n : Int), .agg #[(.slice (some ⟨g, 0, none⟩) pl.length pl.length)], .agg (nums .u8 r).toArray] (by rw [List.map_toArray]; rfl) (enters Tryd.func18 (by kernel_rfl) rfl) (fun v w' => v = .bool true ∧ Below y0.heap.size y0 w') (by have K := verify_in x r HX.out HR.out k n hkn (by omega) (some ⟨g, 0, none⟩) pl.length pl HPl.out y0 (FG.out _ C0.out); rw [HV.out] at K; exact K.mono (by rintro e w' ⟨rfl, g⟩; exact ⟨_, rfl, rfl, g⟩)) ?_
  rintro v y1 ⟨rfl, Z1⟩
  have C1 : Hid (C y1) := CK.out _ _ C0.out Z1
  clear Z1
  refine hK _ _ (C1.out) ?_
  clear hK K
  simp only [Act.put, List.setIfInBounds_toArray, List.set_cons_zero, List.set_cons_succ]
  refine lone_calm (i := 24) 12 rfl (by kernel_rfl) rfl rfl (C1.out) ?_
  repeat (first
    | go_big_quiet_skip
    | (go_big_quiet_want
       first
       | (go_big_quiet_op
          go_big_quiet_on)))
  refine wpQuiet_nil ?_
  refine lone_calm (i := 25) 11 rfl (by kernel_rfl) rfl rfl (C1.out) ?_
  repeat (first
    | go_big_quiet_skip
    | (go_big_quiet_want
       first
       | (go_big_quiet_op
          go_big_quiet_on)))
  refine wpQuiet_nil ?_
  refine seg 6 [26, 27, 28, 29, 30] rfl (by kernel_rfl) whole_blind (C1.out) (by kernel_rfl) ?_
  change wpQuiet _ _ _ _ (_ :: _ :: _ :: _ :: _ :: []) _
  repeat (first
    | go_big_quiet_skip
    | (go_big_quiet_want
       first
       | (refine q_load 37 (.tmp 17) rfl gc 0 rfl [(.slice ac cl.length cc)] _ FC.out Tryd.underlying37 rfl (by kernel_rfl) ?_
          simp only [Act.put, List.setIfInBounds_toArray, List.set_cons_zero, List.set_cons_succ]
          go_big_quiet_on)
       | (refine q_load 30 (.tmp 13) rfl go 0 rfl (nums .u8 o) _ FO.out Tryd.underlying30 rfl (sH HO.out) ?_
          simp only [Act.put, List.setIfInBounds_toArray, List.set_cons_zero, List.set_cons_succ]
          go_big_quiet_on)
       | (refine q_load 30 (.tmp 11) rfl gr 0 rfl (nums .u8 r) _ FR.out Tryd.underlying30 rfl (sH HR.out) ?_
          simp only [Act.put, List.setIfInBounds_toArray, List.set_cons_zero, List.set_cons_succ]
          go_big_quiet_on)
       | (go_big_quiet_op
          go_big_quiet_on)))
  refine wpQuiet_nil ?_
  refine lone_do (i := 31) 5 rfl (by kernel_rfl) rfl (by rfl) ?_
  intro K hK
  refine oper_calls 19 _ _ rfl #[.int .i64 (m : Int), .int .i64 (n : Int), .agg #[(.slice ac cl.length cc)], .agg (nums .u8 o).toArray, .agg (nums .u8 r).toArray] (by rw [List.map_toArray]; rfl) (enters Tryd.func19 (by kernel_rfl) rfl) (fun v w' => v = .bool true ∧ Below y1.heap.size y1 w') (by have K := vcons_in m n c u HM.out hmn (by omega) ac cc cl HCl.out hcc o r HO.out HR.out y1 (FT.out _ C1.out) (FH.out _ C1.out); rw [HS.out] at K; exact K.mono (by rintro e w' ⟨rfl, g⟩; exact ⟨_, rfl, rfl, g⟩)) ?_
  rintro v y2 ⟨rfl, Z2⟩
  have C2 : Hid (C y2) := CK.out _ _ C1.out Z2
  clear Z2
  refine hK _ _ (C2.out) ?_
  clear hK K
  simp only [Act.put, List.setIfInBounds_toArray, List.set_cons_zero, List.set_cons_succ]
  refine lone_calm (i := 32) 4 rfl (by kernel_rfl) rfl rfl (C2.out) ?_
  repeat (first
    | go_big_quiet_skip
    | (go_big_quiet_want
       first
       | (go_big_quiet_op
          go_big_quiet_on)))
  refine wpQuiet_nil ?_
  refine lone_calm (i := 33) 3 rfl (by kernel_rfl) rfl rfl (C2.out) ?_
  repeat (first
    | go_big_quiet_skip
    | (go_big_quiet_want
       first
       | (go_big_quiet_op
          go_big_quiet_on)))
  refine wpQuiet_nil ?_
  refine lone_do (i := 34) 2 rfl (by kernel_rfl) rfl (by rfl) ?_
  intro K hK
  refine oper_calls 17 _ _ rfl #[] (by rw [List.map_toArray]; rfl) (enters Tryd.func17 (by kernel_rfl) rfl) (fun v w' => v = .bool true ∧ Below y2.heap.size y2 w') ((known_any y2 (FT.out _ C2.out)).mono (by rintro e w' ⟨rfl, g⟩; exact ⟨_, rfl, rfl, g⟩)) ?_
  rintro v y3 ⟨rfl, Z3⟩
  have C3 : Hid (C y3) := CK.out _ _ C2.out Z3
  clear Z3
  refine hK _ _ (C3.out) ?_
  clear hK K
  simp only [Act.put, List.setIfInBounds_toArray, List.set_cons_zero, List.set_cons_succ]
  refine lone_calm (i := 35) 1 rfl (by kernel_rfl) rfl rfl (C3.out) ?_
  repeat (first
    | go_big_quiet_skip
    | (go_big_quiet_want
       first
       | (go_big_quiet_op
          go_big_quiet_on)))
  refine wpQuiet_nil ?_
  refine lone_calm (i := 36) 0 rfl (by kernel_rfl) rfl rfl (C3.out) ?_
  repeat (first
    | go_big_quiet_skip
    | (go_big_quiet_want
       first
       | (go_big_quiet_op
          go_big_quiet_on)))
  refine wpQuiet_nil ?_
  refine anyC_done (by kernel_rfl) ⟨rfl, ?_⟩
  have ZE := ZZ.trans ((CE.out _ C3.out).mono ZZ.size)
  clear C0 C1 C2 C3 CK CA CE FL FR FO FP FC FG FH FT hCp
  go_wp2
  go_ret
  exact ⟨rfl, ZE⟩
#print axioms true_in
set_option maxHeartbeats 1000000 in
set_option maxRecDepth 8000 in
theorem true_walk (L : List (List Nat)) (hL : Hl L) (a : Option Addr) (ca : Nat) (i size old : Int) (hla : L.length ≤ 140737488355328) (w : World) (hSa : ES (nums .u8) 32 w a L) (hT : Tb w) :
    Calls Tryd.prog 4 #[.slice a L.length ca, .int .i64 i, .int .i64 size, .int .i64 old] w fun e w' => e = .returned (.bool true) ∧ Below w.heap.size w w' := by
  by_cases hin : L.length ≤ 80 ∧ 1 ≤ size ∧ size ≤ L.length ∧ 0 ≤ i ∧ i < size ∧ 1 ≤ old ∧ old ≤ size
  · obtain ⟨h1, h2, h3, h4, h5, h6, h7⟩ := hin
    have K := true_in L hL a ca i.toNat size.toNat old.toNat h1 (by omega) (by omega) (by omega) (by omega) w hSa hT
    rw [Int.toNat_of_nonneg h4, Int.toNat_of_nonneg (by omega), Int.toNat_of_nonneg (by omega)] at K
    exact K
  · have KK := known_any w hT
    clear hSa hT
    go_enter Tryd.func4, Tryd.ntmps4
    by_cases c0 : (80 : Int) < (L.length : Int)
    · go_wp2_with fail
      refine KK.mono ?_
      rintro e y1 ⟨rfl, Y1⟩
      clear KK
      go_wp2
      go_ret
      exact ⟨rfl, Y1⟩
    by_cases c1 : size < 1
    · go_wp2_with fail
      refine KK.mono ?_
      rintro e y1 ⟨rfl, Y1⟩
      clear KK
      go_wp2
      go_ret
      exact ⟨rfl, Y1⟩
    by_cases c2 : (L.length : Int) < size
    · go_wp2_with fail
      refine KK.mono ?_
      rintro e y1 ⟨rfl, Y1⟩
      clear KK
      go_wp2
      go_ret
      exact ⟨rfl, Y1⟩
    by_cases c3 : i < 0
    · go_wp2_with fail
      refine KK.mono ?_
      rintro e y1 ⟨rfl, Y1⟩
      clear KK
      go_wp2
      go_ret
      exact ⟨rfl, Y1⟩
    by_cases c4 : size ≤ i
    · go_wp2_with fail
      refine KK.mono ?_
      rintro e y1 ⟨rfl, Y1⟩
      clear KK
      go_wp2
      go_ret
      exact ⟨rfl, Y1⟩
    by_cases c5 : old < 1
    · go_wp2_with fail
      refine KK.mono ?_
      rintro e y1 ⟨rfl, Y1⟩
      clear KK
      go_wp2
      go_ret
      exact ⟨rfl, Y1⟩
    have c9 : size < old := by omega
    go_wp2_with fail
    refine KK.mono ?_
    rintro e y1 ⟨rfl, Y1⟩
    clear KK
    go_wp2
    go_ret
    exact ⟨rfl, Y1⟩
#print axioms true_walk
end Go.Proofs.YtehkaploinklmaaDoor
