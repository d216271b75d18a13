/-
  (*merkle.Tree).Prove and Consist, in range.
-/
import Derived.Test.YtehkaploinklmaaDoorE3
namespace Go.Proofs.YtehkaploinklmaaDoor
open Go Go.RowKit Go.Maps Sh
theorem wy_ok {lev p n : Nat} (hn : n ≤ 2000000) (hl : lev ≤ 21) (hp : p * 2 ^ lev < n) : ∀ x ∈ Mk.wy lev p n, x.1 ≤ 22 ∧ x.2 * 2 ^ x.1 < n := fun x hx => by
  have := Mk.mem_wy (T := 21) (by omega) hl hp hx
  omega
theorem wy_short {lev p n : Nat} (hn : n ≤ 2000000) (hl : lev ≤ 21) (hp : p * 2 ^ lev < n) : (Mk.wy lev p n).length ≤ 21 := by
  have := Mk.wy_len (T := 21) (n := n) (by omega) hl hp
  omega
set_option maxHeartbeats 2000000 in
set_option maxRecDepth 8000 in
theorem prove_in (bt base : Nat) (L : List (List Nat)) (hL : Hl L) (hlen : L.length ≤ 2000000) (i n : Nat) (hi : i < n) (hn : n ≤ L.length) (w : World) (hTr : Tr w bt base L) :
    Calls Tryd.prog 12 #[.pointer (some ⟨bt, 0, none⟩), .int .i64 (i : Int), .int .i64 (n : Int)] w fun e w' => ∃ g, e = .returned (.tuple #[.agg #[.slice (some ⟨g, 0, none⟩) (rtsn L n (Mk.wy 0 i n)).length (rtsn L n (Mk.wy 0 i n)).length], .int .i64 0]) ∧ w.heap.size ≤ g ∧ Blk w' g 30 ((rtsn L n (Mk.wy 0 i n)).flatMap (nums .u8)) ∧ Below w.heap.size w w' := by
  have HT : Hid (Tr w bt base L) := hTr
  have HL : Hid (Hl L) := hL
  have h1 : ¬ (n : Int) ≤ (i : Int) := by omega
  have h2 : ¬ ((L.length : Int) < (n : Int)) := by omega
  have KO := fun W => others_any 0 i n (by omega) (by simpa using hi) (by omega) W
  have HO : Hid (∀ x ∈ Mk.wy 0 i n, x.1 ≤ 22 ∧ x.2 * 2 ^ x.1 < n) := wy_ok (by omega) (by omega) (by simpa using hi)
  have hol : (Mk.wy 0 i n).length ≤ 100 := by have := wy_short (lev := 0) (p := i) (n := n) (by omega) (by omega) (by simpa using hi); omega
  rw [rtsn_len]
  obtain ⟨os, hos⟩ : ∃ os, os = Mk.wy 0 i n := ⟨_, rfl⟩
  rw [← hos] at HO hol ⊢
  simp only [← hos] at KO
  clear hTr hL hos
  go_enter Tryd.func12, Tryd.ntmps12
  go_wp2_with (refine al_zero rfl 37 rfl [.slice none 0 0] (by kernel_rfl) ?_)
  intro g1 w1 l1 B1 G1
  have Z := (Below.refl w.heap.size w).grown G1 (Nat.le_refl _) (by simp)
  have HT1 : Hid (Tr w1 bt base L) := HT.out.grow Z
  clear G1
  go_wp2_with fail
  refine (size_any bt base L w1 HT1.out).mono ?_
  rintro e w2 ⟨rfl, hw2⟩
  rw [hw2]
  clear hw2 w2
  go_wp2_with fail
  refine (KO w1).mono ?_
  rintro e w2 ⟨ov, rfl, hown, Z2⟩
  obtain ⟨oa, ocap, rfl, _, _, hoes, _⟩ := hown.es
  have KR := roots_any bt L HL.out hlen oa ocap os hol n hn HO.out w2 (HT1.out.grow Z2).all hoes
  have B1 := B1.below Z2 B1.lt
  have Z := Z.trans (Z2.mono Z.size)
  clear KO hown hoes Z2
  go_wp2_with fail
  refine KR.mono ?_
  rintro e w3 ⟨g, rfl, hg, BG, Z3⟩
  have hne : g1 ≠ g := by have := B1.lt; omega
  have hgw : w.heap.size ≤ g := Nat.le_trans Z.size hg
  have B1 := B1.below Z3 B1.lt
  have Z := Z.trans (Z3.mono Z.size)
  clear KR Z3
  go_wp2_with (refine st_all rfl 37 (.tmp 6) (.tmp 29) rfl g1 37 [.slice none 0 0] [.slice (some ⟨g, 0, none⟩) os.length os.length] rfl rfl B1 rfl (by kernel_rfl) (by simp [Value.oneCell']) ?_)
  intro w4 B4 G4
  have BG := BG.kept G4 (fun e => hne (Option.some.inj e).symm)
  have Z := grown_below Z G4 Z.size l1
  go_wp2
  refine bodyPost_ret (res_two rfl _ g1 37 _ _ rfl B4 Tryd.underlying37 rfl (by kernel_rfl)) rfl ⟨g, rfl, hgw, BG, Z⟩
#print axioms prove_in
/-- the halves whose roots a consistency has. -/
def cnh (c u n : Nat) : List (Nat × Nat) := if u = 0 then Mk.wy c (2 * u) n else (c, 2 * u) :: Mk.wy c (2 * u) n
theorem cn_lt {c u n : Nat} (h : (2 * u + 1) * 2 ^ c < n) : 2 * u * 2 ^ c < n := by
  rw [Nat.add_mul] at h; omega
theorem cn_c {c u n : Nat} (h : (2 * u + 1) * 2 ^ c < n) (hn : n ≤ 2000000) : c ≤ 21 := by
  refine Nat.le_of_not_lt fun hc => ?_
  have h1 := Nat.pow_le_pow_right (n := 2) (by decide) hc
  have h2 := Nat.le_mul_of_pos_left (2 ^ c) (show 0 < 2 * u + 1 by omega)
  omega
theorem cnh_ok {c u n : Nat} (hn : n ≤ 2000000) (h : (2 * u + 1) * 2 ^ c < n) : ∀ x ∈ cnh c u n, x.1 ≤ 22 ∧ x.2 * 2 ^ x.1 < n := fun x hx => by
  unfold cnh at hx
  split at hx
  · exact wy_ok hn (cn_c h hn) (cn_lt h) x hx
  · rcases List.mem_cons.1 hx with rfl | hx
    · exact ⟨by have := cn_c h hn; show c ≤ 22; omega, cn_lt h⟩
    · exact wy_ok hn (cn_c h hn) (cn_lt h) x hx
theorem cnh_short {c u n : Nat} (hn : n ≤ 2000000) (h : (2 * u + 1) * 2 ^ c < n) : (cnh c u n).length ≤ 22 := by
  have := wy_short hn (cn_c h hn) (cn_lt h)
  unfold cnh
  split
  · omega
  · rw [List.length_cons]; omega
theorem owe_lit {α : Type} {enc : α → List Value} {n : Nat} (w : World) (t : TypeId) (x : α) (h : (enc x).length = n) : OwE enc t n (w.alloc (.cells (enc x).toArray t)) w.heap.size (.slice (some ⟨w.heap.size, 0, none⟩) 1 1) [x] :=
  ⟨⟨by simp [h], .inr ⟨w.heap.size, 1, (enc x).toArray, rfl, Nat.le_refl _, heap_alloc_new w _, Nat.le_refl _, by unfold maxLen; omega, by simp [h], by simp [← h]⟩⟩, by intro y hy; rw [List.mem_singleton.1 hy]; exact h⟩
set_option maxHeartbeats 2000000 in
set_option maxRecDepth 8000 in
theorem consist_same (bt base : Nat) (L : List (List Nat)) (n : Nat) (hm : 1 ≤ n) (hn : n ≤ L.length) (w : World) (hTr : Tr w bt base L) :
    Calls Tryd.prog 14 #[.pointer (some ⟨bt, 0, none⟩), .int .i64 (n : Int), .int .i64 (n : Int)] w fun e w' => e = .returned (.tuple #[.agg #[.slice none 0 0], .int .i64 0]) ∧ Below w.heap.size w w' := by
  have HT : Hid (Tr w bt base L) := hTr
  have h1 : ¬ (n : Int) < 1 := by omega
  have h2 : ¬ ((L.length : Int) < (n : Int)) := by omega
  clear hTr
  go_enter Tryd.func14, Tryd.ntmps14
  go_wp2_with (refine al_zero rfl 37 rfl [.slice none 0 0] (by kernel_rfl) ?_)
  intro g1 w1 l1 B1 G1
  have Z := (Below.refl w.heap.size w).grown G1 (Nat.le_refl _) (by simp)
  have HT1 : Hid (Tr w1 bt base L) := HT.out.grow Z
  clear G1
  go_wp2_with fail
  refine (size_any bt base L w1 HT1.out).mono ?_
  rintro e w2 ⟨rfl, hw2⟩
  rw [hw2]
  clear hw2 w2
  go_wp2_with (refine st_all rfl 37 (.tmp 6) (.tmp 27) rfl g1 37 [.slice none 0 0] [.slice none 0 0] rfl rfl B1 rfl (by kernel_rfl) (by simp [Value.oneCell']) ?_)
  intro w4 B4 G4
  have Z := grown_below Z G4 Z.size l1
  go_wp2
  refine bodyPost_ret (res_two rfl _ g1 37 _ _ rfl B4 Tryd.underlying37 rfl (by kernel_rfl)) rfl ⟨rfl, Z⟩
#print axioms consist_same
set_option maxHeartbeats 400000 in
set_option maxRecDepth 8000 in
theorem consist_in (bt base : Nat) (L : List (List Nat)) (hL : Hl L) (hlen : L.length ≤ 2000000) (m n c u : Nat) (hm : m = (2 * u + 1) * 2 ^ c) (hmn : m < n) (hn : n ≤ L.length) (w : World) (hT : Tb w) (hTr : Tr w bt base L) :
    Calls Tryd.prog 14 #[.pointer (some ⟨bt, 0, none⟩), .int .i64 (m : Int), .int .i64 (n : Int)] w fun e w' => ∃ g, e = .returned (.tuple #[.agg #[.slice (some ⟨g, 0, none⟩) (rtsn L n (cnh c u n)).length (rtsn L n (cnh c u n)).length], .int .i64 0]) ∧ w.heap.size ≤ g ∧ Blk w' g 30 ((rtsn L n (cnh c u n)).flatMap (nums .u8)) ∧ Below w.heap.size w w' := by
  have HT : Hid (Tr w bt base L) := hTr
  have HTb : Hid (Tb w) := hT
  have HL : Hid (Hl L) := hL
  have h0 : 0 < m := by rw [hm]; exact Nat.mul_pos (by omega) (Mk.pow_pos2 c)
  have h1 : ¬ (m : Int) < 1 := by omega
  have h2 : ¬ ((L.length : Int) < (n : Int)) := by omega
  have h3 : ¬ ((n : Int) < (m : Int)) := by omega
  have h4 : ¬ ((m : Int) = (n : Int)) := by omega
  have hlt : (2 * u + 1) * 2 ^ c < n := by rw [← hm]; exact hmn
  have KO := fun W => others_any c (2 * u) n (by omega) (cn_lt hlt) (by have := cn_c hlt (by omega); omega) W
  have KL := fun W hW => last_any m c u hm (by omega) W hW
  have HO : Hid (∀ x ∈ cnh c u n, x.1 ≤ 22 ∧ x.2 * 2 ^ x.1 < n) := cnh_ok (by omega) hlt
  have hol : (cnh c u n).length ≤ 100 := by have := cnh_short (by omega) hlt; omega
  have how : Hid ((Mk.wy c (2 * u) n).length ≤ 21) := wy_short (by omega) (cn_c hlt (by omega)) (cn_lt hlt)
  rw [rtsn_len]
  have HC : Hid (cnh c u n = if u = 0 then Mk.wy c (2 * u) n else (c, 2 * u) :: Mk.wy c (2 * u) n) := rfl
  obtain ⟨d, hd⟩ : ∃ d, d = 2 * u := ⟨_, rfl⟩
  rw [← hd] at HC how
  simp only [← hd] at KO KL
  obtain ⟨os, hos⟩ : ∃ os, os = Mk.wy c d n := ⟨_, rfl⟩
  obtain ⟨cs, hcs⟩ : ∃ cs, cs = cnh c u n := ⟨_, rfl⟩
  rw [← hcs] at HO hol HC ⊢
  rw [← hos] at how HC
  simp only [← hos] at KO
  have hdu : Hid (d = 2 * u) := hd
  clear hTr hL hos hcs hd hT hm hlt
  go_enter Tryd.func14, Tryd.ntmps14
  go_wp2_with (refine al_zero rfl 37 rfl [.slice none 0 0] (by kernel_rfl) ?_)
  intro g1 w1 l1 B1 G1
  have Z := (Below.refl w.heap.size w).grown G1 (Nat.le_refl _) (by simp)
  have HT1 : Hid (Tr w1 bt base L) := HT.out.grow Z
  clear G1
  go_wp2_with fail
  refine (size_any bt base L w1 HT1.out).mono ?_
  rintro e w2 ⟨rfl, hw2⟩
  rw [hw2]
  clear hw2 w2
  go_wp2_with fail
  refine (KL w1 (HTb.out.grow Z)).mono ?_
  rintro e w2 ⟨rfl, Z2⟩
  have B1 := B1.below Z2 B1.lt
  have Z := Z.trans (Z2.mono Z.size)
  have HT2 : Hid (Tr w2 bt base L) := HT1.out.grow Z2
  clear Z2 KL HT1
  obtain ⟨w3, hw3, Z3, BV⟩ : ∃ w3, w2.alloc (Obj.cells #[.int .i64 (c : Int), .int .i64 (d : Int)] 60) = w3 ∧ Below w2.heap.size w2 w3 ∧ Blk w3 w2.heap.size 60 [.int .i64 (c : Int), .int .i64 (d : Int)] := ⟨_, rfl, (Below.refl _ _).alloc (Nat.le_refl _) _, blk_new w2 _ _⟩
  have B1 := B1.below Z3 B1.lt
  have Z := Z.trans (Z3.mono Z.size)
  have HT3 : Hid (Tr w3 bt base L) := HT2.out.grow Z3
  clear HT2 Z3
  go_wp2_with (refine ld_mid rfl 60 (.tmp 8) rfl w2.heap.size 0 rfl [.int .i64 (c : Int), .int .i64 (d : Int)] _ BV.all Tryd.underlying60 rfl (by kernel_rfl) ?_)
  refine (KO w3).mono ?_
  rintro e w4 ⟨ov, rfl, hown, Z4⟩
  obtain ⟨oa, ocap, rfl, _, hnil, hoes, _⟩ := hown.es
  have B1 := B1.below Z4 B1.lt
  have BV := BV.below Z4 BV.lt
  have Z := Z.trans (Z4.mono Z.size)
  have HT4 : Hid (Tr w4 bt base L) := HT3.out.grow Z4
  have HE4 : Hid (ES encV 2 w4 oa os ∧ (oa = none → ocap = 0)) := ⟨hoes, fun h => (hnil h).1⟩
  clear KO hown hoes Z4 HT3 hnil hw3
  go_wp2_with (refine ld_mid rfl 60 (.tmp 8) rfl w2.heap.size 0 rfl [.int .i64 (c : Int), .int .i64 (d : Int)] _ BV.all Tryd.underlying60 rfl (by kernel_rfl) ?_)
  refine (first_any c d w4).mono ?_
  rintro e w5 ⟨rfl, Z5⟩
  have B1 := B1.below Z5 B1.lt
  have BV := BV.below Z5 BV.lt
  have Z := Z.trans (Z5.mono Z.size)
  have HT5 : Hid (Tr w5 bt base L) := HT4.out.grow Z5
  have HE5 : Hid (ES encV 2 w5 oa os ∧ (oa = none → ocap = 0)) := ⟨HE4.out.1.below Z5, HE4.out.2⟩
  clear Z5 HT4 HE4
  by_cases hu : u = 0
  · have ed : decide (d = 0) = true := by rw [hdu.out, hu]; rfl
    obtain rfl : cs = os := by rw [HC.out, if_pos hu]
    have KR := roots_any bt L HL.out hlen oa ocap cs hol n hn HO.out w5 HT5.out.all HE5.out.1
    rw [ed]
    clear hu ed
    go_wp2_with fail
    refine KR.mono ?_
    rintro e w6 ⟨g, rfl, hg, BG, Z6⟩
    have hne : g1 ≠ g := by have := B1.lt; omega
    have hgw : w.heap.size ≤ g := Nat.le_trans Z.size hg
    have B1 := B1.below Z6 B1.lt
    have Z := Z.trans (Z6.mono Z.size)
    clear KR Z6
    go_wp2_with (refine st_all rfl 37 (.tmp 6) (.tmp 44) rfl g1 37 [.slice none 0 0] [.slice (some ⟨g, 0, none⟩) cs.length cs.length] rfl rfl B1 rfl (by kernel_rfl) (by simp [Value.oneCell']) ?_)
    intro w7 B7 G7
    have BG := BG.kept G7 (fun e => hne (Option.some.inj e).symm)
    have Z := grown_below Z G7 Z.size l1
    go_wp2
    refine bodyPost_ret (res_two rfl _ g1 37 _ _ rfl B7 Tryd.underlying37 rfl (by kernel_rfl)) rfl ⟨g, rfl, hgw, BG, Z⟩
  · have ed : decide (d = 0) = false := by rw [hdu.out]; simp; omega
    have ecs : Hid (cs = (c, d) :: os) := by show _ = _; rw [HC.out, if_neg hu]
    rw [ed]
    obtain ⟨w6, hw6, Z6, O6⟩ : ∃ w6, w5.alloc (.cells #[.int .i64 (c : Int), .int .i64 (d : Int)] 60) = w6 ∧ Below w5.heap.size w5 w6 ∧ OwE encV 60 2 w6 w5.heap.size (.slice (some ⟨w5.heap.size, 0, none⟩) 1 1) [(c, d)] := ⟨_, rfl, (Below.refl _ _).alloc (Nat.le_refl _) _, owe_lit w5 _ (c, d) rfl⟩
    have HE6 : Hid (ES encV 2 w6 oa os ∧ (oa = none → ocap = 0)) := ⟨HE5.out.1.below Z6, HE5.out.2⟩
    have HO6 : Hid (OwE encV 60 2 w6 w5.heap.size (.slice (some ⟨w5.heap.size, 0, none⟩) 1 1) [(c, d)]) := O6
    have s6 := Z6.size
    clear hu ed
    go_wp2_with (first | (refine ld_mid rfl 60 (.tmp 8) rfl w2.heap.size 0 rfl [.int .i64 (c : Int), .int .i64 (d : Int)] _ BV.all Tryd.underlying60 rfl (by kernel_rfl) ?_) | (at_builtin; go_must (refine app_wl rfl (.tmp 37) (.tmp 38) 58 60 rfl Tryd.underlying58 _ 16 iV rfl (by decide) (by decide) w5.heap.size (.slice (some ⟨w5.heap.size, 0, none⟩) 1 1) [(c, d)] os rfl HO6.out oa ocap rfl HE6.out.1 HE6.out.2 (fun z _ => encV_one z) (by have := how.out; simp; omega) s6 ?_)))
    intro v7 w7 O7 G7
    have Z7 := below_own Z6 s6 O6 G7
    obtain ⟨a7, c7, rfl, _, _, es7, _⟩ := O7.es
    rw [← ecs.out] at es7 ⊢
    have KR := roots_any bt L HL.out hlen a7 c7 cs hol n hn HO.out w7 (HT5.out.grow Z7).all es7
    have B1 := B1.below Z7 B1.lt
    have Z := Z.trans (Z7.mono Z.size)
    clear G7 O7 es7 O6 HO6 HE6 Z6 hw6 s6 HE5 HT5
    go_wp2_with fail
    refine KR.mono ?_
    rintro e w8 ⟨g, rfl, hg, BG, Z8⟩
    have hne : g1 ≠ g := by have := B1.lt; omega
    have hgw : w.heap.size ≤ g := Nat.le_trans Z.size hg
    have B1 := B1.below Z8 B1.lt
    have Z := Z.trans (Z8.mono Z.size)
    clear KR Z8
    go_wp2_with (refine st_all rfl 37 (.tmp 6) (.tmp 44) rfl g1 37 [.slice none 0 0] [.slice (some ⟨g, 0, none⟩) cs.length cs.length] rfl rfl B1 rfl (by kernel_rfl) (by simp [Value.oneCell']) ?_)
    intro w9 B9 G9
    have BG := BG.kept G9 (fun e => hne (Option.some.inj e).symm)
    have Z := grown_below Z G9 Z.size l1
    go_wp2
    refine bodyPost_ret (res_two rfl _ g1 37 _ _ rfl B9 Tryd.underlying37 rfl (by kernel_rfl)) rfl ⟨g, rfl, hgw, BG, Z⟩
#print axioms consist_in
end Go.Proofs.YtehkaploinklmaaDoor
