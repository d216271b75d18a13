/-
  MerkleChanged's walk.
-/
import Derived.Test.YtehkaploinklmaaDoorE5m
import Derived.Test.YtehkaploinklmaaDoorE10
namespace Go.Proofs.YtehkaploinklmaaDoor
open Go Go.RowKit Go.Maps Sh
theorem and_1023 (n : Int) : bits .and .i64 n 1023 = n % 1024 := by
  have h : (BitVec.ofInt 64 1023).toNat = 2 ^ 10 - 1 := by decide
  have key : (BitVec.ofInt 64 n &&& BitVec.ofInt 64 1023).toNat = (n % ((2 ^ 64 : Nat) : Int)).toNat % 2 ^ 10 := by
    rw [BitVec.toNat_and, BitVec.toNat_ofInt, h, Nat.and_two_pow_sub_one_eq_mod]
  show IntKind.i64.wrap ((BitVec.ofInt 64 n &&& BitVec.ofInt 64 1023).toNat : Nat) = n % 1024
  rw [key, IntKind.wrap_i64]
  omega
theorem and_31 (n : Int) : bits .and .i64 n 31 = n % 32 := by
  have h : (BitVec.ofInt 64 31).toNat = 2 ^ 5 - 1 := by decide
  have key : (BitVec.ofInt 64 n &&& BitVec.ofInt 64 31).toNat = (n % ((2 ^ 64 : Nat) : Int)).toNat % 2 ^ 5 := by
    rw [BitVec.toNat_and, BitVec.toNat_ofInt, h, Nat.and_two_pow_sub_one_eq_mod]
  show IntKind.i64.wrap ((BitVec.ofInt 64 n &&& BitVec.ofInt 64 31).toNat : Nat) = n % 32
  rw [key, IntKind.wrap_i64]
  omega
theorem q_u8 {o : Oper} {a : Act} {C : World → Prop} {K : Act → Prop} (x : Operand) (ho : o.op = .load 5 x) (b k : Nat) (hx : a.eval x = .pointer (some ⟨b, k, none⟩)) (z : Int) (hS : ∀ w, C w → w.cell? ⟨b, k, none⟩ = some (.int .u8 z)) (hk : K (a.put o.dst (.int .u8 z))) : o.quiet Tryd.prog a C K :=
  ⟨_, fun w hw => by
    have h := hS w hw
    unfold Oper.quietAt execOp
    simp only [ho, hx]
    go_simp, hk⟩
theorem flat_set : ∀ (M : List (List Nat)) (j c v : Nat) (x : List Nat), Hl M → M[j]? = some x → c < 32 → (M.flatMap (nums .u8)).set (j * 32 + c) (.int .u8 (v : Int)) = (M.set j (x.set c v)).flatMap (nums .u8)
  | [], j, c, v, x, _, hx, _ => by simp at hx
  | y :: M, 0, c, v, x, hM, hx, hc => by
    obtain rfl : y = x := by simpa using hx
    have hl := (hM y (by simp)).1
    rw [List.flatMap_cons, List.set_cons_zero, List.flatMap_cons, Nat.zero_mul, Nat.zero_add, List.set_append_left _ _ (by rw [nums_length, hl]; exact hc)]
    congr 1
    unfold nums
    rw [List.map_set]
  | y :: M, j + 1, c, v, x, hM, hx, hc => by
    have hl := (hM y (by simp)).1
    have ih := flat_set M j c v x (fun z hz => hM z (by simp [hz])) (by simpa using hx) hc
    rw [List.flatMap_cons, List.set_cons_succ, List.flatMap_cons, List.set_append_right _ _ (by rw [nums_length, hl]; omega), nums_length, hl, show (j + 1) * 32 + c - 32 = j * 32 + c by omega, ih]
theorem hl_set {M : List (List Nat)} {j c v : Nat} {x : List Nat} (hM : Hl M) (hx : M[j]? = some x) (hv : v < 256) : Hl (M.set j (x.set c v)) := by
  intro y hy
  rcases List.mem_or_eq_of_mem_set hy with h | h
  · exact hM y h
  · have hh := hM.at hx
    rw [h]
    refine ⟨by rw [List.length_set]; exact hh.1, fun z hz => ?_⟩
    rcases List.mem_or_eq_of_mem_set hz with h | h
    · exact hh.2 z h
    · omega
/-- a list of digests that may be written. -/
def Wr (w : World) (B : Nat) (a : Option Addr) (M : List (List Nat)) : Prop := M = [] ∨ ∃ g, a = some ⟨g, 0, none⟩ ∧ B ≤ g ∧ Blk w g 30 (M.flatMap (nums .u8))
theorem Wr.ge {w : World} {B : Nat} {a : Option Addr} {M : List (List Nat)} (h : Wr w B a M) : ∀ k, M ≠ [] → a = some k → B ≤ k.block := fun k hne e => by
  rcases h with h | ⟨g, rfl, h, _⟩
  · exact absurd h hne
  · rw [← Option.some.inj e]; exact h
theorem Wr.ne {w : World} {B : Nat} {a : Option Addr} {M : List (List Nat)} (h : Wr w B a M) {g : Nat} (hg : w.heap.size ≤ g) : ∀ k, M ≠ [] → a = some k → k.block ≠ g := fun k hne e => by
  rcases h with h | ⟨b, rfl, _, h⟩
  · exact absurd h hne
  · have := h.lt
    rw [← Option.some.inj e]
    show b ≠ g
    omega
theorem Wr.kept {w w' : World} {B : Nat} {a : Option Addr} {M : List (List Nat)} {row : Option Nat} (h : Wr w B a M) (G : w.grownBy w' row) (hne : ∀ k, M ≠ [] → a = some k → some k.block ≠ row) : Wr w' B a M := by
  by_cases hM : M = []
  · exact .inl hM
  · rcases h with h | ⟨g, rfl, hb, h⟩
    · exact .inl h
    · exact .inr ⟨g, rfl, hb, h.kept G (hne _ hM rfl)⟩
theorem Wr.es {w : World} {B : Nat} {a : Option Addr} {M : List (List Nat)} (h : Wr w B a M) (hM : Hl M) : ES (nums .u8) 32 w a M := by
  rcases h with h | ⟨g, rfl, _, h⟩
  · exact .inl h
  · exact es_blk hM h
theorem consist_wr (bt base : Nat) (L : List (List Nat)) (hL : Hl L) (hlen : L.length ≤ 2000000) (m n c u : Nat) (hm : m = (2 * u + 1) * 2 ^ c) (hmn : m ≤ n) (hn : n ≤ L.length) (w : World) (hTr : Tr w bt base L) (hT : Tb w) :
    Calls Tryd.prog 14 #[.pointer (some ⟨bt, 0, none⟩), .int .i64 (m : Int), .int .i64 (n : Int)] w fun e w' => ∃ a cap, e = .returned (.tuple #[.agg #[.slice a (csl L m n c u).length cap], .int .i64 0]) ∧ (csl L m n c u).length ≤ cap ∧ Wr w' w.heap.size a (csl L m n c u) ∧ Below w.heap.size w w' := by
  have h0 : 0 < m := by rw [hm]; exact Nat.mul_pos (by omega) (Mk.pow_pos2 c)
  by_cases he : m = n
  · subst he
    have ec : csl L m m c u = [] := if_pos rfl
    rw [ec]
    refine (consist_same bt base L m h0 hn w hTr).mono ?_
    rintro e w' ⟨rfl, Z⟩
    exact ⟨none, 0, rfl, Nat.le_refl _, .inl rfl, Z⟩
  · have ec : csl L m n c u = rtsn L n (cnh c u n) := if_neg he
    rw [ec]
    refine (consist_in bt base L hL hlen m n c u hm (by omega) hn w hT hTr).mono ?_
    rintro e w' ⟨g, rfl, hb, B, Z⟩
    exact ⟨some ⟨g, 0, none⟩, _, rfl, Nat.le_refl _, .inr ⟨g, rfl, hb, B⟩, Z⟩
set_option maxHeartbeats 800000 in
set_option maxRecDepth 8000 in
theorem changed_in (L : List (List Nat)) (hL : Hl L) (a : Option Addr) (ca k n m : Nat) (z : Int) (v : Nat) (hv : v < 256) (h80 : L.length ≤ 80) (hkn : k < n) (hnL : n ≤ L.length) (hm1 : 1 ≤ m) (hmn : m ≤ n) (w : World) (hSa : ES (nums .u8) 32 w a L) (hT : Tb w) :
    Calls Tryd.prog 6 #[.slice a L.length ca, .int .i64 (k : Int), .int .i64 (n : Int), .int .i64 (m : Int), .int .i64 z, .int .u8 (v : Int)] w fun e w' => e = .returned (.bool true) ∧ Below w.heap.size w w' := by
  have HL : Hid (Hl L) := hL
  have HTb : Hid (Tb w) := hT
  obtain ⟨c0, u0, HM0, _, _⟩ := odd_of m (by omega) (by omega)
  have HM : Hid (m = (2 * u0 + 1) * 2 ^ c0) := HM0
  obtain ⟨x, hx⟩ : ∃ x, L[k]? = some x := ⟨_, List.getElem?_eq_getElem (by omega)⟩
  have HX : Hid (Hh x) := hL.at hx
  obtain ⟨b, off, rfl, rl⟩ := hSa.at hx
  have HRL : Hid (w.rangeAt b (off + k * 32) (nums .u8 x)) := rl
  have KA := made_any (some ⟨b, off, none⟩) ca L HL.out (by omega) w HTb.out hSa
  obtain ⟨r, hr⟩ : ∃ r, Hid (r = Mk.R nd em (L.take n)) := ⟨_, rfl⟩
  obtain ⟨o, ho⟩ : ∃ o, Hid (o = Mk.R nd em (L.take m)) := ⟨_, rfl⟩
  obtain ⟨pl, hpl⟩ : ∃ pl, Hid (pl = rtsn L n (Mk.wy 0 k n)) := ⟨_, rfl⟩
  obtain ⟨cl, hcl⟩ : ∃ cl, Hid (cl = csl L m n c0 u0) := ⟨_, rfl⟩
  have HR : Hid (Hh r) := by show Hh r; rw [hr.out]; exact R_hh (HL.out.take n)
  have HO : Hid (Hh o) := by show Hh o; rw [ho.out]; exact R_hh (HL.out.take m)
  have HPl : Hid (Hl pl) := by show Hl pl; rw [hpl.out]; exact rtsn_hl HL.out n _
  have HCl : Hid (Hl cl) := by show Hl cl; rw [hcl.out]; exact csl_hl HL.out m n c0 u0
  have Sr : Hid ((Tryd.prog.info? 30).map (·.size) = some (nums .u8 r).length ∧ (nums .u8 r).length = (nums .u8 (List.replicate 32 0)).length) := ⟨sH HR.out, by rw [nums_length, nums_length, HR.out.1, List.length_replicate]⟩
  have So : Hid ((Tryd.prog.info? 30).map (·.size) = some (nums .u8 o).length ∧ (nums .u8 o).length = (nums .u8 (List.replicate 32 0)).length) := ⟨sH HO.out, by rw [nums_length, nums_length, HO.out.1, List.length_replicate]⟩
  have lpl : pl.length ≤ 1000 := by rw [hpl.out, rtsn_len]; have := wy_short (lev := 0) (p := k) (n := n) (by omega) (by omega) (by simpa using hkn); omega
  have lcl : cl.length ≤ 1000 := by
    rw [hcl.out]
    unfold csl
    split
    · simp
    · rw [rtsn_len]; have := cnh_short (c := c0) (u := u0) (n := n) (by omega) (by rw [← HM.out]; omega); omega
  have i1 : ¬ (80 : Int) < (L.length : Int) := by omega
  have i2 : ¬ (n : Int) < 1 := by omega
  have i3 : ¬ (L.length : Int) < (n : Int) := by omega
  have i4 : ¬ (k : Int) < 0 := by omega
  have i5 : ¬ (n : Int) ≤ (k : Int) := by omega
  have i6 : ¬ (m : Int) < 1 := by omega
  have i7 : ¬ (n : Int) < (m : Int) := by omega
  have hkL : k < L.length := by omega
  clear hL hSa hT HM0 hx rl
  go_enter Tryd.func6, Tryd.ntmps6
  go_wp2_with fail
  refine KA.mono ?_
  rintro e w1 ⟨bt, rfl, hTr, ZZ⟩
  have T1 : Hid (Tr w1 bt w.heap.size L) := hTr
  have HK : Hid (∀ y, Tr y bt w.heap.size L → Tb y → Calls Tryd.prog 14 #[.pointer (some ⟨bt, 0, none⟩), .int .i64 (m : Int), .int .i64 (n : Int)] y fun e w' => ∃ a cap, e = .returned (.tuple #[.agg #[.slice a cl.length cap], .int .i64 0]) ∧ cl.length ≤ cap ∧ Wr w' y.heap.size a cl ∧ Below y.heap.size y w') := fun y h1 h2 => by rw [hcl.out]; exact consist_wr bt _ L HL.out (by omega) m n c0 u0 HM.out hmn hnL y h1 h2
  clear hTr KA
  have Y := Below.refl w1.heap.size w1
  have KR := root_in bt w.heap.size L HL.out (by omega) n hnL w1 T1.out
  rw [← hr.out] at KR
  go_wp2_with fail
  refine KR.mono ?_
  rintro e w2 ⟨rfl, Z0⟩
  have Y := Y.trans (Z0.mono Y.size)
  clear KR Z0
  go_wp2_with (refine al_zero rfl 30 rfl _ z25 ?_)
  intro gr w3a lgr B0 G0
  have hggr : w1.heap.size ≤ gr := Nat.le_trans Y.size lgr
  have Y := Y.grown G0 Y.size (by simp)
  clear G0
  go_wp2_with (refine st_all rfl 30 (.tmp 15) (.tmp 66) rfl gr 30 (nums .u8 (List.replicate 32 0)) (nums .u8 r) rfl rfl B0 Sr.out.2 Sr.out.1 (nums_one _ _) ?_)
  intro w3 BR G0
  have Y := grown_below Y G0 Y.size hggr
  clear G0 B0
  have KR := root_in bt w.heap.size L HL.out (by omega) m (by omega) w3 (T1.out.grow Y)
  rw [← ho.out] at KR
  go_wp2_with fail
  refine KR.mono ?_
  rintro e w4 ⟨rfl, Z0⟩
  have BR := BR.below Z0 BR.lt
  have Y := Y.trans (Z0.mono Y.size)
  clear KR Z0
  go_wp2_with (refine al_zero rfl 30 rfl _ z25 ?_)
  intro go w5a lgo B0 G0
  have hggo : w1.heap.size ≤ go := Nat.le_trans Y.size lgo
  have ngrgo : gr ≠ go := by have := BR.lt; omega
  have BR := BR.kept G0 (by simp)
  have Y := Y.grown G0 Y.size (by simp)
  clear G0
  go_wp2_with (refine st_all rfl 30 (.tmp 17) (.tmp 72) rfl go 30 (nums .u8 (List.replicate 32 0)) (nums .u8 o) rfl rfl B0 So.out.2 So.out.1 (nums_one _ _) ?_)
  intro w5 BO G0
  have BR := BR.kept G0 (fun e => ngrgo (Option.some.inj e))
  have Y := grown_below Y G0 Y.size hggo
  clear G0 B0
  have KR := prove_in bt w.heap.size L HL.out (by omega) k n hkn hnL w5 (T1.out.grow Y)
  rw [← hpl.out] at KR
  go_wp2_with fail
  refine KR.mono ?_
  rintro e w6 ⟨g, rfl, hg0, BG, Z0⟩
  have hgg : w1.heap.size ≤ g := Nat.le_trans Y.size hg0
  have ngrg : gr ≠ g := by have := BR.lt; omega
  have ngog : go ≠ g := by have := BO.lt; omega
  have BR := BR.below Z0 BR.lt
  have BO := BO.below Z0 BO.lt
  have Y := Y.trans (Z0.mono Y.size)
  clear KR Z0
  go_wp2_with (refine al_zero rfl 37 rfl [.slice none 0 0] (by kernel_rfl) ?_)
  intro gp w7a lgp B0 G0
  have hggp : w1.heap.size ≤ gp := Nat.le_trans Y.size lgp
  have ngrgp : gr ≠ gp := by have := BR.lt; omega
  have BR := BR.kept G0 (by simp)
  have ngogp : go ≠ gp := by have := BO.lt; omega
  have BO := BO.kept G0 (by simp)
  have nggp : g ≠ gp := by have := BG.lt; omega
  have BG := BG.kept G0 (by simp)
  have Y := Y.grown G0 Y.size (by simp)
  clear G0
  go_wp2_with (refine st_all rfl 37 (.tmp 19) (.tmp 79) rfl gp 37 [.slice none 0 0] [(.slice (some ⟨g, 0, none⟩) pl.length pl.length)] rfl rfl B0 rfl (by kernel_rfl) (by simp [Value.oneCell']) ?_)
  intro w7 BP G0
  have BR := BR.kept G0 (fun e => ngrgp (Option.some.inj e))
  have BO := BO.kept G0 (fun e => ngogp (Option.some.inj e))
  have BG := BG.kept G0 (fun e => nggp (Option.some.inj e))
  have Y := grown_below Y G0 Y.size hggp
  clear G0 B0
  have KR := HK.out w7 (T1.out.grow Y) (HTb.out.grow (ZZ.trans (Y.mono ZZ.size)))
  go_wp2_with fail
  refine KR.mono ?_
  rintro e w8 ⟨ac, cc, rfl, hcc, WC, Z0⟩
  have WX := fun k h h2 => WC.ge k h h2
  have hY7 := Y.size
  have ngrc : ∀ k, cl ≠ [] → ac = some k → gr ≠ k.block := fun k h h2 => by have := WX k h h2; have := BR.lt; omega
  have ngoc : ∀ k, cl ≠ [] → ac = some k → go ≠ k.block := fun k h h2 => by have := WX k h h2; have := BO.lt; omega
  have ngc : ∀ k, cl ≠ [] → ac = some k → g ≠ k.block := fun k h h2 => by have := WX k h h2; have := BG.lt; omega
  have ngpc : ∀ k, cl ≠ [] → ac = some k → gp ≠ k.block := fun k h h2 => by have := WX k h h2; have := BP.lt; omega
  have BR := BR.below Z0 BR.lt
  have BO := BO.below Z0 BO.lt
  have BG := BG.below Z0 BG.lt
  have BP := BP.below Z0 BP.lt
  have Y := Y.trans (Z0.mono Y.size)
  clear KR Z0
  go_wp2_with (refine al_zero rfl 37 rfl [.slice none 0 0] (by kernel_rfl) ?_)
  intro gc w20a lgc B0 G0
  have hggc : w1.heap.size ≤ gc := Nat.le_trans Y.size lgc
  have ngrgc : gr ≠ gc := by have := BR.lt; omega
  have BR := BR.kept G0 (by simp)
  have ngogc : go ≠ gc := by have := BO.lt; omega
  have BO := BO.kept G0 (by simp)
  have nggc : g ≠ gc := by have := BG.lt; omega
  have BG := BG.kept G0 (by simp)
  have ngpgc : gp ≠ gc := by have := BP.lt; omega
  have BP := BP.kept G0 (by simp)
  have WN := WC.ne lgc
  have WC := WC.kept G0 (by intro k h _ e; cases e)
  have Y := Y.grown G0 Y.size (by simp)
  clear G0
  go_wp2_with (refine st_all rfl 37 (.tmp 21) (.tmp 86) rfl gc 37 [.slice none 0 0] [(.slice ac cl.length cc)] rfl rfl B0 rfl (by kernel_rfl) (by simp [Value.oneCell']) ?_)
  intro w20 BC G0
  have BR := BR.kept G0 (fun e => ngrgc (Option.some.inj e))
  have BO := BO.kept G0 (fun e => ngogc (Option.some.inj e))
  have BG := BG.kept G0 (fun e => nggc (Option.some.inj e))
  have BP := BP.kept G0 (fun e => ngpgc (Option.some.inj e))
  have WC := WC.kept G0 (by intro k h h2 e; exact WN k h h2 (Option.some.inj e))
  have Y := grown_below Y G0 Y.size hggc
  clear G0 B0
  have cP : w20.cell? ⟨gp, 0, none⟩ = some (.slice (some ⟨g, 0, none⟩) pl.length pl.length) := by rw [BP.cell]; rfl
  by_cases h0 : 0 < pl.length
  · have h0' : (0 : Int) < (pl.length : Int) := by omega
    have BM := BG
    obtain ⟨s, es⟩ : ∃ s : Nat, z % 1024 = (s : Int) := ⟨(z % 1024).toNat, by omega⟩
    have e1 : bits .and .i64 z 1023 = (s : Int) := by rw [and_1023, es]
    obtain ⟨j, ej⟩ : ∃ j : Nat, Hid (j = s % pl.length) := ⟨_, rfl⟩
    have hj : j < pl.length := by rw [ej.out]; exact Nat.mod_lt _ h0
    have e2 : (s : Int) % (pl.length : Int) = (j : Int) := by rw [ej.out]; rfl
    have e2' : (s : Int).tmod (pl.length : Int) = (j : Int) := by rw [Int.tmod_eq_emod_of_nonneg (by omega), e2]
    obtain ⟨c, hc⟩ : ∃ c : Nat, (z / 1024) % 32 = (c : Int) := ⟨((z / 1024) % 32).toNat, by omega⟩
    have hc32 : c < 32 := by omega
    have e3 : bits .and .i64 (z / 1024) 31 = (c : Int) := by rw [and_31, hc]
    obtain ⟨y, hy⟩ : ∃ y, pl[j]? = some y := ⟨_, List.getElem?_eq_getElem hj⟩
    have HY : Hid (Hh y) := HPl.out.at hy
    obtain ⟨xc, hxc⟩ : ∃ xc, y[c]? = some xc := ⟨_, List.getElem?_eq_getElem (by rw [HY.out.1]; exact hc32)⟩
    have hxc1 : xc < 256 := HY.out.2 xc (List.mem_of_getElem? hxc)
    obtain ⟨xv, hxv⟩ : ∃ xv : Nat, Hid (xv = xc ^^^ v) := ⟨_, rfl⟩
    have hxv1 : xv < 256 := by rw [hxv.out]; exact Nat.xor_lt_two_pow (n := 8) hxc1 hv
    have e4 : bits .xor .u8 (xc : Int) (v : Int) = (xv : Int) := by rw [u8_xor_nat _ _ hxc1 hv, hxv.out]
    have HXC : Hid ((pl.flatMap (nums .u8))[j * 32 + c]? = some (.int .u8 (xc : Int))) := flat_at (fun q hq => by rw [nums_length]; exact (HPl.out q hq).1) j y hy c _ (by unfold nums; rw [List.getElem?_map, hxc]; rfl)
    have HJC : Hid (j * 32 + c < (pl.flatMap (nums .u8)).length) := by show _ < _; rw [flat_len (n := 32) (fun q hq => by rw [nums_length]; exact (HPl.out q hq).1)]; omega
    have HFS : Hid ((pl.flatMap (nums .u8)).set (j * 32 + c) (.int .u8 (xv : Int)) = (pl.set j (y.set c xv)).flatMap (nums .u8)) := flat_set pl j c xv y HPl.out hy hc32
    have HHS : Hid (Hl (pl.set j (y.set c xv))) := hl_set HPl.out hy hxv1
    clear es ej hc hxc hxv hy
    go_wp2_with fail
    obtain ⟨C, hC⟩ : ∃ C : World → Prop, C = fun W => Below w20.heap.size w20 W := ⟨_, rfl⟩
    have FS : Hid (∀ W, C W → W.cell? ⟨gp, 0, none⟩ = some (.slice (some ⟨g, 0, none⟩) pl.length pl.length)) := fun W hW => by rw [hC] at hW; exact by rw [(BP.below hW BP.lt).cell]; rfl
    have FV : Hid (∀ W, C W → W.cell? ⟨g, j * 32 + c, none⟩ = some (.int .u8 (xc : Int))) := fun W hW => by rw [hC] at hW; exact by rw [(BM.below hW BM.lt).cell]; exact HXC.out
    have FM : Hid (∀ W, C W → Blk W g 30 (pl.flatMap (nums .u8))) := fun W hW => by rw [hC] at hW; exact BM.below hW BM.lt
    have CK : Hid (∀ W W', C W → Below W.heap.size W W' → C W') := fun W W' h1 h2 => by rw [hC] at h1 ⊢; exact h1.trans (h2.mono h1.size)
    have CA : Hid (∀ W W', C W → Below w20.heap.size W W' → C W') := fun W W' h1 h2 => by rw [hC] at h1 ⊢; exact h1.trans h2
    have CE : Hid (∀ W, C W → Below w20.heap.size w20 W) := fun W h => by rw [hC] at h; exact h
    have C0 : Hid (C { w20 with drawn := w20.drawn + 1 }) := by rw [hC]; exact Below.drew (Below.refl _ _)
    clear hC
    refine region_calm C 18 (by kernel_rfl) ?_
    have hCp : ∀ p : Prop, (∀ W, C W → p) ↔ p := fun p => ⟨fun h => h _ C0.out, fun h _ _ => h⟩
    generalize ({ w20 with drawn := w20.drawn + 1 } : World) = y0 at *
    refine seg 13 [0, 1, 2, 3, 4, 5] rfl (by kernel_rfl) whole_blind (C0.out) (by kernel_rfl) ?_
    change wpQuiet _ _ _ _ (_ :: _ :: _ :: _ :: _ :: _ :: []) _
    repeat (first
      | go_big_quiet_skip
      | (go_big_quiet_want
         first
         | (refine q_slc (.tmp 92) rfl gp 0 rfl _ _ _ FS.out ?_
            simp only [Act.put, List.setIfInBounds_toArray, List.set_cons_zero, List.set_cons_succ]
            go_big_quiet_on)
         | (refine q_slc (.tmp 96) rfl gp 0 rfl _ _ _ FS.out ?_
            simp only [Act.put, List.setIfInBounds_toArray, List.set_cons_zero, List.set_cons_succ]
            go_big_quiet_on)
         | (go_big_quiet_op
            go_big_quiet_on)))
    refine wpQuiet_nil ?_
    refine len_first (i := 6) 12 rfl (by kernel_rfl) whole_blind (C0.out) (by kernel_rfl) rfl (by rfl) (.tmp 97) 22 rfl 30 Tryd.underlying22 _ pl.length _ rfl ?_
    simp only [Act.put, List.setIfInBounds_toArray, List.set_cons_zero, List.set_cons_succ]
    refine seg 3 [7, 8, 9, 10, 11, 12, 13, 14, 15] rfl (by kernel_rfl) whole_blind (C0.out) (by kernel_rfl) ?_
    change wpQuiet _ _ _ _ (_ :: _ :: _ :: _ :: _ :: _ :: _ :: _ :: _ :: []) _
    repeat (first
      | go_big_quiet_skip
      | (go_big_quiet_want
         first
         | (refine q_u8 (.tmp 104) rfl g (j * 32 + c) rfl (xc : Int) FV.out ?_
            simp only [Act.put, List.setIfInBounds_toArray, List.set_cons_zero, List.set_cons_succ]
            go_big_quiet_on)
         | (go_big_quiet_op
            go_big_quiet_on)))
    refine wpQuiet_nil ?_
    refine lone_calm (i := 16) 2 rfl (by kernel_rfl) rfl rfl (C0.out) ?_
    repeat (first
      | go_big_quiet_skip
      | (go_big_quiet_want
         first
         | (go_big_quiet_op
            go_big_quiet_on)))
    refine wpQuiet_nil ?_
    refine lone_calm (i := 17) 1 rfl (by kernel_rfl) rfl rfl (C0.out) ?_
    repeat (first
      | go_big_quiet_skip
      | (go_big_quiet_want
         first
         | (go_big_quiet_op
            go_big_quiet_on)))
    refine wpQuiet_nil ?_
    refine lone_last (i := 18) 0 rfl rfl (by kernel_rfl) rfl (by rfl) ?_
    intro K hK
    refine oper_st1 5 (.tmp 109) (.tmp 107) rfl g (j * 32 + c) 30 (pl.flatMap (nums .u8)) (.int .u8 (xv : Int)) rfl rfl rfl rfl HJC.out (FM.out _ C0.out) (by kernel_rfl) ?_
    intro w21 BM GM
    refine hK _ _ ?_
    clear hK K
    refine anyC_done (by kernel_rfl) ⟨rfl, ?_⟩
    simp only [Act.put]
    obtain ⟨pq, epq⟩ : ∃ pq, Hid (pq = pl.set j (y.set c xv)) := ⟨_, rfl⟩
    have HPq : Hid (Hl pq) := by show Hl pq; rw [epq.out]; exact HHS.out
    have lq : Hid (pq.length = pl.length) := by show _ = _; rw [epq.out, List.length_set]
    have BM : Blk w21 g 30 (pq.flatMap (nums .u8)) := by rw [epq.out, ← HFS.out]; exact BM
    have E0 := CE.out _ C0.out
    have BR := (BR.below E0 BR.lt).kept GM (fun e => ngrg (Option.some.inj e))
    have BO := (BO.below E0 BO.lt).kept GM (fun e => ngog (Option.some.inj e))
    have BP := (BP.below E0 BP.lt).kept GM (fun e => nggp.symm (Option.some.inj e))
    have BC := (BC.below E0 BC.lt).kept GM (fun e => nggc.symm (Option.some.inj e))
    have Y := Y.trans (E0.mono Y.size)
    have Y := grown_below Y GM Y.size hgg
    have WC := (WC.kept (below_grown E0) (by intro k h h2 e; cases e)).kept GM (by intro k h h2 e; exact ngc k h h2 (Option.some.inj e).symm)
    have BG := BM
    clear BM GM E0 h0 h0' hj hc32 hxc1 hxv1
    clear C0 CK CA CE FS FV FM hCp HFS HHS HJC HXC HY e1 e2 e2' e3 e4
    clear cP
    have cC : w21.cell? ⟨gc, 0, none⟩ = some (.slice ac cl.length cc) := by rw [BC.cell]; rfl
    by_cases h0 : 0 < cl.length
    · have h0' : (0 : Int) < (cl.length : Int) := by omega
      have hcn : cl ≠ [] := by intro e; rw [e] at h0; exact absurd h0 (by simp)
      obtain ⟨gk, hac, hgk, BM⟩ : ∃ gk, ac = some ⟨gk, 0, none⟩ ∧ w7.heap.size ≤ gk ∧ Blk w21 gk 30 (cl.flatMap (nums .u8)) := WC.resolve_left hcn
      subst hac
      have krc : gr ≠ gk := ngrc _ hcn rfl
      have koc : go ≠ gk := ngoc _ hcn rfl
      have kgc : g ≠ gk := ngc _ hcn rfl
      have kpc : gp ≠ gk := ngpc _ hcn rfl
      have kcc : gc ≠ gk := (WN _ hcn rfl).symm
      have hgk1 : w1.heap.size ≤ gk := Nat.le_trans hY7 hgk
      obtain ⟨s, es⟩ : ∃ s : Nat, z % 1024 = (s : Int) := ⟨(z % 1024).toNat, by omega⟩
      have e1 : bits .and .i64 z 1023 = (s : Int) := by rw [and_1023, es]
      obtain ⟨j, ej⟩ : ∃ j : Nat, Hid (j = s % cl.length) := ⟨_, rfl⟩
      have hj : j < cl.length := by rw [ej.out]; exact Nat.mod_lt _ h0
      have e2 : (s : Int) % (cl.length : Int) = (j : Int) := by rw [ej.out]; rfl
      have e2' : (s : Int).tmod (cl.length : Int) = (j : Int) := by rw [Int.tmod_eq_emod_of_nonneg (by omega), e2]
      obtain ⟨c, hc⟩ : ∃ c : Nat, (z / 1024) % 32 = (c : Int) := ⟨((z / 1024) % 32).toNat, by omega⟩
      have hc32 : c < 32 := by omega
      have e3 : bits .and .i64 (z / 1024) 31 = (c : Int) := by rw [and_31, hc]
      obtain ⟨y, hy⟩ : ∃ y, cl[j]? = some y := ⟨_, List.getElem?_eq_getElem hj⟩
      have HY : Hid (Hh y) := HCl.out.at hy
      obtain ⟨xc, hxc⟩ : ∃ xc, y[c]? = some xc := ⟨_, List.getElem?_eq_getElem (by rw [HY.out.1]; exact hc32)⟩
      have hxc1 : xc < 256 := HY.out.2 xc (List.mem_of_getElem? hxc)
      obtain ⟨xv, hxv⟩ : ∃ xv : Nat, Hid (xv = xc ^^^ v) := ⟨_, rfl⟩
      have hxv1 : xv < 256 := by rw [hxv.out]; exact Nat.xor_lt_two_pow (n := 8) hxc1 hv
      have e4 : bits .xor .u8 (xc : Int) (v : Int) = (xv : Int) := by rw [u8_xor_nat _ _ hxc1 hv, hxv.out]
      have HXC : Hid ((cl.flatMap (nums .u8))[j * 32 + c]? = some (.int .u8 (xc : Int))) := flat_at (fun q hq => by rw [nums_length]; exact (HCl.out q hq).1) j y hy c _ (by unfold nums; rw [List.getElem?_map, hxc]; rfl)
      have HJC : Hid (j * 32 + c < (cl.flatMap (nums .u8)).length) := by show _ < _; rw [flat_len (n := 32) (fun q hq => by rw [nums_length]; exact (HCl.out q hq).1)]; omega
      have HFS : Hid ((cl.flatMap (nums .u8)).set (j * 32 + c) (.int .u8 (xv : Int)) = (cl.set j (y.set c xv)).flatMap (nums .u8)) := flat_set cl j c xv y HCl.out hy hc32
      have HHS : Hid (Hl (cl.set j (y.set c xv))) := hl_set HCl.out hy hxv1
      clear es ej hc hxc hxv hy
      clear WC WN WX ngrc ngoc ngc ngpc
      go_wp2_with fail
      obtain ⟨C, hC⟩ : ∃ C : World → Prop, C = fun W => Below w21.heap.size w21 W := ⟨_, rfl⟩
      have FS : Hid (∀ W, C W → W.cell? ⟨gc, 0, none⟩ = some (.slice (some ⟨gk, 0, none⟩) cl.length cc)) := fun W hW => by rw [hC] at hW; exact by rw [(BC.below hW BC.lt).cell]; rfl
      have FV : Hid (∀ W, C W → W.cell? ⟨gk, j * 32 + c, none⟩ = some (.int .u8 (xc : Int))) := fun W hW => by rw [hC] at hW; exact by rw [(BM.below hW BM.lt).cell]; exact HXC.out
      have FM : Hid (∀ W, C W → Blk W gk 30 (cl.flatMap (nums .u8))) := fun W hW => by rw [hC] at hW; exact BM.below hW BM.lt
      have CK : Hid (∀ W W', C W → Below W.heap.size W W' → C W') := fun W W' h1 h2 => by rw [hC] at h1 ⊢; exact h1.trans (h2.mono h1.size)
      have CA : Hid (∀ W W', C W → Below w21.heap.size W W' → C W') := fun W W' h1 h2 => by rw [hC] at h1 ⊢; exact h1.trans h2
      have CE : Hid (∀ W, C W → Below w21.heap.size w21 W) := fun W h => by rw [hC] at h; exact h
      have C0 : Hid (C { w21 with drawn := w21.drawn + 1 }) := by rw [hC]; exact Below.drew (Below.refl _ _)
      clear hC
      refine region_calm C 18 (by kernel_rfl) ?_
      have hCp : ∀ p : Prop, (∀ W, C W → p) ↔ p := fun p => ⟨fun h => h _ C0.out, fun h _ _ => h⟩
      generalize ({ w21 with drawn := w21.drawn + 1 } : World) = y0 at *
      refine seg 13 [0, 1, 2, 3, 4, 5] rfl (by kernel_rfl) whole_blind (C0.out) (by kernel_rfl) ?_
      change wpQuiet _ _ _ _ (_ :: _ :: _ :: _ :: _ :: _ :: []) _
      repeat (first
        | go_big_quiet_skip
        | (go_big_quiet_want
           first
           | (refine q_slc (.tmp 114) rfl gc 0 rfl _ _ _ FS.out ?_
              simp only [Act.put, List.setIfInBounds_toArray, List.set_cons_zero, List.set_cons_succ]
              go_big_quiet_on)
           | (refine q_slc (.tmp 118) rfl gc 0 rfl _ _ _ FS.out ?_
              simp only [Act.put, List.setIfInBounds_toArray, List.set_cons_zero, List.set_cons_succ]
              go_big_quiet_on)
           | (go_big_quiet_op
              go_big_quiet_on)))
      refine wpQuiet_nil ?_
      refine len_first (i := 6) 12 rfl (by kernel_rfl) whole_blind (C0.out) (by kernel_rfl) rfl (by rfl) (.tmp 119) 22 rfl 30 Tryd.underlying22 _ cl.length _ rfl ?_
      simp only [Act.put, List.setIfInBounds_toArray, List.set_cons_zero, List.set_cons_succ]
      refine seg 3 [7, 8, 9, 10, 11, 12, 13, 14, 15] rfl (by kernel_rfl) whole_blind (C0.out) (by kernel_rfl) ?_
      change wpQuiet _ _ _ _ (_ :: _ :: _ :: _ :: _ :: _ :: _ :: _ :: _ :: []) _
      repeat (first
        | go_big_quiet_skip
        | (go_big_quiet_want
           first
           | (refine q_u8 (.tmp 126) rfl gk (j * 32 + c) rfl (xc : Int) FV.out ?_
              simp only [Act.put, List.setIfInBounds_toArray, List.set_cons_zero, List.set_cons_succ]
              go_big_quiet_on)
           | (go_big_quiet_op
              go_big_quiet_on)))
      refine wpQuiet_nil ?_
      refine lone_calm (i := 16) 2 rfl (by kernel_rfl) rfl rfl (C0.out) ?_
      repeat (first
        | go_big_quiet_skip
        | (go_big_quiet_want
           first
           | (go_big_quiet_op
              go_big_quiet_on)))
      refine wpQuiet_nil ?_
      refine lone_calm (i := 17) 1 rfl (by kernel_rfl) rfl rfl (C0.out) ?_
      repeat (first
        | go_big_quiet_skip
        | (go_big_quiet_want
           first
           | (go_big_quiet_op
              go_big_quiet_on)))
      refine wpQuiet_nil ?_
      refine lone_last (i := 18) 0 rfl rfl (by kernel_rfl) rfl (by rfl) ?_
      intro K hK
      refine oper_st1 5 (.tmp 131) (.tmp 129) rfl gk (j * 32 + c) 30 (cl.flatMap (nums .u8)) (.int .u8 (xv : Int)) rfl rfl rfl rfl HJC.out (FM.out _ C0.out) (by kernel_rfl) ?_
      intro w22 BM GM
      refine hK _ _ ?_
      clear hK K
      refine anyC_done (by kernel_rfl) ⟨rfl, ?_⟩
      simp only [Act.put]
      obtain ⟨cq, ecq⟩ : ∃ cq, Hid (cq = cl.set j (y.set c xv)) := ⟨_, rfl⟩
      have HCq : Hid (Hl cq) := by show Hl cq; rw [ecq.out]; exact HHS.out
      have lc : Hid (cq.length = cl.length) := by show _ = _; rw [ecq.out, List.length_set]
      have BM : Blk w22 gk 30 (cq.flatMap (nums .u8)) := by rw [ecq.out, ← HFS.out]; exact BM
      have E0 := CE.out _ C0.out
      have BR := (BR.below E0 BR.lt).kept GM (fun e => krc (Option.some.inj e))
      have BO := (BO.below E0 BO.lt).kept GM (fun e => koc (Option.some.inj e))
      have BP := (BP.below E0 BP.lt).kept GM (fun e => kpc (Option.some.inj e))
      have BC := (BC.below E0 BC.lt).kept GM (fun e => kcc (Option.some.inj e))
      have BG := (BG.below E0 BG.lt).kept GM (fun e => kgc (Option.some.inj e))
      have Y := Y.trans (E0.mono Y.size)
      have Y := grown_below Y GM Y.size hgk1
      have WC : Wr w22 w7.heap.size (some ⟨gk, 0, none⟩) cq := .inr ⟨gk, rfl, hgk, BM⟩
      clear BM GM E0
      clear C0 CK CA CE FS FV FM hCp HFS HHS HJC HXC HY e1 e2 e2' e3 e4
      clear cC
      have EG : Hid (ES (nums .u8) 32 w22 (some ⟨g, 0, none⟩) pq) := es_blk HPq.out BG
      have EC : Hid (ES (nums .u8) 32 w22 (some ⟨gk, 0, none⟩) cq) := WC.es HCq.out
      have ZZ := ZZ.trans (Y.mono ZZ.size)
      have RL := range_below HRL.out ZZ
      obtain ⟨V, HV⟩ : ∃ V, Hid (vf x (k : Int) (n : Int) pq r = V) := ⟨_, rfl⟩
      obtain ⟨U, HU⟩ : ∃ U, Hid (vcA (m : Int) (n : Int) cq o r = U) := ⟨_, rfl⟩
      clear Y T1 BG WC HK
      go_wp2_with fail
      obtain ⟨C, hC⟩ : ∃ C : World → Prop, C = fun W => Below w22.heap.size w22 W := ⟨_, rfl⟩
      have FL : Hid (∀ W, C W → W.rangeAt b (off + k * 32) (nums .u8 x)) := fun W hW => by rw [hC] at hW; exact range_below RL hW
      have FR : Hid (∀ W, C W → W.rangeAt gr 0 (nums .u8 r)) := fun W hW => by rw [hC] at hW; exact (BR.below hW BR.lt).all
      have FO : Hid (∀ W, C W → W.rangeAt go 0 (nums .u8 o)) := fun W hW => by rw [hC] at hW; exact (BO.below hW BO.lt).all
      have FP : Hid (∀ W, C W → W.rangeAt gp 0 [(.slice (some ⟨g, 0, none⟩) pl.length pl.length)]) := fun W hW => by rw [hC] at hW; exact (BP.below hW BP.lt).all
      have FC : Hid (∀ W, C W → W.rangeAt gc 0 [(.slice (some ⟨gk, 0, none⟩) cl.length cc)]) := fun W hW => by rw [hC] at hW; exact (BC.below hW BC.lt).all
      have FG : Hid (∀ W, C W → ES (nums .u8) 32 W (some ⟨g, 0, none⟩) pq) := fun W hW => by rw [hC] at hW; exact EG.out.below hW
      have FH : Hid (∀ W, C W → ES (nums .u8) 32 W (some ⟨gk, 0, none⟩) cq) := fun W hW => by rw [hC] at hW; exact EC.out.below hW
      have FT : Hid (∀ W, C W → Tb W) := fun W hW => by rw [hC] at hW; exact (HTb.out.grow (ZZ.trans (hW.mono ZZ.size)))
      have CK : Hid (∀ W W', C W → Below W.heap.size W W' → C W') := fun W W' h1 h2 => by rw [hC] at h1 ⊢; exact h1.trans (h2.mono h1.size)
      have CA : Hid (∀ W W', C W → Below w22.heap.size W W' → C W') := fun W W' h1 h2 => by rw [hC] at h1 ⊢; exact h1.trans h2
      have CE : Hid (∀ W, C W → Below w22.heap.size w22 W) := fun W h => by rw [hC] at h; exact h
      have C0 : Hid (C { w22 with drawn := w22.drawn + 1 }) := by rw [hC]; exact Below.drew (Below.refl _ _)
      clear hC
      clear BR BO BP BC RL EG EC
      refine region_calm C 37 (by kernel_rfl) ?_
      have hCp : ∀ p : Prop, (∀ W, C W → p) ↔ p := fun p => ⟨fun h => h _ C0.out, fun h _ _ => h⟩
      generalize ({ w22 with drawn := w22.drawn + 1 } : World) = y0 at *
      refine seg 22 [0, 1, 2, 3, 4, 5, 6, 7, 9, 10, 11, 12, 13, 14, 15, 16] rfl (by kernel_rfl) whole_blind (C0.out) (by kernel_rfl) ?_
      change wpQuiet _ _ _ _ (_ :: _ :: _ :: _ :: _ :: _ :: _ :: _ :: _ :: _ :: _ :: _ :: _ :: _ :: _ :: _ :: []) _
      repeat (first
        | go_big_quiet_skip
        | (go_big_quiet_want
           first
           | (refine q_load 30 (.tmp 134) rfl b (off + k * 32) rfl (nums .u8 x) _ FL.out Tryd.underlying30 rfl (sH HX.out) ?_
              simp only [Act.put, List.setIfInBounds_toArray, List.set_cons_zero, List.set_cons_succ]
              go_big_quiet_on)
           | (refine q_load 30 (.tmp 143) rfl b (off + k * 32) rfl (nums .u8 x) _ FL.out Tryd.underlying30 rfl (sH HX.out) ?_
              simp only [Act.put, List.setIfInBounds_toArray, List.set_cons_zero, List.set_cons_succ]
              go_big_quiet_on)
           | (refine q_load 37 (.tmp 19) rfl gp 0 rfl [(.slice (some ⟨g, 0, none⟩) pl.length pl.length)] _ FP.out Tryd.underlying37 rfl (by kernel_rfl) ?_
              simp only [Act.put, List.setIfInBounds_toArray, List.set_cons_zero, List.set_cons_succ]
              go_big_quiet_on)
           | (refine q_load 30 (.tmp 15) rfl gr 0 rfl (nums .u8 r) _ FR.out Tryd.underlying30 rfl (sH HR.out) ?_
              simp only [Act.put, List.setIfInBounds_toArray, List.set_cons_zero, List.set_cons_succ]
              go_big_quiet_on)
           | (go_big_quiet_op
              go_big_quiet_on)))
      refine wpQuiet_nil ?_
      refine lone_do (i := 8) 21 rfl (by kernel_rfl) rfl (by rfl) ?_
      intro K hK
      refine oper_calls 18 _ _ rfl #[.agg (nums .u8 x).toArray, .int .i64 (k : Int), .int .i64 (n : Int), .agg #[(.slice (some ⟨g, 0, none⟩) pl.length pl.length)], .agg (nums .u8 r).toArray] (by rw [List.map_toArray]; rfl) (enters Tryd.func18 (by kernel_rfl) rfl) (fun v w' => v = .bool V ∧ Below y0.heap.size y0 w') (by have K := verify_any x r HX.out HR.out (k : Int) (n : Int) (some ⟨g, 0, none⟩) pl.length pq HPq.out y0 (FG.out _ C0.out); rw [HV.out, lq.out] at K; exact K.mono (by rintro e w' ⟨rfl, g⟩; exact ⟨_, rfl, rfl, g⟩)) ?_
      rintro v y1 ⟨rfl, Z1⟩
      have C1 : Hid (C y1) := CK.out _ _ C0.out Z1
      clear Z1
      refine hK _ _ (C1.out) ?_
      clear hK K
      simp only [Act.put, List.setIfInBounds_toArray, List.set_cons_zero, List.set_cons_succ]
      refine lone_do (i := 17) 20 rfl (by kernel_rfl) rfl (by rfl) ?_
      intro K hK
      refine oper_calls 20 _ _ rfl #[.agg (nums .u8 x).toArray, .int .i64 (k : Int), .int .i64 (n : Int), .agg #[(.slice (some ⟨g, 0, none⟩) pl.length pl.length)], .agg (nums .u8 r).toArray] (by rw [List.map_toArray]; rfl) (enters Tryd.func20 (by kernel_rfl) rfl) (fun v w' => v = .bool V ∧ Below y1.heap.size y1 w') (by have K := rverify_any x r HX.out HR.out (k : Int) (n : Int) (some ⟨g, 0, none⟩) pl.length pq HPq.out (by rw [lq.out]; omega) (by rw [lq.out]; omega) y1 (FG.out _ C1.out); rw [HV.out, lq.out] at K; exact K.mono (by rintro e w' ⟨rfl, g⟩; exact ⟨_, rfl, rfl, g⟩)) ?_
      rintro v y2 ⟨rfl, Z2⟩
      have C2 : Hid (C y2) := CK.out _ _ C1.out Z2
      clear Z2
      refine hK _ _ (C2.out) ?_
      clear hK K
      simp only [Act.put, List.setIfInBounds_toArray, List.set_cons_zero, List.set_cons_succ]
      refine lone_calm (i := 18) 19 rfl (by kernel_rfl) rfl rfl (C2.out) ?_
      repeat (first
        | go_big_quiet_skip
        | (go_big_quiet_want
           first
           | (go_big_quiet_op
              go_big_quiet_on)))
      refine wpQuiet_nil ?_
      refine lone_calm (i := 19) 18 rfl (by kernel_rfl) rfl rfl (C2.out) ?_
      repeat (first
        | go_big_quiet_skip
        | (go_big_quiet_want
           first
           | (go_big_quiet_op
              go_big_quiet_on)))
      refine wpQuiet_nil ?_
      refine seg 8 [20, 21, 22, 23, 24, 26, 27, 28, 29, 30] rfl (by kernel_rfl) whole_blind (C2.out) (by kernel_rfl) ?_
      change wpQuiet _ _ _ _ (_ :: _ :: _ :: _ :: _ :: _ :: _ :: _ :: _ :: _ :: []) _
      repeat (first
        | go_big_quiet_skip
        | (go_big_quiet_want
           first
           | (refine q_load 37 (.tmp 21) rfl gc 0 rfl [(.slice (some ⟨gk, 0, none⟩) cl.length cc)] _ FC.out Tryd.underlying37 rfl (by kernel_rfl) ?_
              simp only [Act.put, List.setIfInBounds_toArray, List.set_cons_zero, List.set_cons_succ]
              go_big_quiet_on)
           | (refine q_load 30 (.tmp 17) rfl go 0 rfl (nums .u8 o) _ FO.out Tryd.underlying30 rfl (sH HO.out) ?_
              simp only [Act.put, List.setIfInBounds_toArray, List.set_cons_zero, List.set_cons_succ]
              go_big_quiet_on)
           | (refine q_load 30 (.tmp 15) rfl gr 0 rfl (nums .u8 r) _ FR.out Tryd.underlying30 rfl (sH HR.out) ?_
              simp only [Act.put, List.setIfInBounds_toArray, List.set_cons_zero, List.set_cons_succ]
              go_big_quiet_on)
           | (go_big_quiet_op
              go_big_quiet_on)))
      refine wpQuiet_nil ?_
      refine lone_do (i := 25) 7 rfl (by kernel_rfl) rfl (by rfl) ?_
      intro K hK
      refine oper_calls 19 _ _ rfl #[.int .i64 (m : Int), .int .i64 (n : Int), .agg #[(.slice (some ⟨gk, 0, none⟩) cl.length cc)], .agg (nums .u8 o).toArray, .agg (nums .u8 r).toArray] (by rw [List.map_toArray]; rfl) (enters Tryd.func19 (by kernel_rfl) rfl) (fun v w' => v = .bool U ∧ Below y2.heap.size y2 w') (by have K := vcons_any (m : Int) (n : Int) (some ⟨gk, 0, none⟩) cc cq HCq.out (by rw [lc.out]; omega) o r HO.out HR.out y2 (FT.out _ C2.out) (FH.out _ C2.out); rw [HU.out, lc.out] at K; exact K.mono (by rintro e w' ⟨rfl, g⟩; exact ⟨_, rfl, rfl, g⟩)) ?_
      rintro v y3 ⟨rfl, Z3⟩
      have C3 : Hid (C y3) := CK.out _ _ C2.out Z3
      clear Z3
      refine hK _ _ (C3.out) ?_
      clear hK K
      simp only [Act.put, List.setIfInBounds_toArray, List.set_cons_zero, List.set_cons_succ]
      refine lone_do (i := 31) 6 rfl (by kernel_rfl) rfl (by rfl) ?_
      intro K hK
      refine oper_calls 21 _ _ rfl #[.int .i64 (m : Int), .int .i64 (n : Int), .agg #[(.slice (some ⟨gk, 0, none⟩) cl.length cc)], .agg (nums .u8 o).toArray, .agg (nums .u8 r).toArray] (by rw [List.map_toArray]; rfl) (enters Tryd.func21 (by kernel_rfl) rfl) (fun v w' => v = .bool U ∧ Below y3.heap.size y3 w') (by have K := rvcons_any (m : Int) (n : Int) (some ⟨gk, 0, none⟩) cc cq HCq.out (by rw [lc.out]; omega) (by rw [lc.out]; omega) o r HO.out HR.out y3 (FH.out _ C3.out); rw [HU.out, lc.out] at K; exact K.mono (by rintro e w' ⟨rfl, g⟩; exact ⟨_, rfl, rfl, g⟩)) ?_
      rintro v y4 ⟨rfl, Z4⟩
      have C4 : Hid (C y4) := CK.out _ _ C3.out Z4
      clear Z4
      refine hK _ _ (C4.out) ?_
      clear hK K
      simp only [Act.put, List.setIfInBounds_toArray, List.set_cons_zero, List.set_cons_succ]
      refine lone_calm (i := 32) 5 rfl (by kernel_rfl) rfl rfl (C4.out) ?_
      repeat (first
        | go_big_quiet_skip
        | (go_big_quiet_want
           first
           | (go_big_quiet_op
              go_big_quiet_on)))
      refine wpQuiet_nil ?_
      refine lone_calm (i := 33) 4 rfl (by kernel_rfl) rfl rfl (C4.out) ?_
      repeat (first
        | go_big_quiet_skip
        | (go_big_quiet_want
           first
           | (go_big_quiet_op
              go_big_quiet_on)))
      refine wpQuiet_nil ?_
      refine lone_calm (i := 34) 3 rfl (by kernel_rfl) rfl rfl (C4.out) ?_
      repeat (first
        | go_big_quiet_skip
        | (go_big_quiet_want
           first
           | (go_big_quiet_op
              go_big_quiet_on)))
      refine wpQuiet_nil ?_
      refine lone_do (i := 35) 2 rfl (by kernel_rfl) rfl (by rfl) ?_
      intro K hK
      refine oper_calls 17 _ _ rfl #[] (by rw [List.map_toArray]; rfl) (enters Tryd.func17 (by kernel_rfl) rfl) (fun v w' => v = .bool true ∧ Below y4.heap.size y4 w') (by have K := known_any y4 (FT.out _ C4.out); exact K.mono (by rintro e w' ⟨rfl, g⟩; exact ⟨_, rfl, rfl, g⟩)) ?_
      rintro v y5 ⟨rfl, Z5⟩
      have C5 : Hid (C y5) := CK.out _ _ C4.out Z5
      clear Z5
      refine hK _ _ (C5.out) ?_
      clear hK K
      simp only [Act.put, List.setIfInBounds_toArray, List.set_cons_zero, List.set_cons_succ]
      refine lone_calm (i := 36) 1 rfl (by kernel_rfl) rfl rfl (C5.out) ?_
      repeat (first
        | go_big_quiet_skip
        | (go_big_quiet_want
           first
           | (go_big_quiet_op
              go_big_quiet_on)))
      refine wpQuiet_nil ?_
      refine lone_calm (i := 37) 0 rfl (by kernel_rfl) rfl rfl (C5.out) ?_
      repeat (first
        | go_big_quiet_skip
        | (go_big_quiet_want
           first
           | (go_big_quiet_op
              go_big_quiet_on)))
      refine wpQuiet_nil ?_
      refine anyC_done (by kernel_rfl) ⟨rfl, ?_⟩
      have ZE := ZZ.trans ((CE.out _ C5.out).mono ZZ.size)
      clear C0 C1 C2 C3 C4 C5 CK CA CE FL FR FO FP FC FG FH FT hCp
      go_wp2
      go_ret
      exact ⟨rfl, ZE⟩
    · have h0' : ¬ (0 : Int) < (cl.length : Int) := by omega
      obtain ⟨cq, ecq⟩ : ∃ cq, cq = cl := ⟨_, rfl⟩
      have HCq : Hid (Hl cq) := by rw [ecq]; exact HCl
      have lc : Hid (cq.length = cl.length) := by show _ = _; rw [ecq]
      rw [← ecq] at WC
      clear ecq
      have EG : Hid (ES (nums .u8) 32 w21 (some ⟨g, 0, none⟩) pq) := es_blk HPq.out BG
      have EC : Hid (ES (nums .u8) 32 w21 ac cq) := WC.es HCq.out
      have ZZ := ZZ.trans (Y.mono ZZ.size)
      have RL := range_below HRL.out ZZ
      obtain ⟨V, HV⟩ : ∃ V, Hid (vf x (k : Int) (n : Int) pq r = V) := ⟨_, rfl⟩
      obtain ⟨U, HU⟩ : ∃ U, Hid (vcA (m : Int) (n : Int) cq o r = U) := ⟨_, rfl⟩
      clear Y T1 BG WC HK
      go_wp2_with fail
      obtain ⟨C, hC⟩ : ∃ C : World → Prop, C = fun W => Below w21.heap.size w21 W := ⟨_, rfl⟩
      have FL : Hid (∀ W, C W → W.rangeAt b (off + k * 32) (nums .u8 x)) := fun W hW => by rw [hC] at hW; exact range_below RL hW
      have FR : Hid (∀ W, C W → W.rangeAt gr 0 (nums .u8 r)) := fun W hW => by rw [hC] at hW; exact (BR.below hW BR.lt).all
      have FO : Hid (∀ W, C W → W.rangeAt go 0 (nums .u8 o)) := fun W hW => by rw [hC] at hW; exact (BO.below hW BO.lt).all
      have FP : Hid (∀ W, C W → W.rangeAt gp 0 [(.slice (some ⟨g, 0, none⟩) pl.length pl.length)]) := fun W hW => by rw [hC] at hW; exact (BP.below hW BP.lt).all
      have FC : Hid (∀ W, C W → W.rangeAt gc 0 [(.slice ac cl.length cc)]) := fun W hW => by rw [hC] at hW; exact (BC.below hW BC.lt).all
      have FG : Hid (∀ W, C W → ES (nums .u8) 32 W (some ⟨g, 0, none⟩) pq) := fun W hW => by rw [hC] at hW; exact EG.out.below hW
      have FH : Hid (∀ W, C W → ES (nums .u8) 32 W ac cq) := fun W hW => by rw [hC] at hW; exact EC.out.below hW
      have FT : Hid (∀ W, C W → Tb W) := fun W hW => by rw [hC] at hW; exact (HTb.out.grow (ZZ.trans (hW.mono ZZ.size)))
      have CK : Hid (∀ W W', C W → Below W.heap.size W W' → C W') := fun W W' h1 h2 => by rw [hC] at h1 ⊢; exact h1.trans (h2.mono h1.size)
      have CA : Hid (∀ W W', C W → Below w21.heap.size W W' → C W') := fun W W' h1 h2 => by rw [hC] at h1 ⊢; exact h1.trans h2
      have CE : Hid (∀ W, C W → Below w21.heap.size w21 W) := fun W h => by rw [hC] at h; exact h
      have C0 : Hid (C { w21 with drawn := w21.drawn + 1 }) := by rw [hC]; exact Below.drew (Below.refl _ _)
      clear hC
      clear BR BO BP BC RL EG EC
      refine region_calm C 37 (by kernel_rfl) ?_
      have hCp : ∀ p : Prop, (∀ W, C W → p) ↔ p := fun p => ⟨fun h => h _ C0.out, fun h _ _ => h⟩
      generalize ({ w21 with drawn := w21.drawn + 1 } : World) = y0 at *
      refine seg 22 [0, 1, 2, 3, 4, 5, 6, 7, 9, 10, 11, 12, 13, 14, 15, 16] rfl (by kernel_rfl) whole_blind (C0.out) (by kernel_rfl) ?_
      change wpQuiet _ _ _ _ (_ :: _ :: _ :: _ :: _ :: _ :: _ :: _ :: _ :: _ :: _ :: _ :: _ :: _ :: _ :: _ :: []) _
      repeat (first
        | go_big_quiet_skip
        | (go_big_quiet_want
           first
           | (refine q_load 30 (.tmp 134) rfl b (off + k * 32) rfl (nums .u8 x) _ FL.out Tryd.underlying30 rfl (sH HX.out) ?_
              simp only [Act.put, List.setIfInBounds_toArray, List.set_cons_zero, List.set_cons_succ]
              go_big_quiet_on)
           | (refine q_load 30 (.tmp 143) rfl b (off + k * 32) rfl (nums .u8 x) _ FL.out Tryd.underlying30 rfl (sH HX.out) ?_
              simp only [Act.put, List.setIfInBounds_toArray, List.set_cons_zero, List.set_cons_succ]
              go_big_quiet_on)
           | (refine q_load 37 (.tmp 19) rfl gp 0 rfl [(.slice (some ⟨g, 0, none⟩) pl.length pl.length)] _ FP.out Tryd.underlying37 rfl (by kernel_rfl) ?_
              simp only [Act.put, List.setIfInBounds_toArray, List.set_cons_zero, List.set_cons_succ]
              go_big_quiet_on)
           | (refine q_load 30 (.tmp 15) rfl gr 0 rfl (nums .u8 r) _ FR.out Tryd.underlying30 rfl (sH HR.out) ?_
              simp only [Act.put, List.setIfInBounds_toArray, List.set_cons_zero, List.set_cons_succ]
              go_big_quiet_on)
           | (go_big_quiet_op
              go_big_quiet_on)))
      refine wpQuiet_nil ?_
      refine lone_do (i := 8) 21 rfl (by kernel_rfl) rfl (by rfl) ?_
      intro K hK
      refine oper_calls 18 _ _ rfl #[.agg (nums .u8 x).toArray, .int .i64 (k : Int), .int .i64 (n : Int), .agg #[(.slice (some ⟨g, 0, none⟩) pl.length pl.length)], .agg (nums .u8 r).toArray] (by rw [List.map_toArray]; rfl) (enters Tryd.func18 (by kernel_rfl) rfl) (fun v w' => v = .bool V ∧ Below y0.heap.size y0 w') (by have K := verify_any x r HX.out HR.out (k : Int) (n : Int) (some ⟨g, 0, none⟩) pl.length pq HPq.out y0 (FG.out _ C0.out); rw [HV.out, lq.out] at K; exact K.mono (by rintro e w' ⟨rfl, g⟩; exact ⟨_, rfl, rfl, g⟩)) ?_
      rintro v y1 ⟨rfl, Z1⟩
      have C1 : Hid (C y1) := CK.out _ _ C0.out Z1
      clear Z1
      refine hK _ _ (C1.out) ?_
      clear hK K
      simp only [Act.put, List.setIfInBounds_toArray, List.set_cons_zero, List.set_cons_succ]
      refine lone_do (i := 17) 20 rfl (by kernel_rfl) rfl (by rfl) ?_
      intro K hK
      refine oper_calls 20 _ _ rfl #[.agg (nums .u8 x).toArray, .int .i64 (k : Int), .int .i64 (n : Int), .agg #[(.slice (some ⟨g, 0, none⟩) pl.length pl.length)], .agg (nums .u8 r).toArray] (by rw [List.map_toArray]; rfl) (enters Tryd.func20 (by kernel_rfl) rfl) (fun v w' => v = .bool V ∧ Below y1.heap.size y1 w') (by have K := rverify_any x r HX.out HR.out (k : Int) (n : Int) (some ⟨g, 0, none⟩) pl.length pq HPq.out (by rw [lq.out]; omega) (by rw [lq.out]; omega) y1 (FG.out _ C1.out); rw [HV.out, lq.out] at K; exact K.mono (by rintro e w' ⟨rfl, g⟩; exact ⟨_, rfl, rfl, g⟩)) ?_
      rintro v y2 ⟨rfl, Z2⟩
      have C2 : Hid (C y2) := CK.out _ _ C1.out Z2
      clear Z2
      refine hK _ _ (C2.out) ?_
      clear hK K
      simp only [Act.put, List.setIfInBounds_toArray, List.set_cons_zero, List.set_cons_succ]
      refine lone_calm (i := 18) 19 rfl (by kernel_rfl) rfl rfl (C2.out) ?_
      repeat (first
        | go_big_quiet_skip
        | (go_big_quiet_want
           first
           | (go_big_quiet_op
              go_big_quiet_on)))
      refine wpQuiet_nil ?_
      refine lone_calm (i := 19) 18 rfl (by kernel_rfl) rfl rfl (C2.out) ?_
      repeat (first
        | go_big_quiet_skip
        | (go_big_quiet_want
           first
           | (go_big_quiet_op
              go_big_quiet_on)))
      refine wpQuiet_nil ?_
      refine seg 8 [20, 21, 22, 23, 24, 26, 27, 28, 29, 30] rfl (by kernel_rfl) whole_blind (C2.out) (by kernel_rfl) ?_
      change wpQuiet _ _ _ _ (_ :: _ :: _ :: _ :: _ :: _ :: _ :: _ :: _ :: _ :: []) _
      repeat (first
        | go_big_quiet_skip
        | (go_big_quiet_want
           first
           | (refine q_load 37 (.tmp 21) rfl gc 0 rfl [(.slice ac cl.length cc)] _ FC.out Tryd.underlying37 rfl (by kernel_rfl) ?_
              simp only [Act.put, List.setIfInBounds_toArray, List.set_cons_zero, List.set_cons_succ]
              go_big_quiet_on)
           | (refine q_load 30 (.tmp 17) rfl go 0 rfl (nums .u8 o) _ FO.out Tryd.underlying30 rfl (sH HO.out) ?_
              simp only [Act.put, List.setIfInBounds_toArray, List.set_cons_zero, List.set_cons_succ]
              go_big_quiet_on)
           | (refine q_load 30 (.tmp 15) rfl gr 0 rfl (nums .u8 r) _ FR.out Tryd.underlying30 rfl (sH HR.out) ?_
              simp only [Act.put, List.setIfInBounds_toArray, List.set_cons_zero, List.set_cons_succ]
              go_big_quiet_on)
           | (go_big_quiet_op
              go_big_quiet_on)))
      refine wpQuiet_nil ?_
      refine lone_do (i := 25) 7 rfl (by kernel_rfl) rfl (by rfl) ?_
      intro K hK
      refine oper_calls 19 _ _ rfl #[.int .i64 (m : Int), .int .i64 (n : Int), .agg #[(.slice ac cl.length cc)], .agg (nums .u8 o).toArray, .agg (nums .u8 r).toArray] (by rw [List.map_toArray]; rfl) (enters Tryd.func19 (by kernel_rfl) rfl) (fun v w' => v = .bool U ∧ Below y2.heap.size y2 w') (by have K := vcons_any (m : Int) (n : Int) ac cc cq HCq.out (by rw [lc.out]; omega) o r HO.out HR.out y2 (FT.out _ C2.out) (FH.out _ C2.out); rw [HU.out, lc.out] at K; exact K.mono (by rintro e w' ⟨rfl, g⟩; exact ⟨_, rfl, rfl, g⟩)) ?_
      rintro v y3 ⟨rfl, Z3⟩
      have C3 : Hid (C y3) := CK.out _ _ C2.out Z3
      clear Z3
      refine hK _ _ (C3.out) ?_
      clear hK K
      simp only [Act.put, List.setIfInBounds_toArray, List.set_cons_zero, List.set_cons_succ]
      refine lone_do (i := 31) 6 rfl (by kernel_rfl) rfl (by rfl) ?_
      intro K hK
      refine oper_calls 21 _ _ rfl #[.int .i64 (m : Int), .int .i64 (n : Int), .agg #[(.slice ac cl.length cc)], .agg (nums .u8 o).toArray, .agg (nums .u8 r).toArray] (by rw [List.map_toArray]; rfl) (enters Tryd.func21 (by kernel_rfl) rfl) (fun v w' => v = .bool U ∧ Below y3.heap.size y3 w') (by have K := rvcons_any (m : Int) (n : Int) ac cc cq HCq.out (by rw [lc.out]; omega) (by rw [lc.out]; omega) o r HO.out HR.out y3 (FH.out _ C3.out); rw [HU.out, lc.out] at K; exact K.mono (by rintro e w' ⟨rfl, g⟩; exact ⟨_, rfl, rfl, g⟩)) ?_
      rintro v y4 ⟨rfl, Z4⟩
      have C4 : Hid (C y4) := CK.out _ _ C3.out Z4
      clear Z4
      refine hK _ _ (C4.out) ?_
      clear hK K
      simp only [Act.put, List.setIfInBounds_toArray, List.set_cons_zero, List.set_cons_succ]
      refine lone_calm (i := 32) 5 rfl (by kernel_rfl) rfl rfl (C4.out) ?_
      repeat (first
        | go_big_quiet_skip
        | (go_big_quiet_want
           first
           | (go_big_quiet_op
              go_big_quiet_on)))
      refine wpQuiet_nil ?_
      refine lone_calm (i := 33) 4 rfl (by kernel_rfl) rfl rfl (C4.out) ?_
      repeat (first
        | go_big_quiet_skip
        | (go_big_quiet_want
           first
           | (go_big_quiet_op
              go_big_quiet_on)))
      refine wpQuiet_nil ?_
      refine lone_calm (i := 34) 3 rfl (by kernel_rfl) rfl rfl (C4.out) ?_
      repeat (first
        | go_big_quiet_skip
        | (go_big_quiet_want
           first
           | (go_big_quiet_op
              go_big_quiet_on)))
      refine wpQuiet_nil ?_
      refine lone_do (i := 35) 2 rfl (by kernel_rfl) rfl (by rfl) ?_
      intro K hK
      refine oper_calls 17 _ _ rfl #[] (by rw [List.map_toArray]; rfl) (enters Tryd.func17 (by kernel_rfl) rfl) (fun v w' => v = .bool true ∧ Below y4.heap.size y4 w') (by have K := known_any y4 (FT.out _ C4.out); exact K.mono (by rintro e w' ⟨rfl, g⟩; exact ⟨_, rfl, rfl, g⟩)) ?_
      rintro v y5 ⟨rfl, Z5⟩
      have C5 : Hid (C y5) := CK.out _ _ C4.out Z5
      clear Z5
      refine hK _ _ (C5.out) ?_
      clear hK K
      simp only [Act.put, List.setIfInBounds_toArray, List.set_cons_zero, List.set_cons_succ]
      refine lone_calm (i := 36) 1 rfl (by kernel_rfl) rfl rfl (C5.out) ?_
      repeat (first
        | go_big_quiet_skip
        | (go_big_quiet_want
           first
           | (go_big_quiet_op
              go_big_quiet_on)))
      refine wpQuiet_nil ?_
      refine lone_calm (i := 37) 0 rfl (by kernel_rfl) rfl rfl (C5.out) ?_
      repeat (first
        | go_big_quiet_skip
        | (go_big_quiet_want
           first
           | (go_big_quiet_op
              go_big_quiet_on)))
      refine wpQuiet_nil ?_
      refine anyC_done (by kernel_rfl) ⟨rfl, ?_⟩
      have ZE := ZZ.trans ((CE.out _ C5.out).mono ZZ.size)
      clear C0 C1 C2 C3 C4 C5 CK CA CE FL FR FO FP FC FG FH FT hCp
      go_wp2
      go_ret
      exact ⟨rfl, ZE⟩
  · have h0' : ¬ (0 : Int) < (pl.length : Int) := by omega
    obtain ⟨pq, epq⟩ : ∃ pq, pq = pl := ⟨_, rfl⟩
    have HPq : Hid (Hl pq) := by rw [epq]; exact HPl
    have lq : Hid (pq.length = pl.length) := by show _ = _; rw [epq]
    have BG : Blk w20 g 30 (pq.flatMap (nums .u8)) := by rw [epq]; exact BG
    clear epq h0
    have cC : w20.cell? ⟨gc, 0, none⟩ = some (.slice ac cl.length cc) := by rw [BC.cell]; rfl
    by_cases h0 : 0 < cl.length
    · have h0' : (0 : Int) < (cl.length : Int) := by omega
      have hcn : cl ≠ [] := by intro e; rw [e] at h0; exact absurd h0 (by simp)
      obtain ⟨gk, hac, hgk, BM⟩ : ∃ gk, ac = some ⟨gk, 0, none⟩ ∧ w7.heap.size ≤ gk ∧ Blk w20 gk 30 (cl.flatMap (nums .u8)) := WC.resolve_left hcn
      subst hac
      have krc : gr ≠ gk := ngrc _ hcn rfl
      have koc : go ≠ gk := ngoc _ hcn rfl
      have kgc : g ≠ gk := ngc _ hcn rfl
      have kpc : gp ≠ gk := ngpc _ hcn rfl
      have kcc : gc ≠ gk := (WN _ hcn rfl).symm
      have hgk1 : w1.heap.size ≤ gk := Nat.le_trans hY7 hgk
      obtain ⟨s, es⟩ : ∃ s : Nat, z % 1024 = (s : Int) := ⟨(z % 1024).toNat, by omega⟩
      have e1 : bits .and .i64 z 1023 = (s : Int) := by rw [and_1023, es]
      obtain ⟨j, ej⟩ : ∃ j : Nat, Hid (j = s % cl.length) := ⟨_, rfl⟩
      have hj : j < cl.length := by rw [ej.out]; exact Nat.mod_lt _ h0
      have e2 : (s : Int) % (cl.length : Int) = (j : Int) := by rw [ej.out]; rfl
      have e2' : (s : Int).tmod (cl.length : Int) = (j : Int) := by rw [Int.tmod_eq_emod_of_nonneg (by omega), e2]
      obtain ⟨c, hc⟩ : ∃ c : Nat, (z / 1024) % 32 = (c : Int) := ⟨((z / 1024) % 32).toNat, by omega⟩
      have hc32 : c < 32 := by omega
      have e3 : bits .and .i64 (z / 1024) 31 = (c : Int) := by rw [and_31, hc]
      obtain ⟨y, hy⟩ : ∃ y, cl[j]? = some y := ⟨_, List.getElem?_eq_getElem hj⟩
      have HY : Hid (Hh y) := HCl.out.at hy
      obtain ⟨xc, hxc⟩ : ∃ xc, y[c]? = some xc := ⟨_, List.getElem?_eq_getElem (by rw [HY.out.1]; exact hc32)⟩
      have hxc1 : xc < 256 := HY.out.2 xc (List.mem_of_getElem? hxc)
      obtain ⟨xv, hxv⟩ : ∃ xv : Nat, Hid (xv = xc ^^^ v) := ⟨_, rfl⟩
      have hxv1 : xv < 256 := by rw [hxv.out]; exact Nat.xor_lt_two_pow (n := 8) hxc1 hv
      have e4 : bits .xor .u8 (xc : Int) (v : Int) = (xv : Int) := by rw [u8_xor_nat _ _ hxc1 hv, hxv.out]
      have HXC : Hid ((cl.flatMap (nums .u8))[j * 32 + c]? = some (.int .u8 (xc : Int))) := flat_at (fun q hq => by rw [nums_length]; exact (HCl.out q hq).1) j y hy c _ (by unfold nums; rw [List.getElem?_map, hxc]; rfl)
      have HJC : Hid (j * 32 + c < (cl.flatMap (nums .u8)).length) := by show _ < _; rw [flat_len (n := 32) (fun q hq => by rw [nums_length]; exact (HCl.out q hq).1)]; omega
      have HFS : Hid ((cl.flatMap (nums .u8)).set (j * 32 + c) (.int .u8 (xv : Int)) = (cl.set j (y.set c xv)).flatMap (nums .u8)) := flat_set cl j c xv y HCl.out hy hc32
      have HHS : Hid (Hl (cl.set j (y.set c xv))) := hl_set HCl.out hy hxv1
      clear es ej hc hxc hxv hy
      clear WC WN WX ngrc ngoc ngc ngpc
      go_wp2_with fail
      obtain ⟨C, hC⟩ : ∃ C : World → Prop, C = fun W => Below w20.heap.size w20 W := ⟨_, rfl⟩
      have FS : Hid (∀ W, C W → W.cell? ⟨gc, 0, none⟩ = some (.slice (some ⟨gk, 0, none⟩) cl.length cc)) := fun W hW => by rw [hC] at hW; exact by rw [(BC.below hW BC.lt).cell]; rfl
      have FV : Hid (∀ W, C W → W.cell? ⟨gk, j * 32 + c, none⟩ = some (.int .u8 (xc : Int))) := fun W hW => by rw [hC] at hW; exact by rw [(BM.below hW BM.lt).cell]; exact HXC.out
      have FM : Hid (∀ W, C W → Blk W gk 30 (cl.flatMap (nums .u8))) := fun W hW => by rw [hC] at hW; exact BM.below hW BM.lt
      have CK : Hid (∀ W W', C W → Below W.heap.size W W' → C W') := fun W W' h1 h2 => by rw [hC] at h1 ⊢; exact h1.trans (h2.mono h1.size)
      have CA : Hid (∀ W W', C W → Below w20.heap.size W W' → C W') := fun W W' h1 h2 => by rw [hC] at h1 ⊢; exact h1.trans h2
      have CE : Hid (∀ W, C W → Below w20.heap.size w20 W) := fun W h => by rw [hC] at h; exact h
      have C0 : Hid (C { w20 with drawn := w20.drawn + 1 }) := by rw [hC]; exact Below.drew (Below.refl _ _)
      clear hC
      refine region_calm C 18 (by kernel_rfl) ?_
      have hCp : ∀ p : Prop, (∀ W, C W → p) ↔ p := fun p => ⟨fun h => h _ C0.out, fun h _ _ => h⟩
      generalize ({ w20 with drawn := w20.drawn + 1 } : World) = y0 at *
      refine seg 13 [0, 1, 2, 3, 4, 5] rfl (by kernel_rfl) whole_blind (C0.out) (by kernel_rfl) ?_
      change wpQuiet _ _ _ _ (_ :: _ :: _ :: _ :: _ :: _ :: []) _
      repeat (first
        | go_big_quiet_skip
        | (go_big_quiet_want
           first
           | (refine q_slc (.tmp 114) rfl gc 0 rfl _ _ _ FS.out ?_
              simp only [Act.put, List.setIfInBounds_toArray, List.set_cons_zero, List.set_cons_succ]
              go_big_quiet_on)
           | (refine q_slc (.tmp 118) rfl gc 0 rfl _ _ _ FS.out ?_
              simp only [Act.put, List.setIfInBounds_toArray, List.set_cons_zero, List.set_cons_succ]
              go_big_quiet_on)
           | (go_big_quiet_op
              go_big_quiet_on)))
      refine wpQuiet_nil ?_
      refine len_first (i := 6) 12 rfl (by kernel_rfl) whole_blind (C0.out) (by kernel_rfl) rfl (by rfl) (.tmp 119) 22 rfl 30 Tryd.underlying22 _ cl.length _ rfl ?_
      simp only [Act.put, List.setIfInBounds_toArray, List.set_cons_zero, List.set_cons_succ]
      refine seg 3 [7, 8, 9, 10, 11, 12, 13, 14, 15] rfl (by kernel_rfl) whole_blind (C0.out) (by kernel_rfl) ?_
      change wpQuiet _ _ _ _ (_ :: _ :: _ :: _ :: _ :: _ :: _ :: _ :: _ :: []) _
      repeat (first
        | go_big_quiet_skip
        | (go_big_quiet_want
           first
           | (refine q_u8 (.tmp 126) rfl gk (j * 32 + c) rfl (xc : Int) FV.out ?_
              simp only [Act.put, List.setIfInBounds_toArray, List.set_cons_zero, List.set_cons_succ]
              go_big_quiet_on)
           | (go_big_quiet_op
              go_big_quiet_on)))
      refine wpQuiet_nil ?_
      refine lone_calm (i := 16) 2 rfl (by kernel_rfl) rfl rfl (C0.out) ?_
      repeat (first
        | go_big_quiet_skip
        | (go_big_quiet_want
           first
           | (go_big_quiet_op
              go_big_quiet_on)))
      refine wpQuiet_nil ?_
      refine lone_calm (i := 17) 1 rfl (by kernel_rfl) rfl rfl (C0.out) ?_
      repeat (first
        | go_big_quiet_skip
        | (go_big_quiet_want
           first
           | (go_big_quiet_op
              go_big_quiet_on)))
      refine wpQuiet_nil ?_
      refine lone_last (i := 18) 0 rfl rfl (by kernel_rfl) rfl (by rfl) ?_
      intro K hK
      refine oper_st1 5 (.tmp 131) (.tmp 129) rfl gk (j * 32 + c) 30 (cl.flatMap (nums .u8)) (.int .u8 (xv : Int)) rfl rfl rfl rfl HJC.out (FM.out _ C0.out) (by kernel_rfl) ?_
      intro w21 BM GM
      refine hK _ _ ?_
      clear hK K
      refine anyC_done (by kernel_rfl) ⟨rfl, ?_⟩
      simp only [Act.put]
      obtain ⟨cq, ecq⟩ : ∃ cq, Hid (cq = cl.set j (y.set c xv)) := ⟨_, rfl⟩
      have HCq : Hid (Hl cq) := by show Hl cq; rw [ecq.out]; exact HHS.out
      have lc : Hid (cq.length = cl.length) := by show _ = _; rw [ecq.out, List.length_set]
      have BM : Blk w21 gk 30 (cq.flatMap (nums .u8)) := by rw [ecq.out, ← HFS.out]; exact BM
      have E0 := CE.out _ C0.out
      have BR := (BR.below E0 BR.lt).kept GM (fun e => krc (Option.some.inj e))
      have BO := (BO.below E0 BO.lt).kept GM (fun e => koc (Option.some.inj e))
      have BP := (BP.below E0 BP.lt).kept GM (fun e => kpc (Option.some.inj e))
      have BC := (BC.below E0 BC.lt).kept GM (fun e => kcc (Option.some.inj e))
      have BG := (BG.below E0 BG.lt).kept GM (fun e => kgc (Option.some.inj e))
      have Y := Y.trans (E0.mono Y.size)
      have Y := grown_below Y GM Y.size hgk1
      have WC : Wr w21 w7.heap.size (some ⟨gk, 0, none⟩) cq := .inr ⟨gk, rfl, hgk, BM⟩
      clear BM GM E0
      clear C0 CK CA CE FS FV FM hCp HFS HHS HJC HXC HY e1 e2 e2' e3 e4
      clear cC
      have EG : Hid (ES (nums .u8) 32 w21 (some ⟨g, 0, none⟩) pq) := es_blk HPq.out BG
      have EC : Hid (ES (nums .u8) 32 w21 (some ⟨gk, 0, none⟩) cq) := WC.es HCq.out
      have ZZ := ZZ.trans (Y.mono ZZ.size)
      have RL := range_below HRL.out ZZ
      obtain ⟨V, HV⟩ : ∃ V, Hid (vf x (k : Int) (n : Int) pq r = V) := ⟨_, rfl⟩
      obtain ⟨U, HU⟩ : ∃ U, Hid (vcA (m : Int) (n : Int) cq o r = U) := ⟨_, rfl⟩
      clear Y T1 BG WC HK
      go_wp2_with fail
      obtain ⟨C, hC⟩ : ∃ C : World → Prop, C = fun W => Below w21.heap.size w21 W := ⟨_, rfl⟩
      have FL : Hid (∀ W, C W → W.rangeAt b (off + k * 32) (nums .u8 x)) := fun W hW => by rw [hC] at hW; exact range_below RL hW
      have FR : Hid (∀ W, C W → W.rangeAt gr 0 (nums .u8 r)) := fun W hW => by rw [hC] at hW; exact (BR.below hW BR.lt).all
      have FO : Hid (∀ W, C W → W.rangeAt go 0 (nums .u8 o)) := fun W hW => by rw [hC] at hW; exact (BO.below hW BO.lt).all
      have FP : Hid (∀ W, C W → W.rangeAt gp 0 [(.slice (some ⟨g, 0, none⟩) pl.length pl.length)]) := fun W hW => by rw [hC] at hW; exact (BP.below hW BP.lt).all
      have FC : Hid (∀ W, C W → W.rangeAt gc 0 [(.slice (some ⟨gk, 0, none⟩) cl.length cc)]) := fun W hW => by rw [hC] at hW; exact (BC.below hW BC.lt).all
      have FG : Hid (∀ W, C W → ES (nums .u8) 32 W (some ⟨g, 0, none⟩) pq) := fun W hW => by rw [hC] at hW; exact EG.out.below hW
      have FH : Hid (∀ W, C W → ES (nums .u8) 32 W (some ⟨gk, 0, none⟩) cq) := fun W hW => by rw [hC] at hW; exact EC.out.below hW
      have FT : Hid (∀ W, C W → Tb W) := fun W hW => by rw [hC] at hW; exact (HTb.out.grow (ZZ.trans (hW.mono ZZ.size)))
      have CK : Hid (∀ W W', C W → Below W.heap.size W W' → C W') := fun W W' h1 h2 => by rw [hC] at h1 ⊢; exact h1.trans (h2.mono h1.size)
      have CA : Hid (∀ W W', C W → Below w21.heap.size W W' → C W') := fun W W' h1 h2 => by rw [hC] at h1 ⊢; exact h1.trans h2
      have CE : Hid (∀ W, C W → Below w21.heap.size w21 W) := fun W h => by rw [hC] at h; exact h
      have C0 : Hid (C { w21 with drawn := w21.drawn + 1 }) := by rw [hC]; exact Below.drew (Below.refl _ _)
      clear hC
      clear BR BO BP BC RL EG EC
      refine region_calm C 37 (by kernel_rfl) ?_
      have hCp : ∀ p : Prop, (∀ W, C W → p) ↔ p := fun p => ⟨fun h => h _ C0.out, fun h _ _ => h⟩
      generalize ({ w21 with drawn := w21.drawn + 1 } : World) = y0 at *
      refine seg 22 [0, 1, 2, 3, 4, 5, 6, 7, 9, 10, 11, 12, 13, 14, 15, 16] rfl (by kernel_rfl) whole_blind (C0.out) (by kernel_rfl) ?_
      change wpQuiet _ _ _ _ (_ :: _ :: _ :: _ :: _ :: _ :: _ :: _ :: _ :: _ :: _ :: _ :: _ :: _ :: _ :: _ :: []) _
      repeat (first
        | go_big_quiet_skip
        | (go_big_quiet_want
           first
           | (refine q_load 30 (.tmp 134) rfl b (off + k * 32) rfl (nums .u8 x) _ FL.out Tryd.underlying30 rfl (sH HX.out) ?_
              simp only [Act.put, List.setIfInBounds_toArray, List.set_cons_zero, List.set_cons_succ]
              go_big_quiet_on)
           | (refine q_load 30 (.tmp 143) rfl b (off + k * 32) rfl (nums .u8 x) _ FL.out Tryd.underlying30 rfl (sH HX.out) ?_
              simp only [Act.put, List.setIfInBounds_toArray, List.set_cons_zero, List.set_cons_succ]
              go_big_quiet_on)
           | (refine q_load 37 (.tmp 19) rfl gp 0 rfl [(.slice (some ⟨g, 0, none⟩) pl.length pl.length)] _ FP.out Tryd.underlying37 rfl (by kernel_rfl) ?_
              simp only [Act.put, List.setIfInBounds_toArray, List.set_cons_zero, List.set_cons_succ]
              go_big_quiet_on)
           | (refine q_load 30 (.tmp 15) rfl gr 0 rfl (nums .u8 r) _ FR.out Tryd.underlying30 rfl (sH HR.out) ?_
              simp only [Act.put, List.setIfInBounds_toArray, List.set_cons_zero, List.set_cons_succ]
              go_big_quiet_on)
           | (go_big_quiet_op
              go_big_quiet_on)))
      refine wpQuiet_nil ?_
      refine lone_do (i := 8) 21 rfl (by kernel_rfl) rfl (by rfl) ?_
      intro K hK
      refine oper_calls 18 _ _ rfl #[.agg (nums .u8 x).toArray, .int .i64 (k : Int), .int .i64 (n : Int), .agg #[(.slice (some ⟨g, 0, none⟩) pl.length pl.length)], .agg (nums .u8 r).toArray] (by rw [List.map_toArray]; rfl) (enters Tryd.func18 (by kernel_rfl) rfl) (fun v w' => v = .bool V ∧ Below y0.heap.size y0 w') (by have K := verify_any x r HX.out HR.out (k : Int) (n : Int) (some ⟨g, 0, none⟩) pl.length pq HPq.out y0 (FG.out _ C0.out); rw [HV.out, lq.out] at K; exact K.mono (by rintro e w' ⟨rfl, g⟩; exact ⟨_, rfl, rfl, g⟩)) ?_
      rintro v y1 ⟨rfl, Z1⟩
      have C1 : Hid (C y1) := CK.out _ _ C0.out Z1
      clear Z1
      refine hK _ _ (C1.out) ?_
      clear hK K
      simp only [Act.put, List.setIfInBounds_toArray, List.set_cons_zero, List.set_cons_succ]
      refine lone_do (i := 17) 20 rfl (by kernel_rfl) rfl (by rfl) ?_
      intro K hK
      refine oper_calls 20 _ _ rfl #[.agg (nums .u8 x).toArray, .int .i64 (k : Int), .int .i64 (n : Int), .agg #[(.slice (some ⟨g, 0, none⟩) pl.length pl.length)], .agg (nums .u8 r).toArray] (by rw [List.map_toArray]; rfl) (enters Tryd.func20 (by kernel_rfl) rfl) (fun v w' => v = .bool V ∧ Below y1.heap.size y1 w') (by have K := rverify_any x r HX.out HR.out (k : Int) (n : Int) (some ⟨g, 0, none⟩) pl.length pq HPq.out (by rw [lq.out]; omega) (by rw [lq.out]; omega) y1 (FG.out _ C1.out); rw [HV.out, lq.out] at K; exact K.mono (by rintro e w' ⟨rfl, g⟩; exact ⟨_, rfl, rfl, g⟩)) ?_
      rintro v y2 ⟨rfl, Z2⟩
      have C2 : Hid (C y2) := CK.out _ _ C1.out Z2
      clear Z2
      refine hK _ _ (C2.out) ?_
      clear hK K
      simp only [Act.put, List.setIfInBounds_toArray, List.set_cons_zero, List.set_cons_succ]
      refine lone_calm (i := 18) 19 rfl (by kernel_rfl) rfl rfl (C2.out) ?_
      repeat (first
        | go_big_quiet_skip
        | (go_big_quiet_want
           first
           | (go_big_quiet_op
              go_big_quiet_on)))
      refine wpQuiet_nil ?_
      refine lone_calm (i := 19) 18 rfl (by kernel_rfl) rfl rfl (C2.out) ?_
      repeat (first
        | go_big_quiet_skip
        | (go_big_quiet_want
           first
           | (go_big_quiet_op
              go_big_quiet_on)))
      refine wpQuiet_nil ?_
      refine seg 8 [20, 21, 22, 23, 24, 26, 27, 28, 29, 30] rfl (by kernel_rfl) whole_blind (C2.out) (by kernel_rfl) ?_
      change wpQuiet _ _ _ _ (_ :: _ :: _ :: _ :: _ :: _ :: _ :: _ :: _ :: _ :: []) _
      repeat (first
        | go_big_quiet_skip
        | (go_big_quiet_want
           first
           | (refine q_load 37 (.tmp 21) rfl gc 0 rfl [(.slice (some ⟨gk, 0, none⟩) cl.length cc)] _ FC.out Tryd.underlying37 rfl (by kernel_rfl) ?_
              simp only [Act.put, List.setIfInBounds_toArray, List.set_cons_zero, List.set_cons_succ]
              go_big_quiet_on)
           | (refine q_load 30 (.tmp 17) rfl go 0 rfl (nums .u8 o) _ FO.out Tryd.underlying30 rfl (sH HO.out) ?_
              simp only [Act.put, List.setIfInBounds_toArray, List.set_cons_zero, List.set_cons_succ]
              go_big_quiet_on)
           | (refine q_load 30 (.tmp 15) rfl gr 0 rfl (nums .u8 r) _ FR.out Tryd.underlying30 rfl (sH HR.out) ?_
              simp only [Act.put, List.setIfInBounds_toArray, List.set_cons_zero, List.set_cons_succ]
              go_big_quiet_on)
           | (go_big_quiet_op
              go_big_quiet_on)))
      refine wpQuiet_nil ?_
      refine lone_do (i := 25) 7 rfl (by kernel_rfl) rfl (by rfl) ?_
      intro K hK
      refine oper_calls 19 _ _ rfl #[.int .i64 (m : Int), .int .i64 (n : Int), .agg #[(.slice (some ⟨gk, 0, none⟩) cl.length cc)], .agg (nums .u8 o).toArray, .agg (nums .u8 r).toArray] (by rw [List.map_toArray]; rfl) (enters Tryd.func19 (by kernel_rfl) rfl) (fun v w' => v = .bool U ∧ Below y2.heap.size y2 w') (by have K := vcons_any (m : Int) (n : Int) (some ⟨gk, 0, none⟩) cc cq HCq.out (by rw [lc.out]; omega) o r HO.out HR.out y2 (FT.out _ C2.out) (FH.out _ C2.out); rw [HU.out, lc.out] at K; exact K.mono (by rintro e w' ⟨rfl, g⟩; exact ⟨_, rfl, rfl, g⟩)) ?_
      rintro v y3 ⟨rfl, Z3⟩
      have C3 : Hid (C y3) := CK.out _ _ C2.out Z3
      clear Z3
      refine hK _ _ (C3.out) ?_
      clear hK K
      simp only [Act.put, List.setIfInBounds_toArray, List.set_cons_zero, List.set_cons_succ]
      refine lone_do (i := 31) 6 rfl (by kernel_rfl) rfl (by rfl) ?_
      intro K hK
      refine oper_calls 21 _ _ rfl #[.int .i64 (m : Int), .int .i64 (n : Int), .agg #[(.slice (some ⟨gk, 0, none⟩) cl.length cc)], .agg (nums .u8 o).toArray, .agg (nums .u8 r).toArray] (by rw [List.map_toArray]; rfl) (enters Tryd.func21 (by kernel_rfl) rfl) (fun v w' => v = .bool U ∧ Below y3.heap.size y3 w') (by have K := rvcons_any (m : Int) (n : Int) (some ⟨gk, 0, none⟩) cc cq HCq.out (by rw [lc.out]; omega) (by rw [lc.out]; omega) o r HO.out HR.out y3 (FH.out _ C3.out); rw [HU.out, lc.out] at K; exact K.mono (by rintro e w' ⟨rfl, g⟩; exact ⟨_, rfl, rfl, g⟩)) ?_
      rintro v y4 ⟨rfl, Z4⟩
      have C4 : Hid (C y4) := CK.out _ _ C3.out Z4
      clear Z4
      refine hK _ _ (C4.out) ?_
      clear hK K
      simp only [Act.put, List.setIfInBounds_toArray, List.set_cons_zero, List.set_cons_succ]
      refine lone_calm (i := 32) 5 rfl (by kernel_rfl) rfl rfl (C4.out) ?_
      repeat (first
        | go_big_quiet_skip
        | (go_big_quiet_want
           first
           | (go_big_quiet_op
              go_big_quiet_on)))
      refine wpQuiet_nil ?_
      refine lone_calm (i := 33) 4 rfl (by kernel_rfl) rfl rfl (C4.out) ?_
      repeat (first
        | go_big_quiet_skip
        | (go_big_quiet_want
           first
           | (go_big_quiet_op
              go_big_quiet_on)))
      refine wpQuiet_nil ?_
      refine lone_calm (i := 34) 3 rfl (by kernel_rfl) rfl rfl (C4.out) ?_
      repeat (first
        | go_big_quiet_skip
        | (go_big_quiet_want
           first
           | (go_big_quiet_op
              go_big_quiet_on)))
      refine wpQuiet_nil ?_
      refine lone_do (i := 35) 2 rfl (by kernel_rfl) rfl (by rfl) ?_
      intro K hK
      refine oper_calls 17 _ _ rfl #[] (by rw [List.map_toArray]; rfl) (enters Tryd.func17 (by kernel_rfl) rfl) (fun v w' => v = .bool true ∧ Below y4.heap.size y4 w') (by have K := known_any y4 (FT.out _ C4.out); exact K.mono (by rintro e w' ⟨rfl, g⟩; exact ⟨_, rfl, rfl, g⟩)) ?_
      rintro v y5 ⟨rfl, Z5⟩
      have C5 : Hid (C y5) := CK.out _ _ C4.out Z5
      clear Z5
      refine hK _ _ (C5.out) ?_
      clear hK K
      simp only [Act.put, List.setIfInBounds_toArray, List.set_cons_zero, List.set_cons_succ]
      refine lone_calm (i := 36) 1 rfl (by kernel_rfl) rfl rfl (C5.out) ?_
      repeat (first
        | go_big_quiet_skip
        | (go_big_quiet_want
           first
           | (go_big_quiet_op
              go_big_quiet_on)))
      refine wpQuiet_nil ?_
      refine lone_calm (i := 37) 0 rfl (by kernel_rfl) rfl rfl (C5.out) ?_
      repeat (first
        | go_big_quiet_skip
        | (go_big_quiet_want
           first
           | (go_big_quiet_op
              go_big_quiet_on)))
      refine wpQuiet_nil ?_
      refine anyC_done (by kernel_rfl) ⟨rfl, ?_⟩
      have ZE := ZZ.trans ((CE.out _ C5.out).mono ZZ.size)
      clear C0 C1 C2 C3 C4 C5 CK CA CE FL FR FO FP FC FG FH FT hCp
      go_wp2
      go_ret
      exact ⟨rfl, ZE⟩
    · have h0' : ¬ (0 : Int) < (cl.length : Int) := by omega
      obtain ⟨cq, ecq⟩ : ∃ cq, cq = cl := ⟨_, rfl⟩
      have HCq : Hid (Hl cq) := by rw [ecq]; exact HCl
      have lc : Hid (cq.length = cl.length) := by show _ = _; rw [ecq]
      rw [← ecq] at WC
      clear ecq
      have EG : Hid (ES (nums .u8) 32 w20 (some ⟨g, 0, none⟩) pq) := es_blk HPq.out BG
      have EC : Hid (ES (nums .u8) 32 w20 ac cq) := WC.es HCq.out
      have ZZ := ZZ.trans (Y.mono ZZ.size)
      have RL := range_below HRL.out ZZ
      obtain ⟨V, HV⟩ : ∃ V, Hid (vf x (k : Int) (n : Int) pq r = V) := ⟨_, rfl⟩
      obtain ⟨U, HU⟩ : ∃ U, Hid (vcA (m : Int) (n : Int) cq o r = U) := ⟨_, rfl⟩
      clear Y T1 BG WC HK
      go_wp2_with fail
      obtain ⟨C, hC⟩ : ∃ C : World → Prop, C = fun W => Below w20.heap.size w20 W := ⟨_, rfl⟩
      have FL : Hid (∀ W, C W → W.rangeAt b (off + k * 32) (nums .u8 x)) := fun W hW => by rw [hC] at hW; exact range_below RL hW
      have FR : Hid (∀ W, C W → W.rangeAt gr 0 (nums .u8 r)) := fun W hW => by rw [hC] at hW; exact (BR.below hW BR.lt).all
      have FO : Hid (∀ W, C W → W.rangeAt go 0 (nums .u8 o)) := fun W hW => by rw [hC] at hW; exact (BO.below hW BO.lt).all
      have FP : Hid (∀ W, C W → W.rangeAt gp 0 [(.slice (some ⟨g, 0, none⟩) pl.length pl.length)]) := fun W hW => by rw [hC] at hW; exact (BP.below hW BP.lt).all
      have FC : Hid (∀ W, C W → W.rangeAt gc 0 [(.slice ac cl.length cc)]) := fun W hW => by rw [hC] at hW; exact (BC.below hW BC.lt).all
      have FG : Hid (∀ W, C W → ES (nums .u8) 32 W (some ⟨g, 0, none⟩) pq) := fun W hW => by rw [hC] at hW; exact EG.out.below hW
      have FH : Hid (∀ W, C W → ES (nums .u8) 32 W ac cq) := fun W hW => by rw [hC] at hW; exact EC.out.below hW
      have FT : Hid (∀ W, C W → Tb W) := fun W hW => by rw [hC] at hW; exact (HTb.out.grow (ZZ.trans (hW.mono ZZ.size)))
      have CK : Hid (∀ W W', C W → Below W.heap.size W W' → C W') := fun W W' h1 h2 => by rw [hC] at h1 ⊢; exact h1.trans (h2.mono h1.size)
      have CA : Hid (∀ W W', C W → Below w20.heap.size W W' → C W') := fun W W' h1 h2 => by rw [hC] at h1 ⊢; exact h1.trans h2
      have CE : Hid (∀ W, C W → Below w20.heap.size w20 W) := fun W h => by rw [hC] at h; exact h
      have C0 : Hid (C { w20 with drawn := w20.drawn + 1 }) := by rw [hC]; exact Below.drew (Below.refl _ _)
      clear hC
      clear BR BO BP BC RL EG EC
      refine region_calm C 37 (by kernel_rfl) ?_
      have hCp : ∀ p : Prop, (∀ W, C W → p) ↔ p := fun p => ⟨fun h => h _ C0.out, fun h _ _ => h⟩
      generalize ({ w20 with drawn := w20.drawn + 1 } : World) = y0 at *
      refine seg 22 [0, 1, 2, 3, 4, 5, 6, 7, 9, 10, 11, 12, 13, 14, 15, 16] rfl (by kernel_rfl) whole_blind (C0.out) (by kernel_rfl) ?_
      change wpQuiet _ _ _ _ (_ :: _ :: _ :: _ :: _ :: _ :: _ :: _ :: _ :: _ :: _ :: _ :: _ :: _ :: _ :: _ :: []) _
      repeat (first
        | go_big_quiet_skip
        | (go_big_quiet_want
           first
           | (refine q_load 30 (.tmp 134) rfl b (off + k * 32) rfl (nums .u8 x) _ FL.out Tryd.underlying30 rfl (sH HX.out) ?_
              simp only [Act.put, List.setIfInBounds_toArray, List.set_cons_zero, List.set_cons_succ]
              go_big_quiet_on)
           | (refine q_load 30 (.tmp 143) rfl b (off + k * 32) rfl (nums .u8 x) _ FL.out Tryd.underlying30 rfl (sH HX.out) ?_
              simp only [Act.put, List.setIfInBounds_toArray, List.set_cons_zero, List.set_cons_succ]
              go_big_quiet_on)
           | (refine q_load 37 (.tmp 19) rfl gp 0 rfl [(.slice (some ⟨g, 0, none⟩) pl.length pl.length)] _ FP.out Tryd.underlying37 rfl (by kernel_rfl) ?_
              simp only [Act.put, List.setIfInBounds_toArray, List.set_cons_zero, List.set_cons_succ]
              go_big_quiet_on)
           | (refine q_load 30 (.tmp 15) rfl gr 0 rfl (nums .u8 r) _ FR.out Tryd.underlying30 rfl (sH HR.out) ?_
              simp only [Act.put, List.setIfInBounds_toArray, List.set_cons_zero, List.set_cons_succ]
              go_big_quiet_on)
           | (go_big_quiet_op
              go_big_quiet_on)))
      refine wpQuiet_nil ?_
      refine lone_do (i := 8) 21 rfl (by kernel_rfl) rfl (by rfl) ?_
      intro K hK
      refine oper_calls 18 _ _ rfl #[.agg (nums .u8 x).toArray, .int .i64 (k : Int), .int .i64 (n : Int), .agg #[(.slice (some ⟨g, 0, none⟩) pl.length pl.length)], .agg (nums .u8 r).toArray] (by rw [List.map_toArray]; rfl) (enters Tryd.func18 (by kernel_rfl) rfl) (fun v w' => v = .bool V ∧ Below y0.heap.size y0 w') (by have K := verify_any x r HX.out HR.out (k : Int) (n : Int) (some ⟨g, 0, none⟩) pl.length pq HPq.out y0 (FG.out _ C0.out); rw [HV.out, lq.out] at K; exact K.mono (by rintro e w' ⟨rfl, g⟩; exact ⟨_, rfl, rfl, g⟩)) ?_
      rintro v y1 ⟨rfl, Z1⟩
      have C1 : Hid (C y1) := CK.out _ _ C0.out Z1
      clear Z1
      refine hK _ _ (C1.out) ?_
      clear hK K
      simp only [Act.put, List.setIfInBounds_toArray, List.set_cons_zero, List.set_cons_succ]
      refine lone_do (i := 17) 20 rfl (by kernel_rfl) rfl (by rfl) ?_
      intro K hK
      refine oper_calls 20 _ _ rfl #[.agg (nums .u8 x).toArray, .int .i64 (k : Int), .int .i64 (n : Int), .agg #[(.slice (some ⟨g, 0, none⟩) pl.length pl.length)], .agg (nums .u8 r).toArray] (by rw [List.map_toArray]; rfl) (enters Tryd.func20 (by kernel_rfl) rfl) (fun v w' => v = .bool V ∧ Below y1.heap.size y1 w') (by have K := rverify_any x r HX.out HR.out (k : Int) (n : Int) (some ⟨g, 0, none⟩) pl.length pq HPq.out (by rw [lq.out]; omega) (by rw [lq.out]; omega) y1 (FG.out _ C1.out); rw [HV.out, lq.out] at K; exact K.mono (by rintro e w' ⟨rfl, g⟩; exact ⟨_, rfl, rfl, g⟩)) ?_
      rintro v y2 ⟨rfl, Z2⟩
      have C2 : Hid (C y2) := CK.out _ _ C1.out Z2
      clear Z2
      refine hK _ _ (C2.out) ?_
      clear hK K
      simp only [Act.put, List.setIfInBounds_toArray, List.set_cons_zero, List.set_cons_succ]
      refine lone_calm (i := 18) 19 rfl (by kernel_rfl) rfl rfl (C2.out) ?_
      repeat (first
        | go_big_quiet_skip
        | (go_big_quiet_want
           first
           | (go_big_quiet_op
              go_big_quiet_on)))
      refine wpQuiet_nil ?_
      refine lone_calm (i := 19) 18 rfl (by kernel_rfl) rfl rfl (C2.out) ?_
      repeat (first
        | go_big_quiet_skip
        | (go_big_quiet_want
           first
           | (go_big_quiet_op
              go_big_quiet_on)))
      refine wpQuiet_nil ?_
      refine seg 8 [20, 21, 22, 23, 24, 26, 27, 28, 29, 30] rfl (by kernel_rfl) whole_blind (C2.out) (by kernel_rfl) ?_
      change wpQuiet _ _ _ _ (_ :: _ :: _ :: _ :: _ :: _ :: _ :: _ :: _ :: _ :: []) _
      repeat (first
        | go_big_quiet_skip
        | (go_big_quiet_want
           first
           | (refine q_load 37 (.tmp 21) rfl gc 0 rfl [(.slice ac cl.length cc)] _ FC.out Tryd.underlying37 rfl (by kernel_rfl) ?_
              simp only [Act.put, List.setIfInBounds_toArray, List.set_cons_zero, List.set_cons_succ]
              go_big_quiet_on)
           | (refine q_load 30 (.tmp 17) rfl go 0 rfl (nums .u8 o) _ FO.out Tryd.underlying30 rfl (sH HO.out) ?_
              simp only [Act.put, List.setIfInBounds_toArray, List.set_cons_zero, List.set_cons_succ]
              go_big_quiet_on)
           | (refine q_load 30 (.tmp 15) rfl gr 0 rfl (nums .u8 r) _ FR.out Tryd.underlying30 rfl (sH HR.out) ?_
              simp only [Act.put, List.setIfInBounds_toArray, List.set_cons_zero, List.set_cons_succ]
              go_big_quiet_on)
           | (go_big_quiet_op
              go_big_quiet_on)))
      refine wpQuiet_nil ?_
      refine lone_do (i := 25) 7 rfl (by kernel_rfl) rfl (by rfl) ?_
      intro K hK
      refine oper_calls 19 _ _ rfl #[.int .i64 (m : Int), .int .i64 (n : Int), .agg #[(.slice ac cl.length cc)], .agg (nums .u8 o).toArray, .agg (nums .u8 r).toArray] (by rw [List.map_toArray]; rfl) (enters Tryd.func19 (by kernel_rfl) rfl) (fun v w' => v = .bool U ∧ Below y2.heap.size y2 w') (by have K := vcons_any (m : Int) (n : Int) ac cc cq HCq.out (by rw [lc.out]; omega) o r HO.out HR.out y2 (FT.out _ C2.out) (FH.out _ C2.out); rw [HU.out, lc.out] at K; exact K.mono (by rintro e w' ⟨rfl, g⟩; exact ⟨_, rfl, rfl, g⟩)) ?_
      rintro v y3 ⟨rfl, Z3⟩
      have C3 : Hid (C y3) := CK.out _ _ C2.out Z3
      clear Z3
      refine hK _ _ (C3.out) ?_
      clear hK K
      simp only [Act.put, List.setIfInBounds_toArray, List.set_cons_zero, List.set_cons_succ]
      refine lone_do (i := 31) 6 rfl (by kernel_rfl) rfl (by rfl) ?_
      intro K hK
      refine oper_calls 21 _ _ rfl #[.int .i64 (m : Int), .int .i64 (n : Int), .agg #[(.slice ac cl.length cc)], .agg (nums .u8 o).toArray, .agg (nums .u8 r).toArray] (by rw [List.map_toArray]; rfl) (enters Tryd.func21 (by kernel_rfl) rfl) (fun v w' => v = .bool U ∧ Below y3.heap.size y3 w') (by have K := rvcons_any (m : Int) (n : Int) ac cc cq HCq.out (by rw [lc.out]; omega) (by rw [lc.out]; omega) o r HO.out HR.out y3 (FH.out _ C3.out); rw [HU.out, lc.out] at K; exact K.mono (by rintro e w' ⟨rfl, g⟩; exact ⟨_, rfl, rfl, g⟩)) ?_
      rintro v y4 ⟨rfl, Z4⟩
      have C4 : Hid (C y4) := CK.out _ _ C3.out Z4
      clear Z4
      refine hK _ _ (C4.out) ?_
      clear hK K
      simp only [Act.put, List.setIfInBounds_toArray, List.set_cons_zero, List.set_cons_succ]
      refine lone_calm (i := 32) 5 rfl (by kernel_rfl) rfl rfl (C4.out) ?_
      repeat (first
        | go_big_quiet_skip
        | (go_big_quiet_want
           first
           | (go_big_quiet_op
              go_big_quiet_on)))
      refine wpQuiet_nil ?_
      refine lone_calm (i := 33) 4 rfl (by kernel_rfl) rfl rfl (C4.out) ?_
      repeat (first
        | go_big_quiet_skip
        | (go_big_quiet_want
           first
           | (go_big_quiet_op
              go_big_quiet_on)))
      refine wpQuiet_nil ?_
      refine lone_calm (i := 34) 3 rfl (by kernel_rfl) rfl rfl (C4.out) ?_
      repeat (first
        | go_big_quiet_skip
        | (go_big_quiet_want
           first
           | (go_big_quiet_op
              go_big_quiet_on)))
      refine wpQuiet_nil ?_
      refine lone_do (i := 35) 2 rfl (by kernel_rfl) rfl (by rfl) ?_
      intro K hK
      refine oper_calls 17 _ _ rfl #[] (by rw [List.map_toArray]; rfl) (enters Tryd.func17 (by kernel_rfl) rfl) (fun v w' => v = .bool true ∧ Below y4.heap.size y4 w') (by have K := known_any y4 (FT.out _ C4.out); exact K.mono (by rintro e w' ⟨rfl, g⟩; exact ⟨_, rfl, rfl, g⟩)) ?_
      rintro v y5 ⟨rfl, Z5⟩
      have C5 : Hid (C y5) := CK.out _ _ C4.out Z5
      clear Z5
      refine hK _ _ (C5.out) ?_
      clear hK K
      simp only [Act.put, List.setIfInBounds_toArray, List.set_cons_zero, List.set_cons_succ]
      refine lone_calm (i := 36) 1 rfl (by kernel_rfl) rfl rfl (C5.out) ?_
      repeat (first
        | go_big_quiet_skip
        | (go_big_quiet_want
           first
           | (go_big_quiet_op
              go_big_quiet_on)))
      refine wpQuiet_nil ?_
      refine lone_calm (i := 37) 0 rfl (by kernel_rfl) rfl rfl (C5.out) ?_
      repeat (first
        | go_big_quiet_skip
        | (go_big_quiet_want
           first
           | (go_big_quiet_op
              go_big_quiet_on)))
      refine wpQuiet_nil ?_
      refine anyC_done (by kernel_rfl) ⟨rfl, ?_⟩
      have ZE := ZZ.trans ((CE.out _ C5.out).mono ZZ.size)
      clear C0 C1 C2 C3 C4 C5 CK CA CE FL FR FO FP FC FG FH FT hCp
      go_wp2
      go_ret
      exact ⟨rfl, ZE⟩
#print axioms changed_in
set_option maxHeartbeats 1000000 in
set_option maxRecDepth 8000 in
theorem changed_walk (L : List (List Nat)) (hL : Hl L) (a : Option Addr) (ca : Nat) (i size old z : Int) (v : Int) (hv0 : 0 ≤ v) (hv : v < 256) (hla : L.length ≤ 140737488355328) (w : World) (hSa : ES (nums .u8) 32 w a L) (hT : Tb w) :
    Calls Tryd.prog 6 #[.slice a L.length ca, .int .i64 i, .int .i64 size, .int .i64 old, .int .i64 z, .int .u8 v] w fun e w' => e = .returned (.bool true) ∧ Below w.heap.size w w' := by
  by_cases hin : L.length ≤ 80 ∧ 1 ≤ size ∧ size ≤ L.length ∧ 0 ≤ i ∧ i < size ∧ 1 ≤ old ∧ old ≤ size
  · obtain ⟨h1, h2, h3, h4, h5, h6, h7⟩ := hin
    have K := changed_in L hL a ca i.toNat size.toNat old.toNat z v.toNat (by omega) h1 (by omega) (by omega) (by omega) (by omega) w hSa hT
    rw [Int.toNat_of_nonneg h4, Int.toNat_of_nonneg (show 0 ≤ size by omega), Int.toNat_of_nonneg (show 0 ≤ old by omega), Int.toNat_of_nonneg hv0] at K
    exact K
  · have KK := known_any w hT
    clear hSa hT
    go_enter Tryd.func6, Tryd.ntmps6
    by_cases c0 : (80 : Int) < (L.length : Int)
    · go_wp2_with fail
      refine KK.mono ?_
      rintro e y1 ⟨rfl, Y1⟩
      clear KK
      go_wp2
      go_ret
      exact ⟨rfl, Y1⟩
    by_cases c1 : size < 1
    · go_wp2_with fail
      refine KK.mono ?_
      rintro e y1 ⟨rfl, Y1⟩
      clear KK
      go_wp2
      go_ret
      exact ⟨rfl, Y1⟩
    by_cases c2 : (L.length : Int) < size
    · go_wp2_with fail
      refine KK.mono ?_
      rintro e y1 ⟨rfl, Y1⟩
      clear KK
      go_wp2
      go_ret
      exact ⟨rfl, Y1⟩
    by_cases c3 : i < 0
    · go_wp2_with fail
      refine KK.mono ?_
      rintro e y1 ⟨rfl, Y1⟩
      clear KK
      go_wp2
      go_ret
      exact ⟨rfl, Y1⟩
    by_cases c4 : size ≤ i
    · go_wp2_with fail
      refine KK.mono ?_
      rintro e y1 ⟨rfl, Y1⟩
      clear KK
      go_wp2
      go_ret
      exact ⟨rfl, Y1⟩
    by_cases c5 : old < 1
    · go_wp2_with fail
      refine KK.mono ?_
      rintro e y1 ⟨rfl, Y1⟩
      clear KK
      go_wp2
      go_ret
      exact ⟨rfl, Y1⟩
    have c9 : size < old := by omega
    go_wp2_with fail
    refine KK.mono ?_
    rintro e y1 ⟨rfl, Y1⟩
    clear KK
    go_wp2
    go_ret
    exact ⟨rfl, Y1⟩
#print axioms changed_walk
end Go.Proofs.YtehkaploinklmaaDoor
