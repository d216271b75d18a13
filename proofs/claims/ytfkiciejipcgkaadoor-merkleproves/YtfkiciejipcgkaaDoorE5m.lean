/-
  E3, E4 and E5 in one text (a claim may have 60 files).
-/
import Derived.Test.YtfkiciejipcgkaaDoorEy
import Derived.Test.YtfkiciejipcgkaaDoorE6
import Derived.Laws.MakeOwn
namespace Go.Proofs.YtfkiciejipcgkaaDoor
open Go Go.RowKit Go.Maps Sh
theorem mk_row {P : Program} {ops : Array Oper} {rest : List Oper} {o : Oper} {a : Act} {w : World} {Q : Exit → Act → World → Prop} (hg : o.guard = none) (T elem : TypeId) (x : Operand) (ho : o.op = .makeSlice T x x) (hu : P.underlying T = some (.slice elem)) (size bytes : Nat) (z : Value) (hi : (P.info? elem).map (fun i => (i.zero, i.size, i.bytes)) = some (some z, size, bytes))
    (n : Nat) (zn : Int) (hzn : zn = (n : Int)) (hx : a.eval x = .int .i64 zn) (hb : bytes * n ≤ 281474976710656) (hn : n ≤ 1000000)
    (h : ∀ w' cs, cs.length = n * size → Blk w' w.heap.size elem cs → w.grownBy w' none → wpList P ops Q rest (a.put o.dst (.slice (some ⟨w.heap.size, 0, none⟩) n n)) w') : wpList P ops Q (o :: rest) a w := by
  subst hzn
  refine wpList_plain hg fun K hK => ?_
  cases hq : P.info? elem with
  | none => simp [hq] at hi
  | some i =>
    simp only [hq, Option.map_some, Option.some.injEq, Prod.mk.injEq] at hi
    obtain ⟨h1, h2, h3⟩ := hi
    have hb' : (i.bytes : Int) * (n : Int) ≤ 281474976710656 := by
      rw [h3]
      have h : ((bytes * n : Nat) : Int) ≤ 281474976710656 := by omega
      rwa [Int.natCast_mul] at h
    have hr := run_make (P := P) w T elem i z hu hq h1 .i64 .i64 n n (by omega) (Int.le_refl _) hb' (by omega)
    simp only [Int.toNat_natCast] at hr
    unfold Oper.wp execOp
    simp only [ho, hx, hr, Sem.run_bind, Result.andThen_ok, Sem.run_pure]
    refine hK _ _ (h _ (madeCells z.cells (n * i.size)).toList (by simp [size_madeCells, h2]) ?_ (World.grownBy_alloc w _ none))
    have := heap_alloc_new w (.cells (madeCells z.cells (n * i.size)) elem)
    unfold Blk
    rw [this]
/-- the roots of halves, of the first n leaves. -/
def rtsn (L : List (List Nat)) (n : Nat) (os : List (Nat × Nat)) : List (List Nat) := Mk.rts nd em (L.take n) os
theorem rtsn_hl {L : List (List Nat)} (hL : Hl L) (n : Nat) (os : List (Nat × Nat)) : Hl (rtsn L n os) := by
  intro y hy
  obtain ⟨x, _, rfl⟩ := List.mem_map.1 hy
  exact R_hh (((hL.take n).drop _).take _)
theorem rtsn_len (L : List (List Nat)) (n : Nat) (os : List (Nat × Nat)) : (rtsn L n os).length = os.length := List.length_map ..
theorem sg_min (L : List (List Nat)) (n l o : Nat) (h : o * 2 ^ l < n) : Mk.sg (L.take n) (l, o) = sgd L (o * 2 ^ l) (min ((o + 1) * 2 ^ l) n - o * 2 ^ l) := by
  unfold Mk.sg sgd
  rw [List.drop_take, List.take_take]
  congr 1
  rw [Nat.add_mul, Nat.one_mul]
  revert h
  generalize o * 2 ^ l = f
  generalize 2 ^ l = c
  intro h
  rw [Nat.min_def, Nat.min_def]
  split <;> split <;> omega
theorem oper_min {o : Oper} {a : Act} {w : World} {K : Act → World → Prop} {Q : Exit → Act → World → Prop} (x y : Operand) (ts : Array TypeId) (ho : o.op = .call { callee := .builtin .min, args := #[x, y], argTypes := ts }) (p q u : Nat) (hx : a.eval x = .int .i64 (p : Int)) (hy : a.eval y = .int .i64 (q : Int)) (hu : u = min p q) (hK : K (a.put o.dst (.int .i64 (u : Int))) w) : Oper.wp Tryd.prog o a w K Q := by
  have e : (if (q : Int) < (p : Int) then (q : Int) else (p : Int)) = (u : Int) := by split <;> omega
  unfold Oper.wp execOp
  simp only [ho, resolve, invoke, builtin, Sem.run_bind, Sem.run_pure, Result.andThen_ok, List.map_toArray, List.map_cons, List.map_nil, hx, hy, run_min_int2, e]
  exact hK
theorem flat_snoc (M : List (List Nat)) (x : List Nat) : (M ++ [x]).flatMap (nums .u8) = M.flatMap (nums .u8) ++ nums .u8 x := by simp
set_option maxHeartbeats 2000000 in
set_option maxRecDepth 8000 in
theorem roots_any (bt : Nat) (L : List (List Nat)) (hL : Hl L) (hlen : L.length ≤ 2000000) (a : Option Addr) (cap : Nat) (os : List (Nat × Nat)) (hol : os.length ≤ 100) (n : Nat) (hn : n ≤ L.length) (hos : ∀ x ∈ os, x.1 ≤ 22 ∧ x.2 * 2 ^ x.1 < n) (w : World) (hW : AllW w bt L) (hS : ES encV 2 w a os) :
    Calls Tryd.prog 19 #[.pointer (some ⟨bt, 0, none⟩), .slice a os.length cap, .int .i64 (n : Int)] w fun e w' => ∃ g, e = .returned (.slice (some ⟨g, 0, none⟩) os.length os.length) ∧ w.heap.size ≤ g ∧ Blk w' g 30 ((rtsn L n os).flatMap (nums .u8)) ∧ Below w.heap.size w w' := by
  have HS : Hid (ES encV 2 w a os) := hS
  have HA : Hid (AllW w bt L) := hW
  have HO : Hid (∀ x ∈ os, x.1 ≤ 22 ∧ x.2 * 2 ^ x.1 < n) := hos
  have HL : Hid (Hl L) := hL
  clear hS hW hos hL
  go_enter Tryd.func19, Tryd.ntmps19
  go_wp2_with (refine mk_row rfl 22 30 (.tmp 11) rfl Tryd.underlying22 32 32 _ iH os.length _ rfl rfl (by omega) (by omega) ?_)
  intro w1 cs hcs B1 G1
  have Z1 := (Below.refl w.heap.size w).grown G1 (Nat.le_refl _) (by simp)
  obtain ⟨g, hg⟩ : ∃ g, w.heap.size = g := ⟨_, rfl⟩
  have hgg : w.heap.size ≤ g := by omega
  rw [hg] at B1 ⊢
  have HI : Hid (∃ R : List Value, R.length = (os.length - 0) * 32 ∧ Blk w1 g 30 ((rtsn L n (os.take 0)).flatMap (nums .u8) ++ R) ∧ Below w.heap.size w w1) := ⟨cs, by rw [hcs]; omega, by simpa [rtsn, Mk.rts] using B1, Z1⟩
  clear G1 B1 Z1 hcs cs
  go_wp2
  go_loopw [15] (fun iv wr => ∃ k : Nat, k ≤ os.length ∧ iv = .int .i64 (k : Int) ∧ Hid (∃ R : List Value, R.length = (os.length - k) * 32 ∧ Blk wr g 30 ((rtsn L n (os.take k)).flatMap (nums .u8) ++ R) ∧ Below w.heap.size w wr)) (fun iv _ => os.length - (intOf iv).toNat)
  case atStart => exact ⟨0, Nat.zero_le _, rfl, HI⟩
  case round =>
    clear HI
    obtain ⟨k, hk, rfl, HI⟩ := hrel
    obtain ⟨R0, hR0, BG0, Zr⟩ := HI.out
    clear HI
    have HWr : Hid (AllW wr bt L) := HA.out.below Zr
    by_cases hlt : k < os.length
    · obtain ⟨l, o, hx⟩ : ∃ l o, os[k]? = some (l, o) := ⟨_, _, List.getElem?_eq_getElem hlt⟩
      obtain ⟨b1, o1, rfl, R1⟩ := HS.out.at hx
      have R1 := range_below R1 Zr
      obtain ⟨hl, hon⟩ : l ≤ 22 ∧ o * 2 ^ l < n := HO.out _ (List.mem_of_getElem? hx)
      have h22 : 2 ^ l ≤ 2 ^ 22 := Nat.pow_le_pow_right (by decide) hl
      have hp1 : 1 ≤ 2 ^ l := Nat.one_le_two_pow
      have hoo : o ≤ o * 2 ^ l := Nat.le_mul_of_pos_right _ hp1
      have het : (o + 1) * 2 ^ l = o * 2 ^ l + 2 ^ l := by rw [Nat.add_mul, Nat.one_mul]
      obtain ⟨f, hf⟩ : ∃ f, f = o * 2 ^ l := ⟨_, rfl⟩
      obtain ⟨t, ht⟩ : ∃ t, t = (o + 1) * 2 ^ l := ⟨_, rfl⟩
      have HF : Hid (o * 2 ^ l ≤ 1000000000000000 ∧ f = o * 2 ^ l) := ⟨by omega, hf⟩
      have HE : Hid (o ≤ 1000000000000000 ∧ (o + 1) * 2 ^ l ≤ 1000000000000000 ∧ t = (o + 1) * 2 ^ l) := ⟨by omega, by omega, ht⟩
      obtain ⟨u, hu⟩ : ∃ u, Hid (u = min t n) := ⟨_, rfl⟩
      obtain ⟨x, hxx⟩ : ∃ x, Hid (x = Mk.R nd em (Mk.sg (L.take n) (l, o))) := ⟨_, rfl⟩
      have HX : Hid (Hh x) := by show Hh x; rw [hxx.out]; exact R_hh (((HL.out.take n).drop _).take _)
      have hfu : f < u ∧ u ≤ n ∧ u ≤ t := by have := hu.out; omega
      have HK : Hid (∀ y, AllW y bt L → Calls Tryd.prog 17 #[.pointer (some ⟨bt, 0, none⟩), .int .i64 (f : Int), .int .i64 (u : Int)] y fun e w' => e = .returned (.agg (nums .u8 x).toArray) ∧ Below y.heap.size y w') := fun y hy => by
        have K := root_all bt L HL.out hlen (l + 1) l o (u - f) y (by omega) hy (by omega) (by omega) (by omega)
        rw [← hf, show f + (u - f) = u by omega] at K
        rw [hxx.out, sg_min L n l o hon, ← ht, ← hu.out, ← hf]
        exact K
      obtain ⟨P, hP⟩ : ∃ P, Hid (P = (rtsn L n (os.take k)).flatMap (nums .u8)) := ⟨_, rfl⟩
      have HPl : Hid (P.length = k * 32) := by
        show _ = _
        rw [hP.out, flat_len (n := 32) (fun y hy => by rw [nums_length]; exact (rtsn_hl HL.out n _ y hy).1), rtsn_len, List.length_take]
        congr 1
        omega
      obtain ⟨m, R, rfl, hm, hR⟩ : ∃ m R, R0 = m ++ R ∧ m.length = 32 ∧ R.length = (os.length - (k + 1)) * 32 := ⟨R0.take 32, R0.drop 32, (List.take_append_drop _ _).symm, by rw [List.length_take]; omega, by rw [List.length_drop]; omega⟩
      rw [← hP.out] at BG0
      have BG := BG0
      clear BG0 hR0
      have HPn : Hid (P ++ nums .u8 x = (rtsn L n (os.take (k + 1))).flatMap (nums .u8)) := by
        obtain ⟨h1, e1⟩ := List.getElem?_eq_some_iff.1 hx
        show _ = _
        rw [List.take_succ_eq_append_getElem h1, e1, rtsn, Mk.rts, List.map_append, List.map_cons, List.map_nil, flat_snoc, ← hxx.out, hP.out]
        rfl
      have HNl : Hid ((nums .u8 x).length = m.length) := by show _ = _; rw [nums_length, HX.out.1, hm]
      have HNs : Hid ((Tryd.prog.info? 30).map (·.size) = some (nums .u8 x).length) := sH HX.out
      clear hx hf ht het hoo h22 hp1
      go_wp2_with (refine ld_mid rfl 54 (.tmp 18) rfl b1 (o1 + k * 2) rfl [.int .i64 (l : Int), .int .i64 (o : Int)] _ R1 Tryd.underlying54 rfl (by kernel_rfl) ?_)
      obtain ⟨wk, HW, ZK⟩ : ∃ wk, wr.alloc (Obj.cells #[.int .i64 (l : Int), .int .i64 (o : Int)] 54) = wk ∧ Hid (Below wr.heap.size wr wk ∧ Blk wk wr.heap.size 54 [.int .i64 (l : Int), .int .i64 (o : Int)]) := ⟨_, rfl, (Below.refl _ _).alloc (Nat.le_refl _) _, blk_new wr _ _⟩
      rw [HW]
      clear HW
      have BV := ZK.out.2
      have BG := BG.below ZK.out.1 BG.lt
      have HW' : Hid (AllW wk bt L) := HWr.out.below ZK.out.1
      obtain ⟨C, hC⟩ : ∃ C : World → Prop, C = fun W => Below wk.heap.size wk W := ⟨_, rfl⟩
      have FV : Hid (∀ W, C W → W.rangeAt wr.heap.size 0 [.int .i64 (l : Int), .int .i64 (o : Int)]) := fun W hW => by rw [hC] at hW; exact (BV.below hW BV.lt).all
      have FA : Hid (∀ W, C W → AllW W bt L) := fun W hW => by rw [hC] at hW; exact HW'.out.below hW
      have FG : Hid (∀ W, C W → Blk W g 30 (P ++ (m ++ R))) := fun W hW => by rw [hC] at hW; exact BG.below hW BG.lt
      have CK : Hid (∀ W W', C W → Below W.heap.size W W' → C W') := fun W W' h1 h2 => by rw [hC] at h1 ⊢; exact h1.trans (h2.mono h1.size)
      have CA : Hid (∀ W W', C W → Below wk.heap.size W W' → C W') := fun W W' h1 h2 => by rw [hC] at h1 ⊢; exact h1.trans h2
      have CE : Hid (∀ W, C W → Below wk.heap.size wk W) := fun W h => by rw [hC] at h; exact h
      have C0 : Hid (C { wk with drawn := wk.drawn + 1 }) := by rw [hC]; exact Below.drew (Below.refl _ _)
      clear hC
      clear BV BG
      refine region_calm C 11 (by kernel_rfl) ?_
      have hCp : ∀ p : Prop, (∀ W, C W → p) ↔ p := fun p => ⟨fun h => h _ C0.out, fun h _ _ => h⟩
      generalize ({ wk with drawn := wk.drawn + 1 } : World) = y0 at *
      refine seg 6 [0, 1, 2, 3, 5, 7] rfl (by kernel_rfl) whole_blind (C0.out) (by kernel_rfl) ?_
      change wpQuiet _ _ _ _ (_ :: _ :: _ :: _ :: _ :: _ :: []) _
      repeat (first
        | go_big_quiet_skip
        | (go_big_quiet_want
           first
           | (refine q_load 54 (.tmp 9) rfl wr.heap.size 0 rfl [.int .i64 (l : Int), .int .i64 (o : Int)] _ FV.out Tryd.underlying54 rfl (by kernel_rfl) ?_
              simp only [Act.put, List.setIfInBounds_toArray, List.set_cons_zero, List.set_cons_succ]
              go_big_quiet_on)
           | (go_big_quiet_op
              go_big_quiet_on)))
      refine wpQuiet_nil ?_
      refine lone_do (i := 4) 5 rfl (by kernel_rfl) rfl (by rfl) ?_
      intro K hK
      refine oper_calls 36 _ _ rfl #[.agg #[.int .i64 (l : Int), .int .i64 (o : Int)]] (by rw [List.map_toArray]; rfl) (enters Tryd.func36 (by kernel_rfl) rfl) (fun v w' => v = .int .i64 (f : Int) ∧ Below y0.heap.size y0 w') (by have K := begin_any l o (by omega) HF.out.1 y0; rw [← HF.out.2] at K; exact K.mono (by rintro e w' ⟨rfl, g⟩; exact ⟨_, rfl, rfl, g⟩)) ?_
      rintro v y1 ⟨rfl, Z1⟩
      have C1 : Hid (C y1) := CK.out _ _ C0.out Z1
      clear Z1
      refine hK _ _ (C1.out) ?_
      clear hK K
      simp only [Act.put, List.setIfInBounds_toArray, List.set_cons_zero, List.set_cons_succ]
      refine lone_do (i := 6) 4 rfl (by kernel_rfl) rfl (by rfl) ?_
      intro K hK
      refine oper_calls 31 _ _ rfl #[.agg #[.int .i64 (l : Int), .int .i64 (o : Int)]] (by rw [List.map_toArray]; rfl) (enters Tryd.func31 (by kernel_rfl) rfl) (fun v w' => v = .int .i64 (t : Int) ∧ Below y1.heap.size y1 w') (by have K := end_any' l o (by omega) HE.out.1 HE.out.2.1 y1; rw [← HE.out.2.2] at K; exact K.mono (by rintro e w' ⟨rfl, g⟩; exact ⟨_, rfl, rfl, g⟩)) ?_
      rintro v y2 ⟨rfl, Z2⟩
      have C2 : Hid (C y2) := CK.out _ _ C1.out Z2
      clear Z2
      refine hK _ _ (C2.out) ?_
      clear hK K
      simp only [Act.put, List.setIfInBounds_toArray, List.set_cons_zero, List.set_cons_succ]
      refine lone_do (i := 8) 3 rfl (by kernel_rfl) rfl (by rfl) ?_
      intro K hK
      refine oper_min (.tmp 26) (.tmp 27) _ rfl t n u rfl rfl hu.out ?_
      refine hK _ _ (C2.out) ?_
      clear hK K
      simp only [Act.put, List.setIfInBounds_toArray, List.set_cons_zero, List.set_cons_succ]
      refine lone_do (i := 9) 2 rfl (by kernel_rfl) rfl (by rfl) ?_
      intro K hK
      refine oper_calls 17 _ _ rfl #[.pointer (some ⟨bt, 0, none⟩), .int .i64 (f : Int), .int .i64 (u : Int)] (by rw [List.map_toArray]; rfl) (enters Tryd.func17 (by kernel_rfl) rfl) (fun v w' => v = .agg (nums .u8 x).toArray ∧ Below y2.heap.size y2 w') (by have K := HK.out y2 (FA.out _ C2.out); exact K.mono (by rintro e w' ⟨rfl, g⟩; exact ⟨_, rfl, rfl, g⟩)) ?_
      rintro v y3 ⟨rfl, Z3⟩
      have C3 : Hid (C y3) := CK.out _ _ C2.out Z3
      clear Z3
      refine hK _ _ (C3.out) ?_
      clear hK K
      simp only [Act.put, List.setIfInBounds_toArray, List.set_cons_zero, List.set_cons_succ]
      refine lone_calm (i := 10) 1 rfl (by kernel_rfl) rfl rfl (C3.out) ?_
      repeat (first
        | go_big_quiet_skip
        | (go_big_quiet_want
           first
           | (go_big_quiet_op
              go_big_quiet_on)))
      refine wpQuiet_nil ?_
      refine lone_last (i := 11) 0 rfl rfl (by kernel_rfl) rfl (by rfl) ?_
      intro K hK
      refine oper_row 30 (.tmp 30) (.tmp 29) rfl g (k * 32) 30 P m R (nums .u8 x) rfl rfl HPl.out (FG.out _ C3.out) HNl.out HNs.out (nums_one _ _) ?_
      intro y4 B4 G4
      refine hK _ _ ?_
      clear hK K
      refine anyC_done (by kernel_rfl) ⟨rfl, ?_⟩
      simp only [Act.put]
      have Zk := CE.out _ C3.out
      have HI : Hid (∃ R : List Value, R.length = (os.length - (k + 1)) * 32 ∧ Blk y4 g 30 ((rtsn L n (os.take (k + 1))).flatMap (nums .u8) ++ R) ∧ Below w.heap.size w y4) := by
        refine ⟨R, hR, by rw [← HPn.out, List.append_assoc]; exact B4, ?_⟩
        have z1 := Zr.trans (ZK.out.1.mono Zr.size)
        have z2 := z1.trans (Zk.mono z1.size)
        exact grown_below z2 G4 z2.size hgg
      clear B4 G4 Zk C1 C2 C3 CK CA CE FV FA FG hCp HPn HNl HNs C0
      go_wp2
      go_roundw
      case rel => exact ⟨k + 1, hlt, by simp, HI⟩
      case measure => simp [intOf]; omega
    · obtain rfl : k = os.length := by omega
      obtain rfl : R0 = [] := List.eq_nil_of_length_eq_zero (by rw [hR0]; omega)
      rw [List.append_nil, List.take_of_length_le (Nat.le_refl _)] at BG0
      go_wp2
      go_ret
      exact ⟨g, rfl, hgg, BG0, Zr⟩
#print axioms roots_any
theorem wy_ok {lev p n : Nat} (hn : n ≤ 2000000) (hl : lev ≤ 21) (hp : p * 2 ^ lev < n) : ∀ x ∈ Mk.wy lev p n, x.1 ≤ 22 ∧ x.2 * 2 ^ x.1 < n := fun x hx => by
  have := Mk.mem_wy (T := 21) (by omega) hl hp hx
  omega
theorem wy_short {lev p n : Nat} (hn : n ≤ 2000000) (hl : lev ≤ 21) (hp : p * 2 ^ lev < n) : (Mk.wy lev p n).length ≤ 21 := by
  have := Mk.wy_len (T := 21) (n := n) (by omega) hl hp
  omega
set_option maxHeartbeats 2000000 in
set_option maxRecDepth 8000 in
theorem prove_in (bt base : Nat) (L : List (List Nat)) (hL : Hl L) (hlen : L.length ≤ 2000000) (i n : Nat) (hi : i < n) (hn : n ≤ L.length) (w : World) (hTr : Tr w bt base L) :
    Calls Tryd.prog 7 #[.pointer (some ⟨bt, 0, none⟩), .int .i64 (i : Int), .int .i64 (n : Int)] w fun e w' => ∃ g, e = .returned (.tuple #[.agg #[.slice (some ⟨g, 0, none⟩) (rtsn L n (Mk.wy 0 i n)).length (rtsn L n (Mk.wy 0 i n)).length], .int .i64 0]) ∧ w.heap.size ≤ g ∧ Blk w' g 30 ((rtsn L n (Mk.wy 0 i n)).flatMap (nums .u8)) ∧ Below w.heap.size w w' := by
  have HT : Hid (Tr w bt base L) := hTr
  have HL : Hid (Hl L) := hL
  have h1 : ¬ (n : Int) ≤ (i : Int) := by omega
  have h2 : ¬ ((L.length : Int) < (n : Int)) := by omega
  have KO := fun W => others_any 0 i n (by omega) (by simpa using hi) (by omega) W
  have HO : Hid (∀ x ∈ Mk.wy 0 i n, x.1 ≤ 22 ∧ x.2 * 2 ^ x.1 < n) := wy_ok (by omega) (by omega) (by simpa using hi)
  have hol : (Mk.wy 0 i n).length ≤ 100 := by have := wy_short (lev := 0) (p := i) (n := n) (by omega) (by omega) (by simpa using hi); omega
  rw [rtsn_len]
  obtain ⟨os, hos⟩ : ∃ os, os = Mk.wy 0 i n := ⟨_, rfl⟩
  rw [← hos] at HO hol ⊢
  simp only [← hos] at KO
  clear hTr hL hos
  go_enter Tryd.func7, Tryd.ntmps7
  go_wp2_with (refine al_zero rfl 37 rfl [.slice none 0 0] (by kernel_rfl) ?_)
  intro g1 w1 l1 B1 G1
  have Z := (Below.refl w.heap.size w).grown G1 (Nat.le_refl _) (by simp)
  have HT1 : Hid (Tr w1 bt base L) := HT.out.grow Z
  clear G1
  go_wp2_with fail
  refine (size_any bt base L w1 HT1.out).mono ?_
  rintro e w2 ⟨rfl, hw2⟩
  rw [hw2]
  clear hw2 w2
  go_wp2_with fail
  refine (KO w1).mono ?_
  rintro e w2 ⟨ov, rfl, hown, Z2⟩
  obtain ⟨oa, ocap, rfl, _, _, hoes, _⟩ := hown.es
  have KR := roots_any bt L HL.out hlen oa ocap os hol n hn HO.out w2 (HT1.out.grow Z2).all hoes
  have B1 := B1.below Z2 B1.lt
  have Z := Z.trans (Z2.mono Z.size)
  clear KO hown hoes Z2
  go_wp2_with fail
  refine KR.mono ?_
  rintro e w3 ⟨g, rfl, hg, BG, Z3⟩
  have hne : g1 ≠ g := by have := B1.lt; omega
  have hgw : w.heap.size ≤ g := Nat.le_trans Z.size hg
  have B1 := B1.below Z3 B1.lt
  have Z := Z.trans (Z3.mono Z.size)
  clear KR Z3
  go_wp2_with (refine st_all rfl 37 (.tmp 6) (.tmp 29) rfl g1 37 [.slice none 0 0] [.slice (some ⟨g, 0, none⟩) os.length os.length] rfl rfl B1 rfl (by kernel_rfl) (by simp [Value.oneCell']) ?_)
  intro w4 B4 G4
  have BG := BG.kept G4 (fun e => hne (Option.some.inj e).symm)
  have Z := grown_below Z G4 Z.size l1
  go_wp2
  refine bodyPost_ret (res_two rfl _ g1 37 _ _ rfl B4 Tryd.underlying37 rfl (by kernel_rfl)) rfl ⟨g, rfl, hgw, BG, Z⟩
#print axioms prove_in
/-- the halves whose roots a consistency has. -/
def cnh (c u n : Nat) : List (Nat × Nat) := if u = 0 then Mk.wy c (2 * u) n else (c, 2 * u) :: Mk.wy c (2 * u) n
theorem cn_lt {c u n : Nat} (h : (2 * u + 1) * 2 ^ c < n) : 2 * u * 2 ^ c < n := by
  rw [Nat.add_mul] at h; omega
theorem cn_c {c u n : Nat} (h : (2 * u + 1) * 2 ^ c < n) (hn : n ≤ 2000000) : c ≤ 21 := by
  refine Nat.le_of_not_lt fun hc => ?_
  have h1 := Nat.pow_le_pow_right (n := 2) (by decide) hc
  have h2 := Nat.le_mul_of_pos_left (2 ^ c) (show 0 < 2 * u + 1 by omega)
  omega
theorem cnh_ok {c u n : Nat} (hn : n ≤ 2000000) (h : (2 * u + 1) * 2 ^ c < n) : ∀ x ∈ cnh c u n, x.1 ≤ 22 ∧ x.2 * 2 ^ x.1 < n := fun x hx => by
  unfold cnh at hx
  split at hx
  · exact wy_ok hn (cn_c h hn) (cn_lt h) x hx
  · rcases List.mem_cons.1 hx with rfl | hx
    · exact ⟨by have := cn_c h hn; show c ≤ 22; omega, cn_lt h⟩
    · exact wy_ok hn (cn_c h hn) (cn_lt h) x hx
theorem cnh_short {c u n : Nat} (hn : n ≤ 2000000) (h : (2 * u + 1) * 2 ^ c < n) : (cnh c u n).length ≤ 22 := by
  have := wy_short hn (cn_c h hn) (cn_lt h)
  unfold cnh
  split
  · omega
  · rw [List.length_cons]; omega
theorem owe_lit {α : Type} {enc : α → List Value} {n : Nat} (w : World) (t : TypeId) (x : α) (h : (enc x).length = n) : OwE enc t n (w.alloc (.cells (enc x).toArray t)) w.heap.size (.slice (some ⟨w.heap.size, 0, none⟩) 1 1) [x] :=
  ⟨⟨by simp [h], .inr ⟨w.heap.size, 1, (enc x).toArray, rfl, Nat.le_refl _, heap_alloc_new w _, Nat.le_refl _, by unfold maxLen; omega, by simp [h], by simp [← h]⟩⟩, by intro y hy; rw [List.mem_singleton.1 hy]; exact h⟩
set_option maxHeartbeats 2000000 in
set_option maxRecDepth 8000 in
theorem consist_same (bt base : Nat) (L : List (List Nat)) (n : Nat) (hm : 1 ≤ n) (hn : n ≤ L.length) (w : World) (hTr : Tr w bt base L) :
    Calls Tryd.prog 9 #[.pointer (some ⟨bt, 0, none⟩), .int .i64 (n : Int), .int .i64 (n : Int)] w fun e w' => e = .returned (.tuple #[.agg #[.slice none 0 0], .int .i64 0]) ∧ Below w.heap.size w w' := by
  have HT : Hid (Tr w bt base L) := hTr
  have h1 : ¬ (n : Int) < 1 := by omega
  have h2 : ¬ ((L.length : Int) < (n : Int)) := by omega
  clear hTr
  go_enter Tryd.func9, Tryd.ntmps9
  go_wp2_with (refine al_zero rfl 37 rfl [.slice none 0 0] (by kernel_rfl) ?_)
  intro g1 w1 l1 B1 G1
  have Z := (Below.refl w.heap.size w).grown G1 (Nat.le_refl _) (by simp)
  have HT1 : Hid (Tr w1 bt base L) := HT.out.grow Z
  clear G1
  go_wp2_with fail
  refine (size_any bt base L w1 HT1.out).mono ?_
  rintro e w2 ⟨rfl, hw2⟩
  rw [hw2]
  clear hw2 w2
  go_wp2_with (refine st_all rfl 37 (.tmp 6) (.tmp 27) rfl g1 37 [.slice none 0 0] [.slice none 0 0] rfl rfl B1 rfl (by kernel_rfl) (by simp [Value.oneCell']) ?_)
  intro w4 B4 G4
  have Z := grown_below Z G4 Z.size l1
  go_wp2
  refine bodyPost_ret (res_two rfl _ g1 37 _ _ rfl B4 Tryd.underlying37 rfl (by kernel_rfl)) rfl ⟨rfl, Z⟩
#print axioms consist_same
set_option maxHeartbeats 400000 in
set_option maxRecDepth 8000 in
theorem consist_in (bt base : Nat) (L : List (List Nat)) (hL : Hl L) (hlen : L.length ≤ 2000000) (m n c u : Nat) (hm : m = (2 * u + 1) * 2 ^ c) (hmn : m < n) (hn : n ≤ L.length) (w : World) (hT : Tb w) (hTr : Tr w bt base L) :
    Calls Tryd.prog 9 #[.pointer (some ⟨bt, 0, none⟩), .int .i64 (m : Int), .int .i64 (n : Int)] w fun e w' => ∃ g, e = .returned (.tuple #[.agg #[.slice (some ⟨g, 0, none⟩) (rtsn L n (cnh c u n)).length (rtsn L n (cnh c u n)).length], .int .i64 0]) ∧ w.heap.size ≤ g ∧ Blk w' g 30 ((rtsn L n (cnh c u n)).flatMap (nums .u8)) ∧ Below w.heap.size w w' := by
  have HT : Hid (Tr w bt base L) := hTr
  have HTb : Hid (Tb w) := hT
  have HL : Hid (Hl L) := hL
  have h0 : 0 < m := by rw [hm]; exact Nat.mul_pos (by omega) (Mk.pow_pos2 c)
  have h1 : ¬ (m : Int) < 1 := by omega
  have h2 : ¬ ((L.length : Int) < (n : Int)) := by omega
  have h3 : ¬ ((n : Int) < (m : Int)) := by omega
  have h4 : ¬ ((m : Int) = (n : Int)) := by omega
  have hlt : (2 * u + 1) * 2 ^ c < n := by rw [← hm]; exact hmn
  have KO := fun W => others_any c (2 * u) n (by omega) (cn_lt hlt) (by have := cn_c hlt (by omega); omega) W
  have KL := fun W hW => last_any m c u hm (by omega) W hW
  have HO : Hid (∀ x ∈ cnh c u n, x.1 ≤ 22 ∧ x.2 * 2 ^ x.1 < n) := cnh_ok (by omega) hlt
  have hol : (cnh c u n).length ≤ 100 := by have := cnh_short (by omega) hlt; omega
  have how : Hid ((Mk.wy c (2 * u) n).length ≤ 21) := wy_short (by omega) (cn_c hlt (by omega)) (cn_lt hlt)
  rw [rtsn_len]
  have HC : Hid (cnh c u n = if u = 0 then Mk.wy c (2 * u) n else (c, 2 * u) :: Mk.wy c (2 * u) n) := rfl
  obtain ⟨d, hd⟩ : ∃ d, d = 2 * u := ⟨_, rfl⟩
  rw [← hd] at HC how
  simp only [← hd] at KO KL
  obtain ⟨os, hos⟩ : ∃ os, os = Mk.wy c d n := ⟨_, rfl⟩
  obtain ⟨cs, hcs⟩ : ∃ cs, cs = cnh c u n := ⟨_, rfl⟩
  rw [← hcs] at HO hol HC ⊢
  rw [← hos] at how HC
  simp only [← hos] at KO
  have hdu : Hid (d = 2 * u) := hd
  clear hTr hL hos hcs hd hT hm hlt
  go_enter Tryd.func9, Tryd.ntmps9
  go_wp2_with (refine al_zero rfl 37 rfl [.slice none 0 0] (by kernel_rfl) ?_)
  intro g1 w1 l1 B1 G1
  have Z := (Below.refl w.heap.size w).grown G1 (Nat.le_refl _) (by simp)
  have HT1 : Hid (Tr w1 bt base L) := HT.out.grow Z
  clear G1
  go_wp2_with fail
  refine (size_any bt base L w1 HT1.out).mono ?_
  rintro e w2 ⟨rfl, hw2⟩
  rw [hw2]
  clear hw2 w2
  go_wp2_with fail
  refine (KL w1 (HTb.out.grow Z)).mono ?_
  rintro e w2 ⟨rfl, Z2⟩
  have B1 := B1.below Z2 B1.lt
  have Z := Z.trans (Z2.mono Z.size)
  have HT2 : Hid (Tr w2 bt base L) := HT1.out.grow Z2
  clear Z2 KL HT1
  obtain ⟨w3, hw3, Z3, BV⟩ : ∃ w3, w2.alloc (Obj.cells #[.int .i64 (c : Int), .int .i64 (d : Int)] 54) = w3 ∧ Below w2.heap.size w2 w3 ∧ Blk w3 w2.heap.size 54 [.int .i64 (c : Int), .int .i64 (d : Int)] := ⟨_, rfl, (Below.refl _ _).alloc (Nat.le_refl _) _, blk_new w2 _ _⟩
  have B1 := B1.below Z3 B1.lt
  have Z := Z.trans (Z3.mono Z.size)
  have HT3 : Hid (Tr w3 bt base L) := HT2.out.grow Z3
  clear HT2 Z3
  go_wp2_with (refine ld_mid rfl 54 (.tmp 8) rfl w2.heap.size 0 rfl [.int .i64 (c : Int), .int .i64 (d : Int)] _ BV.all Tryd.underlying54 rfl (by kernel_rfl) ?_)
  refine (KO w3).mono ?_
  rintro e w4 ⟨ov, rfl, hown, Z4⟩
  obtain ⟨oa, ocap, rfl, _, hnil, hoes, _⟩ := hown.es
  have B1 := B1.below Z4 B1.lt
  have BV := BV.below Z4 BV.lt
  have Z := Z.trans (Z4.mono Z.size)
  have HT4 : Hid (Tr w4 bt base L) := HT3.out.grow Z4
  have HE4 : Hid (ES encV 2 w4 oa os ∧ (oa = none → ocap = 0)) := ⟨hoes, fun h => (hnil h).1⟩
  clear KO hown hoes Z4 HT3 hnil hw3
  go_wp2_with (refine ld_mid rfl 54 (.tmp 8) rfl w2.heap.size 0 rfl [.int .i64 (c : Int), .int .i64 (d : Int)] _ BV.all Tryd.underlying54 rfl (by kernel_rfl) ?_)
  refine (first_any c d w4).mono ?_
  rintro e w5 ⟨rfl, Z5⟩
  have B1 := B1.below Z5 B1.lt
  have BV := BV.below Z5 BV.lt
  have Z := Z.trans (Z5.mono Z.size)
  have HT5 : Hid (Tr w5 bt base L) := HT4.out.grow Z5
  have HE5 : Hid (ES encV 2 w5 oa os ∧ (oa = none → ocap = 0)) := ⟨HE4.out.1.below Z5, HE4.out.2⟩
  clear Z5 HT4 HE4
  by_cases hu : u = 0
  · have ed : decide (d = 0) = true := by rw [hdu.out, hu]; rfl
    obtain rfl : cs = os := by rw [HC.out, if_pos hu]
    have KR := roots_any bt L HL.out hlen oa ocap cs hol n hn HO.out w5 HT5.out.all HE5.out.1
    rw [ed]
    clear hu ed
    go_wp2_with fail
    refine KR.mono ?_
    rintro e w6 ⟨g, rfl, hg, BG, Z6⟩
    have hne : g1 ≠ g := by have := B1.lt; omega
    have hgw : w.heap.size ≤ g := Nat.le_trans Z.size hg
    have B1 := B1.below Z6 B1.lt
    have Z := Z.trans (Z6.mono Z.size)
    clear KR Z6
    go_wp2_with (refine st_all rfl 37 (.tmp 6) (.tmp 44) rfl g1 37 [.slice none 0 0] [.slice (some ⟨g, 0, none⟩) cs.length cs.length] rfl rfl B1 rfl (by kernel_rfl) (by simp [Value.oneCell']) ?_)
    intro w7 B7 G7
    have BG := BG.kept G7 (fun e => hne (Option.some.inj e).symm)
    have Z := grown_below Z G7 Z.size l1
    go_wp2
    refine bodyPost_ret (res_two rfl _ g1 37 _ _ rfl B7 Tryd.underlying37 rfl (by kernel_rfl)) rfl ⟨g, rfl, hgw, BG, Z⟩
  · have ed : decide (d = 0) = false := by rw [hdu.out]; simp; omega
    have ecs : Hid (cs = (c, d) :: os) := by show _ = _; rw [HC.out, if_neg hu]
    rw [ed]
    obtain ⟨w6, hw6, Z6, O6⟩ : ∃ w6, w5.alloc (.cells #[.int .i64 (c : Int), .int .i64 (d : Int)] 54) = w6 ∧ Below w5.heap.size w5 w6 ∧ OwE encV 54 2 w6 w5.heap.size (.slice (some ⟨w5.heap.size, 0, none⟩) 1 1) [(c, d)] := ⟨_, rfl, (Below.refl _ _).alloc (Nat.le_refl _) _, owe_lit w5 _ (c, d) rfl⟩
    have HE6 : Hid (ES encV 2 w6 oa os ∧ (oa = none → ocap = 0)) := ⟨HE5.out.1.below Z6, HE5.out.2⟩
    have HO6 : Hid (OwE encV 54 2 w6 w5.heap.size (.slice (some ⟨w5.heap.size, 0, none⟩) 1 1) [(c, d)]) := O6
    have s6 := Z6.size
    clear hu ed
    go_wp2_with (first | (refine ld_mid rfl 54 (.tmp 8) rfl w2.heap.size 0 rfl [.int .i64 (c : Int), .int .i64 (d : Int)] _ BV.all Tryd.underlying54 rfl (by kernel_rfl) ?_) | (at_builtin; go_must (refine app_wl rfl (.tmp 37) (.tmp 38) 52 54 rfl Tryd.underlying52 _ 16 iV rfl (by decide) (by decide) w5.heap.size (.slice (some ⟨w5.heap.size, 0, none⟩) 1 1) [(c, d)] os rfl HO6.out oa ocap rfl HE6.out.1 HE6.out.2 (fun z _ => encV_one z) (by have := how.out; simp; omega) s6 ?_)))
    intro v7 w7 O7 G7
    have Z7 := below_own Z6 s6 O6 G7
    obtain ⟨a7, c7, rfl, _, _, es7, _⟩ := O7.es
    rw [← ecs.out] at es7 ⊢
    have KR := roots_any bt L HL.out hlen a7 c7 cs hol n hn HO.out w7 (HT5.out.grow Z7).all es7
    have B1 := B1.below Z7 B1.lt
    have Z := Z.trans (Z7.mono Z.size)
    clear G7 O7 es7 O6 HO6 HE6 Z6 hw6 s6 HE5 HT5
    go_wp2_with fail
    refine KR.mono ?_
    rintro e w8 ⟨g, rfl, hg, BG, Z8⟩
    have hne : g1 ≠ g := by have := B1.lt; omega
    have hgw : w.heap.size ≤ g := Nat.le_trans Z.size hg
    have B1 := B1.below Z8 B1.lt
    have Z := Z.trans (Z8.mono Z.size)
    clear KR Z8
    go_wp2_with (refine st_all rfl 37 (.tmp 6) (.tmp 44) rfl g1 37 [.slice none 0 0] [.slice (some ⟨g, 0, none⟩) cs.length cs.length] rfl rfl B1 rfl (by kernel_rfl) (by simp [Value.oneCell']) ?_)
    intro w9 B9 G9
    have BG := BG.kept G9 (fun e => hne (Option.some.inj e).symm)
    have Z := grown_below Z G9 Z.size l1
    go_wp2
    refine bodyPost_ret (res_two rfl _ g1 37 _ _ rfl B9 Tryd.underlying37 rfl (by kernel_rfl)) rfl ⟨g, rfl, hgw, BG, Z⟩
#print axioms consist_in
/-- the hashes of a consistency. -/
def csl (L : List (List Nat)) (m n c u : Nat) : List (List Nat) := if m = n then [] else rtsn L n (cnh c u n)
theorem csl_hl {L : List (List Nat)} (hL : Hl L) (m n c u : Nat) : Hl (csl L m n c u) := by
  unfold csl
  split
  · intro x hx; cases hx
  · exact rtsn_hl hL n _
theorem vfy_true (L : List (List Nat)) (n i : Nat) (x : List Nat) (hi : i < n) (hn : n ≤ L.length) (hx : L[i]? = some x) : vfy x i n (rtsn L n (Mk.wy 0 i n)) (Mk.R nd em (L.take n)) = true := by
  have hl : (L.take n).length = n := by rw [List.length_take]; omega
  have h := Mk.fo_path nd em n (L.take n) i x (by rw [hl]; exact Nat.le_of_lt Nat.lt_two_pow_self) (by rw [List.getElem?_take_of_lt hi]; exact hx)
  rw [hl] at h
  unfold vfy
  rw [decide_eq_true_iff]
  exact ⟨rtsn_len L n _, h⟩
theorem vcs_true (L : List (List Nat)) (m n c u : Nat) (hm : m = (2 * u + 1) * 2 ^ c) (hmn : m ≤ n) (hn : n ≤ L.length) : vcs m c u n (csl L m n c u) (Mk.R nd em (L.take m)) (Mk.R nd em (L.take n)) = true := by
  have hl : (L.take n).length = n := by rw [List.length_take]; omega
  unfold vcs csl
  by_cases he : m = n
  · rw [if_pos he, if_pos he, he]; simp
  · rw [if_neg he, if_neg he]
    have h := Mk.fb_sub nd em n (L.take n) c u (by rw [hl]; exact Nat.le_of_lt Nat.lt_two_pow_self) (.inl (by rw [hl, ← hm]; omega))
    rw [hl, ← hm, List.take_take, Nat.min_eq_left hmn] at h
    unfold cnh
    by_cases hu : u = 0
    · rw [if_pos hu, if_pos hu]
      have e : Mk.sg (L.take n) (c, 2 * u) = L.take m := by
        subst hu
        rw [show 2 * 0 = 0 from rfl, Mk.sg_zero, List.take_take, Nat.min_eq_left (by rw [hm] at hmn; simpa using hmn), hm]
        simp
      rw [e] at h
      unfold mt
      rw [decide_eq_true_iff]
      exact ⟨rtsn_len L n _, by rw [show rtsn L n (Mk.wy c (2 * u) n) = Mk.rts nd em (L.take n) (Mk.wy c (2 * u) n) from rfl, h], by rw [show rtsn L n (Mk.wy c (2 * u) n) = Mk.rts nd em (L.take n) (Mk.wy c (2 * u) n) from rfl, h]⟩
    · rw [if_neg hu, if_neg hu]
      show mt (Mk.R nd em (Mk.sg (L.take n) (c, 2 * u))) _ (rtsn L n (Mk.wy c (2 * u) n)) _ _ = true
      unfold mt
      rw [decide_eq_true_iff]
      exact ⟨rtsn_len L n _, by rw [show rtsn L n (Mk.wy c (2 * u) n) = Mk.rts nd em (L.take n) (Mk.wy c (2 * u) n) from rfl, h], by rw [show rtsn L n (Mk.wy c (2 * u) n) = Mk.rts nd em (L.take n) (Mk.wy c (2 * u) n) from rfl, h]⟩
theorem consist_any (bt base : Nat) (L : List (List Nat)) (hL : Hl L) (hlen : L.length ≤ 2000000) (m n c u : Nat) (hm : m = (2 * u + 1) * 2 ^ c) (hmn : m ≤ n) (hn : n ≤ L.length) (w : World) (hTr : Tr w bt base L) (hT : Tb w) :
    Calls Tryd.prog 9 #[.pointer (some ⟨bt, 0, none⟩), .int .i64 (m : Int), .int .i64 (n : Int)] w fun e w' => ∃ a cap, e = .returned (.tuple #[.agg #[.slice a (csl L m n c u).length cap], .int .i64 0]) ∧ (csl L m n c u).length ≤ cap ∧ ES (nums .u8) 32 w' a (csl L m n c u) ∧ Below w.heap.size w w' := by
  have h0 : 0 < m := by rw [hm]; exact Nat.mul_pos (by omega) (Mk.pow_pos2 c)
  by_cases he : m = n
  · subst he
    have ec : csl L m m c u = [] := if_pos rfl
    rw [ec]
    refine (consist_same bt base L m h0 hn w hTr).mono ?_
    rintro e w' ⟨rfl, Z⟩
    exact ⟨none, 0, rfl, Nat.le_refl _, .inl rfl, Z⟩
  · have ec : csl L m n c u = rtsn L n (cnh c u n) := if_neg he
    rw [ec]
    refine (consist_in bt base L hL hlen m n c u hm (by omega) hn w hT hTr).mono ?_
    rintro e w' ⟨g, rfl, _, B, Z⟩
    exact ⟨some ⟨g, 0, none⟩, _, rfl, Nat.le_refl _, es_blk (rtsn_hl hL n _) B, Z⟩
end Go.Proofs.YtfkiciejipcgkaaDoor
