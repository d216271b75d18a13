/-
  (*merkle.Tree).roots: the roots of halves.
-/
import Derived.Test.YtehkaploinklmaaDoorEx
import Derived.Laws.MakeOwn
namespace Go.Proofs.YtehkaploinklmaaDoor
open Go Go.RowKit Go.Maps Sh
theorem mk_row {P : Program} {ops : Array Oper} {rest : List Oper} {o : Oper} {a : Act} {w : World} {Q : Exit → Act → World → Prop} (hg : o.guard = none) (T elem : TypeId) (x : Operand) (ho : o.op = .makeSlice T x x) (hu : P.underlying T = some (.slice elem)) (size bytes : Nat) (z : Value) (hi : (P.info? elem).map (fun i => (i.zero, i.size, i.bytes)) = some (some z, size, bytes))
    (n : Nat) (zn : Int) (hzn : zn = (n : Int)) (hx : a.eval x = .int .i64 zn) (hb : bytes * n ≤ 281474976710656) (hn : n ≤ 1000000)
    (h : ∀ w' cs, cs.length = n * size → Blk w' w.heap.size elem cs → w.grownBy w' none → wpList P ops Q rest (a.put o.dst (.slice (some ⟨w.heap.size, 0, none⟩) n n)) w') : wpList P ops Q (o :: rest) a w := by
  subst hzn
  refine wpList_plain hg fun K hK => ?_
  cases hq : P.info? elem with
  | none => simp [hq] at hi
  | some i =>
    simp only [hq, Option.map_some, Option.some.injEq, Prod.mk.injEq] at hi
    obtain ⟨h1, h2, h3⟩ := hi
    have hb' : (i.bytes : Int) * (n : Int) ≤ 281474976710656 := by
      rw [h3]
      have h : ((bytes * n : Nat) : Int) ≤ 281474976710656 := by omega
      rwa [Int.natCast_mul] at h
    have hr := run_make (P := P) w T elem i z hu hq h1 .i64 .i64 n n (by omega) (Int.le_refl _) hb' (by omega)
    simp only [Int.toNat_natCast] at hr
    unfold Oper.wp execOp
    simp only [ho, hx, hr, Sem.run_bind, Result.andThen_ok, Sem.run_pure]
    refine hK _ _ (h _ (madeCells z.cells (n * i.size)).toList (by simp [size_madeCells, h2]) ?_ (World.grownBy_alloc w _ none))
    have := heap_alloc_new w (.cells (madeCells z.cells (n * i.size)) elem)
    unfold Blk
    rw [this]
/-- the roots of halves, of the first n leaves. -/
def rtsn (L : List (List Nat)) (n : Nat) (os : List (Nat × Nat)) : List (List Nat) := Mk.rts nd em (L.take n) os
theorem rtsn_hl {L : List (List Nat)} (hL : Hl L) (n : Nat) (os : List (Nat × Nat)) : Hl (rtsn L n os) := by
  intro y hy
  obtain ⟨x, _, rfl⟩ := List.mem_map.1 hy
  exact R_hh (((hL.take n).drop _).take _)
theorem rtsn_len (L : List (List Nat)) (n : Nat) (os : List (Nat × Nat)) : (rtsn L n os).length = os.length := List.length_map ..
theorem sg_min (L : List (List Nat)) (n l o : Nat) (h : o * 2 ^ l < n) : Mk.sg (L.take n) (l, o) = sgd L (o * 2 ^ l) (min ((o + 1) * 2 ^ l) n - o * 2 ^ l) := by
  unfold Mk.sg sgd
  rw [List.drop_take, List.take_take]
  congr 1
  rw [Nat.add_mul, Nat.one_mul]
  revert h
  generalize o * 2 ^ l = f
  generalize 2 ^ l = c
  intro h
  rw [Nat.min_def, Nat.min_def]
  split <;> split <;> omega
theorem oper_min {o : Oper} {a : Act} {w : World} {K : Act → World → Prop} {Q : Exit → Act → World → Prop} (x y : Operand) (ts : Array TypeId) (ho : o.op = .call { callee := .builtin .min, args := #[x, y], argTypes := ts }) (p q u : Nat) (hx : a.eval x = .int .i64 (p : Int)) (hy : a.eval y = .int .i64 (q : Int)) (hu : u = min p q) (hK : K (a.put o.dst (.int .i64 (u : Int))) w) : Oper.wp Tryd.prog o a w K Q := by
  have e : (if (q : Int) < (p : Int) then (q : Int) else (p : Int)) = (u : Int) := by split <;> omega
  unfold Oper.wp execOp
  simp only [ho, resolve, invoke, builtin, Sem.run_bind, Sem.run_pure, Result.andThen_ok, List.map_toArray, List.map_cons, List.map_nil, hx, hy, run_min_int2, e]
  exact hK
theorem flat_snoc (M : List (List Nat)) (x : List Nat) : (M ++ [x]).flatMap (nums .u8) = M.flatMap (nums .u8) ++ nums .u8 x := by simp
set_option maxHeartbeats 2000000 in
set_option maxRecDepth 8000 in
theorem roots_any (bt : Nat) (L : List (List Nat)) (hL : Hl L) (hlen : L.length ≤ 2000000) (a : Option Addr) (cap : Nat) (os : List (Nat × Nat)) (hol : os.length ≤ 100) (n : Nat) (hn : n ≤ L.length) (hos : ∀ x ∈ os, x.1 ≤ 22 ∧ x.2 * 2 ^ x.1 < n) (w : World) (hW : AllW w bt L) (hS : ES encV 2 w a os) :
    Calls Tryd.prog 28 #[.pointer (some ⟨bt, 0, none⟩), .slice a os.length cap, .int .i64 (n : Int)] w fun e w' => ∃ g, e = .returned (.slice (some ⟨g, 0, none⟩) os.length os.length) ∧ w.heap.size ≤ g ∧ Blk w' g 30 ((rtsn L n os).flatMap (nums .u8)) ∧ Below w.heap.size w w' := by
  have HS : Hid (ES encV 2 w a os) := hS
  have HA : Hid (AllW w bt L) := hW
  have HO : Hid (∀ x ∈ os, x.1 ≤ 22 ∧ x.2 * 2 ^ x.1 < n) := hos
  have HL : Hid (Hl L) := hL
  clear hS hW hos hL
  go_enter Tryd.func28, Tryd.ntmps28
  go_wp2_with (refine mk_row rfl 22 30 (.tmp 11) rfl Tryd.underlying22 32 32 _ iH os.length _ rfl rfl (by omega) (by omega) ?_)
  intro w1 cs hcs B1 G1
  have Z1 := (Below.refl w.heap.size w).grown G1 (Nat.le_refl _) (by simp)
  obtain ⟨g, hg⟩ : ∃ g, w.heap.size = g := ⟨_, rfl⟩
  have hgg : w.heap.size ≤ g := by omega
  rw [hg] at B1 ⊢
  have HI : Hid (∃ R : List Value, R.length = (os.length - 0) * 32 ∧ Blk w1 g 30 ((rtsn L n (os.take 0)).flatMap (nums .u8) ++ R) ∧ Below w.heap.size w w1) := ⟨cs, by rw [hcs]; omega, by simpa [rtsn, Mk.rts] using B1, Z1⟩
  clear G1 B1 Z1 hcs cs
  go_wp2
  go_loopw [15] (fun iv wr => ∃ k : Nat, k ≤ os.length ∧ iv = .int .i64 (k : Int) ∧ Hid (∃ R : List Value, R.length = (os.length - k) * 32 ∧ Blk wr g 30 ((rtsn L n (os.take k)).flatMap (nums .u8) ++ R) ∧ Below w.heap.size w wr)) (fun iv _ => os.length - (intOf iv).toNat)
  case atStart => exact ⟨0, Nat.zero_le _, rfl, HI⟩
  case round =>
    clear HI
    obtain ⟨k, hk, rfl, HI⟩ := hrel
    obtain ⟨R0, hR0, BG0, Zr⟩ := HI.out
    clear HI
    have HWr : Hid (AllW wr bt L) := HA.out.below Zr
    by_cases hlt : k < os.length
    · obtain ⟨l, o, hx⟩ : ∃ l o, os[k]? = some (l, o) := ⟨_, _, List.getElem?_eq_getElem hlt⟩
      obtain ⟨b1, o1, rfl, R1⟩ := HS.out.at hx
      have R1 := range_below R1 Zr
      obtain ⟨hl, hon⟩ : l ≤ 22 ∧ o * 2 ^ l < n := HO.out _ (List.mem_of_getElem? hx)
      have h22 : 2 ^ l ≤ 2 ^ 22 := Nat.pow_le_pow_right (by decide) hl
      have hp1 : 1 ≤ 2 ^ l := Nat.one_le_two_pow
      have hoo : o ≤ o * 2 ^ l := Nat.le_mul_of_pos_right _ hp1
      have het : (o + 1) * 2 ^ l = o * 2 ^ l + 2 ^ l := by rw [Nat.add_mul, Nat.one_mul]
      obtain ⟨f, hf⟩ : ∃ f, f = o * 2 ^ l := ⟨_, rfl⟩
      obtain ⟨t, ht⟩ : ∃ t, t = (o + 1) * 2 ^ l := ⟨_, rfl⟩
      have HF : Hid (o * 2 ^ l ≤ 1000000000000000 ∧ f = o * 2 ^ l) := ⟨by omega, hf⟩
      have HE : Hid (o ≤ 1000000000000000 ∧ (o + 1) * 2 ^ l ≤ 1000000000000000 ∧ t = (o + 1) * 2 ^ l) := ⟨by omega, by omega, ht⟩
      obtain ⟨u, hu⟩ : ∃ u, Hid (u = min t n) := ⟨_, rfl⟩
      obtain ⟨x, hxx⟩ : ∃ x, Hid (x = Mk.R nd em (Mk.sg (L.take n) (l, o))) := ⟨_, rfl⟩
      have HX : Hid (Hh x) := by show Hh x; rw [hxx.out]; exact R_hh (((HL.out.take n).drop _).take _)
      have hfu : f < u ∧ u ≤ n ∧ u ≤ t := by have := hu.out; omega
      have HK : Hid (∀ y, AllW y bt L → Calls Tryd.prog 26 #[.pointer (some ⟨bt, 0, none⟩), .int .i64 (f : Int), .int .i64 (u : Int)] y fun e w' => e = .returned (.agg (nums .u8 x).toArray) ∧ Below y.heap.size y w') := fun y hy => by
        have K := root_all bt L HL.out hlen (l + 1) l o (u - f) y (by omega) hy (by omega) (by omega) (by omega)
        rw [← hf, show f + (u - f) = u by omega] at K
        rw [hxx.out, sg_min L n l o hon, ← ht, ← hu.out, ← hf]
        exact K
      obtain ⟨P, hP⟩ : ∃ P, Hid (P = (rtsn L n (os.take k)).flatMap (nums .u8)) := ⟨_, rfl⟩
      have HPl : Hid (P.length = k * 32) := by
        show _ = _
        rw [hP.out, flat_len (n := 32) (fun y hy => by rw [nums_length]; exact (rtsn_hl HL.out n _ y hy).1), rtsn_len, List.length_take]
        congr 1
        omega
      obtain ⟨m, R, rfl, hm, hR⟩ : ∃ m R, R0 = m ++ R ∧ m.length = 32 ∧ R.length = (os.length - (k + 1)) * 32 := ⟨R0.take 32, R0.drop 32, (List.take_append_drop _ _).symm, by rw [List.length_take]; omega, by rw [List.length_drop]; omega⟩
      rw [← hP.out] at BG0
      have BG := BG0
      clear BG0 hR0
      have HPn : Hid (P ++ nums .u8 x = (rtsn L n (os.take (k + 1))).flatMap (nums .u8)) := by
        obtain ⟨h1, e1⟩ := List.getElem?_eq_some_iff.1 hx
        show _ = _
        rw [List.take_succ_eq_append_getElem h1, e1, rtsn, Mk.rts, List.map_append, List.map_cons, List.map_nil, flat_snoc, ← hxx.out, hP.out]
        rfl
      have HNl : Hid ((nums .u8 x).length = m.length) := by show _ = _; rw [nums_length, HX.out.1, hm]
      have HNs : Hid ((Tryd.prog.info? 30).map (·.size) = some (nums .u8 x).length) := sH HX.out
      clear hx hf ht het hoo h22 hp1
      go_wp2_with (refine ld_mid rfl 60 (.tmp 18) rfl b1 (o1 + k * 2) rfl [.int .i64 (l : Int), .int .i64 (o : Int)] _ R1 Tryd.underlying60 rfl (by kernel_rfl) ?_)
      obtain ⟨wk, HW, ZK⟩ : ∃ wk, wr.alloc (Obj.cells #[.int .i64 (l : Int), .int .i64 (o : Int)] 60) = wk ∧ Hid (Below wr.heap.size wr wk ∧ Blk wk wr.heap.size 60 [.int .i64 (l : Int), .int .i64 (o : Int)]) := ⟨_, rfl, (Below.refl _ _).alloc (Nat.le_refl _) _, blk_new wr _ _⟩
      rw [HW]
      clear HW
      have BV := ZK.out.2
      have BG := BG.below ZK.out.1 BG.lt
      have HW' : Hid (AllW wk bt L) := HWr.out.below ZK.out.1
      obtain ⟨C, hC⟩ : ∃ C : World → Prop, C = fun W => Below wk.heap.size wk W := ⟨_, rfl⟩
      have FV : Hid (∀ W, C W → W.rangeAt wr.heap.size 0 [.int .i64 (l : Int), .int .i64 (o : Int)]) := fun W hW => by rw [hC] at hW; exact (BV.below hW BV.lt).all
      have FA : Hid (∀ W, C W → AllW W bt L) := fun W hW => by rw [hC] at hW; exact HW'.out.below hW
      have FG : Hid (∀ W, C W → Blk W g 30 (P ++ (m ++ R))) := fun W hW => by rw [hC] at hW; exact BG.below hW BG.lt
      have CK : Hid (∀ W W', C W → Below W.heap.size W W' → C W') := fun W W' h1 h2 => by rw [hC] at h1 ⊢; exact h1.trans (h2.mono h1.size)
      have CA : Hid (∀ W W', C W → Below wk.heap.size W W' → C W') := fun W W' h1 h2 => by rw [hC] at h1 ⊢; exact h1.trans h2
      have CE : Hid (∀ W, C W → Below wk.heap.size wk W) := fun W h => by rw [hC] at h; exact h
      have C0 : Hid (C { wk with drawn := wk.drawn + 1 }) := by rw [hC]; exact Below.drew (Below.refl _ _)
      clear hC
      clear BV BG
      refine region_calm C 11 (by kernel_rfl) ?_
      have hCp : ∀ p : Prop, (∀ W, C W → p) ↔ p := fun p => ⟨fun h => h _ C0.out, fun h _ _ => h⟩
      generalize ({ wk with drawn := wk.drawn + 1 } : World) = y0 at *
      refine seg 6 [0, 1, 2, 3, 5, 7] rfl (by kernel_rfl) whole_blind (C0.out) (by kernel_rfl) ?_
      change wpQuiet _ _ _ _ (_ :: _ :: _ :: _ :: _ :: _ :: []) _
      repeat (first
        | go_big_quiet_skip
        | (go_big_quiet_want
           first
           | (refine q_load 60 (.tmp 9) rfl wr.heap.size 0 rfl [.int .i64 (l : Int), .int .i64 (o : Int)] _ FV.out Tryd.underlying60 rfl (by kernel_rfl) ?_
              simp only [Act.put, List.setIfInBounds_toArray, List.set_cons_zero, List.set_cons_succ]
              go_big_quiet_on)
           | (go_big_quiet_op
              go_big_quiet_on)))
      refine wpQuiet_nil ?_
      refine lone_do (i := 4) 5 rfl (by kernel_rfl) rfl (by rfl) ?_
      intro K hK
      refine oper_calls 49 _ _ rfl #[.agg #[.int .i64 (l : Int), .int .i64 (o : Int)]] (by rw [List.map_toArray]; rfl) (enters Tryd.func49 (by kernel_rfl) rfl) (fun v w' => v = .int .i64 (f : Int) ∧ Below y0.heap.size y0 w') (by have K := begin_any l o (by omega) HF.out.1 y0; rw [← HF.out.2] at K; exact K.mono (by rintro e w' ⟨rfl, g⟩; exact ⟨_, rfl, rfl, g⟩)) ?_
      rintro v y1 ⟨rfl, Z1⟩
      have C1 : Hid (C y1) := CK.out _ _ C0.out Z1
      clear Z1
      refine hK _ _ (C1.out) ?_
      clear hK K
      simp only [Act.put, List.setIfInBounds_toArray, List.set_cons_zero, List.set_cons_succ]
      refine lone_do (i := 6) 4 rfl (by kernel_rfl) rfl (by rfl) ?_
      intro K hK
      refine oper_calls 44 _ _ rfl #[.agg #[.int .i64 (l : Int), .int .i64 (o : Int)]] (by rw [List.map_toArray]; rfl) (enters Tryd.func44 (by kernel_rfl) rfl) (fun v w' => v = .int .i64 (t : Int) ∧ Below y1.heap.size y1 w') (by have K := end_any' l o (by omega) HE.out.1 HE.out.2.1 y1; rw [← HE.out.2.2] at K; exact K.mono (by rintro e w' ⟨rfl, g⟩; exact ⟨_, rfl, rfl, g⟩)) ?_
      rintro v y2 ⟨rfl, Z2⟩
      have C2 : Hid (C y2) := CK.out _ _ C1.out Z2
      clear Z2
      refine hK _ _ (C2.out) ?_
      clear hK K
      simp only [Act.put, List.setIfInBounds_toArray, List.set_cons_zero, List.set_cons_succ]
      refine lone_do (i := 8) 3 rfl (by kernel_rfl) rfl (by rfl) ?_
      intro K hK
      refine oper_min (.tmp 26) (.tmp 27) _ rfl t n u rfl rfl hu.out ?_
      refine hK _ _ (C2.out) ?_
      clear hK K
      simp only [Act.put, List.setIfInBounds_toArray, List.set_cons_zero, List.set_cons_succ]
      refine lone_do (i := 9) 2 rfl (by kernel_rfl) rfl (by rfl) ?_
      intro K hK
      refine oper_calls 26 _ _ rfl #[.pointer (some ⟨bt, 0, none⟩), .int .i64 (f : Int), .int .i64 (u : Int)] (by rw [List.map_toArray]; rfl) (enters Tryd.func26 (by kernel_rfl) rfl) (fun v w' => v = .agg (nums .u8 x).toArray ∧ Below y2.heap.size y2 w') (by have K := HK.out y2 (FA.out _ C2.out); exact K.mono (by rintro e w' ⟨rfl, g⟩; exact ⟨_, rfl, rfl, g⟩)) ?_
      rintro v y3 ⟨rfl, Z3⟩
      have C3 : Hid (C y3) := CK.out _ _ C2.out Z3
      clear Z3
      refine hK _ _ (C3.out) ?_
      clear hK K
      simp only [Act.put, List.setIfInBounds_toArray, List.set_cons_zero, List.set_cons_succ]
      refine lone_calm (i := 10) 1 rfl (by kernel_rfl) rfl rfl (C3.out) ?_
      repeat (first
        | go_big_quiet_skip
        | (go_big_quiet_want
           first
           | (go_big_quiet_op
              go_big_quiet_on)))
      refine wpQuiet_nil ?_
      refine lone_last (i := 11) 0 rfl rfl (by kernel_rfl) rfl (by rfl) ?_
      intro K hK
      refine oper_row 30 (.tmp 30) (.tmp 29) rfl g (k * 32) 30 P m R (nums .u8 x) rfl rfl HPl.out (FG.out _ C3.out) HNl.out HNs.out (nums_one _ _) ?_
      intro y4 B4 G4
      refine hK _ _ ?_
      clear hK K
      refine anyC_done (by kernel_rfl) ⟨rfl, ?_⟩
      simp only [Act.put]
      have Zk := CE.out _ C3.out
      have HI : Hid (∃ R : List Value, R.length = (os.length - (k + 1)) * 32 ∧ Blk y4 g 30 ((rtsn L n (os.take (k + 1))).flatMap (nums .u8) ++ R) ∧ Below w.heap.size w y4) := by
        refine ⟨R, hR, by rw [← HPn.out, List.append_assoc]; exact B4, ?_⟩
        have z1 := Zr.trans (ZK.out.1.mono Zr.size)
        have z2 := z1.trans (Zk.mono z1.size)
        exact grown_below z2 G4 z2.size hgg
      clear B4 G4 Zk C1 C2 C3 CK CA CE FV FA FG hCp HPn HNl HNs C0
      go_wp2
      go_roundw
      case rel => exact ⟨k + 1, hlt, by simp, HI⟩
      case measure => simp [intOf]; omega
    · obtain rfl : k = os.length := by omega
      obtain rfl : R0 = [] := List.eq_nil_of_length_eq_zero (by rw [hR0]; omega)
      rw [List.append_nil, List.take_of_length_le (Nat.le_refl _)] at BG0
      go_wp2
      go_ret
      exact ⟨g, rfl, hgg, BG0, Zr⟩
#print axioms roots_any
end Go.Proofs.YtehkaploinklmaaDoor
