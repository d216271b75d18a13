/-
  Three operations more as laws that leave the world under a name: a copy into a row that is known whole; a number stored into one cell of it; a slice cut from a place on. · The contract of digest.ending: what stands behind so many bytes. · One region of (*summer).add that draws its order: 's.state = stir(s.state, s.block)', over whatever frame.
-/
import Derived.Test.YtlefdnjokppibaaGreatDoorVG13x
import Derived.Laws.CopyOwn
import Derived.Test.YtlefdnjokppibaaGreatDoorVG15x
import Derived.RegionCalls
namespace Go.Proofs.YtlefdnjokppibaaGreatDoor.Sh
open Go.RowKit Mt
variable {P : Program} {ops : Array Oper} {rest : List Oper} {o : Oper} {a : Act} {w : World} {Q : Exit → Act → World → Prop}
theorem blk_setRow {g : Nat} {t : TypeId} {vs vs' : List Value} (h : Blk w g t vs) : Blk (w.setRow g vs'.toArray) g t vs' := setRow_heap w g _ _ t _ h
theorem grown_setRow (w : World) (g : Nat) (cs : Array Value) : w.grownBy (w.setRow g cs) (some g) :=
  ⟨rfl, rfl, rfl, by simp, fun k _ hk => setRow_other w g k cs (fun e => hk (by rw [e]))⟩
theorem cp_row (hgd : o.guard = none) (d s : Operand) (dT sT : TypeId) (ho : o.op = .call { callee := .builtin .copy, args := #[d, s], argTypes := #[dT, sT] }) (elem : TypeId) (hu : P.underlying dT = some (.slice elem)) (hsz : (P.info? elem).map (·.size) = some 1)
    (g off dLen dCap : Nat) (ad : Addr) (sLen sCap : Nat) (hd : a.eval d = .slice (some ⟨g, off, none⟩) dLen dCap) (hs : a.eval s = .slice (some ad) sLen sCap)
    (t : TypeId) (p m q cs : List Value) (hp : p.length = off) (hb : Blk w g t (p ++ (m ++ q))) (hl : cs.length = m.length) (hn : cs.length = Nat.min sLen dLen)
    (hsrc : ∀ j v, cs[j]? = some v → w.cell? (ad.add j) = some v) (h1 : ∀ v ∈ cs, v.oneCell' = true)
    (h : ∀ w', Blk w' g t (p ++ (cs ++ q)) → w.grownBy w' (some g) → wpList P ops Q rest (a.put o.dst (goInt cs.length)) w') : wpList P ops Q (o :: rest) a w := by
  subst hp
  refine wpList_copy_own hgd d s dT sT ho elem hu hsz g p.length dLen dCap ad sLen sCap hd hs (p ++ (m ++ q)).toArray t hb cs hn hsrc (by simp; omega) h1 ?_
  have e : (p ++ (m ++ q)).take p.length ++ (cs ++ (p ++ (m ++ q)).drop (p.length + cs.length)) = p ++ (cs ++ q) := by
    rw [List.take_left, hl, List.drop_append, List.drop_of_length_le (by omega), Nat.add_sub_cancel_left, List.drop_left, List.nil_append]
  rw [show (p ++ (m ++ q)).toArray.toList = p ++ (m ++ q) from rfl, e]
  exact h _ (blk_setRow hb) (grown_setRow w g _)
theorem st_cell (hg : o.guard = none) (ty : TypeId) (x y : Operand) (ho : o.op = .store ty x y) (b i : Nat) (t : TypeId) (k : IntKind) (p q : List Value) (old : Value) (v : Int) (n : Nat)
    (hx : a.eval x = .pointer (some ⟨b, i, none⟩)) (hy : a.eval y = .int k v) (hv : v = (n : Int)) (hp : p.length = i) (hb : Blk w b t (p ++ old :: q)) (hs : (P.info? ty).map (·.size) = some 1)
    (h : ∀ w', Blk w' b t (p ++ .int k (n : Int) :: q) → w.grownBy w' (some b) → wpList P ops Q rest (a.put o.dst undef) w') : wpList P ops Q (o :: rest) a w := by
  subst hv hp
  have hst := run_storeCells_cells (P := P) b p.length [.int k (n : Int)] 0 w (fun j hj => by
      have : j = 0 := by simpa using hj
      subst this
      rw [Nat.add_zero, hb.cell, List.getElem?_append_right (Nat.le_refl _), Nat.sub_self]; rfl) (fun j hj => hb.frozen _) (by simp [Value.oneCell'])
  refine wpList_plain hg fun K hK => ?_
  unfold Oper.wp execOp
  cases hq : P.info? ty with
  | none => simp [hq] at hs
  | some q1 =>
    have hq1 : q1.size = 1 := by simpa [hq] using hs
    simp only [Nat.add_zero] at hst
    have hsv : (storeVar ty ⟨b, p.length, none⟩ (.int k (n : Int))).run P w = .ok () (w.setCells b p.length [.int k (n : Int)]) := by
      simp [storeVar, Go.sizeOf, typeInfo, hq, Value.cells, hq1, hst]
    simp only [ho, hx, hy, Instr.storeAt, Instr.sureAddr, Sem.run_bind, Sem.run_pure, Result.andThen_ok, hsv]
    refine hK _ _ (h _ ?_ (grown_setCell w _ _))
    have := hb.set p.length (.int k (n : Int))
    rwa [List.set_append_right _ _ (Nat.le_refl _), Nat.sub_self] at this
theorem sl_from (hg : o.guard = none) (T : TypeId) (x y : Operand) (ho : o.op = .slice T x (some y) none none) (elem : TypeId) (hu : P.underlying T = some (.slice elem)) (hsz : ∀ w, (Go.sizeOf elem).run P w = .ok 1 w)
    (b off len cap n : Nat) (hx : a.eval x = .slice (some ⟨b, off, none⟩) len cap) (hy : a.eval y = .int .i64 (n : Int)) (hn : n ≤ len) (hc : len ≤ cap)
    (h : ∀ A, (n < len → A = some ⟨b, off + n, none⟩) → wpList P ops Q rest (a.put o.dst (.slice A (len - n) (cap - n))) w) : wpList P ops Q (o :: rest) a w := by
  refine wpList_plain hg fun K hK => ?_
  unfold Oper.wp execOp
  have h0 : (0 : Int) ≤ (n : Int) ∧ (n : Int) ≤ (len : Int) := ⟨by omega, by omega⟩
  have hr : (Instr.sliceAt T (.slice (some ⟨b, off, none⟩) len cap) (some (.int .i64 (n : Int))) none none).run P w = .ok (.slice (if cap = n then some ⟨b, off, none⟩ else some ⟨b, off + n, none⟩) (len - n) (cap - n)) w := by
    simp [Instr.sliceAt, Instr.slice, Instr.sliceBounds, Instr.sliceBound, asIntOf, run_underlying hu, h0, hsz, Addr.add_mid]
    omega
  simp only [ho, hx, hy, Option.map_some, Option.map_none, hr, Sem.run_bind, Result.andThen_ok]
  exact hK _ _ (h _ fun hlt => by rw [if_neg (by omega)])
end Go.Proofs.YtlefdnjokppibaaGreatDoor.Sh
namespace Go.Proofs.YtlefdnjokppibaaGreatDoor.Sh
open Go.RowKit Mt
def slen : Value → Nat | .slice _ n _ => n | _ => 0
theorem be8_get (v j : Nat) (hj : j < 8) : (be8 v).getD j 0 = v / 2 ^ (56 - 8 * j) % 256 := by
  unfold be8
  rw [List.getD_eq_getElem?_getD, List.getElem?_map, List.getElem?_range hj]; rfl
theorem be8_len (v : Nat) : (be8 v).length = 8 := by simp [be8]
theorem be8_snoc (v j : Nat) (hj : j < 8) : (be8 v).take (j + 1) = (be8 v).take j ++ [v / 2 ^ (56 - 8 * j) % 256] := by
  rw [take_snoc _ _ (by rw [be8_len]; exact hj), be8_get v j hj]
theorem own_one (w : World) (x : Nat) (base : Nat) (hb : base ≤ w.heap.size) : Own (w.alloc (.cells #[.int .u8 (x : Int)] 5)) base (.slice (some ⟨w.heap.size, 0, none⟩) 1 1) [x] :=
  World.ownsRow_lit w #[.int .u8 (x : Int)] 1 hb (by decide) rfl
theorem pad_eq (n z : Nat) (hz : Hid (z = (119 - n % 64) % 64)) : 128 :: (List.replicate z 0 ++ be8 (8 * n)) = pad n := by rw [hz.out]; rfl
set_option maxHeartbeats 1000000 in
set_option maxRecDepth 8000 in
theorem ending_any (n : Nat) (hn : n ≤ 1000000) (w : World) :
    Calls Tryz.prog 87 #[.int .u64 n] w fun e w' => ∃ g c, e = .returned (.slice (some ⟨g, 0, none⟩) (pad n).length c) ∧ w.heap.size ≤ g ∧ (pad n).length ≤ c ∧ Cells w' g 0 (pad n) ∧ Below w.heap.size w w' := by
  obtain ⟨Z, hZ⟩ : ∃ Z : Nat, Hid (Z = (119 - n % 64) % 64) := ⟨_, rfl⟩
  have hZ1 : Hid ((n + Z + 9) % 64 = 0 ∧ Z < 64 ∧ ∀ z, z < Z → (n + z + 9) % 64 ≠ 0) := by
    have := hZ.out
    exact ⟨by omega, by omega, fun z hz => by omega⟩
  have HP : Hid (128 :: (List.replicate Z 0 ++ be8 (8 * n)) = pad n) := pad_eq n Z hZ
  clear hZ
  have O0 := own_one w 128 _ (Nat.le_refl _)
  have b0 : Below w.heap.size w (w.alloc (.cells #[.int .u8 ((128 : Nat) : Int)] 5)) := (Below.refl _ _).alloc (Nat.le_refl _) _
  go_enter Tryz.func87, Tryz.ntmps87
  go_wp2
  go_loopw [3] (fun o wr => ∃ z : Nat, z ≤ Z ∧ Own wr w.heap.size o (128 :: List.replicate z 0) ∧ Below w.heap.size w wr) (fun o _ => 64 - slen o)
  case atStart => exact ⟨0, Nat.zero_le _, O0, b0⟩
  case round =>
    clear O0 b0
    obtain ⟨z, hz, hown, hbel⟩ := hrel
    obtain ⟨h0, hZl, hne⟩ := hZ1.out
    have hs := hbel.size
    obtain ⟨g, cap, rfl, hg, hgl, hlc, hcm, hcell⟩ := hown.form (by simp)
    have el : (128 :: List.replicate z 0).length = z + 1 := by simp
    rw [el] at hlc hown ⊢
    have HO : Hid (Own wr w.heap.size (.slice (some ⟨g, 0, none⟩) (z + 1) cap) (128 :: List.replicate z 0)) := hown
    clear hown hcell el
    by_cases hlt : z < Z
    · have hc : ¬ (((n : Int) + ((z : Int) + 1) + 8) % 64 = 0) := by have := hne z hlt; omega
      clear hne h0
      go_wp2_with (at_builtin; go_must (refine app_bytes rfl (.tmp 15) (.tmp 16) rfl w.heap.size _ (128 :: List.replicate z 0) rfl (Own.alloc HO.out _) _ _ _ [0] rfl rfl (byt_lit wr [0]) (by simp) (by simp; omega) (by simp; omega) ?_))
      intro v1 w1 o1 g1
      have b1 := below_app (hbel.alloc hs _) (by simp; omega) (Own.alloc HO.out _) g1
      have o1 : Own w1 w.heap.size v1 (128 :: List.replicate (z + 1) 0) := by rw [List.replicate_succ']; exact o1
      obtain ⟨g', cap', rfl, _⟩ := o1.form (by simp)
      have el : (128 :: List.replicate (z + 1) 0).length = z + 2 := by simp
      rw [el] at o1 ⊢
      have HO1 : Hid (Own w1 w.heap.size (.slice (some ⟨g', 0, none⟩) (z + 2) cap') (128 :: List.replicate (z + 1) 0)) := o1
      clear g1 o1 el
      go_wp2
      go_roundw
      case rel => exact ⟨z + 1, hlt, HO1.out, b1⟩
      case measure => simp only [slen]; omega
    · obtain rfl : z = Z := by omega
      have hc : ((n : Int) + ((z : Int) + 1) + 8) % 64 = 0 := by omega
      clear hne h0
      go_wp2
      go_loopw [3, 20] (fun o i wr => ∃ j : Nat, j ≤ 8 ∧ i = .int .i64 (j : Int) ∧ Own wr w.heap.size o (128 :: (List.replicate z 0 ++ (be8 (8 * n)).take j)) ∧ Below w.heap.size w wr) (fun _ i _ => 8 - (intOf i).toNat)
      case atStart => exact ⟨0, by omega, rfl, by rw [List.take_zero, List.append_nil]; exact HO.out, hbel⟩
      case round =>
        clear hbel HO hs hc
        obtain ⟨j, hj, rfl, hown, hbel⟩ := hrel
        have hs := hbel.size
        have hll : (128 :: (List.replicate z 0 ++ (be8 (8 * n)).take j)).length ≤ 80 := by simp [be8_len]; omega
        by_cases h8 : j < 8
        · have HO : Hid _ := be8_snoc (8 * n) j h8
          have t0 : (56 - 8 * (j : Int)).toNat = 56 - 8 * j := by omega
          obtain ⟨y, hy, HY⟩ : ∃ y : Nat, 8 * (n : Int) / 2 ^ (56 - 8 * j) % 256 = (y : Int) ∧ Hid (y = 8 * n / 2 ^ (56 - 8 * j) % 256) := ⟨_, by simp, rfl⟩
          go_wp2_with (at_builtin; go_must (refine app_bytes rfl (.tmp 23) (.tmp 30) rfl w.heap.size _ (128 :: (List.replicate z 0 ++ (be8 (8 * n)).take j)) rfl (hown.alloc _) _ _ _ [y] rfl rfl (byt_lit wr [y]) (by simp) (by simp [be8_len]; omega) (by simp; omega) ?_))
          intro v1 w1 o1 g1
          have b1 := below_app (hbel.alloc hs _) (by simp; omega) (hown.alloc _) g1
          have HO1 : Hid (Own w1 w.heap.size v1 (128 :: (List.replicate z 0 ++ (be8 (8 * n)).take (j + 1)))) := by
            show Own _ _ _ _
            rw [HO.out, ← HY.out]; exact o1
          clear g1 o1 hown hll
          go_wp2
          go_roundw
          case rel => exact ⟨j + 1, by omega, by go_num, HO1.out, b1⟩
          case measure => simp [intOf]; omega
        · obtain rfl : j = 8 := by omega
          rw [List.take_of_length_le (by rw [be8_len]; exact Nat.le_refl _), HP.out] at hown
          clear hll
          obtain ⟨g', cap', rfl, hg', _, hlc', _, hcell⟩ := hown.form (by unfold pad; simp)
          have HC : Hid _ := hcell
          clear hcell hown
          go_wp2
          go_ret
          exact ⟨g', cap', rfl, hg', hlc', HC.out, hbel⟩
end Go.Proofs.YtlefdnjokppibaaGreatDoor.Sh
namespace Go.Proofs.YtlefdnjokppibaaGreatDoor.Sh
open Go.RowKit Mt
theorem ev_put (a : Act) (i j : Nat) (v : Value) (hi : i < a.tmps.size) : (a.put (some i) v).eval (.tmp j) = if j = i then v else a.eval (.tmp j) := by
  simp only [Act.put, Act.eval, Array.getD_eq_getD_getElem?, Array.getElem?_setIfInBounds]
  by_cases h : i = j
  · subst h; simp [hi]
  · rw [if_neg h, if_neg (fun e => h e.symm)]
theorem sz_put (a : Act) (i : Nat) (v : Value) : (a.put (some i) v).tmps.size = a.tmps.size := by simp [Act.put]
theorem wanted_none {o : Oper} {y : Nat → Option Bool} (h : o.guard = none) : Region.wanted o y = true := by simp [Region.wanted, h]
theorem put_comm (a : Act) (i j : Nat) (u v : Value) (h : i ≠ j) : (a.put (some i) u).put (some j) v = (a.put (some j) v).put (some i) u := by
  simp only [Act.put]
  congr 1
  apply Array.ext_getElem?
  intro k
  simp only [Array.getElem?_setIfInBounds, Array.size_setIfInBounds]
  by_cases h1 : j = k <;> by_cases h2 : i = k <;> simp [h1, h2]
  omega
/-- Which have come up. -/
def li : List Nat → Array Bool
  | [] => Array.replicate 13 false
  | k :: ks => (li ks).setIfInBounds k true
theorem li_cons (k : Nat) (ks : List Nat) : (li ks).setIfInBounds k true = li (k :: ks) := rfl
/-- The orders that the region allows. -/
def okB (ops : Array Oper) : Bool :=
  Region.noSelect ops && (
  Region.free .any ops (li []) 0 && (
  (Region.ready .any ops (li [])).contains 0 && (
  Region.free .any ops (li [0]) 1 && (
  (Region.ready .any ops (li [0])).contains 1 && (
  Region.free .any ops (li [1, 0]) 2 && (
  (Region.ready .any ops (li [1, 0])).contains 2 && (
  Region.free .any ops (li [2, 1, 0]) 3 && (
  (Region.ready .any ops (li [2, 1, 0])).contains 3 && (
  Region.free .any ops (li [3, 2, 1, 0]) 5 && (
  (Region.ready .any ops (li [3, 2, 1, 0])).contains 5 && (
  Region.free .any ops (li [5, 3, 2, 1, 0]) 6 && (
  (Region.ready .any ops (li [5, 3, 2, 1, 0])).contains 6 && (
  Region.free .any ops (li [6, 5, 3, 2, 1, 0]) 7 && (
  (Region.ready .any ops (li [6, 5, 3, 2, 1, 0])).contains 7 && (
  decide (Region.ready .any ops (li [7, 6, 5, 3, 2, 1, 0]) = [4, 8]) && (
  decide (Region.ready .any ops (li [4, 7, 6, 5, 3, 2, 1, 0]) = [8]) && (
  decide (Region.ready .any ops (li [8, 4, 7, 6, 5, 3, 2, 1, 0]) = [9]) && (
  Region.free .any ops (li [9, 8, 4, 7, 6, 5, 3, 2, 1, 0]) 10 && (
  (Region.ready .any ops (li [9, 8, 4, 7, 6, 5, 3, 2, 1, 0])).contains 10 && (
  Region.free .any ops (li [10, 9, 8, 4, 7, 6, 5, 3, 2, 1, 0]) 11 && (
  (Region.ready .any ops (li [10, 9, 8, 4, 7, 6, 5, 3, 2, 1, 0])).contains 11 && (
  decide (Region.ready .any ops (li [11, 10, 9, 8, 4, 7, 6, 5, 3, 2, 1, 0]) = [12]) && (
  decide (Region.ready .any ops (li [12, 11, 10, 9, 8, 4, 7, 6, 5, 3, 2, 1, 0]) = []) && (
  decide (Region.ready .any ops (li [8, 7, 6, 5, 3, 2, 1, 0]) = [4]) && (
  decide (Region.ready .any ops (li [4, 8, 7, 6, 5, 3, 2, 1, 0]) = [9]) && (
  Region.free .any ops (li [9, 4, 8, 7, 6, 5, 3, 2, 1, 0]) 10 && (
  (Region.ready .any ops (li [9, 4, 8, 7, 6, 5, 3, 2, 1, 0])).contains 10 && (
  Region.free .any ops (li [10, 9, 4, 8, 7, 6, 5, 3, 2, 1, 0]) 11 && (
  (Region.ready .any ops (li [10, 9, 4, 8, 7, 6, 5, 3, 2, 1, 0])).contains 11 && (
  decide (Region.ready .any ops (li [11, 10, 9, 4, 8, 7, 6, 5, 3, 2, 1, 0]) = [12]) && (
  decide (Region.ready .any ops (li [12, 11, 10, 9, 4, 8, 7, 6, 5, 3, 2, 1, 0]) = []))))))))))))))))))))))))))))))))
theorem mv_run {P : Program} (a : Act) (d : Option Tmp) (x : Operand) (y : TypeId) (s : String) (f : Array Edge) (w : World) : (execOp a.eval ⟨d, .move x, y, s, f, none⟩).run P w = .ok (.value (a.eval x)) w := by simp [execOp]
theorem nc_run {P : Program} (a : Act) (d : Option Tmp) (x : Operand) (p : Addr) (h : a.eval x = .pointer (some p)) (y : TypeId) (s : String) (f : Array Edge) (w : World) : (execOp a.eval ⟨d, .nilCheck x, y, s, f, none⟩).run P w = .ok (.value (.pointer (some p))) w := by simp only [execOp, h]; rfl
theorem fa0_run (a : Act) (d : Option Tmp) (x : Operand) (g : Nat) (h : a.eval x = .pointer (some ⟨g, 0, none⟩)) (y : TypeId) (s : String) (f : Array Edge) (w : World) : (execOp a.eval ⟨d, .fieldAddr 102 x 0, y, s, f, none⟩).run Tryz.prog w = .ok (.value (.pointer (some ⟨g, 0, none⟩))) w := by
  generalize a.eval = ev at h
  simp only [execOp, h]
  go_simp
theorem fa1_run (a : Act) (d : Option Tmp) (x : Operand) (g : Nat) (h : a.eval x = .pointer (some ⟨g, 0, none⟩)) (y : TypeId) (s : String) (f : Array Edge) (w : World) : (execOp a.eval ⟨d, .fieldAddr 102 x 1, y, s, f, none⟩).run Tryz.prog w = .ok (.value (.pointer (some ⟨g, 8, none⟩))) w := by
  generalize a.eval = ev at h
  simp only [execOp, h]
  go_simp
theorem ld_wp {P : Program} {K : Act → World → Prop} {Q : Exit → Act → World → Prop} (a : Act) (w : World) (dst : Option Tmp) (y : TypeId) (s : String) (f : Array Edge) (ty : TypeId) (x : Operand) (b o : Nat) (cs : List Value) (d : TypeDesc) (hx : a.eval x = .pointer (some ⟨b, o, none⟩)) (hc : w.rangeAt b o cs)
    (hu : P.underlying ty = some d) (hd : d.isRow = true) (hi : (P.info? ty).map (·.size) = some cs.length) (h : K (a.put dst (.agg cs.toArray)) w) : Oper.wp P ⟨dst, .load ty x, y, s, f, none⟩ a w K Q :=
  wp_load_mid ty x rfl b o hx cs d hc hu hd hi h
theorem sr_wp {P : Program} {K : Act → World → Prop} {Q : Exit → Act → World → Prop} (a : Act) (w : World) (y : TypeId) (s : String) (f : Array Edge) (ty : TypeId) (x z : Operand) (b o : Nat) (T : List Value) (hx : a.eval x = .pointer (some ⟨b, o, none⟩)) (hy : a.eval z = .agg T.toArray)
    (ht : w.there b o T.length) (hi : (P.info? ty).map (·.size) = some T.length) (h1 : ∀ v ∈ T, v.oneCell' = true) (h : K a (w.setCells b o T)) : Oper.wp P ⟨none, .store ty x z, y, s, f, none⟩ a w K Q :=
  wp_store_mid ty x z rfl b o T.toArray hx hy (by simpa using ht) (by simpa using hi) (all_oneCell_toArray h1) h
theorem cl_wp {K : Act → World → Prop} {Q : Exit → Act → World → Prop} (a : Act) (w : World) (y : TypeId) (s : String) (f : Array Edge) (u v r : Value) (h1 : a.eval (.tmp 41) = u) (h2 : a.eval (.tmp 45) = v) (R : World → Prop)
    (hC : Calls Tryz.prog 86 #[u, v] w fun e w' => e = .returned r ∧ R w') (hK : ∀ w', R w' → K (a.put (some 46) r) w') :
    Oper.wp Tryz.prog ⟨some 46, .call { callee := .value (.func 86), args := #[.tmp 41, .tmp 45], argTypes := #[99, 100] }, y, s, f, none⟩ a w K Q := by
  have h0 : a.eval (.func 86) = .func (.func 86) #[] #[] := rfl
  generalize hev : a.eval = ev at h1 h2 h0
  unfold Oper.wp
  rw [hev]
  simp only [execOp]
  go_simp
  refine hC.mono ?_
  rintro e w' ⟨rfl, hR⟩
  exact hK w' hR
set_option maxHeartbeats 1000000 in
set_option maxRecDepth 8000 in
theorem reg5 {y0 y1 y2 y3 y4 y5 y6 y7 y8 y9 y10 y11 y12 : TypeId} {s0 s1 s2 s3 s4 s5 s6 s7 s8 s9 s10 s11 s12 : String} {f0 f1 f2 f3 f4 f5 f6 f7 f8 f9 f10 f11 f12 : Array Edge} {id : Nat} {Q : Exit → Act → World → Prop} {a : Act} {wy : World} (g : Nat) (u T : List Value) (v : List Value) (hz : a.tmps.size = 49) (h0 : a.eval (.tmp 0) = .pointer (some ⟨g, 0, none⟩))
    (hQ : ∀ c (a : Act) (i : Nat) v w, Q (.panic c) (a.put (some i) v) w → Q (.panic c) a w) (hok : okB #[⟨some 37, .move (.tmp 0), y0, s0, f0, none⟩, ⟨some 38, .move (.tmp 0), y1, s1, f1, none⟩, ⟨some 39, .nilCheck (.tmp 38), y2, s2, f2, none⟩, ⟨some 40, .fieldAddr 102 (.tmp 39) 0, y3, s3, f3, none⟩, ⟨some 41, .load 99 (.tmp 40), y4, s4, f4, none⟩, ⟨some 42, .move (.tmp 0), y5, s5, f5, none⟩, ⟨some 43, .nilCheck (.tmp 42), y6, s6, f6, none⟩, ⟨some 44, .fieldAddr 102 (.tmp 43) 1, y7, s7, f7, none⟩, ⟨some 45, .load 100 (.tmp 44), y8, s8, f8, none⟩, ⟨some 46, .call { callee := .value (.func 86), args := #[.tmp 41, .tmp 45], argTypes := #[99, 100] }, y9, s9, f9, none⟩, ⟨some 47, .nilCheck (.tmp 37), y10, s10, f10, none⟩, ⟨some 48, .fieldAddr 102 (.tmp 47) 0, y11, s11, f11, none⟩, ⟨none, .store 99 (.tmp 48) (.tmp 46), y12, s12, f12, none⟩] = true) (hu : wy.drew.rangeAt g 0 u) (hv : wy.drew.rangeAt g 8 v) (iu : (Tryz.prog.info? 99).map (·.size) = some u.length) (iv : (Tryz.prog.info? 100).map (·.size) = some v.length)
    (R : World → Prop) (hC : Calls Tryz.prog 86 #[.agg u.toArray, .agg v.toArray] wy.drew fun e w' => e = .returned (.agg T.toArray) ∧ R w')
    (iT : (Tryz.prog.info? 99).map (·.size) = some T.length) (oT : ∀ x ∈ T, x.oneCell' = true) (hth : ∀ w', R w' → w'.there g 0 T.length)
    (h : ∀ w', R w' → Q .normal ((((((((((((a.put (some 37) (.pointer (some ⟨g, 0, none⟩))).put (some 38) (.pointer (some ⟨g, 0, none⟩))).put (some 39) (.pointer (some ⟨g, 0, none⟩))).put (some 40) (.pointer (some ⟨g, 0, none⟩))).put (some 42) (.pointer (some ⟨g, 0, none⟩))).put (some 43) (.pointer (some ⟨g, 0, none⟩))).put (some 44) (.pointer (some ⟨g, 8, none⟩))).put (some 41) (.agg u.toArray)).put (some 45) (.agg v.toArray)).put (some 46) (.agg T.toArray)).put (some 47) (.pointer (some ⟨g, 0, none⟩))).put (some 48) (.pointer (some ⟨g, 0, none⟩))) (w'.setCells g 0 T)) :
    (Code.region id #[⟨some 37, .move (.tmp 0), y0, s0, f0, none⟩, ⟨some 38, .move (.tmp 0), y1, s1, f1, none⟩, ⟨some 39, .nilCheck (.tmp 38), y2, s2, f2, none⟩, ⟨some 40, .fieldAddr 102 (.tmp 39) 0, y3, s3, f3, none⟩, ⟨some 41, .load 99 (.tmp 40), y4, s4, f4, none⟩, ⟨some 42, .move (.tmp 0), y5, s5, f5, none⟩, ⟨some 43, .nilCheck (.tmp 42), y6, s6, f6, none⟩, ⟨some 44, .fieldAddr 102 (.tmp 43) 1, y7, s7, f7, none⟩, ⟨some 45, .load 100 (.tmp 44), y8, s8, f8, none⟩, ⟨some 46, .call { callee := .value (.func 86), args := #[.tmp 41, .tmp 45], argTypes := #[99, 100] }, y9, s9, f9, none⟩, ⟨some 47, .nilCheck (.tmp 37), y10, s10, f10, none⟩, ⟨some 48, .fieldAddr 102 (.tmp 47) 0, y11, s11, f11, none⟩, ⟨none, .store 99 (.tmp 48) (.tmp 46), y12, s12, f12, none⟩] true).wp Tryz.prog Q a wy := by
  simp only [okB, Bool.and_eq_true, decide_eq_true_eq] at hok
  obtain ⟨c0, c1, c2, c3, c4, c5, c6, c7, c8, c9, c10, c11, c12, c13, c14, c15, c16, c17, c18, c19, c20, c21, c22, c23, c24, c25, c26, c27, c28, c29, c30, c31⟩ := hok
  refine wp_region_any (by kernel_rfl) ?_
  show wpAny Tryz.prog .any _ _ 13 (li []) _ wy.drew
  refine wpAny_take (i := 0) (oi := ⟨some 37, .move (.tmp 0), y0, s0, f0, none⟩) (v := .pointer (some ⟨g, 0, none⟩)) rfl c0 c1 c2 (fun _ _ _ h => hQ _ _ _ _ _ h) (Or.inl ⟨rfl, fun w => by rw [mv_run, h0]⟩) ?_
  rw [li_cons]
  refine wpAny_take (i := 1) (oi := ⟨some 38, .move (.tmp 0), y1, s1, f1, none⟩) (v := .pointer (some ⟨g, 0, none⟩)) rfl c0 c3 c4 (fun _ _ _ h => hQ _ _ _ _ _ h) (Or.inl ⟨rfl, fun w => by rw [mv_run]; simp [ev_put, hz, h0]⟩) ?_
  rw [li_cons]
  refine wpAny_take (i := 2) (oi := ⟨some 39, .nilCheck (.tmp 38), y2, s2, f2, none⟩) (v := .pointer (some ⟨g, 0, none⟩)) rfl c0 c5 c6 (fun _ _ _ h => hQ _ _ _ _ _ h) (Or.inl ⟨rfl, fun w => by exact nc_run _ _ _ _ (by simp [ev_put, sz_put, hz]) _ _ _ _⟩) ?_
  rw [li_cons]
  refine wpAny_take (i := 3) (oi := ⟨some 40, .fieldAddr 102 (.tmp 39) 0, y3, s3, f3, none⟩) (v := .pointer (some ⟨g, 0, none⟩)) rfl c0 c7 c8 (fun _ _ _ h => hQ _ _ _ _ _ h) (Or.inl ⟨rfl, fun w => by exact fa0_run _ _ _ g (by simp [ev_put, sz_put, hz]) _ _ _ _⟩) ?_
  rw [li_cons]
  refine wpAny_take (i := 5) (oi := ⟨some 42, .move (.tmp 0), y5, s5, f5, none⟩) (v := .pointer (some ⟨g, 0, none⟩)) rfl c0 c9 c10 (fun _ _ _ h => hQ _ _ _ _ _ h) (Or.inl ⟨rfl, fun w => by rw [mv_run]; simp [ev_put, sz_put, hz, h0]⟩) ?_
  rw [li_cons]
  refine wpAny_take (i := 6) (oi := ⟨some 43, .nilCheck (.tmp 42), y6, s6, f6, none⟩) (v := .pointer (some ⟨g, 0, none⟩)) rfl c0 c11 c12 (fun _ _ _ h => hQ _ _ _ _ _ h) (Or.inl ⟨rfl, fun w => by exact nc_run _ _ _ _ (by simp [ev_put, sz_put, hz]) _ _ _ _⟩) ?_
  rw [li_cons]
  refine wpAny_take (i := 7) (oi := ⟨some 44, .fieldAddr 102 (.tmp 43) 1, y7, s7, f7, none⟩) (v := .pointer (some ⟨g, 8, none⟩)) rfl c0 c13 c14 (fun _ _ _ h => hQ _ _ _ _ _ h) (Or.inl ⟨rfl, fun w => by exact fa1_run _ _ _ g (by simp [ev_put, sz_put, hz]) _ _ _ _⟩) ?_
  rw [li_cons]
  refine wpAny_ready (rs := [4, 8]) c15 (by simp) ?_
  refine AllReady.cons (i := 4) (rs := [8]) (o := ⟨some 41, .load 99 (.tmp 40), y4, s4, f4, none⟩) (by kernel_rfl) ?_ (AllReady.cons (i := 8) (rs := []) (o := ⟨some 45, .load 100 (.tmp 44), y8, s8, f8, none⟩) (by kernel_rfl) ?_ AllReady.nil)
  · intro K hK
    rw [if_pos (wanted_none rfl)]
    have el : ∀ a : Act, a.eval (.tmp 40) = .pointer (some ⟨g, 0, none⟩) → K (a.put (some 41) (.agg u.toArray)) wy.drew → Oper.wp Tryz.prog ⟨some 41, .load 99 (.tmp 40), y4, s4, f4, none⟩ a wy.drew K Q := fun a h1 h2 => ld_wp a wy.drew _ _ _ _ 99 (.tmp 40) g 0 u _ h1 hu Tryz.underlying99 rfl iu h2
    refine el _ ?_ ?_
    · simp [ev_put, sz_put, hz]
    refine hK _ _ ?_
    clear el hK K
    rw [li_cons]
    refine wpAny_ready (rs := [8]) c16 (by simp) ?_
    refine AllReady.cons (i := 8) (rs := []) (o := ⟨some 45, .load 100 (.tmp 44), y8, s8, f8, none⟩) (by kernel_rfl) ?_ AllReady.nil
    intro K hK
    rw [if_pos (wanted_none rfl)]
    have el : ∀ a : Act, a.eval (.tmp 44) = .pointer (some ⟨g, 8, none⟩) → K (a.put (some 45) (.agg v.toArray)) wy.drew → Oper.wp Tryz.prog ⟨some 45, .load 100 (.tmp 44), y8, s8, f8, none⟩ a wy.drew K Q := fun a h1 h2 => ld_wp a wy.drew _ _ _ _ 100 (.tmp 44) g 8 v _ h1 hv Tryz.underlying100 rfl iv h2
    refine el _ ?_ ?_
    · simp [ev_put, sz_put, hz]
    refine hK _ _ ?_
    clear el hK K
    rw [li_cons]
    refine wpAny_ready (rs := [9]) c17 (by simp) ?_
    refine AllReady.cons (i := 9) (rs := []) (o := ⟨some 46, .call { callee := .value (.func 86), args := #[.tmp 41, .tmp 45], argTypes := #[99, 100] }, y9, s9, f9, none⟩) (by kernel_rfl) ?_ AllReady.nil
    intro K hK
    rw [if_pos (wanted_none rfl)]
    have el : ∀ a : Act, a.eval (.tmp 41) = .agg u.toArray → a.eval (.tmp 45) = .agg v.toArray → (∀ w6, R w6 → K (a.put (some 46) (.agg T.toArray)) w6) → Oper.wp Tryz.prog ⟨some 46, .call { callee := .value (.func 86), args := #[.tmp 41, .tmp 45], argTypes := #[99, 100] }, y9, s9, f9, none⟩ a wy.drew K Q := fun a h1 h2 h3 => cl_wp a wy.drew _ _ _ _ _ _ h1 h2 R hC h3
    refine el _ ?_ ?_ ?_
    · simp [ev_put, sz_put, hz]
    · simp [ev_put, sz_put, hz]
    intro w6 hR
    refine hK _ _ ?_
    clear el hK K
    rw [li_cons]
    refine wpAny_take (i := 10) (oi := ⟨some 47, .nilCheck (.tmp 37), y10, s10, f10, none⟩) (v := .pointer (some ⟨g, 0, none⟩)) rfl c0 c18 c19 (fun _ _ _ h => hQ _ _ _ _ _ h) (Or.inl ⟨rfl, fun w => by exact nc_run _ _ _ _ (by simp [ev_put, sz_put, hz]) _ _ _ _⟩) ?_
    rw [li_cons]
    refine wpAny_take (i := 11) (oi := ⟨some 48, .fieldAddr 102 (.tmp 47) 0, y11, s11, f11, none⟩) (v := .pointer (some ⟨g, 0, none⟩)) rfl c0 c20 c21 (fun _ _ _ h => hQ _ _ _ _ _ h) (Or.inl ⟨rfl, fun w => by exact fa0_run _ _ _ g (by simp [ev_put, sz_put, hz]) _ _ _ _⟩) ?_
    rw [li_cons]
    refine wpAny_ready (rs := [12]) c22 (by simp) ?_
    refine AllReady.cons (i := 12) (rs := []) (o := ⟨none, .store 99 (.tmp 48) (.tmp 46), y12, s12, f12, none⟩) (by kernel_rfl) ?_ AllReady.nil
    intro K hK
    rw [if_pos (wanted_none rfl)]
    have el : ∀ a : Act, a.eval (.tmp 48) = .pointer (some ⟨g, 0, none⟩) → a.eval (.tmp 46) = .agg T.toArray → K a (w6.setCells g 0 T) → Oper.wp Tryz.prog ⟨none, .store 99 (.tmp 48) (.tmp 46), y12, s12, f12, none⟩ a w6 K Q := fun a h1 h2 h3 => sr_wp a w6 _ _ _ 99 (.tmp 48) (.tmp 46) g 0 T h1 h2 (hth w6 hR) iT oT h3
    refine el _ ?_ ?_ ?_
    · simp [ev_put, sz_put, hz]
    · simp [ev_put, sz_put, hz]
    refine hK _ _ ?_
    clear el hK K
    rw [li_cons]
    exact wpAny_done c23 (h w6 hR) _
  · intro K hK
    rw [if_pos (wanted_none rfl)]
    have el : ∀ a : Act, a.eval (.tmp 44) = .pointer (some ⟨g, 8, none⟩) → K (a.put (some 45) (.agg v.toArray)) wy.drew → Oper.wp Tryz.prog ⟨some 45, .load 100 (.tmp 44), y8, s8, f8, none⟩ a wy.drew K Q := fun a h1 h2 => ld_wp a wy.drew _ _ _ _ 100 (.tmp 44) g 8 v _ h1 hv Tryz.underlying100 rfl iv h2
    refine el _ ?_ ?_
    · simp [ev_put, sz_put, hz]
    refine hK _ _ ?_
    clear el hK K
    rw [li_cons]
    refine wpAny_ready (rs := [4]) c24 (by simp) ?_
    refine AllReady.cons (i := 4) (rs := []) (o := ⟨some 41, .load 99 (.tmp 40), y4, s4, f4, none⟩) (by kernel_rfl) ?_ AllReady.nil
    intro K hK
    rw [if_pos (wanted_none rfl)]
    have el : ∀ a : Act, a.eval (.tmp 40) = .pointer (some ⟨g, 0, none⟩) → K (a.put (some 41) (.agg u.toArray)) wy.drew → Oper.wp Tryz.prog ⟨some 41, .load 99 (.tmp 40), y4, s4, f4, none⟩ a wy.drew K Q := fun a h1 h2 => ld_wp a wy.drew _ _ _ _ 99 (.tmp 40) g 0 u _ h1 hu Tryz.underlying99 rfl iu h2
    refine el _ ?_ ?_
    · simp [ev_put, sz_put, hz]
    refine hK _ _ ?_
    clear el hK K
    rw [li_cons]
    simp only []
    rw [put_comm _ 45 41 _ _ (by decide)]
    refine wpAny_ready (rs := [9]) c25 (by simp) ?_
    refine AllReady.cons (i := 9) (rs := []) (o := ⟨some 46, .call { callee := .value (.func 86), args := #[.tmp 41, .tmp 45], argTypes := #[99, 100] }, y9, s9, f9, none⟩) (by kernel_rfl) ?_ AllReady.nil
    intro K hK
    rw [if_pos (wanted_none rfl)]
    have el : ∀ a : Act, a.eval (.tmp 41) = .agg u.toArray → a.eval (.tmp 45) = .agg v.toArray → (∀ w6, R w6 → K (a.put (some 46) (.agg T.toArray)) w6) → Oper.wp Tryz.prog ⟨some 46, .call { callee := .value (.func 86), args := #[.tmp 41, .tmp 45], argTypes := #[99, 100] }, y9, s9, f9, none⟩ a wy.drew K Q := fun a h1 h2 h3 => cl_wp a wy.drew _ _ _ _ _ _ h1 h2 R hC h3
    refine el _ ?_ ?_ ?_
    · simp [ev_put, sz_put, hz]
    · simp [ev_put, sz_put, hz]
    intro w6 hR
    refine hK _ _ ?_
    clear el hK K
    rw [li_cons]
    refine wpAny_take (i := 10) (oi := ⟨some 47, .nilCheck (.tmp 37), y10, s10, f10, none⟩) (v := .pointer (some ⟨g, 0, none⟩)) rfl c0 c26 c27 (fun _ _ _ h => hQ _ _ _ _ _ h) (Or.inl ⟨rfl, fun w => by exact nc_run _ _ _ _ (by simp [ev_put, sz_put, hz]) _ _ _ _⟩) ?_
    rw [li_cons]
    refine wpAny_take (i := 11) (oi := ⟨some 48, .fieldAddr 102 (.tmp 47) 0, y11, s11, f11, none⟩) (v := .pointer (some ⟨g, 0, none⟩)) rfl c0 c28 c29 (fun _ _ _ h => hQ _ _ _ _ _ h) (Or.inl ⟨rfl, fun w => by exact fa0_run _ _ _ g (by simp [ev_put, sz_put, hz]) _ _ _ _⟩) ?_
    rw [li_cons]
    refine wpAny_ready (rs := [12]) c30 (by simp) ?_
    refine AllReady.cons (i := 12) (rs := []) (o := ⟨none, .store 99 (.tmp 48) (.tmp 46), y12, s12, f12, none⟩) (by kernel_rfl) ?_ AllReady.nil
    intro K hK
    rw [if_pos (wanted_none rfl)]
    have el : ∀ a : Act, a.eval (.tmp 48) = .pointer (some ⟨g, 0, none⟩) → a.eval (.tmp 46) = .agg T.toArray → K a (w6.setCells g 0 T) → Oper.wp Tryz.prog ⟨none, .store 99 (.tmp 48) (.tmp 46), y12, s12, f12, none⟩ a w6 K Q := fun a h1 h2 h3 => sr_wp a w6 _ _ _ 99 (.tmp 48) (.tmp 46) g 0 T h1 h2 (hth w6 hR) iT oT h3
    refine el _ ?_ ?_ ?_
    · simp [ev_put, sz_put, hz]
    · simp [ev_put, sz_put, hz]
    refine hK _ _ ?_
    clear el hK K
    rw [li_cons]
    exact wpAny_done c31 (h w6 hR) _
end Go.Proofs.YtlefdnjokppibaaGreatDoor.Sh
