/-
  The contract of the document's own block: the state once a block has gone through the rounds. · Three operations more as laws that leave the world under a name: a copy into a row that is known whole; a number stored into one cell of it; a slice cut from a place on. · The contract of digest.ending: what stands behind so many bytes.
-/
import Derived.Test.YtmbglggodifboabRG18x
import Derived.StillTailTactics
import Derived.Deep.RegionWith
import Derived.Test.YtmbglggodifboabRG16x
import Derived.Laws.CopyOwn
namespace Go.Proofs.Ytmbglggodifboab.Sh
open Go.RowKit Mt
theorem Blk.drewTo {w wd : World} {b : Nat} {t : TypeId} {vs : List Value} (h : Blk w b t vs) (hwd : Hid (wd = w.drew)) : Blk wd b t vs := by
  rw [hwd.out]; exact h
theorem Blk.drew {w : World} {b : Nat} {t : TypeId} {vs : List Value} (h : Blk w b t vs) : Blk w.drew b t vs := h
/-- A region that draws its order, reads, and stores at its end: one walk, in the text's order; the world behind the draw under a name. -/
theorem still_tail {P : Program} {id : Nat} {Q : Exit → Act → World → Prop} {a : Act} {w : World} {l : List Oper} (n : Nat) (hm : P.follows .mixedOrders = true) (hB : Region.lexTailB .any l.toArray n = true) (wd : World) (hwd : Hid (wd = w.drew))
    (h : wpStill P l.toArray wd (fun a' => wpList P l.toArray Q (l.drop n) a' wd) (l.take n) a) : (Code.region id l.toArray true).wp P Q a w := by
  have e : wd = w.drew := hwd
  subst e
  exact wp_region_still_tail n hm hB h
theorem range_snoc (f : Nat → Nat) (k : Nat) : (List.range (k + 1)).map f = (List.range k).map f ++ [f k] := by rw [List.range_succ]; simp

/-- What stands in memory while the rounds go. -/
def Inv (s : St) (W : List Nat) (r : St) (g1 g2 g3 g4 : Nat) (w0 wr : World) : Prop :=
  Blk wr g1 97 (nums .u32 s.l) ∧ Blk wr g2 97 (nums .u32 (List.replicate 8 0)) ∧ Blk wr g3 115 (nums .u32 W) ∧ Blk wr g4 97 (nums .u32 r.l) ∧ Below w0.heap.size w0 wr
theorem Inv.v {s : St} {W : List Nat} {r : St} {g1 g2 g3 g4 : Nat} {w0 wr : World} (h : Inv s W r g1 g2 g3 g4 w0 wr) (i : Nat) (hi : i < 8) : wr.cell? ⟨g4, i, none⟩ = some (.int .u32 ((r.l.getD i 0 : Nat) : Int)) := h.2.2.2.1.num i hi
theorem Inv.drewN {s : St} {W : List Nat} {r : St} {g1 g2 g3 g4 : Nat} {w0 wr : World} (h : Inv s W r g1 g2 g3 g4 w0 wr) (q : Nat) : Inv s W r g1 g2 g3 g4 w0 (wr.drewN q) :=
  ⟨h.1.drewN q, h.2.1.drewN q, h.2.2.1.drewN q, h.2.2.2.1.drewN q, below_drewN h.2.2.2.2 q⟩

end Go.Proofs.Ytmbglggodifboab.Sh
namespace Go.Proofs.Ytmbglggodifboab.Sh
open Go.RowKit Mt
variable {P : Program} {ops : Array Oper} {rest : List Oper} {o : Oper} {a : Act} {w : World} {Q : Exit → Act → World → Prop}
theorem blk_setRow {g : Nat} {t : TypeId} {vs vs' : List Value} (h : Blk w g t vs) : Blk (w.setRow g vs'.toArray) g t vs' := setRow_heap w g _ _ t _ h
theorem grown_setRow (w : World) (g : Nat) (cs : Array Value) : w.grownBy (w.setRow g cs) (some g) :=
  ⟨rfl, rfl, rfl, by simp, fun k _ hk => setRow_other w g k cs (fun e => hk (by rw [e]))⟩
theorem cp_row (hgd : o.guard = none) (d s : Operand) (dT sT : TypeId) (ho : o.op = .call { callee := .builtin .copy, args := #[d, s], argTypes := #[dT, sT] }) (elem : TypeId) (hu : P.underlying dT = some (.slice elem)) (hsz : (P.info? elem).map (·.size) = some 1)
    (g off dLen dCap : Nat) (ad : Addr) (sLen sCap : Nat) (hd : a.eval d = .slice (some ⟨g, off, none⟩) dLen dCap) (hs : a.eval s = .slice (some ad) sLen sCap)
    (t : TypeId) (p m q cs : List Value) (hp : p.length = off) (hb : Blk w g t (p ++ (m ++ q))) (hl : cs.length = m.length) (hn : cs.length = Nat.min sLen dLen)
    (hsrc : ∀ j v, cs[j]? = some v → w.cell? (ad.add j) = some v) (h1 : ∀ v ∈ cs, v.oneCell' = true)
    (h : ∀ w', Blk w' g t (p ++ (cs ++ q)) → w.grownBy w' (some g) → wpList P ops Q rest (a.put o.dst (goInt cs.length)) w') : wpList P ops Q (o :: rest) a w := by
  subst hp
  refine wpList_copy_own hgd d s dT sT ho elem hu hsz g p.length dLen dCap ad sLen sCap hd hs (p ++ (m ++ q)).toArray t hb cs hn hsrc (by simp; omega) h1 ?_
  have e : (p ++ (m ++ q)).take p.length ++ (cs ++ (p ++ (m ++ q)).drop (p.length + cs.length)) = p ++ (cs ++ q) := by
    rw [List.take_left, hl, List.drop_append, List.drop_of_length_le (by omega), Nat.add_sub_cancel_left, List.drop_left, List.nil_append]
  rw [show (p ++ (m ++ q)).toArray.toList = p ++ (m ++ q) from rfl, e]
  exact h _ (blk_setRow hb) (grown_setRow w g _)
theorem st_cell (hg : o.guard = none) (ty : TypeId) (x y : Operand) (ho : o.op = .store ty x y) (b i : Nat) (t : TypeId) (k : IntKind) (p q : List Value) (old : Value) (v : Int) (n : Nat)
    (hx : a.eval x = .pointer (some ⟨b, i, none⟩)) (hy : a.eval y = .int k v) (hv : v = (n : Int)) (hp : p.length = i) (hb : Blk w b t (p ++ old :: q)) (hs : (P.info? ty).map (·.size) = some 1)
    (h : ∀ w', Blk w' b t (p ++ .int k (n : Int) :: q) → w.grownBy w' (some b) → wpList P ops Q rest (a.put o.dst undef) w') : wpList P ops Q (o :: rest) a w := by
  subst hv hp
  have hst := run_storeCells_cells (P := P) b p.length [.int k (n : Int)] 0 w (fun j hj => by
      have : j = 0 := by simpa using hj
      subst this
      rw [Nat.add_zero, hb.cell, List.getElem?_append_right (Nat.le_refl _), Nat.sub_self]; rfl) (fun j hj => hb.frozen _) (by simp [Value.oneCell'])
  refine wpList_plain hg fun K hK => ?_
  unfold Oper.wp execOp
  cases hq : P.info? ty with
  | none => simp [hq] at hs
  | some q1 =>
    have hq1 : q1.size = 1 := by simpa [hq] using hs
    simp only [Nat.add_zero] at hst
    have hsv : (storeVar ty ⟨b, p.length, none⟩ (.int k (n : Int))).run P w = .ok () (w.setCells b p.length [.int k (n : Int)]) := by
      simp [storeVar, Go.sizeOf, typeInfo, hq, Value.cells, hq1, hst]
    simp only [ho, hx, hy, Instr.storeAt, Instr.sureAddr, Sem.run_bind, Sem.run_pure, Result.andThen_ok, hsv]
    refine hK _ _ (h _ ?_ (grown_setCell w _ _))
    have := hb.set p.length (.int k (n : Int))
    rwa [List.set_append_right _ _ (Nat.le_refl _), Nat.sub_self] at this
theorem sl_from (hg : o.guard = none) (T : TypeId) (x y : Operand) (ho : o.op = .slice T x (some y) none none) (elem : TypeId) (hu : P.underlying T = some (.slice elem)) (hsz : ∀ w, (Go.sizeOf elem).run P w = .ok 1 w)
    (b off len cap n : Nat) (hx : a.eval x = .slice (some ⟨b, off, none⟩) len cap) (hy : a.eval y = .int .i64 (n : Int)) (hn : n ≤ len) (hc : len ≤ cap)
    (h : ∀ A, (n < len → A = some ⟨b, off + n, none⟩) → wpList P ops Q rest (a.put o.dst (.slice A (len - n) (cap - n))) w) : wpList P ops Q (o :: rest) a w := by
  refine wpList_plain hg fun K hK => ?_
  unfold Oper.wp execOp
  have h0 : (0 : Int) ≤ (n : Int) ∧ (n : Int) ≤ (len : Int) := ⟨by omega, by omega⟩
  have hr : (Instr.sliceAt T (.slice (some ⟨b, off, none⟩) len cap) (some (.int .i64 (n : Int))) none none).run P w = .ok (.slice (if cap = n then some ⟨b, off, none⟩ else some ⟨b, off + n, none⟩) (len - n) (cap - n)) w := by
    simp [Instr.sliceAt, Instr.slice, Instr.sliceBounds, Instr.sliceBound, asIntOf, run_underlying hu, h0, hsz, Addr.add_mid]
    omega
  simp only [ho, hx, hy, Option.map_some, Option.map_none, hr, Sem.run_bind, Result.andThen_ok]
  exact hK _ _ (h _ fun hlt => by rw [if_neg (by omega)])
end Go.Proofs.Ytmbglggodifboab.Sh
namespace Go.Proofs.Ytmbglggodifboab.Sh
open Go.RowKit Mt
def slen : Value → Nat | .slice _ n _ => n | _ => 0
theorem be8_get (v j : Nat) (hj : j < 8) : (be8 v).getD j 0 = v / 2 ^ (56 - 8 * j) % 256 := by
  unfold be8
  rw [List.getD_eq_getElem?_getD, List.getElem?_map, List.getElem?_range hj]; rfl
theorem be8_len (v : Nat) : (be8 v).length = 8 := by simp [be8]
theorem be8_snoc (v j : Nat) (hj : j < 8) : (be8 v).take (j + 1) = (be8 v).take j ++ [v / 2 ^ (56 - 8 * j) % 256] := by
  rw [take_snoc _ _ (by rw [be8_len]; exact hj), be8_get v j hj]
theorem own_one (w : World) (x : Nat) (base : Nat) (hb : base ≤ w.heap.size) : Own (w.alloc (.cells #[.int .u8 (x : Int)] 5)) base (.slice (some ⟨w.heap.size, 0, none⟩) 1 1) [x] :=
  World.ownsRow_lit w #[.int .u8 (x : Int)] 1 hb (by decide) rfl
theorem pad_eq (n z : Nat) (hz : Hid (z = (119 - n % 64) % 64)) : 128 :: (List.replicate z 0 ++ be8 (8 * n)) = pad n := by rw [hz.out]; rfl
set_option maxHeartbeats 1000000 in
set_option maxRecDepth 8000 in
theorem ending_any (n : Nat) (hn : n ≤ 1000000) (w : World) :
    Calls Try.prog 56 #[.int .u64 n] w fun e w' => ∃ g c, e = .returned (.slice (some ⟨g, 0, none⟩) (pad n).length c) ∧ w.heap.size ≤ g ∧ (pad n).length ≤ c ∧ Cells w' g 0 (pad n) ∧ Below w.heap.size w w' := by
  obtain ⟨Z, hZ⟩ : ∃ Z : Nat, Hid (Z = (119 - n % 64) % 64) := ⟨_, rfl⟩
  have hZ1 : Hid ((n + Z + 9) % 64 = 0 ∧ Z < 64 ∧ ∀ z, z < Z → (n + z + 9) % 64 ≠ 0) := by
    have := hZ.out
    exact ⟨by omega, by omega, fun z hz => by omega⟩
  have HP : Hid (128 :: (List.replicate Z 0 ++ be8 (8 * n)) = pad n) := pad_eq n Z hZ
  clear hZ
  have O0 := own_one w 128 _ (Nat.le_refl _)
  have b0 : Below w.heap.size w (w.alloc (.cells #[.int .u8 ((128 : Nat) : Int)] 5)) := (Below.refl _ _).alloc (Nat.le_refl _) _
  go_enter Try.func56, Try.ntmps56
  go_wp2
  go_loopw [3] (fun o wr => ∃ z : Nat, z ≤ Z ∧ Own wr w.heap.size o (128 :: List.replicate z 0) ∧ Below w.heap.size w wr) (fun o _ => 64 - slen o)
  case atStart => exact ⟨0, Nat.zero_le _, O0, b0⟩
  case round =>
    clear O0 b0
    obtain ⟨z, hz, hown, hbel⟩ := hrel
    obtain ⟨h0, hZl, hne⟩ := hZ1.out
    have hs := hbel.size
    obtain ⟨g, cap, rfl, hg, hgl, hlc, hcm, hcell⟩ := hown.form (by simp)
    have el : (128 :: List.replicate z 0).length = z + 1 := by simp
    rw [el] at hlc hown ⊢
    have HO : Hid (Own wr w.heap.size (.slice (some ⟨g, 0, none⟩) (z + 1) cap) (128 :: List.replicate z 0)) := hown
    clear hown hcell el
    by_cases hlt : z < Z
    · have hc : ¬ (((n : Int) + ((z : Int) + 1) + 8) % 64 = 0) := by have := hne z hlt; omega
      clear hne h0
      go_wp2_with (at_builtin; go_must (refine app_bytes rfl (.tmp 15) (.tmp 16) rfl w.heap.size _ (128 :: List.replicate z 0) rfl (Own.alloc HO.out _) _ _ _ [0] rfl rfl (byt_lit wr [0]) (by simp) (by simp; omega) (by simp; omega) ?_))
      intro v1 w1 o1 g1
      have b1 := below_app (hbel.alloc hs _) (by simp; omega) (Own.alloc HO.out _) g1
      have o1 : Own w1 w.heap.size v1 (128 :: List.replicate (z + 1) 0) := by rw [List.replicate_succ']; exact o1
      obtain ⟨g', cap', rfl, _⟩ := o1.form (by simp)
      have el : (128 :: List.replicate (z + 1) 0).length = z + 2 := by simp
      rw [el] at o1 ⊢
      have HO1 : Hid (Own w1 w.heap.size (.slice (some ⟨g', 0, none⟩) (z + 2) cap') (128 :: List.replicate (z + 1) 0)) := o1
      clear g1 o1 el
      go_wp2
      go_roundw
      case rel => exact ⟨z + 1, hlt, HO1.out, b1⟩
      case measure => simp only [slen]; omega
    · obtain rfl : z = Z := by omega
      have hc : ((n : Int) + ((z : Int) + 1) + 8) % 64 = 0 := by omega
      clear hne h0
      go_wp2
      go_loopw [3, 20] (fun o i wr => ∃ j : Nat, j ≤ 8 ∧ i = .int .i64 (j : Int) ∧ Own wr w.heap.size o (128 :: (List.replicate z 0 ++ (be8 (8 * n)).take j)) ∧ Below w.heap.size w wr) (fun _ i _ => 8 - (intOf i).toNat)
      case atStart => exact ⟨0, by omega, rfl, by rw [List.take_zero, List.append_nil]; exact HO.out, hbel⟩
      case round =>
        clear hbel HO hs hc
        obtain ⟨j, hj, rfl, hown, hbel⟩ := hrel
        have hs := hbel.size
        have hll : (128 :: (List.replicate z 0 ++ (be8 (8 * n)).take j)).length ≤ 80 := by simp [be8_len]; omega
        by_cases h8 : j < 8
        · have HO : Hid _ := be8_snoc (8 * n) j h8
          have t0 : (56 - 8 * (j : Int)).toNat = 56 - 8 * j := by omega
          obtain ⟨y, hy, HY⟩ : ∃ y : Nat, 8 * (n : Int) / 2 ^ (56 - 8 * j) % 256 = (y : Int) ∧ Hid (y = 8 * n / 2 ^ (56 - 8 * j) % 256) := ⟨_, by simp, rfl⟩
          go_wp2_with (at_builtin; go_must (refine app_bytes rfl (.tmp 23) (.tmp 30) rfl w.heap.size _ (128 :: (List.replicate z 0 ++ (be8 (8 * n)).take j)) rfl (hown.alloc _) _ _ _ [y] rfl rfl (byt_lit wr [y]) (by simp) (by simp [be8_len]; omega) (by simp; omega) ?_))
          intro v1 w1 o1 g1
          have b1 := below_app (hbel.alloc hs _) (by simp; omega) (hown.alloc _) g1
          have HO1 : Hid (Own w1 w.heap.size v1 (128 :: (List.replicate z 0 ++ (be8 (8 * n)).take (j + 1)))) := by
            show Own _ _ _ _
            rw [HO.out, ← HY.out]; exact o1
          clear g1 o1 hown hll
          go_wp2
          go_roundw
          case rel => exact ⟨j + 1, by omega, by go_num, HO1.out, b1⟩
          case measure => simp [intOf]; omega
        · obtain rfl : j = 8 := by omega
          rw [List.take_of_length_le (by rw [be8_len]; exact Nat.le_refl _), HP.out] at hown
          clear hll
          obtain ⟨g', cap', rfl, hg', _, hlc', _, hcell⟩ := hown.form (by unfold pad; simp)
          have HC : Hid _ := hcell
          clear hcell hown
          go_wp2
          go_ret
          exact ⟨g', cap', rfl, hg', hlc', HC.out, hbel⟩
end Go.Proofs.Ytmbglggodifboab.Sh
