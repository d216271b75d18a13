/-
  TreeOfNothing's walk.
-/
import Derived.Test.YteokjfpppmnebaaNj
import Derived.RangeFuncNested
import Derived.RangeFuncBound
import Derived.RangeFuncCalls
import Derived.RangeFuncLeaves
import Derived.Shelf.Abstract
import Derived.Shelf.RegionOpen
import Derived.OwnWalkIn
import Derived.TacticsInMore
import Derived.LoopNIn
import Derived.LoopIn
namespace Go.Proofs.Yteokjfpppmnebaa
open Go.RowKit Go.Shelf
set_option linter.unusedVariables false
set_option linter.unusedSimpArgs false
attribute [local go_sem] Oper.semAt_some
theorem eq_nilf (f : Nat) (l : Array Value) (w : World) : (binOp .eql 46 (.func (.func f) #[] l) .nilFunc).run Try.prog w = .ok (.bool false) w := by
  have h : (Op.equalIn (9999 + 1) 46 (.func (.func f) #[] l) .nilFunc).run Try.prog w = .ok false w := by
    unfold Op.equalIn
    simp [run_underlying Try.underlying46]
  have h2 : (Op.equal 46 (.func (.func f) #[] l) .nilFunc).run Try.prog w = .ok false w := h
  simp [binOp, h2]
theorem res_one {w : World} {fn : Func} {p : Tmp} (h : fn.results = #[.cell p 4]) (tmps : Array Value) (g : Nat) (v : Value)
    (hp : tmps.getD p undef = .pointer (some ⟨g, 0, none⟩)) (hg : w.cell? ⟨g, 0, none⟩ = some v) : (results fn tmps).run Try.prog w = .ok v w := by
  have hp' : tmps[p]?.getD undef = .pointer (some ⟨g, 0, none⟩) := by simpa using hp
  simp only [results, h]
  go_simp
def encE : Empty → Array Value := fun _ => #[.string ⟨#[]⟩, .int .i64 0]
theorem range_stops (n b3 b4 b5 : Nat) (x y : ByteArray) (w : World) (h : Cap w b3 b4 b5 none x y) : SeqStopsK Fence.wide n Try.prog 34 #[.pointer (some ⟨b3, 0, none⟩), .pointer (some ⟨b4, 0, none⟩), .pointer (some ⟨b5, 0, none⟩)] encE (Below w.heap.size) (fun xs => xs = []) (fun _ => False) 0 w := fun l J Jx W hW hJ hJx hY h0 => by
  refine (callsIn_wide.2 (nil_range1 l b3 b4 b5 x y W (h.below hW))).mono ?_
  rintro e W' ⟨rfl, hg⟩
  exact ⟨⟨_, rfl⟩, .inl ⟨[], rfl, hJ _ _ _ none h0 hg (by simp)⟩⟩
theorem back_stops (n b3 b4 b5 : Nat) (x y : ByteArray) (w : World) (h : Cap w b3 b4 b5 none x y) : SeqStopsK Fence.wide n Try.prog 38 #[.pointer (some ⟨b3, 0, none⟩), .pointer (some ⟨b4, 0, none⟩), .pointer (some ⟨b5, 0, none⟩)] encE (Below w.heap.size) (fun xs => xs = []) (fun _ => False) 0 w := fun l J Jx W hW hJ hJx hY h0 => by
  refine (callsIn_wide.2 (nil_back1 l b3 b4 b5 x y W (h.below hW))).mono ?_
  rintro e W' ⟨rfl, hg⟩
  exact ⟨⟨_, rfl⟩, .inl ⟨[], rfl, hJ _ _ _ none h0 hg (by simp)⟩⟩
theorem blk_own {A B : World} {row : Option Nat} {b n : Nat} {t : TypeId} {vs : List Value} (h : Blk A b t vs) (hg : A.grownBy B row) (hr : ∀ r, row = some r → n ≤ r ∧ ∃ o : Obj, A.heap[r]? = some o ∧ o.isCells = false) : Blk B b t vs := h.kept hg (fun e => by
  obtain ⟨_, o, h1, h2⟩ := hr b e.symm
  rw [show A.heap[b]? = _ from h] at h1
  injection h1 with h1
  rw [← h1] at h2
  cases h2)
theorem cap_own {A B : World} {row : Option Nat} {b3 b4 b5 n : Nat} {t : Option Addr} {x y : ByteArray} (h : Cap A b3 b4 b5 t x y) (hg : A.grownBy B row) (hr : ∀ r, row = some r → n ≤ r ∧ ∃ o : Obj, A.heap[r]? = some o ∧ o.isCells = false) : Cap B b3 b4 b5 t x y := ⟨blk_own h.t hg hr, blk_own h.x hg hr, blk_own h.y hg hr⟩
theorem def_own {A B : World} {row : Option Nat} {D n : Nat} (h : A.heap[D]? = some (.deferred (some []))) (hD : D < n) (hg : A.grownBy B row) (hr : ∀ r, row = some r → n ≤ r ∧ ∃ o : Obj, A.heap[r]? = some o ∧ o.isCells = false) : B.heap[D]? = some (.deferred (some [])) := by
  rw [hg.block D (Array.getElem?_eq_some_iff.1 h).1 (fun e => by have := (hr D e.symm).1; omega)]
  exact h
theorem def_below {A B : World} {D : Nat} (h : A.heap[D]? = some (.deferred (some []))) (g : Below A.heap.size A B) : B.heap[D]? = some (.deferred (some [])) := by
  rw [g.block D (Array.getElem?_eq_some_iff.1 h).1]; exact h
set_option maxRecDepth 100000 in
set_option maxHeartbeats 2000000 in
theorem ofn_walk (key : ByteArray) (n : Int) (w : World) : Calls Try.prog 6 #[.string key, .int .i64 n] w fun e w' => e = .returned (.bool true) ∧ Hid (Below w.heap.size w w') := by
  by_cases hk : 1000 < key.size
  · have hk' : (1000 : Int) < (key.size : Int) := by omega
    go_enter Try.func6, Try.ntmps6
    go_wp2
    exact bodyPost_ret (res_one rfl _ w.heap.size (.bool true) rfl ((blk_new w 4 [.bool true]).cell 0)) rfl ⟨rfl, (Below.refl w.heap.size w).alloc (Nat.le_refl _) _⟩
  have hk' : ¬ (1000 : Int) < (key.size : Int) := by omega
  refine (callsIn_wide (n := 3)).1 ?_
  refine callsIn_of_wp_marks Try.func6 rfl trivial ?_ rfl
  simp only [Try.ntmps6, List.size_toArray, List.length_cons, List.length_nil, Nat.reduceAdd, Nat.reduceSub, Array.replicate_succ, Array.replicate_zero, List.push_toArray, List.append_toArray, List.nil_append, List.cons_append]
  have HZ : Hid (Below w.heap.size w (w.alloc (.cells #[.bool false] 4))) := (Below.refl w.heap.size w).alloc (Nat.le_refl _) _
  have HR : Hid (Blk (w.alloc (.cells #[.bool false] 4)) w.heap.size 4 [.bool false]) := blk_new w 4 [.bool false]
  gi_wp2_with fail
  generalize w.alloc (.cells #[.bool false] 4) = W0 at *
  refine ⟨trivial, (callsIn_wide.2 (nil_put _ _ _)).mono ?_⟩
  rintro e w' ⟨rfl, rfl⟩
  gi_wp2_with fail
  refine ⟨trivial, (callsIn_wide.2 (nil_get _ _)).mono ?_⟩
  rintro e w' ⟨rfl, rfl⟩
  gi_wp2_with fail
  refine ⟨trivial, (callsIn_wide.2 (nil_delete _ _)).mono ?_⟩
  rintro e W0 ⟨rfl, rfl⟩
  gi_wp2_with fail
  refine ⟨trivial, (callsIn_wide.2 (range_any none _ _ (by decide) (by decide) _)).mono ?_⟩
  rintro e W1 ⟨b3, b4, b5, rfl, H⟩
  have HC : Hid (Cap W1 b3 b4 b5 none ⟨#[]⟩ ⟨#[]⟩) := H.out.1
  have HZ1 : Hid (Below w.heap.size w W1) := HZ.out.trans (H.out.2.1.mono HZ.out.size)
  have HR1 : Hid (Blk W1 w.heap.size 4 [.bool false]) := HR.out.below H.out.2.1 HR.out.lt
  clear H HZ HR
  gi_wp2_with fail
  refine ⟨trivial, (callsIn_wide.2 (back_any none _ _ (by decide) (by decide) _)).mono ?_⟩
  rintro e W2 ⟨c3, c4, c5, rfl, H⟩
  have HC2 : Hid (Cap W2 b3 b4 b5 none ⟨#[]⟩ ⟨#[]⟩) := HC.out.below H.out.2.1
  have HD2 : Hid (Cap W2 c3 c4 c5 none ⟨#[]⟩ ⟨#[]⟩) := H.out.1
  have HZ2 : Hid (Below w.heap.size w W2) := HZ1.out.trans (H.out.2.1.mono HZ1.out.size)
  have HR2 : Hid (Blk W2 w.heap.size 4 [.bool false]) := HR1.out.below H.out.2.1 HR1.out.lt
  clear H HZ1 HR1 HC
  have q1 := eq_nilf 34 #[.pointer (some ⟨b3, 0, none⟩), .pointer (some ⟨b4, 0, none⟩), .pointer (some ⟨b5, 0, none⟩)] W2
  have q2 := eq_nilf 38 #[.pointer (some ⟨c3, 0, none⟩), .pointer (some ⟨c4, 0, none⟩), .pointer (some ⟨c5, 0, none⟩)] W2
  gi_wp2_with fail
  clear q1 q2
  refine wpIn_rangeFunc_ownF (α := Empty) rfl (by decide) (gf := 34) (lb := #[.pointer (some ⟨b3, 0, none⟩), .pointer (some ⟨b4, 0, none⟩), .pointer (some ⟨b5, 0, none⟩)]) rfl trivial (enters_of Try.func34 (by kernel_rfl) rfl)
    (range_stops _ b3 b4 b5 _ _ W2 HC2.out) belowK_t (belowK_b (Nat.le_refl _)) (Below.refl _ _) (fun x => x.elim)
    (fun _ W => Blk W w.heap.size 4 [.bool false] ∧ Cap W c3 c4 c5 none ⟨#[]⟩ ⟨#[]⟩ ∧ Below w.heap.size w W) (fun _ _ _ => False)
    (fun s A B row hs hg hr => ⟨blk_own hs.1 hg hr, cap_own hs.2.1 hg hr, hs.2.2.grown hg hs.2.2.size (fun k e => by have := (hr k e).1; have := HZ2.out.size; omega)⟩) (fun _ _ _ _ _ hs _ _ => hs)
    ⟨HR2.out, HD2.out, HZ2.out⟩ (fun x => x.elim) ?assign ?body ?done ?stop
  case assign => exact fun l x => x.elim
  case body => exact fun l pre x => x.elim
  case stop => exact fun D c pre W _ h => h.elim
  case done =>
    rintro D xs W3 hD hxs ⟨h1, h2, h3⟩ hK
    have HR3 : Hid (Blk W3 w.heap.size 4 [.bool false]) := h1
    have HD3 : Hid (Cap W3 c3 c4 c5 none ⟨#[]⟩ ⟨#[]⟩) := h2
    have HZ3 : Hid (Below w.heap.size w W3) := h3
    have HK3 : Hid (W3.heap[D]? = some (.deferred (some []))) := hK
    have hDl : D < W3.heap.size := (Array.getElem?_eq_some_iff.1 hK).1
    have hDw : w.heap.size < D := by have := HR2.out.lt; omega
    clear h1 h2 h3 hK hxs HR2 HD2 HZ2 HC2 hD
    gi_wp2_with fail
    refine wpIn_rangeFunc_ownF (α := Empty) rfl (by decide) (gf := 38) (lb := #[.pointer (some ⟨c3, 0, none⟩), .pointer (some ⟨c4, 0, none⟩), .pointer (some ⟨c5, 0, none⟩)]) rfl trivial (enters_of Try.func38 (by kernel_rfl) rfl)
      (back_stops _ c3 c4 c5 _ _ W3 HD3.out) belowK_t (belowK_b (Nat.le_refl _)) (Below.refl _ _) (fun x => x.elim)
      (fun _ W => Blk W w.heap.size 4 [.bool false] ∧ W.heap[D]? = some (.deferred (some [])) ∧ Below w.heap.size w W) (fun _ _ _ => False)
      (fun s A B row hs hg hr => ⟨blk_own hs.1 hg hr, def_own hs.2.1 hDl hg hr, hs.2.2.grown hg hs.2.2.size (fun k e => by have := (hr k e).1; have := HZ3.out.size; omega)⟩) (fun _ _ _ _ _ hs _ _ => hs)
      ⟨HR3.out, HK3.out, HZ3.out⟩ (fun x => x.elim) ?assign ?body ?done ?stop
    case assign => exact fun l x => x.elim
    case body => exact fun l pre x => x.elim
    case stop => exact fun D c pre W _ h => h.elim
    case done =>
      rintro E xs W4 hE hxs ⟨h1, h2, h3⟩ hK
      have HR4 : Hid (Blk W4 w.heap.size 4 [.bool false]) := h1
      have HK4 : Hid (W4.heap[D]? = some (.deferred (some [])) ∧ W4.heap[E]? = some (.deferred (some []))) := ⟨h2, hK⟩
      have HZ4 : Hid (Below w.heap.size w W4) := h3
      have hDE : D < E := by omega
      clear h1 h2 h3 hK hxs HR3 HD3 HZ3 HK3 hE
      gi_wp2_with fail
      refine ⟨trivial, (callsIn_wide.2 (nil_shape _)).mono ?_⟩
      rintro e w' ⟨rfl, rfl⟩
      gi_wp2_with fail
      refine ⟨trivial, (callsIn_wide.2 (nil_len _)).mono ?_⟩
      rintro e w' ⟨rfl, rfl⟩
      gi_wp2_with fail
      refine ⟨trivial, (callsIn_wide.2 (nil_copy _)).mono ?_⟩
      rintro e W4 ⟨rfl, rfl⟩
      gi_wp2_with fail
      refine ⟨trivial, (callsIn_wide.2 (known_any _)).mono ?_⟩
      rintro e W5 ⟨rfl, H⟩
      have HR5 : Hid (Blk W5 w.heap.size 4 [.bool false]) := HR4.out.below H.out HR4.out.lt
      have HK5 : Hid (W5.heap[D]? = some (.deferred (some [])) ∧ W5.heap[E]? = some (.deferred (some []))) := ⟨def_below HK4.out.1 H.out, def_below HK4.out.2 H.out⟩
      have HZ5 : Hid (Below w.heap.size w W5) := HZ4.out.trans (H.out.mono HZ4.out.size)
      have c4 : W5.cell? ⟨w.heap.size, 0, none⟩ = some (.bool false) := HR5.out.cell 0
      have f4 : W5.frozen? ⟨w.heap.size, 0, none⟩ = false := HR5.out.frozen 0
      clear H HR4 HK4 HZ4
      gi_wp2
      have G6 := grown_setCell W5 ⟨w.heap.size, 0, none⟩ (.bool true)
      have B6 : Blk (W5.setCell ⟨w.heap.size, 0, none⟩ (.bool true)) w.heap.size 4 [.bool true] := HR5.out.set 0 (.bool true)
      have D6 := HK5.out.1
      have E6 := HK5.out.2
      rw [← G6.block D (Array.getElem?_eq_some_iff.1 D6).1 (by simp; omega)] at D6
      rw [← G6.block E (Array.getElem?_eq_some_iff.1 E6).1 (by simp; omega)] at E6
      have Z6 := HZ5.out.grown G6 HZ5.out.size (fun k e => by injection e with e; exact Nat.le_of_eq e)
      have G7 := grownBy_putObj' (W5.setCell ⟨w.heap.size, 0, none⟩ (.bool true)) E (.deferred none)
      have B7 := B6.kept G7 (by simp; omega)
      have D7 := D6
      rw [← G7.block D (Array.getElem?_eq_some_iff.1 D6).1 (by simp; omega)] at D7
      have Z7 := Z6.grown G7 Z6.size (fun k e => by injection e with e; omega)
      have G8 := grownBy_putObj' ((W5.setCell ⟨w.heap.size, 0, none⟩ (.bool true)).putObj E (.deferred none)) D (.deferred none)
      have B8 := B7.kept G8 (by simp; omega)
      have Z8 := Z7.grown G8 Z7.size (fun k e => by injection e with e; omega)
      refine ⟨by simp, .inl ⟨_, _, rfl, run_takeDeferred E6, ?_⟩⟩
      refine ⟨by simp, .inl ⟨_, _, rfl, run_takeDeferred D7, ?_⟩⟩
      exact ⟨_, res_one rfl _ w.heap.size (.bool true) rfl (B8.cell 0), rfl, Z8⟩
#print axioms ofn_walk
end Go.Proofs.Yteokjfpppmnebaa
