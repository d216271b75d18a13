/-
  A block that comes in. · The table of the last noughts, out of what the rows list.
-/
import Derived.Test.YtlefdnjokppibaaGreatDoorUG13x
import Derived.Laws.IdiomArrays
import Derived.OpenShut
import Derived.ChangeSame
import Derived.Test.YtlefdnjokppibaaGreatDoorRows
import Derived.Test.YtlefdnjokppibaaGreatDoorUG33x
import Derived.Lib.LaidTab
import Derived.MakeChecks
import Derived.Stop.LaidErr
import Derived.LaidMore
namespace Go.Proofs.YtlefdnjokppibaaGreatDoor.Sh
open Go.RowKit Go.ChangeShapes Go.WideShapes Math Mt
set_option linter.unusedVariables false
theorem mapM_all {α β : Type} {f : α → Option β} : ∀ {l : List α} {ys : List β}, l.mapM f = some ys → ∀ a ∈ l, ∃ y, f a = some y
  | [], _, _, a, ha => by cases ha
  | b :: l, ys, h, a, ha => by
    rw [List.mapM_cons] at h
    simp only [bind, Option.bind_eq_some_iff, pure, Option.some.injEq] at h
    obtain ⟨y, hy, zs, hz, _⟩ := h
    rcases List.mem_cons.1 ha with rfl | ha
    · exact ⟨y, hy⟩
    · exact mapM_all hz a ha
def natOf : Option Value → Nat
  | some (.int _ n) => n.toNat
  | _ => 0
set_option maxRecDepth 8000 in
theorem open_hash {H : Type} {enc : TypeId × Value → H} {w : World} {base : Nat} {spare : Nat → Bool} {held : Bool} {fuel : Nat} {cs : Array Value} {x : DataW H × List MemPlace} (hn : cs.size = 32)
    (h : DataW.trod enc Tryz.prog w base spare held fuel 23 cs.toList = some x) : ∃ l : List Nat, l.length = 32 ∧ Oct l ∧ cs = (nums .u8 l).toArray := by
  have hall : ∀ i, i < 32 → ∃ n : Nat, n < 256 ∧ cs[i]? = some (.int .u8 (n : Int)) := by
    cases fuel with
    | zero => simp [DataW.trod] at h
    | succ m =>
      unfold DataW.trod at h
      rw [Tryz.underlying23] at h
      simp only [cells5, Nat.mul_one] at h
      split at h
      · rename_i hh
        simp only [Option.map_eq_some_iff] at h
        obtain ⟨ys, hys, _⟩ := h
        intro i hi
        obtain ⟨y, hy⟩ := mapM_all hys i (List.mem_range.2 hi)
        obtain ⟨n, hcs, _, hwf⟩ := DataW.trod_int Tryz.underlying5 hy
        have hb := bounds_u8 hwf
        refine ⟨n.toNat, by omega, ?_⟩
        have h0 : (List.take 1 (List.drop i cs.toList))[0]? = some (Value.int .u8 n) := by rw [hcs]; rfl
        rw [List.getElem?_take, if_pos (by decide), List.getElem?_drop, Nat.add_zero, Array.getElem?_toList] at h0
        rw [h0, Int.toNat_of_nonneg hb.1]
      · cases h
  refine ⟨(List.range 32).map fun i => natOf cs[i]?, by simp, fun y hy => ?_, ?_⟩
  · obtain ⟨i, hi, rfl⟩ := List.mem_map.1 hy
    obtain ⟨n, hn', e⟩ := hall i (List.mem_range.1 hi)
    rw [e]; simpa [natOf] using hn'
  · apply Array.ext_getElem?
    intro i
    by_cases hi : i < 32
    · obtain ⟨n, hn', e⟩ := hall i hi
      have h2 : (nums .u8 ((List.range 32).map fun i => natOf cs[i]?)).toArray[i]? = some (.int .u8 (n : Int)) := by
        rw [List.getElem?_toArray, nums_get .u8 _ i (by simpa using hi)]
        simp [List.getD_eq_getElem?_getD, List.getElem?_range hi, e, natOf]
      exact e.trans h2.symm
    · have h2 : (nums .u8 ((List.range 32).map fun i => natOf cs[i]?)).toArray[i]? = none := by
        rw [List.getElem?_toArray, List.getElem?_eq_none (by rw [nums_length]; simp; omega)]
      exact (Array.getElem?_eq_none (by omega)).trans h2.symm
theorem cellsHash : Tryz.prog.cellsOf 23 = 32 := by kernel_rfl
theorem cellsEn : Tryz.prog.cellsOf 45 = 46 := by kernel_rfl
theorem cellsBk : Tryz.prog.cellsOf 26 = 36 := by kernel_rfl
theorem cellsEs : Tryz.prog.cellsOf 24 = 1 := by kernel_rfl
theorem cellsAd : Tryz.prog.cellsOf 43 = 2 := by kernel_rfl
theorem cells4' : Tryz.prog.cellsOf 4 = 1 := by kernel_rfl
theorem bytesEn : 1 ≤ Tryz.prog.bytesOf 45 := of_decide_eq_true (by kernel_rfl)
theorem mkList {α : Type} {P : Nat → α → Prop} : ∀ (n : Nat), (∀ i, i < n → ∃ x, P i x) → ∃ l : List α, l.length = n ∧ ∀ i x, l[i]? = some x → P i x
  | 0, _ => ⟨[], rfl, fun i x h => by cases h⟩
  | n + 1, h => by
    obtain ⟨l, h1, h2⟩ := mkList n fun i hi => h i (by omega)
    obtain ⟨x, hx⟩ := h n (by omega)
    refine ⟨l ++ [x], by simp [h1], fun i y hy => ?_⟩
    by_cases hi : i < n
    · rw [List.getElem?_append_left (by omega)] at hy; exact h2 i y hy
    · have : i = n := by have := (List.getElem?_eq_some_iff.1 hy).1; simp [h1] at this; omega
      subst this
      rw [← h1, List.getElem?_concat_length] at hy
      rw [← Option.some.inj hy]; exact hx
theorem cutL {α : Type} (l : List α) (k n m : Nat) (h : k + n = m) : l.drop k = (l.drop k).take n ++ l.drop m := by
  subst h
  rw [← List.drop_drop]
  exact (List.take_append_drop n _).symm
theorem two_of {α : Type} : ∀ {x : List α} {p q : α}, x.length = 2 → (x.drop 0).take 1 = [p] → (x.drop 1).take 1 = [q] → x = [p, q]
  | [a, b], p, q, _, h1, h2 => by simp at h1 h2; rw [h1, h2]
theorem nineL {α : Type} : ∀ {l : List α}, l.length = 9 → ∃ a b c d e f g h i, l = [a, b, c, d, e, f, g, h, i]
  | [a, b, c, d, e, f, g, h, i], _ => ⟨a, b, c, d, e, f, g, h, i, rfl⟩
theorem fiveL {α : Type} : ∀ {l : List α}, l.length = 5 → ∃ a b c d e, l = [a, b, c, d, e]
  | [a, b, c, d, e], _ => ⟨a, b, c, d, e, rfl⟩
theorem i64_of {n : Int} (h : (Lit.int .i64 n).wf = true) : I64 n := by
  have := bounds_i64 h
  exact ⟨by omega, by omega⟩
set_option maxRecDepth 8000 in
theorem open_ent {H : Type} {enc : TypeId × Value → H} {W : World} {n : Nat} {cs : List Value} {y : DataW H × List MemPlace} (h : DataW.trod enc Tryz.prog W 0 (fun _ => true) true n 45 cs = some y) (hw : ∀ n ∈ y.1.weights Tryz.prog 45, n ≤ reachBytes) :
    ∃ e na nc ka kc, cs = eC e na nc ka kc ∧ Vl W e.v na nc ka kc ∧ EnW e := by
  obtain ⟨xs, k, hk, hxy, hlen, hxl, hf⟩ := DataW.trod_struct Tryz.underlying45 h
  rw [cellsEn] at hlen
  obtain ⟨y0, y1, y2, y3, y4, y5, y6, y7, y8, rfl⟩ := nineL (show xs.length = 9 from hxl)
  have g0 : DataW.trod enc Tryz.prog W 0 (fun _ => true) true k 3 ((cs.drop 0).take (Tryz.prog.cellsOf 3)) = some y0 := hf 0 _ rfl
  have g1 : DataW.trod enc Tryz.prog W 0 (fun _ => true) true k 9 ((cs.drop 1).take (Tryz.prog.cellsOf 9)) = some y1 := hf 1 _ rfl
  have g2 : DataW.trod enc Tryz.prog W 0 (fun _ => true) true k 3 ((cs.drop 2).take (Tryz.prog.cellsOf 3)) = some y2 := hf 2 _ rfl
  have g3 : DataW.trod enc Tryz.prog W 0 (fun _ => true) true k 3 ((cs.drop 3).take (Tryz.prog.cellsOf 3)) = some y3 := hf 3 _ rfl
  have g4 : DataW.trod enc Tryz.prog W 0 (fun _ => true) true k 3 ((cs.drop 4).take (Tryz.prog.cellsOf 3)) = some y4 := hf 4 _ rfl
  have g5 : DataW.trod enc Tryz.prog W 0 (fun _ => true) true k 41 ((cs.drop 5).take (Tryz.prog.cellsOf 41)) = some y5 := hf 5 _ rfl
  have g6 : DataW.trod enc Tryz.prog W 0 (fun _ => true) true k 23 ((cs.drop 11).take (Tryz.prog.cellsOf 23)) = some y6 := hf 6 _ rfl
  have g7 : DataW.trod enc Tryz.prog W 0 (fun _ => true) true k 4 ((cs.drop 43).take (Tryz.prog.cellsOf 4)) = some y7 := hf 7 _ rfl
  have g8 : DataW.trod enc Tryz.prog W 0 (fun _ => true) true k 43 ((cs.drop 44).take (Tryz.prog.cellsOf 43)) = some y8 := hf 8 _ rfl
  rw [cells3] at g0 g2 g3 g4
  rw [cells9] at g1
  rw [cells25] at g5
  rw [cellsHash] at g6
  rw [cells4'] at g7
  rw [cellsAd] at g8
  have hw2 : ∀ (j : Nat) (t : TypeId) (d : DataW H), [(3 : TypeId), 9, 3, 3, 3, 41, 23, 4, 43][j]? = some t → [y0.1, y1.1, y2.1, y3.1, y4.1, y5.1, y6.1, y7.1, y8.1][j]? = some d → ∀ n ∈ d.weights Tryz.prog t, n ≤ reachBytes := fun j t d ht hd n hn => by
    refine hw n ?_
    rw [hxy]
    simp only [DataW.weights, Tryz.underlying45]
    exact DataW.weights_mem_each (j := j) ht hd n hn
  obtain ⟨z0, e0, r0, q0⟩ := DataW.trod_int Tryz.underlying3 g0
  obtain ⟨s1, e1, r1, _⟩ := DataW.trod_string Tryz.underlying9 g1
  obtain ⟨z2, e2, r2, q2⟩ := DataW.trod_int Tryz.underlying3 g2
  obtain ⟨z3, e3, r3, q3⟩ := DataW.trod_int Tryz.underlying3 g3
  obtain ⟨z4, e4, r4, q4⟩ := DataW.trod_int Tryz.underlying3 g4
  obtain ⟨p, na, nc, ka, kc, e5, hvl, hwf⟩ := open_val k g5 (hw2 5 41 y5.1 rfl rfl)
  obtain ⟨l, hl1, hl2, e6⟩ := open_hash (cs := ((cs.drop 11).take 32).toArray) (by simp; omega) (by simpa using g6)
  have e6 : (cs.drop 11).take 32 = nums .u8 l := by simpa using congrArg Array.toList e6
  obtain ⟨b7, e7, _⟩ := DataW.trod_bool Tryz.underlying4 g7
  obtain ⟨u0, u1, k2, _, hlA, f0, f1⟩ := trod_struct2 Tryz.underlying43 g8
  have f0 : DataW.trod enc Tryz.prog W 0 (fun _ => true) true k2 3 ((((cs.drop 44).take 2).drop 0).take (Tryz.prog.cellsOf 3)) = some u0 := f0
  have f1 : DataW.trod enc Tryz.prog W 0 (fun _ => true) true k2 3 ((((cs.drop 44).take 2).drop 1).take (Tryz.prog.cellsOf 3)) = some u1 := f1
  rw [cells3] at f0 f1
  obtain ⟨z8, e8, r8, q8⟩ := DataW.trod_int Tryz.underlying3 f0
  obtain ⟨z9, e9, r9, q9⟩ := DataW.trod_int Tryz.underlying3 f1
  have e89 : (cs.drop 44).take 2 = [.int .i64 z8, .int .i64 z9] := two_of (by simp; omega) e8 e9
  have hT : s1.size ≤ 140737488355328 := by
    have := hw2 1 9 y1.1 rfl rfl s1.data.toList.length (by rw [r1]; simp [DataW.weights])
    simp only [reachBytes, Array.length_toList] at this
    exact Nat.le_trans this (by decide)
  refine ⟨⟨z0, s1, z2, z3, z4, p, l, b7, z8, z9⟩, na, nc, ka, kc, ?_, hvl, ⟨i64_of q0, hT, i64_of q2, i64_of q3, i64_of q4, hwf, ⟨hl1, hl2⟩, i64_of q8, i64_of q9⟩⟩
  have hend : cs.drop 46 = [] := List.drop_of_length_le (by omega)
  have c0 := cutL cs 0 1 1 rfl
  rw [cutL cs 1 1 2 rfl, cutL cs 2 1 3 rfl, cutL cs 3 1 4 rfl, cutL cs 4 1 5 rfl, cutL cs 5 6 11 rfl, cutL cs 11 32 43 rfl, cutL cs 43 1 44 rfl, cutL cs 44 2 46 rfl, hend, e0, e1, e2, e3, e4, e5, e6, e7, e89, List.drop_zero] at c0
  rw [c0]
  rfl
set_option maxRecDepth 8000 in
theorem open_blk {H : Type} {enc : TypeId × Value → H} {W : World} {n : Nat} {cs : List Value} {y : DataW H × List MemPlace} (h : DataW.trod enc Tryz.prog W 0 (fun _ => true) true n 26 cs = some y) (hw : ∀ n ∈ y.1.weights Tryz.prog 26, n ≤ reachBytes) :
    ∃ b a c, cs = bC b a c ∧ EsM W a b.es ∧ BkW b := by
  obtain ⟨xs, k, hk, hxy, hlen, hxl, hf⟩ := DataW.trod_struct Tryz.underlying26 h
  rw [cellsBk] at hlen
  obtain ⟨y0, y1, y2, y3, y4, rfl⟩ := fiveL (show xs.length = 5 from hxl)
  have g0 : DataW.trod enc Tryz.prog W 0 (fun _ => true) true k 3 ((cs.drop 0).take (Tryz.prog.cellsOf 3)) = some y0 := hf 0 _ rfl
  have g1 : DataW.trod enc Tryz.prog W 0 (fun _ => true) true k 3 ((cs.drop 1).take (Tryz.prog.cellsOf 3)) = some y1 := hf 1 _ rfl
  have g2 : DataW.trod enc Tryz.prog W 0 (fun _ => true) true k 3 ((cs.drop 2).take (Tryz.prog.cellsOf 3)) = some y2 := hf 2 _ rfl
  have g3 : DataW.trod enc Tryz.prog W 0 (fun _ => true) true k 23 ((cs.drop 3).take (Tryz.prog.cellsOf 23)) = some y3 := hf 3 _ rfl
  have g4 : DataW.trod enc Tryz.prog W 0 (fun _ => true) true k 24 ((cs.drop 35).take (Tryz.prog.cellsOf 24)) = some y4 := hf 4 _ rfl
  rw [cells3] at g0 g1 g2
  rw [cellsHash] at g3
  rw [cellsEs] at g4
  have hw4 : ∀ n ∈ y4.1.weights Tryz.prog 24, n ≤ reachBytes := fun n hn => by
    refine hw n ?_
    rw [hxy]
    simp only [DataW.weights, Tryz.underlying26]
    exact DataW.weights_mem_each (j := 4) (t := 24) (d := y4.1) rfl rfl n hn
  obtain ⟨z0, e0, r0, q0⟩ := DataW.trod_int Tryz.underlying3 g0
  obtain ⟨z1, e1, r1, q1⟩ := DataW.trod_int Tryz.underlying3 g1
  obtain ⟨z2, e2, r2, q2⟩ := DataW.trod_int Tryz.underlying3 g2
  obtain ⟨l, hl1, hl2, e3⟩ := open_hash (cs := ((cs.drop 3).take 32).toArray) (by simp; omega) (by simpa using g3)
  have e3 : (cs.drop 3).take 32 = nums .u8 l := by simpa using congrArg Array.toList e3
  obtain ⟨es, a, c, e4, hE, hEW, hEl⟩ : ∃ (es : List En) (a : Option Addr) (c : Nat), (cs.drop 35).take 1 = [.slice a es.length c] ∧ EsM W a es ∧ (∀ e ∈ es, EnW e) ∧ es.length ≤ 140737488355328 := by
    rcases DataW.trod_slice Tryz.underlying24 g4 with ⟨hcs, _⟩ | ⟨ad, len, cap, elems, rest, m, hm0, hcs, hx, _, hl, hm, hel, hei, _, _⟩
    · exact ⟨[], none, 0, hcs, .inl rfl, by simp, by simp⟩
    · have hlen : len ≤ 140737488355328 := by
        have := hw4 _ (by rw [hx]; simp only [DataW.weights, Tryz.underlying24]; exact List.mem_cons_self)
        have hb := bytesEn
        simp only [List.length_map, reachBytes] at this
        have h2 : (elems.length + rest.length) * 1 ≤ (elems.length + rest.length) * Tryz.prog.bytesOf 45 := Nat.mul_le_mul_left _ hb
        have h3 : elems.length = len := hel
        omega
      have each : ∀ i, i < len → ∃ e : En, EnW e ∧ ∃ na nc ka kc, W.cells? 0 (ad.add (i * 46)) 46 = some (eC e na nc ka kc) ∧ Vl W e.v na nc ka kc := by
        intro i hi
        have hh := hei i hi
        rw [List.getElem?_eq_getElem (by omega)] at hh
        obtain ⟨cs', c1, c2⟩ := Option.bind_eq_some_iff.1 hh
        obtain ⟨e, na, nc, ka, kc, d1, d2, d3⟩ := open_ent c2 (fun n hn => hw4 n (by
          rw [hx]
          simp only [DataW.weights, Tryz.underlying24]
          refine List.mem_cons_of_mem _ (List.mem_append.2 (.inl (weightsAll_mem (d := elems[i].1) (List.mem_map.2 ⟨elems[i], List.getElem_mem _, rfl⟩) hn)))))
        rw [cellsEn] at c1
        exact ⟨e, d3, na, nc, ka, kc, by rw [← d1]; exact c1, d2⟩
      obtain ⟨es, hL1, hL2⟩ := mkList (P := fun i (e : En) => EnW e ∧ ∃ na nc ka kc, W.cells? 0 (ad.add (i * 46)) 46 = some (eC e na nc ka kc) ∧ Vl W e.v na nc ka kc) len each
      refine ⟨es, some ad, cap, by rw [hcs, hL1], ?_, fun x hx => ?_, by omega⟩
      · by_cases h0 : len = 0
        · exact .inl (List.eq_nil_of_length_eq_zero (by omega))
        · obtain ⟨b, off, spot⟩ := ad
          have hs : spot = none := by
            obtain ⟨e, p1, na, nc, ka, kc, c1, _⟩ := each 0 (by omega)
            obtain ⟨_, _, hcell⟩ := World.cells?_some c1
            have := hcell 0 (by decide)
            simpa [Addr.add] using World.cell?_spot (this.trans (show (eC e na nc ka kc)[0]? = some (.int .i64 e.k) from rfl))
          subst hs
          refine .inr ⟨b, off, rfl, fun i x hx => ?_⟩
          obtain ⟨p1, na, nc, ka, kc, c1, c2⟩ := hL2 i x hx
          refine ⟨na, nc, ka, kc, fun j v hj => ?_, c2⟩
          obtain ⟨_, _, hcell⟩ := World.cells?_some c1
          simp only [Addr.add_lit] at hcell
          have hj2 := (List.getElem?_eq_some_iff.1 hj).1
          exact (hcell j (by rw [eC_len p1.h.1] at hj2; exact hj2)).trans hj
      · obtain ⟨i, hi, rfl⟩ := List.getElem_of_mem hx
        exact (hL2 i _ (List.getElem?_eq_getElem hi)).1
  refine ⟨⟨z0, z1, z2, l, es⟩, a, c, ?_, hE, ⟨i64_of q0, i64_of q1, i64_of q2, ⟨hl1, hl2⟩, hEW, hEl⟩⟩
  have hend : cs.drop 36 = [] := List.drop_of_length_le (by omega)
  have c0 := cutL cs 0 1 1 rfl
  rw [cutL cs 1 1 2 rfl, cutL cs 2 1 3 rfl, cutL cs 3 32 35 rfl, cutL cs 35 1 36 rfl, hend, e0, e1, e2, e3, e4, List.drop_zero] at c0
  rw [c0]
  rfl
end Go.Proofs.YtlefdnjokppibaaGreatDoor.Sh
namespace Go.Proofs.YtlefdnjokppibaaGreatDoor.Sh
open Go.RowKit Go.ChangeShapes Go.WideShapes
set_option linter.unusedVariables false
set_option maxRecDepth 8000
theorem tb_of {W : World} (h : laidMetH Tryz.prog [("math/bits.deBruijn32tab", Rows.laid_math_bits_deBruijn32tab), ("math/bits.deBruijn64tab", Rows.laid_math_bits_deBruijn64tab)] W) : Mer.Tb W := by
  rw [MakeChecks.laidMetH_plain _ _ _ (by kernel_rfl)] at h
  have h3 : laidMet Tryz.prog [("math/bits.deBruijn64tab", Lib.tabData .u8 (Lib.deBruijn64tab.map fun n : Nat => (n : Int)))] W := laidMet.tail h
  have h4 := Lib.tabIs_of_head (g := 1) (t := 100) (e := 5) (n := 64) (by kernel_rfl) (by kernel_rfl) (by kernel_rfl) (by kernel_rfl) (by kernel_rfl) (by kernel_rfl) h3
  unfold Lib.TabIs World.var? at h4
  rw [show Tryz.prog.globalNamed "math/bits.deBruijn64tab" = some 1 by kernel_rfl] at h4
  simp only [Option.bind_some] at h4
  intro j hj
  cases hc : W.heap[1]? with
  | none => rw [hc] at h4; cases h4
  | some ob =>
    rw [hc] at h4
    cases ob with
    | cells cs t f =>
      simp only [Option.some.injEq] at h4
      simp only [World.cell?, hc, h4]
      rw [List.getElem?_toArray]
      simp [List.getElem?_map, List.getElem?_eq_getElem hj, List.getD_eq_getElem?_getD]
    | _ => cases h4
end Go.Proofs.YtlefdnjokppibaaGreatDoor.Sh
