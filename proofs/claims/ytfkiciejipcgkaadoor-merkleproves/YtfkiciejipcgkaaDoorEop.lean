/-
  Digests, and lists of digests, that come in; the table of the last noughts, out of what the rows list.
-/
import Derived.Test.YtfkiciejipcgkaaDoorEd
import Derived.Test.YtfkiciejipcgkaaDoorEc
import Derived.Laws.IdiomArrays
import Derived.Lib.LaidTab
import Derived.MakeChecks
import Derived.Stop.LaidErr
import Derived.LaidMore
import Derived.OpenShut
namespace Go.Proofs.YtfkiciejipcgkaaDoor
open Go.RowKit Go.ChangeShapes Go.WideShapes Sh
set_option linter.unusedVariables false
theorem mapM_all {α β : Type} {f : α → Option β} : ∀ {l : List α} {ys : List β}, l.mapM f = some ys → ∀ a ∈ l, ∃ y, f a = some y
  | [], _, _, a, ha => by cases ha
  | b :: l, ys, h, a, ha => by
    rw [List.mapM_cons] at h
    simp only [bind, Option.bind_eq_some_iff, pure, Option.some.injEq] at h
    obtain ⟨y, hy, zs, hz, _⟩ := h
    rcases List.mem_cons.1 ha with rfl | ha
    · exact ⟨y, hy⟩
    · exact mapM_all hz a ha
def natOf : Option Value → Nat
  | some (.int _ n) => n.toNat
  | _ => 0
theorem open_hash {H : Type} {enc : TypeId × Value → H} {w : World} {base : Nat} {spare : Nat → Bool} {held : Bool} {fuel : Nat} {cs : Array Value} {x : DataW H × List MemPlace} (hn : cs.size = 32)
    (h : DataW.trod enc Tryd.prog w base spare held fuel 30 cs.toList = some x) : ∃ l : List Nat, l.length = 32 ∧ Oct l ∧ cs = (nums .u8 l).toArray := by
  have hall : ∀ i, i < 32 → ∃ n : Nat, n < 256 ∧ cs[i]? = some (.int .u8 (n : Int)) := by
    cases fuel with
    | zero => simp [DataW.trod] at h
    | succ m =>
      unfold DataW.trod at h
      rw [Tryd.underlying30] at h
      simp only [cells5, Nat.mul_one] at h
      split at h
      · rename_i hh
        simp only [Option.map_eq_some_iff] at h
        obtain ⟨ys, hys, _⟩ := h
        intro i hi
        obtain ⟨y, hy⟩ := mapM_all hys i (List.mem_range.2 hi)
        obtain ⟨n, hcs, _, hwf⟩ := DataW.trod_int Tryd.underlying5 hy
        have hb := bounds_u8 hwf
        refine ⟨n.toNat, by omega, ?_⟩
        have h0 : (List.take 1 (List.drop i cs.toList))[0]? = some (Value.int .u8 n) := by rw [hcs]; rfl
        rw [List.getElem?_take, if_pos (by decide), List.getElem?_drop, Nat.add_zero, Array.getElem?_toList] at h0
        rw [h0, Int.toNat_of_nonneg hb.1]
      · cases h
  refine ⟨(List.range 32).map fun i => natOf cs[i]?, by simp, fun y hy => ?_, ?_⟩
  · obtain ⟨i, hi, rfl⟩ := List.mem_map.1 hy
    obtain ⟨n, hn', e⟩ := hall i (List.mem_range.1 hi)
    rw [e]; simpa [natOf] using hn'
  · apply Array.ext_getElem?
    intro i
    by_cases hi : i < 32
    · obtain ⟨n, hn', e⟩ := hall i hi
      have h2 : (nums .u8 ((List.range 32).map fun i => natOf cs[i]?)).toArray[i]? = some (.int .u8 (n : Int)) := by
        rw [List.getElem?_toArray, nums_get .u8 _ i (by simpa using hi)]
        simp [List.getD_eq_getElem?_getD, List.getElem?_range hi, e, natOf]
      exact e.trans h2.symm
    · have h2 : (nums .u8 ((List.range 32).map fun i => natOf cs[i]?)).toArray[i]? = none := by
        rw [List.getElem?_toArray, List.getElem?_eq_none (by rw [nums_length]; simp; omega)]
      exact (Array.getElem?_eq_none (by omega)).trans h2.symm
theorem cellsHash : Tryd.prog.cellsOf 30 = 32 := by kernel_rfl
theorem bytesHash : Tryd.prog.bytesOf 30 = 32 := by kernel_rfl
theorem okWide_hash {w : World} {base : Nat} {v : Value} (h : Value.okWide Tryd.prog w .any base 30 v) : ∃ cs, v = .agg cs ∧ cs.size = 32 := by
  simp only [Value.okWide, Tryd.underlying30] at h
  obtain ⟨cs, h1, h2, _⟩ := h
  exact ⟨cs, h1, h2.trans cellsHash⟩
theorem mkList {α : Type} {P : Nat → α → Prop} : ∀ (n : Nat), (∀ i, i < n → ∃ x, P i x) → ∃ l : List α, l.length = n ∧ ∀ i x, l[i]? = some x → P i x
  | 0, _ => ⟨[], rfl, fun i x h => by cases h⟩
  | n + 1, h => by
    obtain ⟨l, h1, h2⟩ := mkList n fun i hi => h i (by omega)
    obtain ⟨x, hx⟩ := h n (by omega)
    refine ⟨l ++ [x], by simp [h1], fun i y hy => ?_⟩
    by_cases hi : i < n
    · rw [List.getElem?_append_left (by omega)] at hy; exact h2 i y hy
    · have : i = n := by have := (List.getElem?_eq_some_iff.1 hy).1; simp [h1] at this; omega
      subst this
      rw [← h1, List.getElem?_concat_length] at hy
      rw [← Option.some.inj hy]; exact hx
set_option maxRecDepth 8000 in
theorem open_hashes {H : Type} {enc : TypeId × Value → H} {W : World} {fuel len cap : Nat} {a : Option Addr} {y : DataW H × List MemPlace} (h : DataW.trod enc Tryd.prog W 0 (fun _ => true) true fuel 22 (Value.slice a len cap).cells.toList = some y)
    (hw : ∀ n ∈ y.1.weights Tryd.prog 22, n ≤ reachBytes) : ∃ L : List (List Nat), L.length = len ∧ Hl L ∧ ES (nums .u8) 32 W a L ∧ len ≤ cap ∧ (a = none → cap = 0) ∧ len ≤ 140737488355328 := by
  rcases DataW.trod_slice Tryd.underlying22 h with ⟨hcs, _⟩ | ⟨ad, len', cap', elems, rest, m, hm0, hcs, hx, _, hl, hm, hel, hei, _, _⟩
  · simp [Value.cells] at hcs
    obtain ⟨rfl, rfl, rfl⟩ := hcs
    exact ⟨[], rfl, (fun x hx => by cases hx), .inl rfl, Nat.le_refl _, (fun _ => rfl), by omega⟩
  · simp only [Value.cells, List.cons.injEq, and_true, Value.slice.injEq] at hcs
    obtain ⟨rfl, rfl, rfl⟩ := hcs
    have hlen : len ≤ 140737488355328 := by
      have := hw _ (by rw [hx]; simp only [DataW.weights, Tryd.underlying22]; exact List.mem_cons_self)
      rw [bytesHash] at this
      simp only [List.length_map, reachBytes] at this
      omega
    have each : ∀ i, i < len → ∃ p : List Nat, Hh p ∧ W.cells? 0 (ad.add (i * 32)) 32 = some (nums .u8 p) := by
      intro i hi
      have hh := hei i hi
      rw [List.getElem?_eq_getElem (by omega)] at hh
      obtain ⟨cs', c1, c2⟩ := Option.bind_eq_some_iff.1 hh
      rw [cellsHash] at c1
      obtain ⟨_, hlen', _⟩ := World.cells?_some c1
      obtain ⟨p, p1, p2, p3⟩ := open_hash (cs := cs'.toArray) (by simpa using hlen') (by simpa using c2)
      refine ⟨p, ⟨p1, p2⟩, ?_⟩
      have : cs' = nums .u8 p := by simpa using congrArg Array.toList p3
      rw [← this]; exact c1
    obtain ⟨L, hL1, hL2⟩ := mkList (P := fun i (p : List Nat) => Hh p ∧ W.cells? 0 (ad.add (i * 32)) 32 = some (nums .u8 p)) len each
    refine ⟨L, hL1, fun x hx => ?_, ?_, hl, (fun e => by cases e), hlen⟩
    · obtain ⟨i, hi, rfl⟩ := List.getElem_of_mem hx
      exact (hL2 i _ (List.getElem?_eq_getElem hi)).1
    · by_cases h0 : len = 0
      · exact .inl (List.eq_nil_of_length_eq_zero (by omega))
      · obtain ⟨b, off, spot⟩ := ad
        have hs : spot = none := by
          obtain ⟨p, p1, c1⟩ := each 0 (by omega)
          obtain ⟨_, _, hcell⟩ := World.cells?_some c1
          have := (hcell 0 (by decide)).trans (nums_get .u8 p 0 (by rw [p1.1]; decide))
          simpa [Addr.add] using World.cell?_spot this
        subst hs
        refine .inr ⟨b, off, rfl, fun i x hx j v hj => ?_⟩
        obtain ⟨p1, c1⟩ := hL2 i x hx
        obtain ⟨_, _, hcell⟩ := World.cells?_some c1
        simp only [Addr.add_lit] at hcell
        have hj2 := (List.getElem?_eq_some_iff.1 hj).1
        exact (hcell j (by rw [nums_length, p1.1] at hj2; exact hj2)).trans hj
theorem tb_of {W : World} (h : laidMetH Tryd.prog [("math/bits.deBruijn32tab", Rows.laid_math_bits_deBruijn32tab), ("math/bits.deBruijn64tab", Rows.laid_math_bits_deBruijn64tab)] W) : Tb W := by
  rw [MakeChecks.laidMetH_plain _ _ _ (by kernel_rfl)] at h
  have h3 : laidMet Tryd.prog [("math/bits.deBruijn64tab", Lib.tabData .u8 (Lib.deBruijn64tab.map fun n : Nat => (n : Int)))] W := laidMet.tail h
  have h4 := Lib.tabIs_of_head (g := 1) (t := 67) (e := 5) (n := 64) (by kernel_rfl) (by kernel_rfl) (by kernel_rfl) (by kernel_rfl) (by kernel_rfl) (by kernel_rfl) h3
  unfold Lib.TabIs World.var? at h4
  rw [show Tryd.prog.globalNamed "math/bits.deBruijn64tab" = some 1 by kernel_rfl] at h4
  simp only [Option.bind_some] at h4
  intro j hj
  cases hc : W.heap[1]? with
  | none => rw [hc] at h4; cases h4
  | some ob =>
    rw [hc] at h4
    cases ob with
    | cells cs t f =>
      simp only [Option.some.injEq] at h4
      simp only [World.cell?, hc, h4]
      rw [List.getElem?_toArray]
      simp [List.getElem?_map, List.getElem?_eq_getElem hj, List.getD_eq_getElem?_getD]
    | _ => cases h4
end Go.Proofs.YtfkiciejipcgkaaDoor
