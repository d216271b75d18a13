/-
  Values as trees, and where they lie in memory. · The contracts of value's hasOnly, isFormed, isNamed. · The contracts of value's isFormed and isNamed. · The contract of the document's own check, at values that have no kids.
-/
import Derived.Test.YtlefdnjokppibaaGreatDoorRows
import Derived.WalkKit
import Derived.WalkSpells
import Derived.StillTactics
import Derived.Laws.Pointers
import Derived.RowKit3
import Derived.Below
import Derived.Deep.QuietTactic
import Derived.BigQuiet
import Derived.WalkSmall
import Derived.OpenShut
import Derived.Laws.Cover1
import Derived.Laws.Strings
import Derived.Deep.Matrix
import Derived.Deep.Slices
import Derived.SizedLaws
import Derived.ProofKit
namespace Go.Proofs.YtlefdnjokppibaaGreatDoor
open Go.RowKit
set_option linter.unusedVariables false
/-- A value without what is below it. -/
structure Hd where
  k : Int
  n : Int
  s : Int
  t : ByteArray
  ns : List ByteArray
/-- Values one behind the other, each with what is below it. -/
inductive Fo where
  | nil : Fo
  | cons (h : Hd) (kids rest : Fo) : Fo
abbrev Vt := Hd × Fo
def Fo.list : Fo → List Vt
  | .nil => []
  | .cons h k r => (h, k) :: r.list
def Fo.wt : Fo → Nat
  | .nil => 0
  | .cons _ k r => 1 + k.wt + r.wt
def wt (p : Vt) : Nat := 1 + p.2.wt
theorem wt_mem {p : Vt} : ∀ {f : Fo}, p ∈ f.list → wt p ≤ f.wt
  | .cons h k r, hp => by
    simp only [Fo.list, List.mem_cons] at hp
    simp only [Fo.wt]
    rcases hp with rfl | hp
    · simp only [wt]; omega
    · have := wt_mem hp; omega
theorem wt_kid {p q : Vt} (h : p ∈ q.2.list) : wt p < wt q := by
  have := wt_mem h
  show wt p < 1 + q.2.wt
  omega
structure Hok (h : Hd) : Prop where
  k0 : -9223372036854775808 ≤ h.k
  k1 : h.k < 9223372036854775808
  n0 : -9223372036854775808 ≤ h.n
  n1 : h.n < 9223372036854775808
  s0 : -9223372036854775808 ≤ h.s
  s1 : h.s < 9223372036854775808
  t1 : h.t.size ≤ 140737488355328
  c1 : h.ns.length ≤ 140737488355328
  e1 : ∀ x ∈ h.ns, x.size ≤ 140737488355328
def Wf : Fo → Prop
  | .nil => True
  | .cons h k r => (Hok h ∧ k.list.length ≤ 140737488355328 ∧ Wf k) ∧ Wf r
def WfV (p : Vt) : Prop := Hok p.1 ∧ p.2.list.length ≤ 140737488355328 ∧ Wf p.2
theorem wf_mem {p : Vt} : ∀ {f : Fo}, Wf f → p ∈ f.list → WfV p
  | .cons h k r, hw, hp => by
    simp only [Fo.list, List.mem_cons] at hp
    rcases hp with rfl | hp
    · exact hw.1
    · exact wf_mem hw.2 hp
theorem WfV.kid {p q : Vt} (h : WfV q) (hp : p ∈ q.2.list) : WfV p := wf_mem h.2.2 hp
/-- The value's cells. -/
def six (h : Hd) (na : Option Addr) (nc : Nat) (ka : Option Addr) (kl kc : Nat) : List Value :=
  [.int .i64 h.k, .int .i64 h.n, .int .i64 h.s, .string h.t, .slice na h.ns.length nc, .slice ka kl kc]
structure Nd (w : World) (b o : Nat) (h : Hd) (na : Option Addr) (nc : Nat) (ka : Option Addr) (kl kc : Nat) : Prop where
  c0 : w.cell? ⟨b, o, none⟩ = some (.int .i64 h.k)
  c1 : w.cell? ⟨b, o + 1, none⟩ = some (.int .i64 h.n)
  c2 : w.cell? ⟨b, o + 2, none⟩ = some (.int .i64 h.s)
  c3 : w.cell? ⟨b, o + 3, none⟩ = some (.string h.t)
  c4 : w.cell? ⟨b, o + 4, none⟩ = some (.slice na h.ns.length nc)
  c5 : w.cell? ⟨b, o + 5, none⟩ = some (.slice ka kl kc)
def Nms (w : World) (a : Option Addr) (ns : List ByteArray) : Prop := ns = [] ∨ ∃ b o, a = some ⟨b, o, none⟩ ∧ ∀ i x, ns[i]? = some x → w.cell? ⟨b, o + i, none⟩ = some (.string x)
structure Cap (a : Option Addr) (len cap : Nat) : Prop where
  le : len ≤ cap
  nil : a = none → cap = 0
  max : cap ≤ 9223372036854775807
/-- Values in memory from a place on. -/
def At (w : World) : Fo → Nat → Nat → Prop
  | .nil, _, _ => True
  | .cons h k r, b, o => (∃ na nc ka kc, Nd w b o h na nc ka k.list.length kc ∧ Nms w na h.ns ∧ Cap na h.ns.length nc ∧ (k = .nil ∨ ∃ b' o', ka = some ⟨b', o', none⟩ ∧ At w k b' o') ∧ Cap ka k.list.length kc) ∧ At w r b (o + 6)
def Slc (w : World) (a : Option Addr) (f : Fo) : Prop := f = .nil ∨ ∃ b o, a = some ⟨b, o, none⟩ ∧ At w f b o
/-- What a value leads to. -/
structure Vl (w : World) (p : Vt) (na : Option Addr) (nc : Nat) (ka : Option Addr) (kc : Nat) : Prop where
  nms : Nms w na p.1.ns
  nc : Cap na p.1.ns.length nc
  slc : Slc w ka p.2
  kc : Cap ka p.2.list.length kc
def NdV (w : World) (b o : Nat) (p : Vt) : Prop := ∃ na nc ka kc, Nd w b o p.1 na nc ka p.2.list.length kc ∧ Vl w p na nc ka kc
theorem At.get {w : World} {b : Nat} {p : Vt} : ∀ {f : Fo} {o i : Nat}, At w f b o → f.list[i]? = some p → NdV w b (o + i * 6) p
  | .cons h k r, o, 0, ha, hi => by
    simp only [Fo.list, List.getElem?_cons_zero, Option.some.injEq] at hi
    subst hi
    obtain ⟨⟨na, nc, ka, kc, h1, h2, h3, h4, h5⟩, _⟩ := ha
    exact ⟨na, nc, ka, kc, by simpa using h1, h2, h3, h4, h5⟩
  | .cons h k r, o, i + 1, ha, hi => by
    simp only [Fo.list, List.getElem?_cons_succ] at hi
    have := At.get ha.2 hi
    rw [show o + 6 + i * 6 = o + (i + 1) * 6 by omega] at this
    exact this
theorem Slc.get {w : World} {a : Option Addr} {f : Fo} (h : Slc w a f) {i : Nat} {p : Vt} (hp : f.list[i]? = some p) : ∃ b o, a = some ⟨b, o, none⟩ ∧ NdV w b (o + i * 6) p := by
  rcases h with rfl | ⟨b, o, e, ha⟩
  · simp [Fo.list] at hp
  · exact ⟨b, o, e, ha.get hp⟩
theorem cell_lt {w : World} {b o : Nat} {v : Value} (h : w.cell? ⟨b, o, none⟩ = some v) : b < w.heap.size := by
  apply Nat.lt_of_not_le; intro hle
  have : w.heap[b]? = none := Array.getElem?_eq_none hle
  simp [World.cell?, this] at h
theorem Nd.below {w w' : World} {b o : Nat} {h : Hd} {na ka : Option Addr} {nc kl kc : Nat} (g : Nd w b o h na nc ka kl kc) (hb : Below w.heap.size w w') : Nd w' b o h na nc ka kl kc :=
  ⟨(hb.cell (p := ⟨b, o, none⟩) (cell_lt g.c0)).trans g.c0, (hb.cell (p := ⟨b, o + 1, none⟩) (cell_lt g.c1)).trans g.c1, (hb.cell (p := ⟨b, o + 2, none⟩) (cell_lt g.c2)).trans g.c2,
   (hb.cell (p := ⟨b, o + 3, none⟩) (cell_lt g.c3)).trans g.c3, (hb.cell (p := ⟨b, o + 4, none⟩) (cell_lt g.c4)).trans g.c4, (hb.cell (p := ⟨b, o + 5, none⟩) (cell_lt g.c5)).trans g.c5⟩
theorem Nms.below {w w' : World} {a : Option Addr} {ns : List ByteArray} (h : Nms w a ns) (hb : Below w.heap.size w w') : Nms w' a ns := by
  rcases h with h | ⟨b, o, e, h⟩
  · exact .inl h
  · exact .inr ⟨b, o, e, fun i x hx => (hb.cell (p := ⟨b, o + i, none⟩) (cell_lt (h i x hx))).trans (h i x hx)⟩
theorem At.below {w w' : World} (hb : Below w.heap.size w w') : ∀ {f : Fo} {b o : Nat}, At w f b o → At w' f b o
  | .nil, _, _, _ => trivial
  | .cons h k r, b, o, ha => by
    obtain ⟨⟨na, nc, ka, kc, h1, h2, h3, h4, h5⟩, h6⟩ := ha
    refine ⟨⟨na, nc, ka, kc, h1.below hb, h2.below hb, h3, ?_, h5⟩, At.below hb h6⟩
    rcases h4 with h4 | ⟨b', o', e, h4⟩
    · exact .inl h4
    · exact .inr ⟨b', o', e, At.below hb h4⟩
theorem Slc.below {w w' : World} {a : Option Addr} {f : Fo} (h : Slc w a f) (hb : Below w.heap.size w w') : Slc w' a f := by
  rcases h with h | ⟨b, o, e, h⟩
  · exact .inl h
  · exact .inr ⟨b, o, e, h.below hb⟩
theorem Vl.below {w w' : World} {p : Vt} {na ka : Option Addr} {nc kc : Nat} (h : Vl w p na nc ka kc) (hb : Below w.heap.size w w') : Vl w' p na nc ka kc :=
  ⟨h.nms.below hb, h.nc, h.slc.below hb, h.kc⟩
/-! ### what came in -/
open Go.ChangeShapes Go.WideShapes Go.Deep
theorem weightsAll_mem {H : Type} {P : Program} {e : TypeId} {d : DataW H} {n : Nat} : ∀ {l : List (DataW H)}, d ∈ l → n ∈ d.weights P e → n ∈ DataW.weightsAll P e l
  | x :: r, h, hn => by
    rw [DataW.weightsAll, List.mem_append]
    rcases List.mem_cons.1 h with rfl | h
    · exact .inl hn
    · exact .inr (weightsAll_mem h hn)
theorem bytes9 : Tryz.prog.bytesOf 9 = 16 := by kernel_rfl
theorem bytes25 : Tryz.prog.bytesOf 41 = 88 := by kernel_rfl
theorem cells25 : Tryz.prog.cellsOf 41 = 6 := by kernel_rfl
theorem cells3 : Tryz.prog.cellsOf 3 = 1 := by kernel_rfl
theorem cells9 : Tryz.prog.cellsOf 9 = 1 := by kernel_rfl
theorem cells22 : Tryz.prog.cellsOf 38 = 1 := by kernel_rfl
theorem cells23 : Tryz.prog.cellsOf 39 = 1 := by kernel_rfl
theorem sixL {α : Type} : ∀ {l : List α}, l.length = 6 → ∃ a b c d e f, l = [a, b, c, d, e, f]
  | [a, b, c, d, e, f], _ => ⟨a, b, c, d, e, f, rfl⟩
theorem mkFo {w : World} {b : Nat} : ∀ (n o : Nat), (∀ i, i < n → ∃ p, NdV w b (o + i * 6) p ∧ WfV p) → ∃ f : Fo, f.list.length = n ∧ At w f b o ∧ Wf f
  | 0, o, _ => ⟨.nil, rfl, trivial, trivial⟩
  | n + 1, o, h => by
    obtain ⟨⟨hd, k⟩, ⟨na, nc, ka, kc, h1, h2⟩, h3⟩ := h 0 (by omega)
    obtain ⟨f, e1, e2, e3⟩ := mkFo (w := w) (b := b) n (o + 6) (fun i hi => by
      obtain ⟨p, hp⟩ := h (i + 1) (by omega)
      rw [show o + (i + 1) * 6 = o + 6 + i * 6 by omega] at hp
      exact ⟨p, hp⟩)
    exact ⟨.cons hd k f, by simp [Fo.list, e1], ⟨⟨na, nc, ka, kc, by simpa using h1, h2.nms, h2.nc, h2.slc, h2.kc⟩, e2⟩, h3, e3⟩
theorem open_names {H : Type} {enc : TypeId × Value → H} {W : World} {n : Nat} {v : Value} {y : DataW H × List MemPlace} (h : DataW.trod enc Tryz.prog W 0 (fun _ => true) true n 38 [v] = some y) (hw : ∀ n ∈ y.1.weights Tryz.prog 38, n ≤ reachBytes) :
    ∃ na nc ns, v = .slice na ns.length nc ∧ Nms W na ns ∧ Cap na ns.length nc ∧ ns.length ≤ 140737488355328 ∧ ∀ x ∈ ns, x.size ≤ 140737488355328 := by
  rcases open_slice1 Tryz.underlying38 cells9 h with ⟨hcs, _⟩ | ⟨ad, len, cap, m, n, V, D, Pl, hcs, _, hl, hm, hmm, hx, hr⟩
  · simp at hcs
    exact ⟨none, 0, [], hcs, .inl rfl, ⟨Nat.le_refl _, fun _ => rfl, by omega⟩, by simp, by simp⟩
  · simp at hcs
    simp only [if_true] at hmm
    have each : ∀ i, i < len → ∃ s : ByteArray, W.cell? (ad.add i) = some (.string s) ∧ s.size ≤ 140737488355328 := by
      intro i hi
      obtain ⟨h1, h2⟩ := hr i (by omega)
      obtain ⟨s, e, r, _⟩ := DataW.trod_string Tryz.underlying9 h2
      simp only [List.cons.injEq, and_true] at e
      refine ⟨s, by rw [h1, e], ?_⟩
      have := hw s.data.toList.length (by
        rw [hx]
        simp only [DataW.weights, Tryz.underlying38]
        refine List.mem_cons_of_mem _ (List.mem_append.2 (.inl (weightsAll_mem (d := D i) (List.mem_map.2 ⟨i, List.mem_range.2 hi, rfl⟩) ?_)))
        rw [Prod.mk.injEq] at r
        rw [r.1]
        simp [DataW.weights])
      simp only [reachBytes, Array.length_toList] at this
      exact Nat.le_trans this (by decide)
    have hlen : len ≤ 140737488355328 := by
      have := hw _ (by rw [hx]; simp only [DataW.weights, Tryz.underlying38]; exact List.mem_cons_self)
      rw [bytes9] at this
      simp only [List.length_map, List.length_range, reachBytes] at this
      omega
    obtain ⟨q, hq⟩ : ∃ q : Nat → ByteArray, ∀ i, i < len → W.cell? (ad.add i) = some (.string (q i)) ∧ (q i).size ≤ 140737488355328 :=
      ⟨fun i => if h : i < len then Classical.choose (each i h) else ByteArray.empty, fun i hi => by simp only [hi, dif_pos]; exact Classical.choose_spec (each i hi)⟩
    unfold maxLen at hm
    refine ⟨some ad, cap, (List.range len).map q, by simpa using hcs, ?_, ⟨by simpa using hl, (fun e => by cases e), by omega⟩, by simpa using hlen, fun x hx => ?_⟩
    · by_cases h0 : len = 0
      · left; subst h0; rfl
      · obtain ⟨b, off, spot⟩ := ad
        have hs : spot = none := by simpa [Addr.add] using World.cell?_spot (hq 0 (by omega)).1
        subst hs
        refine .inr ⟨b, off, rfl, fun i x hi => ?_⟩
        have hk : i < len := by
          have := (List.getElem?_eq_some_iff.1 hi).1
          simpa using this
        rw [List.getElem?_map, List.getElem?_range hk] at hi
        simp only [Option.map_some, Option.some.injEq] at hi
        subst hi
        have := (hq i hk).1
        rw [Addr.add_lit] at this
        exact this
    · obtain ⟨i, hi, rfl⟩ := List.mem_map.1 hx
      exact (hq i (List.mem_range.1 hi)).2
set_option maxRecDepth 8000 in
theorem open_val {H : Type} {enc : TypeId × Value → H} {W : World} : ∀ (n : Nat) {cs : List Value} {y : DataW H × List MemPlace}, DataW.trod enc Tryz.prog W 0 (fun _ => true) true n 41 cs = some y → (∀ n ∈ y.1.weights Tryz.prog 41, n ≤ reachBytes) →
    ∃ p na nc ka kc, cs = six p.1 na nc ka p.2.list.length kc ∧ Vl W p na nc ka kc ∧ WfV p := by
  intro n
  induction n using Nat.strongRecOn with
  | _ n ih =>
  intro cs y h hw
  obtain ⟨xs, k, hk, hxy, hlen, hxl, hf⟩ := DataW.trod_struct Tryz.underlying41 h
  rw [cells25] at hlen
  obtain ⟨y0, y1, y2, y3, y4, y5, rfl⟩ := sixL (show xs.length = 6 from hxl)
  obtain ⟨v0, v1, v2, v3, v4, v5, rfl⟩ := sixL hlen
  have g0 := hf 0 _ rfl
  have g1 := hf 1 _ rfl
  have g2 := hf 2 _ rfl
  have g3 := hf 3 _ rfl
  have g4 := hf 4 _ rfl
  have g5 := hf 5 _ rfl
  simp [cells3, cells9, cells22, cells23] at g0 g1 g2 g3 g4 g5
  obtain ⟨z0, e0, r0, q0⟩ := DataW.trod_int Tryz.underlying3 g0
  obtain ⟨z1, e1, r1, q1⟩ := DataW.trod_int Tryz.underlying3 g1
  obtain ⟨z2, e2, r2, q2⟩ := DataW.trod_int Tryz.underlying3 g2
  obtain ⟨s3, e3, r3, _⟩ := DataW.trod_string Tryz.underlying9 g3
  have hw2 : ∀ (j : Nat) (t : TypeId) (d : DataW H), [(3 : TypeId), 3, 3, 9, 38, 39][j]? = some t → [y0.1, y1.1, y2.1, y3.1, y4.1, y5.1][j]? = some d → ∀ n ∈ d.weights Tryz.prog t, n ≤ reachBytes := fun j t d ht hd n hn => by
    refine hw n ?_
    rw [hxy]
    simp only [DataW.weights, Tryz.underlying41]
    exact DataW.weights_mem_each (j := j) ht hd n hn
  have hT : s3.size ≤ 140737488355328 := by
    have := hw2 3 9 y3.1 rfl rfl s3.data.toList.length (by rw [r3]; simp [DataW.weights])
    simp only [reachBytes, Array.length_toList] at this
    exact Nat.le_trans this (by decide)
  obtain ⟨na, nc, ns, e4, hn1, hn2, hn3, hn4⟩ := open_names g4 (hw2 4 38 y4.1 rfl rfl)
  obtain ⟨ka, kc, f, e5, hk1, hk2, hk3, hk4⟩ : ∃ ka kc, ∃ f : Fo, v5 = .slice ka f.list.length kc ∧ Slc W ka f ∧ Cap ka f.list.length kc ∧ f.list.length ≤ 140737488355328 ∧ Wf f := by
    rcases DataW.trod_slice Tryz.underlying39 g5 with ⟨hcs, _⟩ | ⟨ad, len, cap, elems, rest, m, hm0, hcs, hx, _, hl, hm, hel, hei, _, _⟩
    · simp at hcs
      exact ⟨none, 0, .nil, hcs, .inl rfl, ⟨Nat.le_refl _, fun _ => rfl, by omega⟩, by simp [Fo.list], trivial⟩
    · simp only [List.cons.injEq, and_true] at hcs
      have hlen : len ≤ 140737488355328 := by
        have := hw2 5 39 y5.1 rfl rfl _ (by rw [hx]; simp only [DataW.weights, Tryz.underlying39]; exact List.mem_cons_self)
        rw [bytes25] at this
        simp only [List.length_map, reachBytes] at this
        omega
      unfold maxLen at hm
      have each : ∀ i, i < len → ∃ p, (∃ na nc ka kc, W.cells? 0 (ad.add (i * 6)) 6 = some (six p.1 na nc ka p.2.list.length kc) ∧ Vl W p na nc ka kc) ∧ WfV p := by
        intro i hi
        have hh := hei i hi
        rw [List.getElem?_eq_getElem (by omega)] at hh
        obtain ⟨cs', c1, c2⟩ := Option.bind_eq_some_iff.1 hh
        obtain ⟨p, na', nc', ka', kc', d1, d2, d3⟩ := ih m (by omega) c2 (fun n hn => hw2 5 39 y5.1 rfl rfl n (by
          rw [hx]
          simp only [DataW.weights, Tryz.underlying39]
          refine List.mem_cons_of_mem _ (List.mem_append.2 (.inl (weightsAll_mem (d := elems[i].1) (List.mem_map.2 ⟨elems[i], List.getElem_mem _, rfl⟩) hn)))))
        rw [cells25] at c1
        exact ⟨p, ⟨na', nc', ka', kc', by rw [← d1]; exact c1, d2⟩, d3⟩
      by_cases h0 : len = 0
      · subst h0
        exact ⟨some ad, cap, .nil, hcs, .inl rfl, ⟨by simp [Fo.list], (fun e => by cases e), by omega⟩, by simp [Fo.list], trivial⟩
      obtain ⟨b, off, spot⟩ := ad
      have hs : spot = none := by
        obtain ⟨p, ⟨na', nc', ka', kc', c1, _⟩, _⟩ := each 0 (by omega)
        obtain ⟨_, _, hcell⟩ := World.cells?_some c1
        simpa [Addr.add] using World.cell?_spot (hcell 0 (by simp))
      subst hs
      obtain ⟨f, f1, f2, f3⟩ := mkFo (w := W) (b := b) len off (fun i hi => by
        obtain ⟨p, ⟨na', nc', ka', kc', c1, c2⟩, c3⟩ := each i hi
        obtain ⟨_, _, hcell⟩ := World.cells?_some c1
        simp only [Addr.add_lit] at hcell
        exact ⟨p, ⟨na', nc', ka', kc', ⟨hcell 0 (by simp), hcell 1 (by simp), hcell 2 (by simp), hcell 3 (by simp), hcell 4 (by simp), hcell 5 (by simp)⟩, c2⟩, c3⟩)
      exact ⟨_, cap, f, by rw [hcs, f1], .inr ⟨b, off, rfl, f2⟩, ⟨by omega, (fun e => by cases e), by omega⟩, by omega, f3⟩
  simp only [List.cons.injEq, and_true] at e0 e1 e2 e3
  have b0 := bounds_i64 q0
  have b1 := bounds_i64 q1
  have b2 := bounds_i64 q2
  refine ⟨(⟨z0, z1, z2, s3, ns⟩, f), na, nc, ka, kc, ?_, ⟨hn1, hn2, hk1, hk2⟩, ⟨?_, hk3, hk4⟩⟩
  · rw [e0, e1, e2, e3, e4, e5]; rfl
  · exact ⟨by simp only; omega, by simp only; omega, by simp only; omega, by simp only; omega, by simp only; omega, by simp only; omega, hT, hn3, hn4⟩
end Go.Proofs.YtlefdnjokppibaaGreatDoor
namespace Go.Proofs.YtlefdnjokppibaaGreatDoor
open Go.RowKit
set_option linter.unusedVariables false
def only (h : Hd) (kl : Nat) (F : Int) : Bool :=
  (F = 1 || F = 3 || decide (h.n = 0)) && (F = 3 || decide (h.s = 0)) && (F = 4 || h.t.toList.isEmpty) && (F = 24 || decide (h.ns.length = 0)) && (F = 16 || F = 24 || decide (kl = 0))
set_option maxRecDepth 8000 in
set_option maxHeartbeats 2000000 in
theorem only_any (h : Hd) (na : Option Addr) (nc : Nat) (ka : Option Addr) (kl kc : Nat) (F : Int) (hF : F = 0 ∨ F = 1 ∨ F = 3 ∨ F = 4 ∨ F = 16 ∨ F = 24) (w : World) :
    Calls Tryz.prog 125 #[.agg #[.int .i64 h.k, .int .i64 h.n, .int .i64 h.s, .string h.t, .slice na h.ns.length nc, .slice ka kl kc], .int .u64 F] w fun e w' => e = .returned (.bool (only h kl F)) ∧ Below w.heap.size w w' := by
  have HF : Hid _ := hF
  clear hF
  go_enter Tryz.func125, Tryz.ntmps125
  go_wp2
  all_goals
    go_ret
    refine ⟨?_, (Below.refl _ _).alloc (Nat.le_refl _) _⟩
    unfold only
    cases hte : h.t.toList.isEmpty <;> rcases HF.out with rfl | rfl | rfl | rfl | rfl | rfl <;> simp_all <;> decide
end Go.Proofs.YtlefdnjokppibaaGreatDoor
namespace Go.Proofs.YtlefdnjokppibaaGreatDoor
open Go.RowKit
set_option linter.unusedVariables false
theorem box_get {w w' : World} (vs : List Value) (t : TypeId) (hb : Below (w.alloc (.cells vs.toArray t)).heap.size (w.alloc (.cells vs.toArray t)) w') (j : Nat) (v : Value) (hv : vs[j]? = some v) : w'.cell? ⟨w.heap.size, j, none⟩ = some v := by
  rw [hb.cell (p := ⟨w.heap.size, j, none⟩) (by simp), World.cell?_alloc_new, List.getElem?_toArray, hv]
theorem box_below {w w' : World} (o : Obj) (hb : Below (w.alloc o).heap.size (w.alloc o) w') : Below w.heap.size w w' :=
  ((Below.refl _ _).alloc (Nat.le_refl _) _).trans (hb.mono (by simp))
def formed (h : Hd) (kl : Nat) : Bool :=
  if h.k = 1 then only h kl 0
  else if h.k = 2 then only h kl 1 && (h.n == 0 || h.n == 1)
  else if h.k = 3 then only h kl 1
  else if h.k = 4 then only h kl 3 && decide (1 ≤ h.s) && decide (h.s ≤ 18) && (h.n.tmod 10 != 0)
  else if h.k = 5 then only h kl 1 && decide (0 ≤ h.n) && decide (h.n ≤ 9007199254740992)
  else if h.k = 6 then only h kl 4
  else if h.k = 7 then only h kl 4
  else if h.k = 8 then only h kl 16
  else if h.k = 9 then only h kl 24
  else false
set_option maxRecDepth 8000 in
set_option maxHeartbeats 2000000 in
theorem formed_any (h : Hd) (na : Option Addr) (nc : Nat) (ka : Option Addr) (kl kc : Nat) (w : World) :
    Calls Tryz.prog 121 #[.agg #[.int .i64 h.k, .int .i64 h.n, .int .i64 h.s, .string h.t, .slice na h.ns.length nc, .slice ka kl kc]] w fun e w' => e = .returned (.bool (formed h kl)) ∧ Below w.heap.size w w' := by
  go_enter Tryz.func121, Tryz.ntmps121
  go_wp2_with (go_at_call 125; go_must (refine (only_any h na nc ka kl kc _ (by simp) _).mono ?_; rintro e w' ⟨rfl, hb⟩; have c1 := box_get (six h na nc ka kl kc) 41 hb 1 _ rfl; have c2 := box_get (six h na nc ka kl kc) 41 hb 2 _ rfl; have HB : Hid (Below w.heap.size w w') := box_below _ hb; clear hb))
  all_goals
    go_ret
    refine ⟨?_, by first | exact HB.out | exact (Below.refl _ _).alloc (Nat.le_refl _) _⟩
    simp_all [formed] <;> (intros; omega)
def rises : ByteArray → List ByteArray → Bool
  | _, [] => true
  | l, x :: r => !(Op.bytesLess x.toList l.toList || x.toList == l.toList) && !(decide (40 < x.size)) && rises x r
def named (ns : List ByteArray) (kl : Nat) : Bool := decide (ns.length = kl) && rises ⟨#[]⟩ ns
set_option maxRecDepth 8000 in
set_option maxHeartbeats 2000000 in
theorem named_any (h : Hd) (na : Option Addr) (nc : Nat) (ka : Option Addr) (kl kc : Nat) (w : World) (hn : Nms w na h.ns) (hl : h.ns.length ≤ 140737488355328) (he : ∀ x ∈ h.ns, x.size ≤ 140737488355328) :
    Calls Tryz.prog 122 #[.agg #[.int .i64 h.k, .int .i64 h.n, .int .i64 h.s, .string h.t, .slice na h.ns.length nc, .slice ka kl kc]] w fun e w' => e = .returned (.bool (named h.ns kl)) ∧ Below w.heap.size w w' := by
  have HN : Hid (Nms w na h.ns) := hn
  clear hn
  go_enter Tryz.func122, Tryz.ntmps122
  by_cases hE : h.ns.length = kl
  case neg =>
    have hd : ((h.ns.length : Int) != (kl : Int)) = true := by simp; omega
    go_wp2
    go_ret
    exact ⟨by simp [named, hE], (Below.refl _ _).alloc (Nat.le_refl _) _⟩
  subst hE
  go_wp2
  have HN1 : Hid (Nms (w.alloc (.cells #[.int .i64 h.k, .int .i64 h.n, .int .i64 h.s, .string h.t, .slice na h.ns.length nc, .slice ka h.ns.length kc] 41)) na h.ns) := HN.out.below ((Below.refl _ _).alloc (Nat.le_refl _) _)
  have HB : Hid (Below w.heap.size w (w.alloc (.cells #[.int .i64 h.k, .int .i64 h.n, .int .i64 h.s, .string h.t, .slice na h.ns.length nc, .slice ka h.ns.length kc] 41))) := (Below.refl _ _).alloc (Nat.le_refl _) _
  generalize w.alloc (.cells #[.int .i64 h.k, .int .i64 h.n, .int .i64 h.s, .string h.t, .slice na h.ns.length nc, .slice ka h.ns.length kc] 41) = w1 at *
  go_loopw [3, 5, 16] (fun l x i wr => ∃ k : Nat, k ≤ h.ns.length ∧ i = .int .i64 (k : Int) ∧ ∃ last, l = .string last ∧ wr = w1 ∧ Hid (named h.ns h.ns.length = rises last (h.ns.drop k))) (fun _ _ i _ => h.ns.length - (intOf i).toNat)
  case atStart => exact ⟨0, by omega, rfl, _, rfl, rfl, by show _ = _; simp [named]⟩
  case round =>
    obtain ⟨k, hk, rfl, last, rfl, rfl, HR⟩ := hrel
    by_cases hlt : k < h.ns.length
    case neg =>
      go_wp2
      go_ret
      exact ⟨by rw [HR.out, List.drop_of_length_le (by omega)]; rfl, HB.out⟩
    obtain ⟨x, hx⟩ : ∃ x, h.ns[k]? = some x := ⟨_, List.getElem?_eq_getElem hlt⟩
    have hxs : x.size ≤ 140737488355328 := he x (List.mem_of_getElem? hx)
    have HD : Hid (h.ns.drop k = x :: h.ns.drop (k + 1)) := by
      have := List.drop_eq_getElem_cons hlt
      rw [List.getElem?_eq_getElem hlt] at hx
      show _ = _
      rw [this, Option.some.inj hx]
    rcases HN1.out with e | ⟨b, o, rfl, hc⟩
    · simp [e] at hlt
    have c := hc k x hx
    clear hc hx
    cases hA : Op.bytesLess x.toList last.toList <;> cases hB : (x.toList == last.toList) <;> by_cases hC : 40 < x.size
    rotate_left
    · go_wp2
      go_roundw
      case rel =>
        refine ⟨k + 1, by omega, by go_num, x, rfl, trivial, ?_⟩
        show _ = _
        rw [HR.out, HD.out]
        simp [rises, hA, hB, hC]
      case measure => simp [intOf]; omega
    all_goals
      go_wp2
      go_ret
      exact ⟨by rw [HR.out, HD.out]; simp [rises, hA, hB, hC], HB.out⟩
def own (h : Hd) (kl : Nat) : Int := if formed h kl = true then (if 16384 < h.t.size ∨ 200 < kl then 5 else if h.k = 9 ∧ named h.ns kl = false then 3 else 0) else 3
/-- The first error of values that stand so deep. -/
def chk : Fo → Int → Int
  | .nil, _ => 0
  | .cons h k r, d => if (if 16 < d then 9 else if own h k.list.length ≠ 0 then own h k.list.length else chk k (d + 1)) ≠ 0 then (if 16 < d then 9 else if own h k.list.length ≠ 0 then own h k.list.length else chk k (d + 1)) else chk r d
def chkV (p : Vt) (d : Int) : Int := if 16 < d then 9 else if own p.1 p.2.list.length ≠ 0 then own p.1 p.2.list.length else chk p.2 (d + 1)
theorem chk_cons (p : Vt) (r : Fo) (d : Int) : chk (.cons p.1 p.2 r) d = if chkV p d ≠ 0 then chkV p d else chk r d := rfl
def Fo.drop : Nat → Fo → Fo
  | 0, f => f
  | _ + 1, .nil => .nil
  | n + 1, .cons _ _ r => Fo.drop n r
theorem Fo.drop_at : ∀ (f : Fo) (i : Nat) (p : Vt), f.list[i]? = some p → f.drop i = .cons p.1 p.2 (f.drop (i + 1))
  | .nil, i, p, h => by simp [Fo.list] at h
  | .cons hd k r, 0, p, h => by
    simp only [Fo.list, List.getElem?_cons_zero, Option.some.injEq] at h
    subst h
    cases r <;> rfl
  | .cons hd k r, i + 1, p, h => by
    simp only [Fo.list, List.getElem?_cons_succ] at h
    have := Fo.drop_at r i p h
    simp only [Fo.drop]
    exact this
theorem Fo.drop_end : ∀ (f : Fo) (i : Nat), f.list.length ≤ i → f.drop i = .nil
  | .nil, 0, _ => rfl
  | .nil, i + 1, _ => rfl
  | .cons hd k r, 0, h => by simp [Fo.list] at h
  | .cons hd k r, i + 1, h => Fo.drop_end r i (by simpa [Fo.list] using h)
end Go.Proofs.YtlefdnjokppibaaGreatDoor
namespace Go.Proofs.YtlefdnjokppibaaGreatDoor
open Go.RowKit
set_option linter.unusedVariables false
theorem ret_int {k : IntKind} {a b : Int} (h : a = b) : Ending.returned (.int k a) = .returned (.int k b) := by rw [h]
theorem own_no {h : Hd} {kl : Nat} (hf : formed h kl = false) : 3 = own h kl := by simp [own, hf]
theorem em_dec (l : List UInt8) : l.isEmpty = decide (l = []) := by cases l <;> simp
theorem size_nil {t : ByteArray} (h : t.toList = []) : t.size = 0 := by
  rw [ByteArray.toList_eq] at h
  have : t.data.toList.length = 0 := by rw [h]; rfl
  rw [Array.length_toList] at this
  exact this
theorem own_leaf {h : Hd} {kl : Nat} (hf : formed h kl = true) (hk : h.k ≠ 9) (ht : h.t.size ≤ 16384) (hkl : kl = 0) : 0 = own h kl := by
  subst hkl
  simp only [own, hf, if_true]
  rw [if_neg (by omega), if_neg (by simp [hk])]
theorem own_long {h : Hd} {kl : Nat} (hf : formed h kl = true) (ht : 16384 < h.t.size) : 5 = own h kl := by
  simp only [own, hf, if_true]
  rw [if_pos (by omega)]
set_option maxRecDepth 8000 in
set_option maxHeartbeats 4000000 in
theorem rcheck_1 (h : Hd) (na : Option Addr) (nc : Nat) (ka : Option Addr) (kl kc : Nat) (hk : h.k = 1) (hl : h.t.size ≤ 140737488355328) (d : Int) (hd : d ≤ 16) (w : World) :
    Calls Tryz.prog 102 #[.agg #[.int .i64 h.k, .int .i64 h.n, .int .i64 h.s, .string h.t, .slice na h.ns.length nc, .slice ka kl kc], .int .i64 d] w fun e w' => e = .returned (.int .i64 (own h kl)) ∧ Below w.heap.size w w' := by
  have HK : Hid (h.k = 1) := hk
  have HNo : Hid (formed h kl = false → 3 = own h kl) := own_no
  have HYes : Hid (formed h kl = true → kl = 0 → h.t.toList = [] → 0 = own h kl) := fun hf hl ht => own_leaf hf (by omega) (by have := size_nil ht; omega) hl
  have HLong : Hid (formed h kl = true → 16384 < h.t.size → 5 = own h kl) := own_long
  generalize own h kl = R at *
  go_enter Tryz.func102, Tryz.ntmps102
  go_wp2
  all_goals first
    | (go_ret; refine ⟨ret_int (HNo.out ?_), (Below.refl _ _).alloc (Nat.le_refl _) _⟩; clear HNo HYes HLong; simp only [formed, HK.out, only, em_dec]; generalize h.ns.length = nl at *; by_cases htl : h.t.toList = [] <;> simp_all <;> omega)
    | skip
  all_goals
    go_loopw [8] (fun i wr => i = .int .i64 0 ∧ wr.cell? ⟨w.heap.size, 5, none⟩ = some (.slice ka 0 kc) ∧ Hid (Below w.heap.size w wr)) (fun _ _ => 0)
    case atStart =>
      refine ⟨rfl, ?_, (Below.refl _ _).alloc (Nat.le_refl _) _⟩
      simp [World.cell?_alloc_new]
    case round =>
      obtain ⟨rfl, hc, HB⟩ := hrel
      go_wp2
      go_ret
      refine ⟨ret_int (HYes.out ?_ ?_ ?_), HB.out⟩
      · clear HNo HYes HLong
        simp only [formed, HK.out, only, em_dec]
        generalize h.ns.length = nl at *
        by_cases htl : h.t.toList = [] <;> simp_all <;> omega
      · omega
      · assumption
set_option maxRecDepth 8000 in
set_option maxHeartbeats 4000000 in
theorem rcheck_2 (h : Hd) (na : Option Addr) (nc : Nat) (ka : Option Addr) (kl kc : Nat) (hk : h.k = 2) (hl : h.t.size ≤ 140737488355328) (d : Int) (hd : d ≤ 16) (w : World) :
    Calls Tryz.prog 102 #[.agg #[.int .i64 h.k, .int .i64 h.n, .int .i64 h.s, .string h.t, .slice na h.ns.length nc, .slice ka kl kc], .int .i64 d] w fun e w' => e = .returned (.int .i64 (own h kl)) ∧ Below w.heap.size w w' := by
  have HK : Hid (h.k = 2) := hk
  have HNo : Hid (formed h kl = false → 3 = own h kl) := own_no
  have HYes : Hid (formed h kl = true → kl = 0 → h.t.toList = [] → 0 = own h kl) := fun hf hl ht => own_leaf hf (by omega) (by have := size_nil ht; omega) hl
  have HLong : Hid (formed h kl = true → 16384 < h.t.size → 5 = own h kl) := own_long
  generalize own h kl = R at *
  go_enter Tryz.func102, Tryz.ntmps102
  go_wp2
  all_goals first
    | (go_ret; refine ⟨ret_int (HNo.out ?_), (Below.refl _ _).alloc (Nat.le_refl _) _⟩; clear HNo HYes HLong; simp only [formed, HK.out, only, em_dec]; generalize h.ns.length = nl at *; by_cases htl : h.t.toList = [] <;> simp_all <;> omega)
    | skip
  all_goals
    go_loopw [8] (fun i wr => i = .int .i64 0 ∧ wr.cell? ⟨w.heap.size, 5, none⟩ = some (.slice ka 0 kc) ∧ Hid (Below w.heap.size w wr)) (fun _ _ => 0)
    case atStart =>
      refine ⟨rfl, ?_, (Below.refl _ _).alloc (Nat.le_refl _) _⟩
      simp [World.cell?_alloc_new]
    case round =>
      obtain ⟨rfl, hc, HB⟩ := hrel
      go_wp2
      go_ret
      refine ⟨ret_int (HYes.out ?_ ?_ ?_), HB.out⟩
      · clear HNo HYes HLong
        simp only [formed, HK.out, only, em_dec]
        generalize h.ns.length = nl at *
        by_cases htl : h.t.toList = [] <;> simp_all <;> omega
      · omega
      · assumption
set_option maxRecDepth 8000 in
set_option maxHeartbeats 4000000 in
theorem rcheck_3 (h : Hd) (na : Option Addr) (nc : Nat) (ka : Option Addr) (kl kc : Nat) (hk : h.k = 3) (hl : h.t.size ≤ 140737488355328) (d : Int) (hd : d ≤ 16) (w : World) :
    Calls Tryz.prog 102 #[.agg #[.int .i64 h.k, .int .i64 h.n, .int .i64 h.s, .string h.t, .slice na h.ns.length nc, .slice ka kl kc], .int .i64 d] w fun e w' => e = .returned (.int .i64 (own h kl)) ∧ Below w.heap.size w w' := by
  have HK : Hid (h.k = 3) := hk
  have HNo : Hid (formed h kl = false → 3 = own h kl) := own_no
  have HYes : Hid (formed h kl = true → kl = 0 → h.t.toList = [] → 0 = own h kl) := fun hf hl ht => own_leaf hf (by omega) (by have := size_nil ht; omega) hl
  have HLong : Hid (formed h kl = true → 16384 < h.t.size → 5 = own h kl) := own_long
  generalize own h kl = R at *
  go_enter Tryz.func102, Tryz.ntmps102
  go_wp2
  all_goals first
    | (go_ret; refine ⟨ret_int (HNo.out ?_), (Below.refl _ _).alloc (Nat.le_refl _) _⟩; clear HNo HYes HLong; simp only [formed, HK.out, only, em_dec]; generalize h.ns.length = nl at *; by_cases htl : h.t.toList = [] <;> simp_all <;> omega)
    | skip
  all_goals
    go_loopw [8] (fun i wr => i = .int .i64 0 ∧ wr.cell? ⟨w.heap.size, 5, none⟩ = some (.slice ka 0 kc) ∧ Hid (Below w.heap.size w wr)) (fun _ _ => 0)
    case atStart =>
      refine ⟨rfl, ?_, (Below.refl _ _).alloc (Nat.le_refl _) _⟩
      simp [World.cell?_alloc_new]
    case round =>
      obtain ⟨rfl, hc, HB⟩ := hrel
      go_wp2
      go_ret
      refine ⟨ret_int (HYes.out ?_ ?_ ?_), HB.out⟩
      · clear HNo HYes HLong
        simp only [formed, HK.out, only, em_dec]
        generalize h.ns.length = nl at *
        by_cases htl : h.t.toList = [] <;> simp_all <;> omega
      · omega
      · assumption
set_option maxRecDepth 8000 in
set_option maxHeartbeats 4000000 in
theorem rcheck_4 (h : Hd) (na : Option Addr) (nc : Nat) (ka : Option Addr) (kl kc : Nat) (hk : h.k = 4) (hl : h.t.size ≤ 140737488355328) (d : Int) (hd : d ≤ 16) (w : World) :
    Calls Tryz.prog 102 #[.agg #[.int .i64 h.k, .int .i64 h.n, .int .i64 h.s, .string h.t, .slice na h.ns.length nc, .slice ka kl kc], .int .i64 d] w fun e w' => e = .returned (.int .i64 (own h kl)) ∧ Below w.heap.size w w' := by
  have HK : Hid (h.k = 4) := hk
  have HNo : Hid (formed h kl = false → 3 = own h kl) := own_no
  have HYes : Hid (formed h kl = true → kl = 0 → h.t.toList = [] → 0 = own h kl) := fun hf hl ht => own_leaf hf (by omega) (by have := size_nil ht; omega) hl
  have HLong : Hid (formed h kl = true → 16384 < h.t.size → 5 = own h kl) := own_long
  generalize own h kl = R at *
  go_enter Tryz.func102, Tryz.ntmps102
  go_wp2
  all_goals first
    | (go_ret; refine ⟨ret_int (HNo.out ?_), (Below.refl _ _).alloc (Nat.le_refl _) _⟩; clear HNo HYes HLong; simp only [formed, HK.out, only, em_dec]; generalize h.ns.length = nl at *; by_cases htl : h.t.toList = [] <;> simp_all <;> omega)
    | skip
  all_goals
    go_loopw [8] (fun i wr => i = .int .i64 0 ∧ wr.cell? ⟨w.heap.size, 5, none⟩ = some (.slice ka 0 kc) ∧ Hid (Below w.heap.size w wr)) (fun _ _ => 0)
    case atStart =>
      refine ⟨rfl, ?_, (Below.refl _ _).alloc (Nat.le_refl _) _⟩
      simp [World.cell?_alloc_new]
    case round =>
      obtain ⟨rfl, hc, HB⟩ := hrel
      go_wp2
      go_ret
      refine ⟨ret_int (HYes.out ?_ ?_ ?_), HB.out⟩
      · clear HNo HYes HLong
        simp only [formed, HK.out, only, em_dec]
        generalize h.ns.length = nl at *
        by_cases htl : h.t.toList = [] <;> simp_all <;> omega
      · omega
      · assumption
set_option maxRecDepth 8000 in
set_option maxHeartbeats 4000000 in
theorem rcheck_5 (h : Hd) (na : Option Addr) (nc : Nat) (ka : Option Addr) (kl kc : Nat) (hk : h.k = 5) (hl : h.t.size ≤ 140737488355328) (d : Int) (hd : d ≤ 16) (w : World) :
    Calls Tryz.prog 102 #[.agg #[.int .i64 h.k, .int .i64 h.n, .int .i64 h.s, .string h.t, .slice na h.ns.length nc, .slice ka kl kc], .int .i64 d] w fun e w' => e = .returned (.int .i64 (own h kl)) ∧ Below w.heap.size w w' := by
  have HK : Hid (h.k = 5) := hk
  have HNo : Hid (formed h kl = false → 3 = own h kl) := own_no
  have HYes : Hid (formed h kl = true → kl = 0 → h.t.toList = [] → 0 = own h kl) := fun hf hl ht => own_leaf hf (by omega) (by have := size_nil ht; omega) hl
  have HLong : Hid (formed h kl = true → 16384 < h.t.size → 5 = own h kl) := own_long
  generalize own h kl = R at *
  go_enter Tryz.func102, Tryz.ntmps102
  go_wp2
  all_goals first
    | (go_ret; refine ⟨ret_int (HNo.out ?_), (Below.refl _ _).alloc (Nat.le_refl _) _⟩; clear HNo HYes HLong; simp only [formed, HK.out, only, em_dec]; generalize h.ns.length = nl at *; by_cases htl : h.t.toList = [] <;> simp_all <;> omega)
    | skip
  all_goals
    go_loopw [8] (fun i wr => i = .int .i64 0 ∧ wr.cell? ⟨w.heap.size, 5, none⟩ = some (.slice ka 0 kc) ∧ Hid (Below w.heap.size w wr)) (fun _ _ => 0)
    case atStart =>
      refine ⟨rfl, ?_, (Below.refl _ _).alloc (Nat.le_refl _) _⟩
      simp [World.cell?_alloc_new]
    case round =>
      obtain ⟨rfl, hc, HB⟩ := hrel
      go_wp2
      go_ret
      refine ⟨ret_int (HYes.out ?_ ?_ ?_), HB.out⟩
      · clear HNo HYes HLong
        simp only [formed, HK.out, only, em_dec]
        generalize h.ns.length = nl at *
        by_cases htl : h.t.toList = [] <;> simp_all <;> omega
      · omega
      · assumption
set_option maxRecDepth 8000 in
set_option maxHeartbeats 4000000 in
theorem rcheck_6 (h : Hd) (na : Option Addr) (nc : Nat) (ka : Option Addr) (kl kc : Nat) (hk : h.k = 6) (hl : h.t.size ≤ 140737488355328) (d : Int) (hd : d ≤ 16) (w : World) :
    Calls Tryz.prog 102 #[.agg #[.int .i64 h.k, .int .i64 h.n, .int .i64 h.s, .string h.t, .slice na h.ns.length nc, .slice ka kl kc], .int .i64 d] w fun e w' => e = .returned (.int .i64 (own h kl)) ∧ Below w.heap.size w w' := by
  have HK : Hid (h.k = 6) := hk
  have HNo : Hid (formed h kl = false → 3 = own h kl) := own_no
  have HYes : Hid (formed h kl = true → kl = 0 → h.t.size ≤ 16384 → 0 = own h kl) := fun hf hl ht => own_leaf hf (by omega) ht hl
  have HLong : Hid (formed h kl = true → 16384 < h.t.size → 5 = own h kl) := own_long
  generalize own h kl = R at *
  go_enter Tryz.func102, Tryz.ntmps102
  go_wp2
  all_goals first
    | (go_ret; refine ⟨ret_int (HNo.out ?_), (Below.refl _ _).alloc (Nat.le_refl _) _⟩; clear HNo HYes HLong; simp only [formed, HK.out, only, em_dec]; generalize h.ns.length = nl at *; by_cases htl : h.t.toList = [] <;> simp_all <;> omega)
    | (go_ret; refine ⟨ret_int (HLong.out ?_ (by omega)), (Below.refl _ _).alloc (Nat.le_refl _) _⟩; clear HNo HYes HLong; simp only [formed, HK.out, only, em_dec]; generalize h.ns.length = nl at *; by_cases htl : h.t.toList = [] <;> simp_all <;> omega)
    | skip
  all_goals
    go_loopw [8] (fun i wr => i = .int .i64 0 ∧ wr.cell? ⟨w.heap.size, 5, none⟩ = some (.slice ka 0 kc) ∧ Hid (Below w.heap.size w wr)) (fun _ _ => 0)
    case atStart =>
      refine ⟨rfl, ?_, (Below.refl _ _).alloc (Nat.le_refl _) _⟩
      simp [World.cell?_alloc_new]
    case round =>
      obtain ⟨rfl, hc, HB⟩ := hrel
      go_wp2
      go_ret
      refine ⟨ret_int (HYes.out ?_ ?_ ?_), HB.out⟩
      · clear HNo HYes HLong
        simp only [formed, HK.out, only, em_dec]
        generalize h.ns.length = nl at *
        by_cases htl : h.t.toList = [] <;> simp_all <;> omega
      · omega
      · omega
set_option maxRecDepth 8000 in
set_option maxHeartbeats 4000000 in
theorem rcheck_7 (h : Hd) (na : Option Addr) (nc : Nat) (ka : Option Addr) (kl kc : Nat) (hk : h.k = 7) (hl : h.t.size ≤ 140737488355328) (d : Int) (hd : d ≤ 16) (w : World) :
    Calls Tryz.prog 102 #[.agg #[.int .i64 h.k, .int .i64 h.n, .int .i64 h.s, .string h.t, .slice na h.ns.length nc, .slice ka kl kc], .int .i64 d] w fun e w' => e = .returned (.int .i64 (own h kl)) ∧ Below w.heap.size w w' := by
  have HK : Hid (h.k = 7) := hk
  have HNo : Hid (formed h kl = false → 3 = own h kl) := own_no
  have HYes : Hid (formed h kl = true → kl = 0 → h.t.size ≤ 16384 → 0 = own h kl) := fun hf hl ht => own_leaf hf (by omega) ht hl
  have HLong : Hid (formed h kl = true → 16384 < h.t.size → 5 = own h kl) := own_long
  generalize own h kl = R at *
  go_enter Tryz.func102, Tryz.ntmps102
  go_wp2
  all_goals first
    | (go_ret; refine ⟨ret_int (HNo.out ?_), (Below.refl _ _).alloc (Nat.le_refl _) _⟩; clear HNo HYes HLong; simp only [formed, HK.out, only, em_dec]; generalize h.ns.length = nl at *; by_cases htl : h.t.toList = [] <;> simp_all <;> omega)
    | (go_ret; refine ⟨ret_int (HLong.out ?_ (by omega)), (Below.refl _ _).alloc (Nat.le_refl _) _⟩; clear HNo HYes HLong; simp only [formed, HK.out, only, em_dec]; generalize h.ns.length = nl at *; by_cases htl : h.t.toList = [] <;> simp_all <;> omega)
    | skip
  all_goals
    go_loopw [8] (fun i wr => i = .int .i64 0 ∧ wr.cell? ⟨w.heap.size, 5, none⟩ = some (.slice ka 0 kc) ∧ Hid (Below w.heap.size w wr)) (fun _ _ => 0)
    case atStart =>
      refine ⟨rfl, ?_, (Below.refl _ _).alloc (Nat.le_refl _) _⟩
      simp [World.cell?_alloc_new]
    case round =>
      obtain ⟨rfl, hc, HB⟩ := hrel
      go_wp2
      go_ret
      refine ⟨ret_int (HYes.out ?_ ?_ ?_), HB.out⟩
      · clear HNo HYes HLong
        simp only [formed, HK.out, only, em_dec]
        generalize h.ns.length = nl at *
        by_cases htl : h.t.toList = [] <;> simp_all <;> omega
      · omega
      · omega
end Go.Proofs.YtlefdnjokppibaaGreatDoor
