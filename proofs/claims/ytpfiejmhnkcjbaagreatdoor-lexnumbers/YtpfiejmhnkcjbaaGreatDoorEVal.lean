/-
  Values as trees, and where they lie in memory.
-/
import Derived.Test.YtpfiejmhnkcjbaaGreatDoorRows
import Derived.WalkKit
import Derived.WalkSpells
import Derived.StillTactics
import Derived.Laws.Pointers
import Derived.RowKit3
import Derived.Below
import Derived.Deep.QuietTactic
import Derived.BigQuiet
import Derived.WalkSmall
import Derived.OpenShut
import Derived.Laws.Cover1
import Derived.Laws.Strings
import Derived.Deep.Matrix
import Derived.Deep.Slices
import Derived.SizedLaws
import Derived.ProofKit
namespace Go.Proofs.YtpfiejmhnkcjbaaGreatDoor
open Go.RowKit
set_option linter.unusedVariables false
/-- A value without what is below it. -/
structure Hd where
  k : Int
  n : Int
  s : Int
  t : ByteArray
  ns : List ByteArray
/-- Values one behind the other, each with what is below it. -/
inductive Fo where
  | nil : Fo
  | cons (h : Hd) (kids rest : Fo) : Fo
abbrev Vt := Hd × Fo
def Fo.list : Fo → List Vt
  | .nil => []
  | .cons h k r => (h, k) :: r.list
structure Hok (h : Hd) : Prop where
  k0 : -9223372036854775808 ≤ h.k
  k1 : h.k < 9223372036854775808
  n0 : -9223372036854775808 ≤ h.n
  n1 : h.n < 9223372036854775808
  s0 : -9223372036854775808 ≤ h.s
  s1 : h.s < 9223372036854775808
  t1 : h.t.size ≤ 140737488355328
  c1 : h.ns.length ≤ 140737488355328
  e1 : ∀ x ∈ h.ns, x.size ≤ 140737488355328
def Wf : Fo → Prop
  | .nil => True
  | .cons h k r => (Hok h ∧ k.list.length ≤ 140737488355328 ∧ Wf k) ∧ Wf r
def WfV (p : Vt) : Prop := Hok p.1 ∧ p.2.list.length ≤ 140737488355328 ∧ Wf p.2
/-- The value's cells. -/
def six (h : Hd) (na : Option Addr) (nc : Nat) (ka : Option Addr) (kl kc : Nat) : List Value :=
  [.int .i64 h.k, .int .i64 h.n, .int .i64 h.s, .string h.t, .slice na h.ns.length nc, .slice ka kl kc]
structure Nd (w : World) (b o : Nat) (h : Hd) (na : Option Addr) (nc : Nat) (ka : Option Addr) (kl kc : Nat) : Prop where
  c0 : w.cell? ⟨b, o, none⟩ = some (.int .i64 h.k)
  c1 : w.cell? ⟨b, o + 1, none⟩ = some (.int .i64 h.n)
  c2 : w.cell? ⟨b, o + 2, none⟩ = some (.int .i64 h.s)
  c3 : w.cell? ⟨b, o + 3, none⟩ = some (.string h.t)
  c4 : w.cell? ⟨b, o + 4, none⟩ = some (.slice na h.ns.length nc)
  c5 : w.cell? ⟨b, o + 5, none⟩ = some (.slice ka kl kc)
def Nms (w : World) (a : Option Addr) (ns : List ByteArray) : Prop := ns = [] ∨ ∃ b o, a = some ⟨b, o, none⟩ ∧ ∀ i x, ns[i]? = some x → w.cell? ⟨b, o + i, none⟩ = some (.string x)
structure Cap (a : Option Addr) (len cap : Nat) : Prop where
  le : len ≤ cap
  nil : a = none → cap = 0
  max : cap ≤ 9223372036854775807
/-- Values in memory from a place on. -/
def At (w : World) : Fo → Nat → Nat → Prop
  | .nil, _, _ => True
  | .cons h k r, b, o => (∃ na nc ka kc, Nd w b o h na nc ka k.list.length kc ∧ Nms w na h.ns ∧ Cap na h.ns.length nc ∧ (k = .nil ∨ ∃ b' o', ka = some ⟨b', o', none⟩ ∧ At w k b' o') ∧ Cap ka k.list.length kc) ∧ At w r b (o + 6)
def Slc (w : World) (a : Option Addr) (f : Fo) : Prop := f = .nil ∨ ∃ b o, a = some ⟨b, o, none⟩ ∧ At w f b o
/-- What a value leads to. -/
structure Vl (w : World) (p : Vt) (na : Option Addr) (nc : Nat) (ka : Option Addr) (kc : Nat) : Prop where
  nms : Nms w na p.1.ns
  nc : Cap na p.1.ns.length nc
  slc : Slc w ka p.2
  kc : Cap ka p.2.list.length kc
def NdV (w : World) (b o : Nat) (p : Vt) : Prop := ∃ na nc ka kc, Nd w b o p.1 na nc ka p.2.list.length kc ∧ Vl w p na nc ka kc
/-! ### what came in -/
open Go.ChangeShapes Go.WideShapes Go.Deep
theorem weightsAll_mem {H : Type} {P : Program} {e : TypeId} {d : DataW H} {n : Nat} : ∀ {l : List (DataW H)}, d ∈ l → n ∈ d.weights P e → n ∈ DataW.weightsAll P e l
  | x :: r, h, hn => by
    rw [DataW.weightsAll, List.mem_append]
    rcases List.mem_cons.1 h with rfl | h
    · exact .inl hn
    · exact .inr (weightsAll_mem h hn)
theorem bytes9 : Tryz.prog.bytesOf 9 = 16 := by kernel_rfl
theorem bytes25 : Tryz.prog.bytesOf 41 = 88 := by kernel_rfl
theorem cells25 : Tryz.prog.cellsOf 41 = 6 := by kernel_rfl
theorem cells3 : Tryz.prog.cellsOf 3 = 1 := by kernel_rfl
theorem cells9 : Tryz.prog.cellsOf 9 = 1 := by kernel_rfl
theorem cells22 : Tryz.prog.cellsOf 38 = 1 := by kernel_rfl
theorem cells23 : Tryz.prog.cellsOf 39 = 1 := by kernel_rfl
theorem sixL {α : Type} : ∀ {l : List α}, l.length = 6 → ∃ a b c d e f, l = [a, b, c, d, e, f]
  | [a, b, c, d, e, f], _ => ⟨a, b, c, d, e, f, rfl⟩
theorem mkFo {w : World} {b : Nat} : ∀ (n o : Nat), (∀ i, i < n → ∃ p, NdV w b (o + i * 6) p ∧ WfV p) → ∃ f : Fo, f.list.length = n ∧ At w f b o ∧ Wf f
  | 0, o, _ => ⟨.nil, rfl, trivial, trivial⟩
  | n + 1, o, h => by
    obtain ⟨⟨hd, k⟩, ⟨na, nc, ka, kc, h1, h2⟩, h3⟩ := h 0 (by omega)
    obtain ⟨f, e1, e2, e3⟩ := mkFo (w := w) (b := b) n (o + 6) (fun i hi => by
      obtain ⟨p, hp⟩ := h (i + 1) (by omega)
      rw [show o + (i + 1) * 6 = o + 6 + i * 6 by omega] at hp
      exact ⟨p, hp⟩)
    exact ⟨.cons hd k f, by simp [Fo.list, e1], ⟨⟨na, nc, ka, kc, by simpa using h1, h2.nms, h2.nc, h2.slc, h2.kc⟩, e2⟩, h3, e3⟩
theorem open_names {H : Type} {enc : TypeId × Value → H} {W : World} {n : Nat} {v : Value} {y : DataW H × List MemPlace} (h : DataW.trod enc Tryz.prog W 0 (fun _ => true) true n 38 [v] = some y) (hw : ∀ n ∈ y.1.weights Tryz.prog 38, n ≤ reachBytes) :
    ∃ na nc ns, v = .slice na ns.length nc ∧ Nms W na ns ∧ Cap na ns.length nc ∧ ns.length ≤ 140737488355328 ∧ ∀ x ∈ ns, x.size ≤ 140737488355328 := by
  rcases open_slice1 Tryz.underlying38 cells9 h with ⟨hcs, _⟩ | ⟨ad, len, cap, m, n, V, D, Pl, hcs, _, hl, hm, hmm, hx, hr⟩
  · simp at hcs
    exact ⟨none, 0, [], hcs, .inl rfl, ⟨Nat.le_refl _, fun _ => rfl, by omega⟩, by simp, by simp⟩
  · simp at hcs
    simp only [if_true] at hmm
    have each : ∀ i, i < len → ∃ s : ByteArray, W.cell? (ad.add i) = some (.string s) ∧ s.size ≤ 140737488355328 := by
      intro i hi
      obtain ⟨h1, h2⟩ := hr i (by omega)
      obtain ⟨s, e, r, _⟩ := DataW.trod_string Tryz.underlying9 h2
      simp only [List.cons.injEq, and_true] at e
      refine ⟨s, by rw [h1, e], ?_⟩
      have := hw s.data.toList.length (by
        rw [hx]
        simp only [DataW.weights, Tryz.underlying38]
        refine List.mem_cons_of_mem _ (List.mem_append.2 (.inl (weightsAll_mem (d := D i) (List.mem_map.2 ⟨i, List.mem_range.2 hi, rfl⟩) ?_)))
        rw [Prod.mk.injEq] at r
        rw [r.1]
        simp [DataW.weights])
      simp only [reachBytes, Array.length_toList] at this
      exact Nat.le_trans this (by decide)
    have hlen : len ≤ 140737488355328 := by
      have := hw _ (by rw [hx]; simp only [DataW.weights, Tryz.underlying38]; exact List.mem_cons_self)
      rw [bytes9] at this
      simp only [List.length_map, List.length_range, reachBytes] at this
      omega
    obtain ⟨q, hq⟩ : ∃ q : Nat → ByteArray, ∀ i, i < len → W.cell? (ad.add i) = some (.string (q i)) ∧ (q i).size ≤ 140737488355328 :=
      ⟨fun i => if h : i < len then Classical.choose (each i h) else ByteArray.empty, fun i hi => by simp only [hi, dif_pos]; exact Classical.choose_spec (each i hi)⟩
    unfold maxLen at hm
    refine ⟨some ad, cap, (List.range len).map q, by simpa using hcs, ?_, ⟨by simpa using hl, (fun e => by cases e), by omega⟩, by simpa using hlen, fun x hx => ?_⟩
    · by_cases h0 : len = 0
      · left; subst h0; rfl
      · obtain ⟨b, off, spot⟩ := ad
        have hs : spot = none := by simpa [Addr.add] using World.cell?_spot (hq 0 (by omega)).1
        subst hs
        refine .inr ⟨b, off, rfl, fun i x hi => ?_⟩
        have hk : i < len := by
          have := (List.getElem?_eq_some_iff.1 hi).1
          simpa using this
        rw [List.getElem?_map, List.getElem?_range hk] at hi
        simp only [Option.map_some, Option.some.injEq] at hi
        subst hi
        have := (hq i hk).1
        rw [Addr.add_lit] at this
        exact this
    · obtain ⟨i, hi, rfl⟩ := List.mem_map.1 hx
      exact (hq i (List.mem_range.1 hi)).2
set_option maxRecDepth 8000 in
theorem open_val {H : Type} {enc : TypeId × Value → H} {W : World} : ∀ (n : Nat) {cs : List Value} {y : DataW H × List MemPlace}, DataW.trod enc Tryz.prog W 0 (fun _ => true) true n 41 cs = some y → (∀ n ∈ y.1.weights Tryz.prog 41, n ≤ reachBytes) →
    ∃ p na nc ka kc, cs = six p.1 na nc ka p.2.list.length kc ∧ Vl W p na nc ka kc ∧ WfV p := by
  intro n
  induction n using Nat.strongRecOn with
  | _ n ih =>
  intro cs y h hw
  obtain ⟨xs, k, hk, hxy, hlen, hxl, hf⟩ := DataW.trod_struct Tryz.underlying41 h
  rw [cells25] at hlen
  obtain ⟨y0, y1, y2, y3, y4, y5, rfl⟩ := sixL (show xs.length = 6 from hxl)
  obtain ⟨v0, v1, v2, v3, v4, v5, rfl⟩ := sixL hlen
  have g0 := hf 0 _ rfl
  have g1 := hf 1 _ rfl
  have g2 := hf 2 _ rfl
  have g3 := hf 3 _ rfl
  have g4 := hf 4 _ rfl
  have g5 := hf 5 _ rfl
  simp [cells3, cells9, cells22, cells23] at g0 g1 g2 g3 g4 g5
  obtain ⟨z0, e0, r0, q0⟩ := DataW.trod_int Tryz.underlying3 g0
  obtain ⟨z1, e1, r1, q1⟩ := DataW.trod_int Tryz.underlying3 g1
  obtain ⟨z2, e2, r2, q2⟩ := DataW.trod_int Tryz.underlying3 g2
  obtain ⟨s3, e3, r3, _⟩ := DataW.trod_string Tryz.underlying9 g3
  have hw2 : ∀ (j : Nat) (t : TypeId) (d : DataW H), [(3 : TypeId), 3, 3, 9, 38, 39][j]? = some t → [y0.1, y1.1, y2.1, y3.1, y4.1, y5.1][j]? = some d → ∀ n ∈ d.weights Tryz.prog t, n ≤ reachBytes := fun j t d ht hd n hn => by
    refine hw n ?_
    rw [hxy]
    simp only [DataW.weights, Tryz.underlying41]
    exact DataW.weights_mem_each (j := j) ht hd n hn
  have hT : s3.size ≤ 140737488355328 := by
    have := hw2 3 9 y3.1 rfl rfl s3.data.toList.length (by rw [r3]; simp [DataW.weights])
    simp only [reachBytes, Array.length_toList] at this
    exact Nat.le_trans this (by decide)
  obtain ⟨na, nc, ns, e4, hn1, hn2, hn3, hn4⟩ := open_names g4 (hw2 4 38 y4.1 rfl rfl)
  obtain ⟨ka, kc, f, e5, hk1, hk2, hk3, hk4⟩ : ∃ ka kc, ∃ f : Fo, v5 = .slice ka f.list.length kc ∧ Slc W ka f ∧ Cap ka f.list.length kc ∧ f.list.length ≤ 140737488355328 ∧ Wf f := by
    rcases DataW.trod_slice Tryz.underlying39 g5 with ⟨hcs, _⟩ | ⟨ad, len, cap, elems, rest, m, hm0, hcs, hx, _, hl, hm, hel, hei, _, _⟩
    · simp at hcs
      exact ⟨none, 0, .nil, hcs, .inl rfl, ⟨Nat.le_refl _, fun _ => rfl, by omega⟩, by simp [Fo.list], trivial⟩
    · simp only [List.cons.injEq, and_true] at hcs
      have hlen : len ≤ 140737488355328 := by
        have := hw2 5 39 y5.1 rfl rfl _ (by rw [hx]; simp only [DataW.weights, Tryz.underlying39]; exact List.mem_cons_self)
        rw [bytes25] at this
        simp only [List.length_map, reachBytes] at this
        omega
      unfold maxLen at hm
      have each : ∀ i, i < len → ∃ p, (∃ na nc ka kc, W.cells? 0 (ad.add (i * 6)) 6 = some (six p.1 na nc ka p.2.list.length kc) ∧ Vl W p na nc ka kc) ∧ WfV p := by
        intro i hi
        have hh := hei i hi
        rw [List.getElem?_eq_getElem (by omega)] at hh
        obtain ⟨cs', c1, c2⟩ := Option.bind_eq_some_iff.1 hh
        obtain ⟨p, na', nc', ka', kc', d1, d2, d3⟩ := ih m (by omega) c2 (fun n hn => hw2 5 39 y5.1 rfl rfl n (by
          rw [hx]
          simp only [DataW.weights, Tryz.underlying39]
          refine List.mem_cons_of_mem _ (List.mem_append.2 (.inl (weightsAll_mem (d := elems[i].1) (List.mem_map.2 ⟨elems[i], List.getElem_mem _, rfl⟩) hn)))))
        rw [cells25] at c1
        exact ⟨p, ⟨na', nc', ka', kc', by rw [← d1]; exact c1, d2⟩, d3⟩
      by_cases h0 : len = 0
      · subst h0
        exact ⟨some ad, cap, .nil, hcs, .inl rfl, ⟨by simp [Fo.list], (fun e => by cases e), by omega⟩, by simp [Fo.list], trivial⟩
      obtain ⟨b, off, spot⟩ := ad
      have hs : spot = none := by
        obtain ⟨p, ⟨na', nc', ka', kc', c1, _⟩, _⟩ := each 0 (by omega)
        obtain ⟨_, _, hcell⟩ := World.cells?_some c1
        simpa [Addr.add] using World.cell?_spot (hcell 0 (by simp))
      subst hs
      obtain ⟨f, f1, f2, f3⟩ := mkFo (w := W) (b := b) len off (fun i hi => by
        obtain ⟨p, ⟨na', nc', ka', kc', c1, c2⟩, c3⟩ := each i hi
        obtain ⟨_, _, hcell⟩ := World.cells?_some c1
        simp only [Addr.add_lit] at hcell
        exact ⟨p, ⟨na', nc', ka', kc', ⟨hcell 0 (by simp), hcell 1 (by simp), hcell 2 (by simp), hcell 3 (by simp), hcell 4 (by simp), hcell 5 (by simp)⟩, c2⟩, c3⟩)
      exact ⟨_, cap, f, by rw [hcs, f1], .inr ⟨b, off, rfl, f2⟩, ⟨by omega, (fun e => by cases e), by omega⟩, by omega, f3⟩
  simp only [List.cons.injEq, and_true] at e0 e1 e2 e3
  have b0 := bounds_i64 q0
  have b1 := bounds_i64 q1
  have b2 := bounds_i64 q2
  refine ⟨(⟨z0, z1, z2, s3, ns⟩, f), na, nc, ka, kc, ?_, ⟨hn1, hn2, hk1, hk2⟩, ⟨?_, hk3, hk4⟩⟩
  · rw [e0, e1, e2, e3, e4, e5]; rfl
  · exact ⟨by simp only; omega, by simp only; omega, by simp only; omega, by simp only; omega, by simp only; omega, by simp only; omega, hT, hn3, hn4⟩
end Go.Proofs.YtpfiejmhnkcjbaaGreatDoor
