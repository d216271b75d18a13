/-
  Trees of nodes, as data and in memory.
-/
import Derived.Test.YteokjfpppmnebaaNh
namespace Go.Proofs.Yteokjfpppmnebaa
open Go.RowKit
set_option linter.unusedVariables false
set_option linter.unusedSimpArgs false
abbrev E := ByteArray × Int
/-- A node with all that is under it: a leaf with its texts, or kids, each with a text. -/
inductive B where
  | lf (b : Nat) (es : List E)
  | nd (b : Nat) (ks : List (ByteArray × B))
abbrev KB := ByteArray × B
def B.bk : B → Nat
  | .lf b _ => b
  | .nd b _ => b
def sE (e : E) : Sl := ⟨e.1, e.2, none⟩
def sK (p : KB) : Sl := ⟨p.1, 0, some p.2.bk⟩
def B.ss : B → List Sl
  | .lf _ es => es.map sE
  | .nd _ ks => ks.map sK
def B.cnt (t : B) : Nat := t.ss.length
/-- The least text. -/
def B.lt0 (t : B) : ByteArray := (t.ss.headD z0).t
def ents : Nat → B → List E
  | 0, .lf _ es => es
  | 0, .nd _ _ => []
  | _ + 1, .lf _ _ => []
  | l + 1, .nd _ ks => ks.flatMap fun p => ents l p.2
def fps : Nat → B → List Nat
  | 0, t => [t.bk]
  | _ + 1, .lf b _ => [b]
  | l + 1, .nd b ks => b :: ks.flatMap fun p => fps l p.2
/-- How many nodes. -/
def nods : Nat → B → Nat
  | 0, _ => 1
  | _ + 1, .lf _ _ => 1
  | l + 1, .nd _ ks => 1 + (ks.map fun p => nods l p.2).sum
/-- The first leaf. -/
def fsl : Nat → B → Nat
  | 0, t => t.bk
  | _ + 1, .lf b _ => b
  | _ + 1, .nd b [] => b
  | l + 1, .nd _ (p :: _) => fsl l p.2
def nxt (f : B → Nat) (ks : List KB) (nx : Option Nat) : Option Nat := match ks with
  | [] => nx
  | q :: _ => some (f q.2)
def chain (M : B → Option Nat → Prop) (f : B → Nat) : List KB → Option Nat → Prop
  | [], _ => True
  | p :: r, nx => M p.2 (nxt f r nx) ∧ chain M f r nx
def Mem (w : World) : Nat → B → Option Nat → Int → Prop
  | 0, .lf b es, nx, rd => Nd w b 0 (es.map sE) nx rd
  | 0, .nd _ _, _, _ => False
  | _ + 1, .lf _ _, _, _ => False
  | l + 1, .nd b ks, nx, rd => Nd w b ((l + 1 : Nat) : Int) (ks.map sK) none rd ∧ chain (fun t nx => Mem w l t nx 0) (fsl l) ks nx
/-- Below the top node all have at least half of the slots, and each text is the least one under it. -/
def Fit : Nat → B → Prop
  | 0, .lf _ _ => True
  | 0, .nd _ _ => False
  | _ + 1, .lf _ _ => False
  | l + 1, .nd _ ks => ∀ p ∈ ks, Fit l p.2 ∧ 8 ≤ p.2.cnt ∧ p.1 = p.2.lt0
/-- All but some blocks, and what is new, is as it was. -/
structure Upd (S : List Nat) (w w' : World) : Prop where
  os : w'.os = w.os
  tape : w'.tape = w.tape
  output : w'.output = w.output
  size : w.heap.size ≤ w'.heap.size
  block : ∀ k, k < w.heap.size → k ∉ S → w'.heap[k]? = w.heap[k]?
theorem Upd.refl (S : List Nat) (w : World) : Upd S w w := ⟨rfl, rfl, rfl, Nat.le_refl _, fun _ _ _ => rfl⟩
theorem Upd.trans {S S' : List Nat} {w w1 w2 : World} (h : Upd S w w1) (k : Upd S' w1 w2) (hs : ∀ x ∈ S', x < w.heap.size → x ∈ S) : Upd S w w2 :=
  ⟨k.os.trans h.os, k.tape.trans h.tape, k.output.trans h.output, Nat.le_trans h.size k.size, fun x hx hn => (k.block x (Nat.lt_of_lt_of_le hx h.size) (fun q => hn (hs x q hx))).trans (h.block x hx hn)⟩
theorem Upd.of_by {w w' : World} {b : Nat} (g : w.grownBy w' (some b)) : Upd [b] w w' := ⟨g.os, g.tape, g.output, g.size, fun k hk hn => g.block k hk (by simpa using hn)⟩
theorem Upd.of_none {w w' : World} (S : List Nat) (g : w.grownBy w' none) : Upd S w w' := ⟨g.os, g.tape, g.output, g.size, fun k hk hn => g.block k hk (by simp)⟩
theorem Upd.of_below {w w' : World} (S : List Nat) (g : Below w.heap.size w w') : Upd S w w' := ⟨g.os, g.tape, g.output, g.size, fun k hk hn => g.block k hk⟩
theorem Upd.mono {S S' : List Nat} {w w' : World} (h : Upd S w w') (hs : ∀ x ∈ S, x < w.heap.size → x ∈ S') : Upd S' w w' := ⟨h.os, h.tape, h.output, h.size, fun k hk hn => h.block k hk (fun q => hn (hs k q hk))⟩
theorem Upd.below {S : List Nat} {w0 w w' : World} {n : Nat} (b : Below n w0 w) (h : Upd S w w') (hn : n ≤ w0.heap.size) (hs : ∀ x ∈ S, n ≤ x) : Below n w0 w' :=
  b.trans ⟨h.os, h.tape, h.output, h.size, fun k hk => h.block k (Nat.lt_of_lt_of_le hk (Nat.le_trans hn b.size)) (fun q => by have := hs k q; omega)⟩
theorem Blk.upd {S : List Nat} {w w' : World} {b : Nat} {t : TypeId} {vs : List Value} (h : Blk w b t vs) (u : Upd S w w') (hn : b ∉ S) : Blk w' b t vs := by unfold Blk; rw [u.block b h.lt hn]; exact h
theorem Nd.upd {S : List Nat} {w w' : World} {b : Nat} {lv : Int} {ss : List Sl} {nx : Option Nat} {rd : Int} (h : Nd w b lv ss nx rd) (u : Upd S w w') (hn : b ∉ S) : Nd w' b lv ss nx rd := ⟨h.blk.upd u hn, h.le⟩
theorem chain.mono {M M' : B → Option Nat → Prop} {f : B → Nat} : ∀ {ks : List KB} {nx : Option Nat}, chain M f ks nx → (∀ p ∈ ks, ∀ nx, M p.2 nx → M' p.2 nx) → chain M' f ks nx
  | [], _, _, _ => trivial
  | p :: r, nx, h, hm => ⟨hm p (by simp) _ h.1, chain.mono h.2 (fun q hq => hm q (by simp [hq]))⟩
theorem nxt_app (f : B → Nat) (a c : List KB) (nx : Option Nat) : nxt f (a ++ c) nx = nxt f a (nxt f c nx) := by cases a <;> rfl
theorem chain_app {M : B → Option Nat → Prop} {f : B → Nat} : ∀ {a c : List KB} {nx : Option Nat}, chain M f (a ++ c) nx ↔ chain M f a (nxt f c nx) ∧ chain M f c nx
  | [], c, nx => by simp [chain]
  | p :: a, c, nx => by
    show M p.2 (nxt f (a ++ c) nx) ∧ chain M f (a ++ c) nx ↔ (M p.2 (nxt f a (nxt f c nx)) ∧ chain M f a (nxt f c nx)) ∧ chain M f c nx
    rw [nxt_app, chain_app]
    constructor
    · rintro ⟨h1, h2, h3⟩; exact ⟨⟨h1, h2⟩, h3⟩
    · rintro ⟨⟨h1, h2⟩, h3⟩; exact ⟨h1, h2, h3⟩
theorem chain_mem {M : B → Option Nat → Prop} {f : B → Nat} : ∀ {ks : List KB} {nx : Option Nat}, chain M f ks nx → ∀ p ∈ ks, ∃ nx, M p.2 nx
  | q :: r, nx, h, p, hp => by
    rcases List.mem_cons.1 hp with rfl | hp
    · exact ⟨_, h.1⟩
    · exact chain_mem h.2 p hp
/-- What is in memory stays where none of its blocks is changed. -/
theorem Mem.upd {S : List Nat} {w w' : World} (u : Upd S w w') : ∀ {l : Nat} {t : B} {nx : Option Nat} {rd : Int}, Mem w l t nx rd → (∀ x ∈ fps l t, x ∉ S) → Mem w' l t nx rd
  | 0, .lf b es, nx, rd, h, hn => Nd.upd h u (hn b (by simp [fps, B.bk]))
  | l + 1, .nd b ks, nx, rd, h, hn => ⟨Nd.upd h.1 u (hn b (by simp [fps])), chain.mono h.2 (fun p hp nx hm => Mem.upd u hm (fun x hx => hn x (by simp only [fps, List.mem_cons, List.mem_flatMap]; exact .inr ⟨p, hp, hx⟩)))⟩
theorem Mem.nd {w : World} : ∀ {l : Nat} {t : B} {nx : Option Nat} {rd : Int}, Mem w l t nx rd → Nd w t.bk (l : Int) t.ss (if l = 0 then nx else none) rd
  | 0, .lf b es, nx, rd, h => h
  | l + 1, .nd b ks, nx, rd, h => h.1
theorem Mem.lt {w : World} : ∀ {l : Nat} {t : B} {nx : Option Nat} {rd : Int}, Mem w l t nx rd → ∀ x ∈ fps l t, x < w.heap.size
  | 0, .lf b es, nx, rd, h, x, hx => by
    simp only [fps, List.mem_singleton] at hx
    subst hx
    exact Nd.lt h
  | l + 1, .nd b ks, nx, rd, h, x, hx => by
    simp only [fps, List.mem_cons, List.mem_flatMap] at hx
    rcases hx with rfl | ⟨p, hp, hx⟩
    · exact h.1.lt
    · obtain ⟨nx', hm⟩ := chain_mem h.2 p hp
      exact Mem.lt hm x hx
theorem bk_fps : ∀ (l : Nat) (t : B), t.bk ∈ fps l t
  | 0, _ => by simp [fps]
  | _ + 1, .lf _ _ => by simp [fps, B.bk]
  | _ + 1, .nd _ _ => by simp [fps, B.bk]
#print axioms Mem.lt
end Go.Proofs.Yteokjfpppmnebaa
