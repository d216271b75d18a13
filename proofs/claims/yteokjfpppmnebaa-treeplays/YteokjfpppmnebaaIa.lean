/-
  A range over a function whose iterator changes one block of its own and new ones alone, and hands on the elements of a list: what each side owes.
-/
import Derived.Test.YteokjfpppmnebaaPa
import Derived.RangeFuncNested
import Derived.RangeFuncBound
import Derived.RangeFuncCalls
import Derived.RangeFuncLeaves
import Derived.Shelf.Abstract
import Derived.Shelf.RegionOpen
import Derived.OwnWalkIn
import Derived.TacticsInMore
import Derived.LoopNIn
import Derived.LoopIn
namespace Go.Proofs.Yteokjfpppmnebaa
open Go.RowKit Go.Shelf
set_option linter.unusedVariables false
set_option linter.unusedSimpArgs false
/-- What N names, and the world's outer things, lie as they lay. -/
structure Kp (N : Nat → Prop) (w w' : World) : Prop where
  os : w'.os = w.os
  tape : w'.tape = w.tape
  output : w'.output = w.output
  size : w.heap.size ≤ w'.heap.size
  block : ∀ k, k < w.heap.size → N k → w'.heap[k]? = w.heap[k]?
theorem Kp.refl (N : Nat → Prop) (w : World) : Kp N w w := ⟨rfl, rfl, rfl, Nat.le_refl _, fun _ _ _ => rfl⟩
theorem Kp.trans {N : Nat → Prop} {A B C : World} (h : Kp N A B) (k : Kp N B C) : Kp N A C :=
  ⟨k.os.trans h.os, k.tape.trans h.tape, k.output.trans h.output, Nat.le_trans h.size k.size, fun x hx hn => (k.block x (Nat.lt_of_lt_of_le hx h.size) hn).trans (h.block x hx hn)⟩
theorem Kp.of_below {N : Nat → Prop} {w w' : World} (g : Below w.heap.size w w') : Kp N w w' := ⟨g.os, g.tape, g.output, g.size, fun k hk _ => g.block k hk⟩
theorem Kp.of_grown {N : Nat → Prop} {w w' : World} {row : Option Nat} (g : w.grownBy w' row) (h : ∀ k, row = some k → ¬ N k) : Kp N w w' :=
  ⟨g.os, g.tape, g.output, g.size, fun k hk hn => g.block k hk (fun e => h k e.symm hn)⟩
theorem Blk.kp {N : Nat → Prop} {w w' : World} {b : Nat} {t : TypeId} {vs : List Value} (h : Blk w b t vs) (g : Kp N w w') (hn : N b) : Blk w' b t vs := by unfold Blk; rw [g.block b h.lt hn]; exact h
theorem Nd.kp {N : Nat → Prop} {w w' : World} {b : Nat} {lv : Int} {ss : List Sl} {nx : Option Nat} {rd : Int} (h : Nd w b lv ss nx rd) (g : Kp N w w') (hn : N b) : Nd w' b lv ss nx rd := ⟨h.blk.kp g hn, h.le⟩
/-- It speaks on when the block r is another one, and new ones lie there. -/
def Abid {β : Type} (r : Nat) (J : β → World → Prop) : Prop := ∀ s A B, J s A → A.grownBy B (some r) → J s B
/-- What a round is asked. -/
def RoundT (k l : Nat) (N : Nat → Prop) (J Jx : List E → World → Prop) (pre : List E) (x : E) (W1 : World) : Prop :=
  YieldAt Fence.wide k Try.prog l #[.string x.1, .int .i64 x.2] W1 fun e W' => (e = .returned (.bool true) ∧ J (pre ++ [x]) W' ∧ Kp N W1 W') ∨ (e = .returned (.bool false) ∧ Jx (pre ++ [x]) W' ∧ Kp N W1 W')
/-- What a round leaves alone: all below N, and what lies from lo up to hi. -/
def Wrd (N : Nat → Prop) (lo hi : Nat) (A B : World) : Prop := Kp N A B ∧ ∀ k, lo ≤ k → k < hi → B.heap[k]? = A.heap[k]?
def RoundS (k l : Nat) (N : Nat → Prop) (lo hi : Nat) (J Jx : List E → World → Prop) (pre : List E) (x : E) (W1 : World) : Prop :=
  YieldAt Fence.wide k Try.prog l #[.string x.1, .int .i64 x.2] W1 fun e W' => (e = .returned (.bool true) ∧ J (pre ++ [x]) W' ∧ Wrd N lo hi W1 W') ∨ (e = .returned (.bool false) ∧ Jx (pre ++ [x]) W' ∧ Wrd N lo hi W1 W')
/-- The function gf with what it has captured hands on xs, and leaves all below N as it was in w0; between rounds the block r may be another one. -/
def Gives (gf : Nat) (lb : Array Value) (r : Nat) (N : Nat → Prop) (w0 : World) (xs : List E) : Prop :=
  ∀ (m l : Nat) (J Jx : Nat → List E → World → Prop) (W : World), Kp N w0 W → (∀ hi, Abid r (J hi)) → (∀ hi, Abid r (Jx hi)) →
    (∀ hi k pre x W1, hi ≤ W1.heap.size → J hi pre W1 → (∃ post, xs = pre ++ x :: post) → RoundS k l N W.heap.size hi (J hi) (Jx hi) pre x W1) → (∀ hi, W.heap.size ≤ hi → J hi [] W) →
    CallsIn Fence.wide m Try.prog gf (#[.func (.yield l) #[] #[]] ++ lb) W fun e W' => (∃ v, e = .returned v) ∧ Kp N w0 W' ∧ ∃ hi, (J hi xs W' ∨ ∃ pre x post, xs = pre ++ x :: post ∧ Jx hi (pre ++ [x]) W')
/-- What is no cells, from B on, lies as it lay; so does all below N, and what lies behind the book-keeping up to hi. -/
structure Word (N : Nat → Prop) (B hi : Nat) (W W' : World) : Prop where
  from' : KeepsFrom B W W'
  below : Kp N W W'
  mid : ∀ k, B + 2 ≤ k → k < hi → W'.heap[k]? = W.heap[k]?
def postT (N : Nat → Prop) (B hi : Nat) (I : List E → World → Prop) (Ix : Code → List E → World → Prop) (xs : List E) (W : World) : Exit → Act → World → Prop
  | .normal, _, W' => Word N B hi W W' ∧ I xs W'
  | .ret, _, W' => Word N B hi W W' ∧ Ix .ret xs W'
  | _, _, _ => False
/-- The caller's own: it speaks on when r is another block, and when blocks from B on that are no cells are others. -/
def OwnT {β : Type} (r B : Nat) (I : β → World → Prop) : Prop := ∀ s X Y row, I s X → X.grownBy Y row → (∀ k, row = some k → k = r ∨ (B ≤ k ∧ ∃ o : Obj, X.heap[k]? = some o ∧ o.isCells = false)) → I s Y
theorem OwnT.put {β : Type} {r B : Nat} {I : β → World → Prop} (h : OwnT r B I) {s : β} {W : World} {l : Nat} {o : Obj} (o' : Obj) (hs : I s W) (hB : B ≤ l) (hl : W.heap[l]? = some o) (ho : o.isCells = false) : I s (W.putObj l o') :=
  h s W _ (some l) hs (grownBy_putObj' W l o') (fun r e => by cases e; exact .inr ⟨hB, o, hl, ho⟩)
theorem OwnT.new {β : Type} {r B : Nat} {I : β → World → Prop} (h : OwnT r B I) {s : β} {W : World} (o : Obj) (hs : I s W) : I s (W.alloc o) :=
  h s W _ none hs (World.grownBy_alloc W o none) (fun r e => by cases e)
theorem kp_put {N : Nat → Prop} {B : Nat} {W : World} {l : Nat} {o : Obj} (o' : Obj) (hN : ∀ k, N k → k < B) (hB : B ≤ l) (hl : W.heap[l]? = some o) : Kp N W (W.putObj l o') :=
  Kp.of_grown (grownBy_putObj' W l o') (fun k e hk => by cases e; have := hN _ hk; omega)
theorem grown_keep {A B : World} {r k : Nat} {o : Obj} (g : A.grownBy B (some r)) (h : A.heap[k]? = some o) (hk : k ≠ r) : B.heap[k]? = some o := by
  rw [g.block k (Array.getElem?_eq_some_iff.1 h).1 (fun e => hk (by injection e))]
  exact h
theorem range_law {n : Nat} {g : Operand} {ps : Array Tmp} {assign body : Code} {Q : Exit → Act → World → Prop} {a : Act} {w w0 : World} {gf : Nat} {lb : Array Value} {r : Nat} {N : Nat → Prop} {xs : List E}
    (hg : a.eval g = .func (.func gf) #[] lb) (eg : ∀ args w, (callFunc gf args).run Try.prog w = .ok (.enter gf args) w) (hs : Gives gf lb r N w0 xs) (hr : r < w.heap.size) (hNw : ∀ k, N k → k < w.heap.size) (hb : Kp N w0 w) (hps : ps.size = 2)
    (I : Nat → List E → World → Prop) (Ix : Nat → Code → List E → World → Prop) (hI : ∀ hi, OwnT r w.heap.size (I hi)) (hIx : ∀ hi c, OwnT r w.heap.size (Ix hi c)) (h0 : ∀ hi, w.heap.size + 2 ≤ hi → I hi [] w)
    (hround : ∀ (hi k l : Nat) (pre : List E) (x : E) (W : World), (∃ post, xs = pre ++ x :: post) → assign.wpIn (Fence.wide.inRound l) k Try.prog (Exit.then (fun a' W' => W = W' ∧ ∀ W2, hi ≤ W2.heap.size → I hi pre W2 → body.wpIn (Fence.wide.inRound l) k Try.prog (postT N w.heap.size hi (I hi) (Ix hi) (pre ++ [x]) W2) a' W2) (fun _ _ _ => False))
      { tmps := (ps.zip #[.string x.1, .int .i64 x.2]).foldl (fun t (p, v) => t.setIfInBounds p v) a.tmps, defers := [] } W)
    (hdone : ∀ (D hi : Nat) (W : World), w.heap.size ≤ D → I hi xs W → Kp N w0 W → W.heap[D]? = some (.deferred (some [])) → Q .normal { a with defers := { target := .collected D, args := #[] } :: a.defers } W)
    (hstop : ∀ (D hi : Nat) (pre : List E) (x : E) (W : World), w.heap.size ≤ D → (∃ post, xs = pre ++ x :: post) → Ix hi .ret (pre ++ [x]) W → Kp N w0 W → W.heap[D]? = some (.deferred (some [])) → Code.ret.wpIn Fence.wide n Try.prog Q { a with defers := { target := .collected D, args := #[] } :: a.defers } W) :
    (Code.rangeFunc g ps assign body).wpIn Fence.wide n Try.prog Q a w := by
  refine wpIn_rangeFunc ?_
  intro fn hfn
  have hro : Fence.wide.round = none := rfl
  rw [hro]
  obtain ⟨B, hB⟩ : ∃ B, w.heap.size = B := ⟨_, rfl⟩
  obtain ⟨rec, hrec⟩ : ∃ rec : LoopState → Option Code → Loop, rec = fun st pe => { state := st, pending := pe, fn, tmps := a.tmps, params := ps, assign, body, defers := B } := ⟨_, rfl⟩
  obtain ⟨W1, hW1⟩ : ∃ W1, (w.alloc (.deferred (some []))).alloc (.loop (rec .ready none)) = W1 := ⟨_, rfl⟩
  have rst : ∀ s p, (rec s p).state = s := fun s p => by rw [hrec]
  have rpm : ∀ s p, (rec s p).params = ps := fun s p => by rw [hrec]
  have rpe : ∀ s p, (rec s p).pending = p := fun s p => by rw [hrec]
  have hL1 : W1.heap[B + 1]? = some (.loop (rec .ready none)) := by
    rw [← hW1, ← hB]
    have := World.alloc_heap_new (w.alloc (.deferred (some []))) (.loop (rec .ready none))
    rwa [World.size_alloc] at this
  have hK1 : W1.heap[B]? = some (.deferred (some [])) := by
    rw [← hW1, ← hB]
    exact (Below.heap_alloc _ _ _ (by simp)).trans (World.alloc_heap_new w _)
  have hI1 : ∀ hi, W1.heap.size ≤ hi → I hi [] W1 := fun hi hh => by rw [← hW1] at hh ⊢; exact (hI hi).new _ ((hI hi).new _ (h0 hi (by simp at hh; omega)))
  have hb1 : Kp N w0 W1 := by
    rw [← hW1]
    exact (hb.trans (Kp.of_grown (World.grownBy_alloc w _ none) (by simp))).trans (Kp.of_grown (World.grownBy_alloc _ _ none) (by simp))
  rw [hB] at hI hIx hround hdone hstop hNw hr
  -- the book-keeping beside the caller's own
  let Bk : LoopState → Option Code → World → Prop := fun st pe W => W.heap[B + 1]? = some (.loop (rec st pe)) ∧ W.heap[B]? = some (.deferred (some []))
  have hBk : ∀ st pe X Y, Bk st pe X → X.grownBy Y (some r) → Bk st pe Y := fun st pe X Y h g => ⟨grown_keep g h.1 (by omega), grown_keep g h.2 (by omega)⟩
  refine ⟨B + 1, [{ target := .collected B, args := #[] }], W1, { target := .fn (.func gf) lb, args := #[.func (.yield (B + 1)) #[] #[]] }, W1, gf,
    #[.func (.yield (B + 1)) #[] #[]] ++ lb, W1, ?_, ?_, ?_, ?_, (fun h => by cases h), ?_⟩
  · rw [← hW1, hrec, ← hB]; exact run_enterLoop_outer _ _ _ _ _
  · simp only [resolve, hg]
    simp [go_sem]
  · intro f' hf'; trivial
  · simp [invoke, go_sem, eg]
  · have hfin : ∀ (jump : Option Code) (W3 : World), Bk .busy none W3 → (Instr.endRound (B + 1) jump).run Try.prog W3 = .ok (.bool jump.isNone) (W3.putObj (B + 1) (.loop (rec (if jump.isNone then .ready else .done) jump))) ∧ Bk (if jump.isNone then .ready else .done) jump (W3.putObj (B + 1) (.loop (rec (if jump.isNone then .ready else .done) jump))) := fun jump W3 h => by
      have e := run_endRound (P := Try.prog) jump h.1
      rw [hrec] at e
      refine ⟨by rw [hrec]; exact e, World.putObj_heap_same (Array.getElem?_eq_some_iff.1 h.1).1, (World.putObj_heap_other (by omega)).trans h.2⟩
    refine (hs (n - 1) (B + 1) (fun hi pre W => I hi pre W ∧ Bk .ready none W) (fun hi pre W => Ix hi .ret pre W ∧ Bk .done (some .ret) W) W1 hb1
      (fun hi s X Y h g => ⟨hI hi s X Y _ h.1 g (fun k e => .inl (by injection e with e; exact e.symm)), hBk _ _ _ _ h.2 g⟩)
      (fun hi s X Y h g => ⟨hIx hi _ s X Y _ h.1 g (fun k e => .inl (by injection e with e; exact e.symm)), hBk _ _ _ _ h.2 g⟩) ?_ (fun hi hh => ⟨hI1 hi hh, hL1, hK1⟩)).mono ?_
    · rintro hh k pre x W hhs ⟨hi, hl, hd⟩ hx
      have hsz : W1.heap.size = B + 2 := by rw [← hW1, ← hB]; simp
      rw [hsz]
      have hlt : B + 1 < W.heap.size := (Array.getElem?_eq_some_iff.1 hl).1
      have hy := run_yield (P := Try.prog) (args := #[.string x.1, .int .i64 x.2]) hl (by rw [rpm, hps]; rfl)
      rw [hrec] at hy
      refine ⟨fn, _, assign, body, hy, roundIn_of_wpIn hfn (wpIn_mono (hround hh _ _ pre x W hx) ?_)⟩
      rintro e a' W' hq
      cases e with
      | exit id => exact hq.elim
      | goto t => exact hq.elim
      | ret => exact hq.elim
      | panic ch => exact hq.elim
      | outgrown => exact hq.elim
      | normal =>
      obtain ⟨rfl, hbody⟩ := hq
      refine ⟨_, run_beginRound hl (rst _ _), ?_⟩
      have hb2 : Bk .busy none (W.putObj (B + 1) (.loop { rec .ready none with state := .busy })) := by
        have e : ({ rec .ready none with state := .busy } : Loop) = rec .busy none := by rw [hrec]
        rw [e]
        exact ⟨World.putObj_heap_same hlt, (World.putObj_heap_other (by omega)).trans hd⟩
      have hw2 : Kp N W (W.putObj (B + 1) (.loop { rec .ready none with state := .busy })) := kp_put _ hNw (by omega) hl
      have hw3 : ∀ k, B + 2 ≤ k → k < hh → (W.putObj (B + 1) (.loop { rec .ready none with state := .busy })).heap[k]? = W.heap[k]? := fun k h1 _ => World.putObj_heap_other (by omega)
      have hi2 := (hI hh).put (.loop { rec .ready none with state := .busy }) hi (by omega) hl rfl
      generalize W.putObj (B + 1) (.loop { rec .ready none with state := .busy }) = W2 at *
      refine wpIn_mono (hbody W2 (Nat.le_trans hhs hw2.size) hi2) ?_
      rintro e a3 W3 hp
      cases e with
      | normal =>
        obtain ⟨⟨hk3, hp3, hm3⟩, hi3⟩ := hp
        have hb3 : Bk .busy none W3 := ⟨hk3.same _ _ (by omega) hb2.1 rfl, hk3.same _ _ (by omega) hb2.2 rfl⟩
        obtain ⟨f1, f2⟩ := hfin none W3 hb3
        exact ⟨_, _, f1, .inl ⟨rfl, ⟨(hI hh).put _ hi3 (by omega) hb3.1 rfl, f2⟩, (hw2.trans hp3).trans (kp_put _ hNw (by omega) hb3.1), fun k h1 h2 => (World.putObj_heap_other (by omega)).trans ((hm3 k h1 h2).trans (hw3 k h1 h2))⟩⟩
      | ret =>
        obtain ⟨⟨hk3, hp3, hm3⟩, hi3⟩ := hp
        have hb3 : Bk .busy none W3 := ⟨hk3.same _ _ (by omega) hb2.1 rfl, hk3.same _ _ (by omega) hb2.2 rfl⟩
        obtain ⟨f1, f2⟩ := hfin (some .ret) W3 hb3
        exact ⟨_, _, f1, .inr ⟨rfl, ⟨(hIx hh .ret).put _ hi3 (by omega) hb3.1 rfl, f2⟩, (hw2.trans hp3).trans (kp_put _ hNw (by omega) hb3.1), fun k h1 h2 => (World.putObj_heap_other (by omega)).trans ((hm3 k h1 h2).trans (hw3 k h1 h2))⟩⟩
      | exit id => exact hp.elim
      | goto t => exact hp.elim
      | panic ch => exact hp.elim
      | outgrown => exact hp.elim
    · rintro e W2 ⟨⟨v, rfl⟩, hbw, hh, hx⟩
      rcases hx with ⟨hi, hl, hd⟩ | ⟨pre, x, post, hx, hi, hl, hd⟩
      · have e := run_endLoop (P := Try.prog) hl (by rw [rst]; simp)
        rw [rpe] at e
        exact ⟨none, _, e, hdone _ hh _ (Nat.le_refl _) ((hI hh).put _ hi (by omega) hl rfl) (hbw.trans (kp_put _ hNw (by omega) hl)) ((World.putObj_heap_other (by omega)).trans hd)⟩
      · have e := run_endLoop (P := Try.prog) hl (by rw [rst]; simp)
        rw [rpe] at e
        exact ⟨some .ret, _, e, hstop _ hh pre x _ (Nat.le_refl _) ⟨post, hx⟩ ((hIx hh .ret).put _ hi (by omega) hl rfl) (hbw.trans (kp_put _ hNw (by omega) hl)) ((World.putObj_heap_other (by omega)).trans hd)⟩
#print axioms range_law
end Go.Proofs.Yteokjfpppmnebaa
