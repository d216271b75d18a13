/-
  What codec's reader reads as a value: what is answered.
-/
import Derived.Test.YthmnjamnaibcgaaXx
namespace Go.Proofs.Ythmnjamnaibcgaa
open Go.RowKit Math
set_option linter.unusedVariables false
theorem Ro.then {r : Nat} {ab : Option Addr} {cb N : Nat} {W w1 w2 : World} {i : Nat} {e : Int} (h : Ro r ab cb N W w1 i e) (k : Below w1.heap.size w1 w2) : Ro r ab cb N W w2 i e :=
  ⟨h.blk.below k h.blk.lt, h.le, ⟨k.os.trans h.gr.os, k.tape.trans h.gr.tape, k.output.trans h.gr.output, Nat.le_trans h.gr.size k.size, fun x hx hne => (k.block x (Nat.lt_of_lt_of_le hx h.gr.size)).trans (h.gr.block x hx hne)⟩⟩
/-- A value that was read, and what is as it was. -/
structure Vo (f : Rdr Vt) (r : Nat) (ab : Option Addr) (cb : Nat) (L : List Nat) (W w' : World) (i : Nat) (err : Int) (p : Vt) (na : Option Addr) (nc : Nat) (ka : Option Addr) (kc j : Nat) (err' rf : Int) : Prop where
  ro : Ro r ab cb L.length W w' j err'
  vl : ∃ Lp, VlL w' p na nc ka kc Lp ∧ ∀ x ∈ Lp, W.heap.size ≤ x ∧ x < w'.heap.size
  wf : WfV p
  st : St f L i err j err' p
  rf : err' = 0 → rf = chk0V p
/-- It is short enough, or it ends early enough. -/
def Sm {α : Type} (f : Rdr α) (L : List Nat) (i : Nat) : Prop := L.length ≤ 65536 ∨ ∃ p rest, f (L.drop i) = .ok (p, rest) ∧ L.length ≤ 65536 + rest.length
def ValC (F : Nat) (f : Rdr Vt) (args : Nat → Array Value) : Prop := ∀ (w0 W : World) (r : Nat) (ab : Option Addr) (cb : Nat) (L : List Nat) (i : Nat) (err : Int), En w0 W r ab cb L → Blk W r 78 [.slice ab L.length cb, .int .i64 (i : Int), .int .i64 err] → i ≤ L.length → (err = 0 → Sm f L i) →
  Calls Try.prog F (args r) W fun e w' => ∃ p na nc ka kc j err' rf, e = .returned (.tuple #[.agg #[.int .i64 p.1.k, .int .i64 p.1.n, .int .i64 p.1.s, .string p.1.t, .slice na p.1.ns.length nc, .slice ka p.2.list.length kc], .int .i64 rf]) ∧ Hid (Vo f r ab cb L W w' i err p na nc ka kc j err' rf)
/-- The two variables of a call of value, and the reader. -/
structure Fr (r : Nat) (ab : Option Addr) (cb : Nat) (L : List Nat) (W w : World) (g4 g6 : Nat) (cs : List Value) (j : Nat) (e : Int) : Prop where
  ro : Ro r ab cb L.length W w j e
  b4 : Blk w g4 25 zer
  b6 : Blk w g6 25 cs
  r4 : r < g4
  l46 : g4 < g6
  l4 : W.heap.size ≤ g4
theorem Fr.prim {r : Nat} {ab : Option Addr} {cb : Nat} {L : List Nat} {W w w' : World} {g4 g6 : Nat} {cs : List Value} {j k : Nat} {e e' : Int} (h : Fr r ab cb L W w g4 g6 cs j e) (k' : Ro r ab cb L.length w w' k e') : Fr r ab cb L W w' g4 g6 cs k e' := by
  have := h.r4
  have := h.l46
  exact ⟨h.ro.trans k', h.b4.kept k'.gr (by intro c; injection c with c; omega), h.b6.kept k'.gr (by intro c; injection c with c; omega), h.r4, h.l46, h.l4⟩
theorem Fr.put {r : Nat} {ab : Option Addr} {cb : Nat} {L : List Nat} {W w w' : World} {g4 g6 : Nat} {cs cs' : List Value} {j : Nat} {e : Int} (h : Fr r ab cb L W w g4 g6 cs j e) (hb : Blk w' g6 25 cs') (g : w.grownBy w' (some g6)) : Fr r ab cb L W w' g4 g6 cs' j e := by
  have := h.r4
  have := h.l46
  have h1 := h.l4
  refine ⟨⟨h.ro.blk.kept g (by intro c; injection c with c; omega), h.ro.le, ?_⟩, h.b4.kept g (by intro c; injection c with c; omega), hb, h.r4, h.l46, h.l4⟩
  exact ⟨g.os.trans h.ro.gr.os, g.tape.trans h.ro.gr.tape, g.output.trans h.ro.gr.output, Nat.le_trans h.ro.gr.size g.size, fun x hx hne => (g.block x (Nat.lt_of_lt_of_le hx h.ro.gr.size) (by intro c; injection c with c; omega)).trans (h.ro.gr.block x hx hne)⟩
theorem Fr.below {r : Nat} {ab : Option Addr} {cb : Nat} {L : List Nat} {W w w' : World} {g4 g6 : Nat} {cs : List Value} {j : Nat} {e : Int} (h : Fr r ab cb L W w g4 g6 cs j e) (k : Below w.heap.size w w') : Fr r ab cb L W w' g4 g6 cs j e :=
  ⟨h.ro.then k, h.b4.below k h.b4.lt, h.b6.below k h.b6.lt, h.r4, h.l46, h.l4⟩
theorem Fr.res {r : Nat} {ab : Option Addr} {cb : Nat} {L : List Nat} {W w w' : World} {g4 g6 : Nat} {cs cs' : List Value} {j : Nat} {e : Int} (h : Fr r ab cb L W w g4 g6 cs j e) (hb : Blk w' g4 25 cs') (g : w.grownBy w' (some g4)) : Ro r ab cb L.length W w' j e := by
  have := h.r4
  have h1 := h.l4
  exact ⟨h.ro.blk.kept g (by intro c; injection c with c; omega), h.ro.le, ⟨g.os.trans h.ro.gr.os, g.tape.trans h.ro.gr.tape, g.output.trans h.ro.gr.output, Nat.le_trans h.ro.gr.size g.size, fun x hx hne => (g.block x (Nat.lt_of_lt_of_le hx h.ro.gr.size) (by intro c; injection c with c; omega)).trans (h.ro.gr.block x hx hne)⟩⟩
/-- A value without names and kids lies nowhere else. -/
theorem vl_lf (w : World) (k n s : Int) (t : ByteArray) : VlL w (lf k n s t) none 0 none 0 [] :=
  ⟨[], [], rfl, .inl ⟨rfl, rfl⟩, ⟨Nat.le_refl _, fun _ => rfl, by decide⟩, ⟨Nat.le_refl _, fun _ => rfl, by decide⟩, .inl ⟨rfl, rfl⟩⟩
theorem chk_lf (k n s : Int) (t : ByteArray) : chkV (lf k n s t) 1 = chk0V (lf k n s t) := chkV_flat _ 1 (by simp [dpV, lf, dpF])
theorem st_map {α β : Type} {f : Rdr α} {L : List Nat} {i j : Nat} {err e1 : Int} {x : α} (h : St f L i err j e1 x) (q : α → β) : St (f.bind fun x => .ret (q x)) L i err j e1 (q x) := st_bind h (st_ret (q x) L j e1)
theorem bo_eq (l : List Nat) (q : Nat → Vt) : (byR.bind fun x => if 1 < x then Rdr.no 3 else Rdr.ret (q x)) l = (boR.bind fun x => .ret (q x)) l := by
  unfold boR Rdr.bind
  cases byR l with
  | error e => rfl
  | ok v =>
    obtain ⟨x, m⟩ := v
    simp only
    split <;> rfl
theorem st_eq {α : Type} {f g : Rdr α} (h : ∀ l, f l = g l) {L : List Nat} {i j : Nat} {err e1 : Int} {x : α} (k : St f L i err j e1 x) : St g L i err j e1 x := by
  unfold St at *
  rw [← h]
  exact k
end Go.Proofs.Ythmnjamnaibcgaa
