/-
  Values as texts, over lists of bytes: plain mathematics.
-/
import Derived.Test.YtpfiejmhnkcjbaaGreatDoorFG2x
import Derived.Test.YtpfiejmhnkcjbaaGreatDoorFG31x
namespace Go.Proofs.YtpfiejmhnkcjbaaGreatDoor
open Math
set_option linter.unusedVariables false
def hxd (n : Nat) : Nat := if n < 10 then 48 + n else 87 + n
def pX (c : Nat) : List Nat := [hxd (c / 16), hxd (c % 16)]
def pE (c : Nat) : List Nat := if c = 39 then [39, 39] else if c < 32 ∨ 126 < c ∨ c = 92 then 92 :: pX c else [c]
def pS : List Nat → List Nat
  | [] => []
  | c :: l => pE c ++ pS l
def pQ (s : ByteArray) : List Nat := 39 :: (pS (bts s) ++ [39])
def pY : List Nat → List Nat
  | [] => []
  | c :: l => pX c ++ pY l
def pB (s : ByteArray) : List Nat := 35 :: pY (bts s)
def dcB (n : Nat) : ByteArray := ⟨(Lib.decDigits n).toArray⟩
def pD (n : Nat) : List Nat := bts (dcB n)
def pN (n : Int) (s : Nat) : List Nat := bts (D6.txt n s (dcB n.natAbs))
/-- A value's text, what is within a List or a Struct handed in. -/
def pH (h : Hd) (kids : List Nat) : List Nat :=
  if h.k = 1 then [110, 117, 108, 108] else if h.k = 2 then (if h.n = 1 then [116, 114, 117, 101] else [102, 97, 108, 115, 101])
  else if h.k = 3 then pN h.n h.s.toNat else if h.k = 4 then pN h.n h.s.toNat else if h.k = 5 then 64 :: pD h.n.toNat
  else if h.k = 6 then pQ h.t else if h.k = 7 then pB h.t else if h.k = 8 then 91 :: (kids ++ [93]) else 123 :: (kids ++ [125])
/-- Values one behind the other; z: nothing stands ahead of the first one. -/
def prF : Fo → Bool → List ByteArray → Bool → List Nat
  | .nil, _, _, _ => []
  | .cons h k r, b, ns, z => (if z then [] else [44, 32]) ++ ((if b then pQ (ns.headD ⟨#[]⟩) ++ [58, 32] else []) ++ (pH h (prF k (decide (h.k = 9)) h.ns true) ++ prF r b ns.tail false))
def prV (p : Vt) : List Nat := pH p.1 (prF p.2 (decide (p.1.k = 9)) p.1.ns true)
theorem prF_cons (p : Vt) (r : Fo) (b : Bool) (ns : List ByteArray) (z : Bool) : prF (.cons p.1 p.2 r) b ns z = (if z then [] else [44, 32]) ++ ((if b then pQ (ns.headD ⟨#[]⟩) ++ [58, 32] else []) ++ (prV p ++ prF r b ns.tail false)) := rfl
theorem prF_drop {f : Fo} {b : Bool} {ns : List ByteArray} {k : Nat} {z : Bool} {q : Vt} (h : f.list[k]? = some q) : prF (f.drop k) b (ns.drop k) z = (if z then [] else [44, 32]) ++ ((if b then pQ ((ns.drop k).headD ⟨#[]⟩) ++ [58, 32] else []) ++ (prV q ++ prF (f.drop (k + 1)) b (ns.drop (k + 1)) false)) := by
  rw [Fo.drop_at f k q h, prF_cons]
  congr 4
  simp
theorem prF_false : ∀ (f : Fo) (ns ms : List ByteArray) (z : Bool), prF f false ns z = prF f false ms z
  | .nil, _, _, _ => rfl
  | .cons h k r, ns, ms, z => by
    rw [prF_cons (h, k), prF_cons (h, k), prF_false r ns.tail ms.tail]
    rfl
/-! ### bytes -/
theorem hxd_lt {n : Nat} (h : n < 16) : hxd n < 128 ∧ 48 ≤ hxd n := by
  unfold hxd; split <;> omega
theorem pS_app (l m : List Nat) : pS (l ++ m) = pS l ++ pS m := by
  induction l with
  | nil => rfl
  | cons x l ih => rw [List.cons_append, pS, pS, ih, List.append_assoc]
theorem pY_app (l m : List Nat) : pY (l ++ m) = pY l ++ pY m := by
  induction l with
  | nil => rfl
  | cons x l ih => rw [List.cons_append, pY, pY, ih, List.append_assoc]
/-- Plain bytes. -/
def Pln (l : List Nat) : Prop := ∀ x ∈ l, 32 ≤ x ∧ x ≤ 126
theorem Pln.app {l m : List Nat} (h : Pln l) (g : Pln m) : Pln (l ++ m) := fun x hx => by
  rcases List.mem_append.1 hx with hx | hx
  · exact h x hx
  · exact g x hx
theorem Pln.oct {l : List Nat} (h : Pln l) : Oct l := fun x hx => by have := h x hx; omega
theorem pX_pln {c : Nat} (h : c < 256) : Pln (pX c) := fun x hx => by
  have h1 := hxd_lt (n := c / 16) (by omega)
  have h2 := hxd_lt (n := c % 16) (by omega)
  have h3 : hxd (c / 16) ≤ 126 := by unfold hxd; split <;> omega
  have h4 : hxd (c % 16) ≤ 126 := by unfold hxd; split <;> omega
  simp only [pX, List.mem_cons, List.not_mem_nil, or_false] at hx
  rcases hx with rfl | rfl <;> omega
theorem pE_pln {c : Nat} (h : c < 256) : Pln (pE c) := by
  unfold pE
  split
  · intro x hx; simp at hx; omega
  split
  · intro x hx
    rcases List.mem_cons.1 hx with rfl | hx
    · omega
    · exact pX_pln h x hx
  · next h1 =>
    intro x hx
    simp at hx
    subst hx
    omega
theorem pS_pln : ∀ {l : List Nat}, Oct l → Pln (pS l)
  | [], _ => fun x hx => by cases hx
  | c :: l, h => (pE_pln (h c (by simp))).app (pS_pln fun x hx => h x (by simp [hx]))
theorem pY_pln : ∀ {l : List Nat}, Oct l → Pln (pY l)
  | [], _ => fun x hx => by cases hx
  | c :: l, h => (pX_pln (h c (by simp))).app (pY_pln fun x hx => h x (by simp [hx]))
theorem pln_one {c : Nat} (h : 32 ≤ c ∧ c ≤ 126) : Pln [c] := fun x hx => by simp at hx; omega
theorem pln_two {c d : Nat} (h : 32 ≤ c ∧ c ≤ 126) (g : 32 ≤ d ∧ d ≤ 126) : Pln [c, d] := fun x hx => by simp at hx; omega
theorem Pln.cons {c : Nat} {l : List Nat} (h : 32 ≤ c ∧ c ≤ 126) (g : Pln l) : Pln (c :: l) := fun x hx => by
  rcases List.mem_cons.1 hx with rfl | hx
  · exact h
  · exact g x hx
theorem pQ_pln (s : ByteArray) : Pln (pQ s) := Pln.cons (by omega) ((pS_pln (bts_oct s)).app (pln_one (by omega)))
theorem pB_pln (s : ByteArray) : Pln (pB s) := Pln.cons (by omega) (pY_pln (bts_oct s))
/-! ### how long -/
theorem pE_len (c : Nat) : 1 ≤ (pE c).length ∧ (pE c).length ≤ 3 := by
  unfold pE
  split
  · simp
  split
  · simp [pX]
  · simp
theorem pS_len : ∀ l : List Nat, l.length ≤ (pS l).length ∧ (pS l).length ≤ 3 * l.length
  | [] => by simp [pS]
  | c :: l => by
    have h1 := pE_len c
    have h2 := pS_len l
    rw [pS, List.length_append, List.length_cons]
    omega
theorem pY_len : ∀ l : List Nat, (pY l).length = 2 * l.length
  | [] => rfl
  | c :: l => by
    have := pY_len l
    rw [pY, List.length_append, List.length_cons, this]
    simp [pX]
    omega
theorem pQ_len (s : ByteArray) : s.size + 2 ≤ (pQ s).length ∧ (pQ s).length ≤ 3 * s.size + 2 := by
  have := pS_len (bts s)
  rw [bts_len] at this
  unfold pQ
  simp only [List.length_cons, List.length_append, List.length_nil]
  omega
theorem pB_len (s : ByteArray) : (pB s).length = 2 * s.size + 1 := by
  unfold pB
  rw [List.length_cons, pY_len, bts_len]
end Go.Proofs.YtpfiejmhnkcjbaaGreatDoor
