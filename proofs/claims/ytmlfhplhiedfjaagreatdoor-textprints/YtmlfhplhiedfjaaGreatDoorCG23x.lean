/-
  Values as texts, over lists of bytes: plain mathematics. · text's writers of bytes: writePair, writeBlob, writeText, truthWord. · text's writers of bytes: writeBlob, writeText, truthWord.
-/
import Derived.Test.YtmlfhplhiedfjaaGreatDoorCG2x
import Derived.Test.YtmlfhplhiedfjaaGreatDoorCG22x
import Derived.Test.YtmlfhplhiedfjaaGreatDoorCBu
namespace Go.Proofs.YtmlfhplhiedfjaaGreatDoor
open Math
set_option linter.unusedVariables false
def hxd (n : Nat) : Nat := if n < 10 then 48 + n else 87 + n
def pX (c : Nat) : List Nat := [hxd (c / 16), hxd (c % 16)]
def pE (c : Nat) : List Nat := if c = 39 then [39, 39] else if c < 32 ∨ 126 < c ∨ c = 92 then 92 :: pX c else [c]
def pS : List Nat → List Nat
  | [] => []
  | c :: l => pE c ++ pS l
def pQ (s : ByteArray) : List Nat := 39 :: (pS (bts s) ++ [39])
def pY : List Nat → List Nat
  | [] => []
  | c :: l => pX c ++ pY l
def pB (s : ByteArray) : List Nat := 35 :: pY (bts s)
def dcB (n : Nat) : ByteArray := ⟨(Lib.decDigits n).toArray⟩
def pD (n : Nat) : List Nat := bts (dcB n)
def pN (n : Int) (s : Nat) : List Nat := bts (D6.txt n s (dcB n.natAbs))
/-- A value's text, what is within a List or a Struct handed in. -/
def pH (h : Hd) (kids : List Nat) : List Nat :=
  if h.k = 1 then [110, 117, 108, 108] else if h.k = 2 then (if h.n = 1 then [116, 114, 117, 101] else [102, 97, 108, 115, 101])
  else if h.k = 3 then pN h.n h.s.toNat else if h.k = 4 then pN h.n h.s.toNat else if h.k = 5 then 64 :: pD h.n.toNat
  else if h.k = 6 then pQ h.t else if h.k = 7 then pB h.t else if h.k = 8 then 91 :: (kids ++ [93]) else 123 :: (kids ++ [125])
/-- Values one behind the other; z: nothing stands ahead of the first one. -/
def prF : Fo → Bool → List ByteArray → Bool → List Nat
  | .nil, _, _, _ => []
  | .cons h k r, b, ns, z => (if z then [] else [44, 32]) ++ ((if b then pQ (ns.headD ⟨#[]⟩) ++ [58, 32] else []) ++ (pH h (prF k (decide (h.k = 9)) h.ns true) ++ prF r b ns.tail false))
def prV (p : Vt) : List Nat := pH p.1 (prF p.2 (decide (p.1.k = 9)) p.1.ns true)
theorem prF_cons (p : Vt) (r : Fo) (b : Bool) (ns : List ByteArray) (z : Bool) : prF (.cons p.1 p.2 r) b ns z = (if z then [] else [44, 32]) ++ ((if b then pQ (ns.headD ⟨#[]⟩) ++ [58, 32] else []) ++ (prV p ++ prF r b ns.tail false)) := rfl
theorem prF_drop {f : Fo} {b : Bool} {ns : List ByteArray} {k : Nat} {z : Bool} {q : Vt} (h : f.list[k]? = some q) : prF (f.drop k) b (ns.drop k) z = (if z then [] else [44, 32]) ++ ((if b then pQ ((ns.drop k).headD ⟨#[]⟩) ++ [58, 32] else []) ++ (prV q ++ prF (f.drop (k + 1)) b (ns.drop (k + 1)) false)) := by
  rw [Fo.drop_at f k q h, prF_cons]
  congr 4
  simp
theorem prF_false : ∀ (f : Fo) (ns ms : List ByteArray) (z : Bool), prF f false ns z = prF f false ms z
  | .nil, _, _, _ => rfl
  | .cons h k r, ns, ms, z => by
    rw [prF_cons (h, k), prF_cons (h, k), prF_false r ns.tail ms.tail]
    rfl
/-! ### bytes -/
theorem hxd_lt {n : Nat} (h : n < 16) : hxd n < 128 ∧ 48 ≤ hxd n := by
  unfold hxd; split <;> omega
theorem pS_app (l m : List Nat) : pS (l ++ m) = pS l ++ pS m := by
  induction l with
  | nil => rfl
  | cons x l ih => rw [List.cons_append, pS, pS, ih, List.append_assoc]
theorem pY_app (l m : List Nat) : pY (l ++ m) = pY l ++ pY m := by
  induction l with
  | nil => rfl
  | cons x l ih => rw [List.cons_append, pY, pY, ih, List.append_assoc]
/-- Plain bytes. -/
def Pln (l : List Nat) : Prop := ∀ x ∈ l, 32 ≤ x ∧ x ≤ 126
theorem Pln.app {l m : List Nat} (h : Pln l) (g : Pln m) : Pln (l ++ m) := fun x hx => by
  rcases List.mem_append.1 hx with hx | hx
  · exact h x hx
  · exact g x hx
theorem Pln.oct {l : List Nat} (h : Pln l) : Oct l := fun x hx => by have := h x hx; omega
theorem pX_pln {c : Nat} (h : c < 256) : Pln (pX c) := fun x hx => by
  have h1 := hxd_lt (n := c / 16) (by omega)
  have h2 := hxd_lt (n := c % 16) (by omega)
  have h3 : hxd (c / 16) ≤ 126 := by unfold hxd; split <;> omega
  have h4 : hxd (c % 16) ≤ 126 := by unfold hxd; split <;> omega
  simp only [pX, List.mem_cons, List.not_mem_nil, or_false] at hx
  rcases hx with rfl | rfl <;> omega
theorem pE_pln {c : Nat} (h : c < 256) : Pln (pE c) := by
  unfold pE
  split
  · intro x hx; simp at hx; omega
  split
  · intro x hx
    rcases List.mem_cons.1 hx with rfl | hx
    · omega
    · exact pX_pln h x hx
  · next h1 =>
    intro x hx
    simp at hx
    subst hx
    omega
theorem pS_pln : ∀ {l : List Nat}, Oct l → Pln (pS l)
  | [], _ => fun x hx => by cases hx
  | c :: l, h => (pE_pln (h c (by simp))).app (pS_pln fun x hx => h x (by simp [hx]))
theorem pY_pln : ∀ {l : List Nat}, Oct l → Pln (pY l)
  | [], _ => fun x hx => by cases hx
  | c :: l, h => (pX_pln (h c (by simp))).app (pY_pln fun x hx => h x (by simp [hx]))
theorem pln_one {c : Nat} (h : 32 ≤ c ∧ c ≤ 126) : Pln [c] := fun x hx => by simp at hx; omega
theorem pln_two {c d : Nat} (h : 32 ≤ c ∧ c ≤ 126) (g : 32 ≤ d ∧ d ≤ 126) : Pln [c, d] := fun x hx => by simp at hx; omega
theorem Pln.cons {c : Nat} {l : List Nat} (h : 32 ≤ c ∧ c ≤ 126) (g : Pln l) : Pln (c :: l) := fun x hx => by
  rcases List.mem_cons.1 hx with rfl | hx
  · exact h
  · exact g x hx
theorem pQ_pln (s : ByteArray) : Pln (pQ s) := Pln.cons (by omega) ((pS_pln (bts_oct s)).app (pln_one (by omega)))
theorem pB_pln (s : ByteArray) : Pln (pB s) := Pln.cons (by omega) (pY_pln (bts_oct s))
/-! ### how long -/
theorem pE_len (c : Nat) : 1 ≤ (pE c).length ∧ (pE c).length ≤ 3 := by
  unfold pE
  split
  · simp
  split
  · simp [pX]
  · simp
theorem pS_len : ∀ l : List Nat, l.length ≤ (pS l).length ∧ (pS l).length ≤ 3 * l.length
  | [] => by simp [pS]
  | c :: l => by
    have h1 := pE_len c
    have h2 := pS_len l
    rw [pS, List.length_append, List.length_cons]
    omega
theorem pY_len : ∀ l : List Nat, (pY l).length = 2 * l.length
  | [] => rfl
  | c :: l => by
    have := pY_len l
    rw [pY, List.length_append, List.length_cons, this]
    simp [pX]
    omega
theorem pQ_len (s : ByteArray) : s.size + 2 ≤ (pQ s).length ∧ (pQ s).length ≤ 3 * s.size + 2 := by
  have := pS_len (bts s)
  rw [bts_len] at this
  unfold pQ
  simp only [List.length_cons, List.length_append, List.length_nil]
  omega
theorem pB_len (s : ByteArray) : (pB s).length = 2 * s.size + 1 := by
  unfold pB
  rw [List.length_cons, pY_len, bts_len]
end Go.Proofs.YtmlfhplhiedfjaaGreatDoor
namespace Go.Proofs.YtmlfhplhiedfjaaGreatDoor
open Go.RowKit Math
set_option linter.unusedVariables false
set_option linter.unusedSimpArgs false
theorem hx_idx (n : Nat) (h : n < 16) (w : World) : (Instr.index 9 (.string ⟨#[48, 49, 50, 51, 52, 53, 54, 55, 56, 57, 97, 98, 99, 100, 101, 102]⟩) (.int .u8 (n : Int))).run Tryz.prog w = .ok (.int .u8 ((hxd n : Nat) : Int)) w := by
  have h1 : ∀ k : Fin 16, ∃ u : UInt8, (#[48, 49, 50, 51, 52, 53, 54, 55, 56, 57, 97, 98, 99, 100, 101, 102] : Array UInt8)[k.val]? = some u ∧ u.toNat = hxd k.val := by decide +kernel
  obtain ⟨u, e1, e2⟩ := h1 ⟨n, h⟩
  simp only at e1 e2
  have e3 : (⟨#[48, 49, 50, 51, 52, 53, 54, 55, 56, 57, 97, 98, 99, 100, 101, 102]⟩ : ByteArray)[n]? = some u := by
    rw [← e1]; rfl
  simp [Instr.index, asIntOf, run_underlying Tryz.underlying9, e3, e2]
set_option maxRecDepth 8000 in
set_option maxHeartbeats 1000000 in
theorem wpair9 (c : Nat) (hc : c < 256) {b B : Nat} {W : World} {v : Value} {l : List Nat} (h : Bs b B W v l) (hl : l.length ≤ 899999990) :
    Calls Tryz.prog 107 #[.pointer (some ⟨b, 0, none⟩), .int .u8 (c : Int)] W fun e w' => ∃ v', e = .returned (.tuple #[]) ∧ Hid (Bw b B W w' v v' (l ++ pX c)) := by
  have hi := hx_idx (c / 16) (by omega)
  have lo := hx_idx (c % 16) (by omega)
  have e1 : ((c / 16 : Nat) : Int) = (c : Int) / 16 := by omega
  rw [e1] at hi
  obtain ⟨q, hq⟩ : ∃ q : Nat, q = c % 16 := ⟨_, rfl⟩
  have hand : bits .and .u8 (c : Int) 15 = (q : Int) := by
    have h1 : ∀ k : Fin 256, bits .and .u8 ((k.val : Nat) : Int) 15 = ((k.val % 16 : Nat) : Int) := by decide +kernel
    rw [hq]
    exact h1 ⟨c, hc⟩
  rw [← hq] at lo
  have HP : Hid (pX c = [hxd (c / 16), hxd q]) := by rw [hq]; rfl
  have K1 := wrb9 (hxd (c / 16)) h (by omega)
  clear hq e1
  go_enter Tryz.func107, Tryz.ntmps107
  go_wp2_with fail
  refine K1.mono ?_
  rintro e w1 ⟨v1, rfl, H1⟩
  have K2 := wrb9 (hxd q) H1.out.bs (by simp; omega)
  clear K1 hi
  go_wp2_with fail
  refine K2.mono ?_
  rintro e w2 ⟨v2, rfl, H2⟩
  have hF : Bw b B W w2 v v2 (l ++ pX c) := by
    have := H1.out.trans H2.out
    rw [HP.out]
    simpa using this
  have HF : Hid (Bw b B W w2 v v2 (l ++ pX c)) := hF
  clear hF
  clear K2 H1 H2 HP lo hand
  go_wp2
  go_end0
  exact ⟨v2, rfl, HF.out⟩
end Go.Proofs.YtmlfhplhiedfjaaGreatDoor
namespace Go.Proofs.YtmlfhplhiedfjaaGreatDoor
open Go.RowKit Math
set_option linter.unusedVariables false
set_option linter.unusedSimpArgs false
theorem bget9 (s : ByteArray) (n : Nat) (h : n < s.size) : (bts s).getD n 0 = (s[n]'h).toNat := by
  rw [List.getD_eq_getElem?_getD, bts, List.getElem?_map]
  have h2 : n < s.data.toList.length := by rw [Array.length_toList]; exact h
  rw [List.getElem?_eq_getElem h2]
  rfl
theorem conv9 (s : ByteArray) (hs : s.size ≤ 1000000000) (W : World) : ∃ c w', (convert 9 52 (.string s)).run Tryz.prog W = .ok (.slice (some ⟨W.heap.size, 0, none⟩) s.size c) w' ∧ s.size ≤ c ∧ c ≤ 9223372036854775807 ∧ Below W.heap.size W w' ∧ Cells w' W.heap.size 0 (bts s) ∧ W.heap.size < w'.heap.size := by
  have hge := grownCap_ge W s.size 0 5
  have hmx := grownCap_le_maxLen W s.size 0 5 (by unfold maxLen; omega)
  unfold maxLen at hmx
  refine ⟨_, _, run_bytes_of_string W 9 52 5 s Tryz.underlying9 Tryz.underlying52 Tryz.underlying5, hge, by omega, ?_, ?_, ?_⟩
  · exact (Below.drew (Below.refl _ _)).alloc (Nat.le_refl _) _
  · generalize grownCap W s.size 0 5 = c at *
    intro i hi
    rw [bts_len] at hi
    have hh : ((W.drew.alloc (.cells (bytesRow s c) 5 ((bytesRow s c).size, (bytesRow s c).size + 1))).heap)[W.heap.size]? = some (.cells (bytesRow s c) 5 ((bytesRow s c).size, (bytesRow s c).size + 1)) := by
      show (W.heap.push _)[W.heap.size]? = _
      simp
    unfold World.cell?
    simp only [hh, Nat.zero_add]
    rw [bget9 s i hi]
    unfold bytesRow
    rw [Array.getElem?_append_left (by rw [Array.size_map]; exact hi), Array.getElem?_map]
    have h2 : i < s.data.size := hi
    rw [Array.getElem?_eq_getElem h2]
    rfl
  · show W.heap.size < (W.heap.push _).size
    simp
/-- A row of bytes that stands beside a builder. -/
structure Rw9 (b g : Nat) (wr : World) (v : Value) (l : List Nat) : Prop where
  cl : Cells wr g 0 l
  lt : g < wr.heap.size
  nb : g ≠ b
  no : v.ownBlock ≠ some g
theorem Rw9.step {b B g : Nat} {wr w' : World} {v v' : Value} {l l' : List Nat} (h : Rw9 b g wr v l) (k : Bw b B wr w' v v' l') : Rw9 b g w' v' l := by
  have hz := k.size
  refine ⟨fun i hi => ?_, by have := h.lt; omega, h.nb, fun e => ?_⟩
  · have := h.cl i hi
    rw [← this]
    unfold World.cell?
    rw [k.keep g h.lt h.nb h.no]
  · rcases k.ob g e with c | c
    · exact h.no c
    · have := h.lt; omega
theorem Rw9.start {b B : Nat} {w w' : World} {v : Value} {l m : List Nat} (h : Bs b B w v l) (hc : Cells w' w.heap.size 0 m) (hl : w.heap.size < w'.heap.size) : Rw9 b w.heap.size w' v m :=
  ⟨hc, hl, by have := h.lt; omega, fun e => by have := (World.ownsRow.lt h.own _ e).2; omega⟩
theorem take_next {l : List Nat} {k : Nat} (h : k < l.length) : l.take (k + 1) = l.take k ++ [l.getD k 0] := by
  rw [List.take_add_one, List.getElem?_eq_getElem h, List.getD_eq_getElem?_getD, List.getElem?_eq_getElem h]
  rfl
theorem pY_next {l : List Nat} {k : Nat} (h : k < l.length) : pY (l.take (k + 1)) = pY (l.take k) ++ pX (l.getD k 0) := by
  rw [take_next h, pY_app]
  simp [pY]
theorem pS_next {l : List Nat} {k : Nat} (h : k < l.length) : pS (l.take (k + 1)) = pS (l.take k) ++ pE (l.getD k 0) := by
  rw [take_next h, pS_app]
  simp [pS]
theorem tw_any (n : Int) (w : World) : Calls Tryz.prog 55 #[.int .i64 n] w fun e w' => e = .returned (.string (if n = 1 then ⟨#[116, 114, 117, 101]⟩ else ⟨#[102, 97, 108, 115, 101]⟩)) ∧ w' = w := by
  by_cases h : n = 1
  · subst h
    go_enter Tryz.func55, Tryz.ntmps55
    go_wp2
    go_ret
    exact ⟨rfl, rfl⟩
  · have h2 : (n == 1) = false := by simpa using h
    rw [if_neg h]
    go_enter Tryz.func55, Tryz.ntmps55
    go_wp2
    go_ret
    exact ⟨rfl, rfl⟩
set_option maxRecDepth 8000 in
set_option maxHeartbeats 1000000 in
theorem wblob9 (s : ByteArray) {b B : Nat} {W : World} {v : Value} {l : List Nat} (h : Bs b B W v l) (hl : l.length + 3 * s.size ≤ 800000000) :
    Calls Tryz.prog 59 #[.pointer (some ⟨b, 0, none⟩), .string s] W fun e w' => ∃ v', e = .returned (.tuple #[]) ∧ Hid (Bw b B W w' v v' (l ++ pB s)) := by
  have K := wrs9 ⟨#[35]⟩ h (by show l.length + 1 ≤ _; omega)
  have hlt := h.lt
  clear h
  go_enter Tryz.func59, Tryz.ntmps59
  go_wp2_with fail
  refine K.mono ?_
  rintro e w1 ⟨v1, rfl, H1⟩
  obtain ⟨c, w2, hcv, hc1, hc2, hbl, hcl, hw2⟩ := conv9 s (by omega) w1
  have HI0 : Hid (Bw b B W w2 v v1 (l ++ (35 :: pY ((bts s).take 0))) ∧ Rw9 b w1.heap.size w2 v1 (bts s)) := ⟨H1.out.more hbl, Rw9.start H1.out.bs hcl hw2⟩
  clear K H1 hbl hcl hw2
  go_wp2
  go_loopw [5, 11] (fun x i wr => ∃ (k : Nat) (v2 : Value), k ≤ s.size ∧ i = .int .i64 (k : Int) ∧ Hid (Bw b B W wr v v2 (l ++ (35 :: pY ((bts s).take k))) ∧ Rw9 b w1.heap.size wr v2 (bts s))) (fun x i _ => s.size - (intOf i).toNat)
  case atStart => exact ⟨0, v1, by omega, rfl, HI0.out⟩
  case round =>
    clear HI0 hcv
    obtain ⟨k, v2, hk, rfl, HI⟩ := hrel
    by_cases hk2 : k < s.size
    · have hx := bts_oct s ((bts s).getD k 0) (by rw [List.getD_eq_getElem?_getD, List.getElem?_eq_getElem (by rw [bts_len]; exact hk2)]; exact List.getElem_mem _)
      have hcell : wr.cell? ⟨w1.heap.size, k, none⟩ = some (.int .u8 (((bts s).getD k 0 : Nat) : Int)) := by
        have := HI.out.2.cl k (by rw [bts_len]; exact hk2)
        rw [Nat.zero_add] at this
        exact this
      have HN : Hid (pY ((bts s).take (k + 1)) = pY ((bts s).take k) ++ pX ((bts s).getD k 0)) := pY_next (by rw [bts_len]; exact hk2)
      have hlen : (l ++ (35 :: pY ((bts s).take k))).length ≤ 899999990 := by
        rw [List.length_append, List.length_cons, pY_len, List.length_take, bts_len]
        omega
      have K := wpair9 ((bts s).getD k 0) hx HI.out.1.bs hlen
      generalize (bts s).getD k 0 = x at *
      clear hlen
      go_wp2_with fail
      refine K.mono ?_
      rintro e w3 ⟨v3, rfl, H3⟩
      have HI2 : Hid (Bw b B W w3 v v3 (l ++ (35 :: pY ((bts s).take (k + 1)))) ∧ Rw9 b w1.heap.size w3 v3 (bts s)) := by
        refine ⟨?_, HI.out.2.step H3.out⟩
        have := HI.out.1.trans H3.out
        rw [HN.out]
        simpa using this
      clear K H3 HI HN hcell
      go_wp2
      go_roundw
      case rel => exact ⟨k + 1, v3, by omega, by go_num, HI2.out⟩
      case measure => simp [intOf]; omega
    · have HF : Hid (Bw b B W wr v v2 (l ++ pB s)) := by
        have := HI.out.1
        rw [List.take_of_length_le (by rw [bts_len]; omega)] at this
        exact this
      clear HI
      go_wp2
      go_end0
      exact ⟨v2, rfl, HF.out⟩
end Go.Proofs.YtmlfhplhiedfjaaGreatDoor
