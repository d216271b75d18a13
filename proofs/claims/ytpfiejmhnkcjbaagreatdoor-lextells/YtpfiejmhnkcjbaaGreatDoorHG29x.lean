/-
   ·  ·  ·  ·  ·  · 
-/
import Derived.Test.YtpfiejmhnkcjbaaGreatDoorHG15x
import Derived.Test.YtpfiejmhnkcjbaaGreatDoorHG28x
import Derived.Test.YtpfiejmhnkcjbaaGreatDoorHG1x
import Derived.Test.YtpfiejmhnkcjbaaGreatDoorHG4x
import Derived.Test.YtpfiejmhnkcjbaaGreatDoorHG7x
import Derived.Test.YtpfiejmhnkcjbaaGreatDoorHG6x
import Derived.Test.YtpfiejmhnkcjbaaGreatDoorHG9x
import Derived.Laws.Pointers
namespace Go.Proofs.YtpfiejmhnkcjbaaGreatDoor
open Go.RowKit Lx
set_option linter.unusedVariables false
set_option linter.unusedSimpArgs false
end Go.Proofs.YtpfiejmhnkcjbaaGreatDoor
namespace Go.Proofs.YtpfiejmhnkcjbaaGreatDoor
open Go.RowKit Lx
set_option linter.unusedVariables false
set_option linter.unusedSimpArgs false
theorem dig_ne {d : Nat} (h : isDg d = true) : d ≠ 45 /\ d ≠ 46 := by
 unfold isDg at h
 simp at h
 omega
theorem dot_no {x : ByteArray} {l : List Nat} (hl : ∀ d ∈ l, isDg d = true) (hx : bts x = l ++ [46]) {R A B : ByteArray} {b d : Bool} (hm : D6.Minus x R b) (hc : D6.Cuts R A B d) : D6.parseV b d R A B = none := by
 have hxR : R = x /\ b = false := by
  cases hm with
  | yes h =>
    exfalso
    have e : bts x = 45 :: bts R := by unfold bts; rw [h]; rfl
    rw [hx] at e
    cases l with
    | nil => simp at e
    | cons y l =>
      simp at e
      have := dig_ne (hl y (by simp))
      omega
  | no h hr => exact ⟨hr, rfl⟩
 obtain ⟨rfl, rfl⟩ := hxR
 cases hc with
 | none h ha hb =>
   exfalso
   apply h
   have : 46 ∈ bts R := by rw [hx]; simp
   unfold bts at this
   obtain ⟨u, hu, e⟩ := List.mem_map.1 this
   have : u = 46 := UInt8.toNat_inj.1 e
   rwa [this] at hu
 | «at» h ha =>
   have e : bts R = bts A ++ 46 :: bts B := by unfold bts; rw [h]; simp
   have hA : 46 ∉ bts A := fun h46 => by
    unfold bts at h46
    obtain ⟨u, hu, e⟩ := List.mem_map.1 h46
    have : u = 46 := UInt8.toNat_inj.1 e
    rw [this] at hu
    exact ha hu
   rw [hx] at e
   have hB : bts B = [] := by
    have h1 : (l ++ [46]).length = (bts A ++ 46 :: bts B).length := by rw [e]
    have key : ∀ (l a b : List Nat), (∀ d ∈ l, isDg d = true) -> l ++ [46] = a ++ 46 :: b -> 46 ∉ a -> b = [] := by
     intro l
     induction l with
     | nil =>
       intro a b _ e h
       cases a with
       | nil => simpa using e.symm
       | cons y a => simp at e
     | cons y l ih =>
       intro a b hl e h
       cases a with
       | nil =>
         simp at e
         have := dig_ne (hl y (by simp))
         omega
       | cons z a =>
         simp at e
         exact ih a b (fun d hd => hl d (by simp [hd])) e.2 (fun h' => h (by simp [h']))
    exact key l _ _ hl e hA
   have hBl : B.data.toList = [] := by
    unfold bts at hB
    simpa using hB
   unfold D6.parseV
   rw [if_neg]
   rintro ⟨_, h2, _⟩
   have := h2 rfl
   unfold D6.partB D6.allDig at this
   rw [hBl] at this
   cases this
end Go.Proofs.YtpfiejmhnkcjbaaGreatDoor
namespace Go.Proofs.YtpfiejmhnkcjbaaGreatDoor
open Math
set_option linter.unusedVariables false
def hxd (n : Nat) : Nat := if n < 10 then 48 + n else 87 + n
def pX (c : Nat) : List Nat := [hxd (c / 16), hxd (c % 16)]
def pE (c : Nat) : List Nat := if c = 39 then [39, 39] else if c < 32 ∨ 126 < c ∨ c = 92 then 92 :: pX c else [c]
def pS : List Nat -> List Nat
 | [] => []
 | c :: l => pE c ++ pS l
def pQ (s : ByteArray) : List Nat := 39 :: (pS (bts s) ++ [39])
def pY : List Nat -> List Nat
 | [] => []
 | c :: l => pX c ++ pY l
def pB (s : ByteArray) : List Nat := 35 :: pY (bts s)
def dcB (n : Nat) : ByteArray := ⟨(Lib.decDigits n).toArray⟩
def pD (n : Nat) : List Nat := bts (dcB n)
def pN (n : Int) (s : Nat) : List Nat := bts (D6.txt n s (dcB n.natAbs))
def pH (h : Hd) (kids : List Nat) : List Nat :=
 if h.k = 1 then [110, 117, 108, 108] else if h.k = 2 then (if h.n = 1 then [116, 114, 117, 101] else [102, 97, 108, 115, 101])
 else if h.k = 3 then pN h.n h.s.toNat else if h.k = 4 then pN h.n h.s.toNat else if h.k = 5 then 64 :: pD h.n.toNat
 else if h.k = 6 then pQ h.t else if h.k = 7 then pB h.t else if h.k = 8 then 91 :: (kids ++ [93]) else 123 :: (kids ++ [125])
def prF : Fo -> Bool -> List ByteArray -> Bool -> List Nat
 | .nil, _, _, _ => []
 | .cons h k r, b, ns, z => (if z then [] else [44, 32]) ++ ((if b then pQ (ns.headD ⟨#[]⟩) ++ [58, 32] else []) ++ (pH h (prF k (decide (h.k = 9)) h.ns true) ++ prF r b ns.tail false))
def prV (p : Vt) : List Nat := pH p.1 (prF p.2 (decide (p.1.k = 9)) p.1.ns true)
theorem prF_cons (p : Vt) (r : Fo) (b : Bool) (ns : List ByteArray) (z : Bool) : prF (.cons p.1 p.2 r) b ns z = (if z then [] else [44, 32]) ++ ((if b then pQ (ns.headD ⟨#[]⟩) ++ [58, 32] else []) ++ (prV p ++ prF r b ns.tail false)) := rfl
theorem prF_drop {f : Fo} {b : Bool} {ns : List ByteArray} {k : Nat} {z : Bool} {q : Vt} (h : f.list[k]? = some q) : prF (f.drop k) b (ns.drop k) z = (if z then [] else [44, 32]) ++ ((if b then pQ ((ns.drop k).headD ⟨#[]⟩) ++ [58, 32] else []) ++ (prV q ++ prF (f.drop (k + 1)) b (ns.drop (k + 1)) false)) := by
 rw [Fo.drop_at f k q h, prF_cons]
 congr 4
 simp
theorem prF_false : ∀ (f : Fo) (ns ms : List ByteArray) (z : Bool), prF f false ns z = prF f false ms z
 | .nil, _, _, _ => rfl
 | .cons h k r, ns, ms, z => by
   rw [prF_cons (h, k), prF_cons (h, k), prF_false r ns.tail ms.tail]
   rfl
theorem hxd_lt {n : Nat} (h : n < 16) : hxd n < 128 /\ 48 <= hxd n := by
 unfold hxd; split <;> omega
theorem pS_app (l m : List Nat) : pS (l ++ m) = pS l ++ pS m := by
 induction l with
 | nil => rfl
 | cons x l ih => rw [List.cons_append, pS, pS, ih, List.append_assoc]
theorem pY_app (l m : List Nat) : pY (l ++ m) = pY l ++ pY m := by
 induction l with
 | nil => rfl
 | cons x l ih => rw [List.cons_append, pY, pY, ih, List.append_assoc]
def Pln (l : List Nat) : Prop := ∀ x ∈ l, 32 <= x /\ x <= 126
theorem Pln.app {l m : List Nat} (h : Pln l) (g : Pln m) : Pln (l ++ m) := fun x hx => by
 rcases List.mem_append.1 hx with hx | hx
 . exact h x hx
 . exact g x hx
theorem Pln.oct {l : List Nat} (h : Pln l) : Oct l := fun x hx => by have := h x hx; omega
theorem pX_pln {c : Nat} (h : c < 256) : Pln (pX c) := fun x hx => by
 have h1 := hxd_lt (n := c / 16) (by omega)
 have h2 := hxd_lt (n := c % 16) (by omega)
 have h3 : hxd (c / 16) <= 126 := by unfold hxd; split <;> omega
 have h4 : hxd (c % 16) <= 126 := by unfold hxd; split <;> omega
 simp only [pX, List.mem_cons, List.not_mem_nil, or_false] at hx
 rcases hx with rfl | rfl <;> omega
theorem pE_pln {c : Nat} (h : c < 256) : Pln (pE c) := by
 unfold pE
 split
 . intro x hx; simp at hx; omega
 split
 . intro x hx
   rcases List.mem_cons.1 hx with rfl | hx
   . omega
   . exact pX_pln h x hx
 . next h1 =>
   intro x hx
   simp at hx
   subst hx
   omega
theorem pS_pln : ∀ {l : List Nat}, Oct l -> Pln (pS l)
 | [], _ => fun x hx => by cases hx
 | c :: l, h => (pE_pln (h c (by simp))).app (pS_pln fun x hx => h x (by simp [hx]))
theorem pY_pln : ∀ {l : List Nat}, Oct l -> Pln (pY l)
 | [], _ => fun x hx => by cases hx
 | c :: l, h => (pX_pln (h c (by simp))).app (pY_pln fun x hx => h x (by simp [hx]))
theorem pln_one {c : Nat} (h : 32 <= c /\ c <= 126) : Pln [c] := fun x hx => by simp at hx; omega
theorem pln_two {c d : Nat} (h : 32 <= c /\ c <= 126) (g : 32 <= d /\ d <= 126) : Pln [c, d] := fun x hx => by simp at hx; omega
theorem Pln.cons {c : Nat} {l : List Nat} (h : 32 <= c /\ c <= 126) (g : Pln l) : Pln (c :: l) := fun x hx => by
 rcases List.mem_cons.1 hx with rfl | hx
 . exact h
 . exact g x hx
theorem pQ_pln (s : ByteArray) : Pln (pQ s) := Pln.cons (by omega) ((pS_pln (bts_oct s)).app (pln_one (by omega)))
theorem pB_pln (s : ByteArray) : Pln (pB s) := Pln.cons (by omega) (pY_pln (bts_oct s))
theorem pE_len (c : Nat) : 1 <= (pE c).length /\ (pE c).length <= 3 := by
 unfold pE
 split
 . simp
 split
 . simp [pX]
 . simp
theorem pS_len : ∀ l : List Nat, l.length <= (pS l).length /\ (pS l).length <= 3 * l.length
 | [] => by simp [pS]
 | c :: l => by
   have h1 := pE_len c
   have h2 := pS_len l
   rw [pS, List.length_append, List.length_cons]
   omega
theorem pY_len : ∀ l : List Nat, (pY l).length = 2 * l.length
 | [] => rfl
 | c :: l => by
   have := pY_len l
   rw [pY, List.length_append, List.length_cons, this]
   simp [pX]
   omega
theorem pQ_len (s : ByteArray) : s.size + 2 <= (pQ s).length /\ (pQ s).length <= 3 * s.size + 2 := by
 have := pS_len (bts s)
 rw [bts_len] at this
 unfold pQ
 simp only [List.length_cons, List.length_append, List.length_nil]
 omega
theorem pB_len (s : ByteArray) : (pB s).length = 2 * s.size + 1 := by
 unfold pB
 rw [List.length_cons, pY_len, bts_len]
end Go.Proofs.YtpfiejmhnkcjbaaGreatDoor
namespace Go.Proofs.YtpfiejmhnkcjbaaGreatDoor
open Go.RowKit Math
set_option linter.unusedVariables false
set_option linter.unusedSimpArgs false
theorem byt_ext9 {a : ByteArray} (h : a.toList = []) : a = ⟨#[]⟩ := by
 rw [ByteArray.toList_eq] at h
 obtain ⟨⟨l⟩⟩ := a
 simp only at h
 rw [h]
theorem form9 {h : Hd} {kl : Nat} (hf : formed h kl = true) : (h.k = 1 ∨ h.k = 2 ∨ h.k = 3 ∨ h.k = 4 ∨ h.k = 5 ∨ h.k = 6 ∨ h.k = 7 ∨ h.k = 8 ∨ h.k = 9) /\ (h.k ≠ 2 -> h.k ≠ 3 -> h.k ≠ 4 -> h.k ≠ 5 -> h.n = 0) /\ (h.k ≠ 4 -> h.s = 0) /\ (h.k ≠ 6 -> h.k ≠ 7 -> h.t = ⟨#[]⟩) /\ (h.k ≠ 9 -> h.ns = []) /\ (h.k ≠ 8 -> h.k ≠ 9 -> kl = 0) := by
 by_cases hk : h.k = 1 ∨ h.k = 2 ∨ h.k = 3 ∨ h.k = 4 ∨ h.k = 5 ∨ h.k = 6 ∨ h.k = 7 ∨ h.k = 8 ∨ h.k = 9
 . refine ⟨hk, ?_⟩
   have ht : h.t.toList = [] -> h.t = ⟨#[]⟩ := byt_ext9
   rcases hk with hk | hk | hk | hk | hk | hk | hk | hk | hk <;> simp [formed, only, hk] at hf <;> simp [hk] <;> simp_all
 . simp only [not_or] at hk
   obtain ⟨k1, k2, k3, k4, k5, k6, k7, k8, k9⟩ := hk
   simp [formed, k1, k2, k3, k4, k5, k6, k7, k8, k9] at hf
theorem nil9 {f : Fo} (h : f.list.length = 0) : f = .nil := by
 cases f with
 | nil => rfl
 | cons a b c => simp [Fo.list] at h
theorem ckv9 {p : Vt} {d : Int} (h : chkV p d = 0) : ¬ 16 < d /\ own p.1 p.2.list.length = 0 /\ chk p.2 (d + 1) = 0 := by
 unfold chkV at h
 split at h
 . cases h
 . next h1 =>
   split at h
   . next h2 => exact absurd h h2
   . next h2 => exact ⟨h1, Classical.byContradiction h2, h⟩
theorem flat9 {p : Vt} {d : Int} (h : chkV p d = 0) (h8 : p.1.k ≠ 8) (h9 : p.1.k ≠ 9) : p = (⟨p.1.k, p.1.n, p.1.s, p.1.t, []⟩, .nil) := by
 obtain ⟨_, ho, _⟩ := ckv9 h
 obtain ⟨hk, a1, a2, a3, a4, a5⟩ := form9 (own_fine ho).1
 have e1 := nil9 (a5 h8 h9)
 have e2 := a4 h9
 obtain ⟨⟨k, n, s, t, ns⟩, f⟩ := p
 simp only at e1 e2 ⊢
 rw [e1, e2]
theorem num9 {h : Hd} {kl : Nat} (hw : Hok h) (ho : own h kl = 0) (hk : h.k = 3 ∨ h.k = 4) : D6.Nu h.n h.s.toNat /\ 0 <= h.s /\ (h.s = 0 ↔ h.k = 3) := by
 have hf := (own_fine ho).1
 have a2 := (form9 hf).2.2.1
 unfold formed at hf
 rcases hk with hk | hk
 . have := a2 (by omega)
   exact ⟨⟨hw.n0, hw.n1, by rw [this]; decide, .inl (by rw [this]; rfl)⟩, by omega, by simp [this, hk]⟩
 . simp [hk] at hf
   obtain ⟨⟨⟨_, h1⟩, h2⟩, h3⟩ := hf
   refine ⟨⟨hw.n0, hw.n1, by omega, .inr fun e => h3 ?_⟩, by omega, by constructor <;> intro <;> omega⟩
   exact Int.tmod_eq_zero_of_dvd (Int.dvd_of_emod_eq_zero e)
def nsg (c : Nat) : Bool := decide (c = 45 ∨ c = 46 ∨ (48 <= c /\ c <= 57))
theorem dig_nsg {l : List UInt8} (h : l.all D6.dig10 = true) : ∀ x ∈ l.map UInt8.toNat, nsg x = true := fun x hx => by
 obtain ⟨y, hy, rfl⟩ := List.mem_map.1 hx
 have := List.all_eq_true.1 h y hy
 unfold D6.dig10 at this
 unfold nsg
 simp only [decide_eq_true_eq] at this ⊢
 omega
theorem dcB_list (n : Nat) : (dcB n).data.toList = Lib.decDigits n := by simp [dcB]
theorem pN_body (n : Int) (s : Nat) (hN : D6.Nu n s) : ∃ x r, bts (if s = 0 then dcB n.natAbs else D6.dotN (dcB n.natAbs) s) = x :: r /\ (48 <= x /\ x <= 57) /\ ∀ y ∈ x :: r, nsg y = true := by
 obtain ⟨x, r, h1, h2⟩ := D6.body_head n s hN (dcB n.natAbs) (dcB_list _)
 refine ⟨x.toNat, r.map UInt8.toNat, by unfold bts; rw [h1]; rfl, by unfold D6.dig10 at h2; simpa using h2, ?_⟩
 have e : x.toNat :: r.map UInt8.toNat = bts (if s = 0 then dcB n.natAbs else D6.dotN (dcB n.natAbs) s) := by unfold bts; rw [h1]; rfl
 rw [e]
 by_cases s0 : s = 0
 . rw [if_pos s0]
   unfold bts
   rw [dcB_list]
   exact dig_nsg (D6.dec_num _ _ (Nat.le_refl _)).2.1
 . rw [if_neg s0]
   obtain ⟨a, b, h3, h4, h5, _⟩ := D6.dot_parts n.natAbs s (by omega) (by have := hN.n0; have := hN.n1; omega) (dcB n.natAbs) (dcB_list _)
   unfold bts
   rw [h3, List.map_append, List.map_cons]
   intro y hy
   rcases List.mem_append.1 hy with hy | hy
   . exact dig_nsg h4 y hy
   . rcases List.mem_cons.1 hy with rfl | hy
     . decide
     . exact dig_nsg h5 y hy
theorem bts_app9 (s t : ByteArray) : bts (s ++ t) = bts s ++ bts t := by
 unfold bts
 rw [show (s ++ t).data.toList = s.data.toList ++ t.data.toList by simp [ByteArray.data_append], List.map_append]
theorem pN_first (n : Int) (s : Nat) (hN : D6.Nu n s) : ∃ x r, pN n s = x :: r /\ (x = 45 ∨ (48 <= x /\ x <= 57)) /\ ∀ y ∈ x :: r, nsg y = true := by
 obtain ⟨x, r, h1, h2, h3⟩ := pN_body n s hN
 unfold pN D6.txt
 split
 . refine ⟨45, x :: r, by rw [bts_app9, h1]; rfl, .inl rfl, fun y hy => ?_⟩
   rcases List.mem_cons.1 hy with rfl | hy
   . decide
   . exact h3 y hy
 . exact ⟨x, r, h1, .inr h2, h3⟩
theorem nsg_pln {c : Nat} (h : nsg c = true) : 32 <= c /\ c <= 126 := by
 unfold nsg at h
 simp only [decide_eq_true_eq] at h
 omega
theorem pN_nat (n : Nat) : pN (n : Int) 0 = pD n := by
 unfold pN D6.txt pD
 rw [if_neg (by omega), if_pos rfl, Int.natAbs_natCast]
theorem nat_nu {n : Nat} (h : n <= 9007199254740992) : D6.Nu (n : Int) 0 := ⟨by omega, by omega, by omega, .inl rfl⟩
theorem pN_len (n : Int) (s : Nat) (hN : D6.Nu n s) : (pN n s).length <= 41 := by
 have h1 := D6.dig_size n.natAbs (by have := hN.n0; have := hN.n1; omega)
 have h2 := D6.dotN_size (dcB n.natAbs) s h1.1 h1.2 hN.t1
 have hb : (if s = 0 then dcB n.natAbs else D6.dotN (dcB n.natAbs) s).size <= 40 := by
  split
  . have := h1.2
    show (dcB n.natAbs).size <= 40
    unfold dcB
    omega
  . exact h2
 unfold pN D6.txt
 rw [bts_len]
 split
 . rw [ByteArray.size_append]
   have : (⟨#[45]⟩ : ByteArray).size = 1 := rfl
   omega
 . omega
def fst9 (k : Int) (c : Nat) : Prop := (k = 1 /\ c = 110) ∨ (k = 2 /\ (c = 116 ∨ c = 102)) ∨ ((k = 3 ∨ k = 4) /\ (c = 45 ∨ (48 <= c /\ c <= 57))) ∨ (k = 5 /\ c = 64) ∨ (k = 6 /\ c = 39) ∨ (k = 7 /\ c = 35) ∨ (k = 8 /\ c = 91) ∨ (k = 9 /\ c = 123)
theorem pr_first {p : Vt} {d : Int} (hw : WfV p) (h : chkV p d = 0) : ∃ c t, prV p = c :: t /\ fst9 p.1.k c := by
 obtain ⟨_, ho, _⟩ := ckv9 h
 have hk := (form9 (own_fine ho).1).1
 unfold prV pH fst9
 rcases hk with hk | hk | hk | hk | hk | hk | hk | hk | hk
 . exact ⟨110, [117, 108, 108], by simp [hk], by simp [hk]⟩
 . by_cases h1 : p.1.n = 1
   . exact ⟨116, [114, 117, 101], by simp [hk, h1], by simp [hk]⟩
   . exact ⟨102, [97, 108, 115, 101], by simp [hk, h1], by simp [hk]⟩
 . obtain ⟨x, r, e1, e2, _⟩ := pN_first _ _ (num9 hw.1 ho (.inl hk)).1
   exact ⟨x, r, by simp [hk, e1], by simp [hk]; exact e2⟩
 . obtain ⟨x, r, e1, e2, _⟩ := pN_first _ _ (num9 hw.1 ho (.inr hk)).1
   exact ⟨x, r, by simp [hk, e1], by simp [hk]; exact e2⟩
 . exact ⟨64, pD p.1.n.toNat, by simp [hk], by simp [hk]⟩
 . exact ⟨39, pS (bts p.1.t) ++ [39], by simp [hk, pQ], by simp [hk]⟩
 . exact ⟨35, pY (bts p.1.t), by simp [hk, pB], by simp [hk]⟩
 . exact ⟨91, prF p.2 false p.1.ns true ++ [93], by simp [hk], by simp [hk]⟩
 . exact ⟨123, prF p.2 true p.1.ns true ++ [125], by simp [hk], by simp [hk]⟩
theorem first_of {p : Vt} {d : Int} {c : Nat} {l m : List Nat} (hw : WfV p) (h : chkV p d = 0) (e : c :: l = prV p ++ m) : fst9 p.1.k c := by
 obtain ⟨x, t, e1, e2⟩ := pr_first hw h
 rw [e1, List.cons_append] at e
 injection e with e _
 subst e
 exact e2
def Stp (m : List Nat) : Prop := m = [] ∨ ∃ c t, m = c :: t /\ (c = 44 ∨ c = 93 ∨ c = 125)
structure Rt {α : Type} (enc : α -> List Nat) (Pc : α -> List Nat -> Prop) (l : List Nat) (bad : Bool) (l' : List Nat) (bad' : Bool) (x : α) : Prop where
 suf : ∃ c, l = c ++ l'
 st : bad = true -> bad' = true
 co : bad = false -> ∀ y m, Pc y m -> l = enc y ++ m -> bad' = false /\ x = y /\ l' = m
theorem Rt.stay {α : Type} {enc : α -> List Nat} {Pc : α -> List Nat -> Prop} {l l' : List Nat} {bad bad' : Bool} {x : α} (h : Rt enc Pc l bad l' bad' x) (hb : bad' = false) : bad = false := by
 cases hbb : bad with
 | false => rfl
 | true => rw [h.st hbb] at hb; cases hb
theorem suf_trans {l l1 l2 : List Nat} (h : ∃ c, l = c ++ l1) (g : ∃ c, l1 = c ++ l2) : ∃ c, l = c ++ l2 := by
 obtain ⟨c, rfl⟩ := h
 obtain ⟨e, rfl⟩ := g
 exact ⟨c ++ e, by rw [List.append_assoc]⟩
abbrev Rm (mark l : List Nat) (bad : Bool) (l' : List Nat) (bad' : Bool) : Prop := Rt (fun _ : Unit => mark) (fun _ _ => True) l bad l' bad' ()
theorem rm_yes (mark l' : List Nat) (bad : Bool) : Rm mark (mark ++ l') bad l' bad :=
 ⟨⟨mark, rfl⟩, id, fun h y m _ e => ⟨h, rfl, List.append_cancel_left e⟩⟩
theorem rm_no {mark l : List Nat} {bad : Bool} (h : bad = false -> ∀ t, l ≠ mark ++ t) : Rm mark l bad l true :=
 ⟨⟨[], rfl⟩, fun _ => rfl, fun hb y m _ e => absurd e (h hb m)⟩
structure Vx (d : Int) (l : List Nat) (bad : Bool) (l' : List Nat) (bad' : Bool) (v : Vt) : Prop where
 rt : Rt prV (fun y m => WfV y /\ chkV y d = 0 /\ Stp m) l bad l' bad' v
 pr : bad' = false -> ws v + l'.length <= l.length
theorem vx_of {α : Type} {enc : α -> List Nat} {Pc : α -> List Nat -> Prop} {d : Int} {l l' : List Nat} {bad bad' : Bool} {x : α} (mk : α -> Vt) (R : Rt enc Pc l bad l' bad' x)
 (h2 : ∀ (y : Vt) m, WfV y -> chkV y d = 0 -> Stp m -> l = prV y ++ m -> ∃ z, y = mk z /\ Pc z m /\ prV y = enc z)
 (hw : bad' = false -> ws (mk x) + l'.length <= l.length) : Vx d l bad l' bad' (mk x) := by
 refine ⟨⟨R.suf, R.st, fun hb y m ⟨w1, w2, w3⟩ e => ?_⟩, hw⟩
 obtain ⟨z, z1, z2, z3⟩ := h2 y m w1 w2 w3 e
 obtain ⟨a1, a2, a3⟩ := R.co hb z m z2 (by rw [<- z3]; exact e)
 exact ⟨a1, by rw [a2, z1], a3⟩
theorem ws_lf (k n s : Int) (t : ByteArray) : ws (lf k n s t) = 1 + t.size / 20 := by simp [ws, wsH, lf, Fo.ws]
theorem vx_null {d : Int} {t l' : List Nat} {bad bad' : Bool} (R : Rm [110, 117, 108, 108] (110 :: t) bad l' bad') (hp : bad' = false -> l'.length < (110 :: t).length) : Vx d (110 :: t) bad l' bad' (lf 1 0 0 em) := by
 refine vx_of (fun _ => lf 1 0 0 em) R (fun y m w1 hc _ e => ⟨(), ?_⟩) (fun h => by have := hp h; rw [ws_lf, show em.size = 0 from rfl]; omega)
 have hf := first_of w1 hc e
 obtain ⟨hk, a1, a2, a3, a4, a5⟩ := form9 (own_fine (ckv9 hc).2.1).1
 have k1 : y.1.k = 1 := by unfold fst9 at hf; omega
 have ey : y = lf 1 0 0 em := by rw [flat9 hc (by omega) (by omega), k1, a1 (by omega) (by omega) (by omega) (by omega), a2 (by omega), a3 (by omega) (by omega)]; rfl
 exact ⟨ey, trivial, by rw [ey]; rfl⟩
structure Num9 (h : Hd) : Prop where
 nu : D6.Nu h.n h.s.toNat
 s0 : 0 <= h.s
 k : h.k = D6.kd h.s.toNat
 t : h.t = em
 ns : h.ns = []
theorem vx_text {d : Int} {t l' : List Nat} {bad bad' : Bool} {s : ByteArray} (R : Rt pQ (fun _ m => ∀ t, m ≠ 39 :: t) (39 :: t) bad l' bad' s) (hp : bad' = false -> s.size + 1 + l'.length <= (39 :: t).length) : Vx d (39 :: t) bad l' bad' (lf 6 0 0 s) := by
 refine vx_of (fun s => lf 6 0 0 s) R (fun y m w1 hc hst e => ⟨y.1.t, ?_⟩) (fun h => by have := hp h; rw [ws_lf]; omega)
 have hf := first_of w1 hc e
 obtain ⟨_, ho, _⟩ := ckv9 hc
 obtain ⟨_, a1, a2, a3, a4, a5⟩ := form9 (own_fine ho).1
 have k1 : y.1.k = 6 := by unfold fst9 at hf; omega
 have ey : y = lf 6 0 0 y.1.t := by
  have h := flat9 hc (by omega) (by omega)
  rw [k1, a1 (by omega) (by omega) (by omega) (by omega), a2 (by omega)] at h
  exact h
 refine ⟨ey, fun t e => ?_, by unfold prV pH; simp [k1]⟩
 rcases hst with h | ⟨c, t', h, h2⟩
 . rw [h] at e; cases e
 . rw [h] at e; injection e with e _; omega
end Go.Proofs.YtpfiejmhnkcjbaaGreatDoor
namespace Go.Proofs.YtpfiejmhnkcjbaaGreatDoor
open Go.RowKit Math
set_option linter.unusedVariables false
set_option linter.unusedSimpArgs false
def isHx (c : Nat) : Bool := decide ((48 <= c /\ c <= 57) ∨ (97 <= c /\ c <= 102))
theorem hxd_is {n : Nat} (h : n < 16) : isHx (hxd n) = true := by
 unfold isHx hxd
 simp only [decide_eq_true_eq]
 split <;> omega
theorem hxd_inj {m n : Nat} (hm : m < 16) (hn : n < 16) (h : hxd m = hxd n) : m = n := by
 unfold hxd at h
 split at h <;> split at h <;> omega
abbrev Rh (l : List Nat) (bad : Bool) (l' : List Nat) (bad' : Bool) (c : Nat) : Prop := Rt (fun c : Nat => [hxd c]) (fun c _ => c < 16) l bad l' bad' c
abbrev Rp (l : List Nat) (bad : Bool) (l' : List Nat) (bad' : Bool) (c : Nat) : Prop := Rt pX (fun c _ => c < 256) l bad l' bad' c
theorem rp_of {l l1 l2 : List Nat} {bad bad1 bad2 : Bool} {a b c : Nat} (R1 : Rh l bad l1 bad1 a) (R2 : Rh l1 bad1 l2 bad2 b) (hc : c = a * 16 + b) : Rp l bad l2 bad2 c := by
 refine ⟨suf_trans R1.suf R2.suf, fun h => R2.st (R1.st h), fun hb y m hy e => ?_⟩
 obtain ⟨a1, a2, a3⟩ := R1.co hb (y / 16) ([hxd (y % 16)] ++ m) (by omega) e
 obtain ⟨b1, b2, b3⟩ := R2.co a1 (y % 16) m (by omega) a3
 exact ⟨b1, by omega, b3⟩
structure Tx (l : List Nat) (bad : Bool) (lk : List Nat) (badk : Bool) (acc : List Nat) : Prop where
 suf : ∃ c, l = c ++ lk
 st : bad = true -> badk = true
 co : bad = false -> ∀ (y : ByteArray) m, (∀ t, m ≠ 39 :: t) -> l = pQ y ++ m -> badk = false /\ ∃ y2, bts y = acc ++ y2 /\ lk = pS y2 ++ (39 :: m)
 pr : badk = false -> acc.length + 1 + lk.length <= l.length
 oc : Oct acc
theorem Tx.start {l l1 : List Nat} {bad bad1 : Bool} (R : Rm [39] l bad l1 bad1) (hp : bad1 = false -> 1 + l1.length <= l.length) : Tx l bad l1 bad1 [] :=
 ⟨R.suf, R.st, fun hb y m hm e => by
   obtain ⟨a1, _, a3⟩ := R.co hb () (pS (bts y) ++ ([39] ++ m)) trivial (by rw [e]; simp [pQ])
   exact ⟨a1, bts y, rfl, by rw [a3]; rfl⟩, fun h => by have := hp h; simp only [List.length_nil]; omega, fun x hx => by cases hx⟩
theorem pE_cases (c : Nat) : (c = 39 /\ pE c = [39, 39]) ∨ (c ≠ 39 /\ pE c = 92 :: pX c) ∨ (c ≠ 39 /\ c ≠ 92 /\ pE c = [c]) := by
 unfold pE
 by_cases h : c = 39
 . exact .inl ⟨h, by rw [if_pos h]⟩
 by_cases h2 : c < 32 ∨ 126 < c ∨ c = 92
 . exact .inr (.inl ⟨h, by rw [if_neg h, if_pos h2]⟩)
 . exact .inr (.inr ⟨h, fun e => h2 (.inr (.inr e)), by rw [if_neg h, if_neg h2]⟩)
section
variable {l lk l1 l2 : List Nat} {bad badk bad2 : Bool} {acc : List Nat}
theorem Tx.quote (h : Tx l bad lk badk acc) (e : lk = 39 :: 39 :: l2) : Tx l bad l2 badk (acc ++ [39]) := by
 refine ⟨suf_trans h.suf ⟨[39, 39], by rw [e]; rfl⟩, h.st, fun hb y m hm el => ?_, fun hp => ?_, h.oc.app (fun x hx => by simp at hx; omega)⟩
 . obtain ⟨a1, y2, a2, a3⟩ := h.co hb y m hm el
   refine ⟨a1, ?_⟩
   cases y2 with
   | nil =>
     rw [e] at a3
     injection a3 with _ a3
     exact absurd a3.symm (hm l2)
   | cons c y3 =>
     rw [e] at a3
     have a3 : 39 :: 39 :: l2 = (pE c ++ pS y3) ++ (39 :: m) := a3
     rcases pE_cases c with ⟨rfl, hc⟩ | ⟨hc, h2⟩ | ⟨hc, _, h2⟩
     . rw [hc] at a3
       injection a3 with _ a3
       injection a3 with _ a3
       exact ⟨y3, by rw [a2]; simp, a3⟩
     . rw [h2] at a3
       injection a3 with a3 _
       cases a3
     . rw [h2] at a3
       injection a3 with a3 _
       exact absurd a3.symm hc
 . have := h.pr hp
   rw [e] at this
   simp only [List.length_append, List.length_cons, List.length_nil] at this ⊢
   omega
theorem Tx.done (h : Tx l bad lk badk acc) (e : lk = 39 :: l1) (hn : ∀ t, l1 ≠ 39 :: t) : Rt pQ (fun _ m => ∀ t, m ≠ 39 :: t) l bad l1 badk (ofB acc) := by
 refine ⟨suf_trans h.suf ⟨[39], by rw [e]; rfl⟩, h.st, fun hb y m hm el => ?_⟩
 obtain ⟨a1, y2, a2, a3⟩ := h.co hb y m hm el
 refine ⟨a1, ?_⟩
 cases y2 with
 | nil =>
   rw [e] at a3
   injection a3 with _ a3
   rw [List.append_nil] at a2
   exact ⟨by rw [<- a2, ofB_bts], a3⟩
 | cons c y3 =>
   exfalso
   rw [e] at a3
   have a3 : 39 :: l1 = (pE c ++ pS y3) ++ (39 :: m) := a3
   rcases pE_cases c with ⟨rfl, hc⟩ | ⟨hc, h2⟩ | ⟨hc, _, h2⟩
   . rw [hc] at a3
     injection a3 with _ a3
     exact hn _ a3
   . rw [h2] at a3
     injection a3 with a3 _
     cases a3
   . rw [h2] at a3
     injection a3 with a3 _
     exact absurd a3.symm hc
theorem Tx.esc {x : Nat} (h : Tx l bad lk badk acc) (e : lk = 92 :: l1) (R : Rp l1 badk l2 bad2 x) (hx : x < 256) (hp : bad2 = false -> 1 + l2.length <= l1.length) : Tx l bad l2 bad2 (acc ++ [x]) := by
 refine ⟨suf_trans h.suf (suf_trans ⟨[92], by rw [e]; rfl⟩ R.suf), fun hb => R.st (h.st hb), fun hb y m hm el => ?_, fun hq => ?_, h.oc.app (fun z hz => by simp at hz; omega)⟩
 . obtain ⟨a1, y2, a2, a3⟩ := h.co hb y m hm el
   cases y2 with
   | nil =>
     rw [e] at a3
     injection a3 with a3 _
     cases a3
   | cons c y3 =>
     rw [e] at a3
     have a3 : 92 :: l1 = (pE c ++ pS y3) ++ (39 :: m) := a3
     have hc2 : c < 256 := bts_oct y c (by rw [a2]; simp)
     rcases pE_cases c with ⟨rfl, hc⟩ | ⟨hc, h2⟩ | ⟨hc, h9, h2⟩
     . rw [hc] at a3
       injection a3 with a3 _
       cases a3
     . rw [h2] at a3
       injection a3 with _ a3
       obtain ⟨b1, b2, b3⟩ := R.co a1 c (pS y3 ++ (39 :: m)) hc2 (by rw [a3]; simp)
       exact ⟨b1, y3, by rw [a2, b2]; simp, b3⟩
     . rw [h2] at a3
       injection a3 with a3 _
       exact absurd a3.symm h9
 . have h1 := h.pr (R.stay hq)
   have h2 := hp hq
   rw [e] at h1
   simp only [List.length_append, List.length_cons, List.length_nil] at h1 ⊢
   omega
theorem Tx.plain {x : Nat} (h : Tx l bad lk badk acc) (e : lk = x :: l1) (h39 : x ≠ 39) (h92 : x ≠ 92) (hx : x < 256) : Tx l bad l1 badk (acc ++ [x]) := by
 refine ⟨suf_trans h.suf ⟨[x], by rw [e]; rfl⟩, h.st, fun hb y m hm el => ?_, fun hq => ?_, h.oc.app (fun z hz => by simp at hz; omega)⟩
 . obtain ⟨a1, y2, a2, a3⟩ := h.co hb y m hm el
   refine ⟨a1, ?_⟩
   cases y2 with
   | nil =>
     rw [e] at a3
     injection a3 with a3 _
     exact absurd a3 h39
   | cons c y3 =>
     rw [e] at a3
     have a3 : x :: l1 = (pE c ++ pS y3) ++ (39 :: m) := a3
     rcases pE_cases c with ⟨rfl, hc⟩ | ⟨hc, h2⟩ | ⟨hc, _, h2⟩
     . rw [hc] at a3
       injection a3 with a3 _
       exact absurd a3 h39
     . rw [h2] at a3
       injection a3 with a3 _
       exact absurd a3 h92
     . rw [h2] at a3
       injection a3 with a3 a4
       exact ⟨y3, by rw [a2, a3]; simp, a4⟩
 . have h1 := h.pr hq
   rw [e] at h1
   simp only [List.length_append, List.length_cons, List.length_nil] at h1 ⊢
   omega
theorem Tx.none (h : Tx l bad [] badk acc) (z : ByteArray) : Rt pQ (fun _ m => ∀ t, m ≠ 39 :: t) l bad [] true z :=
 ⟨h.suf, fun _ => rfl, fun hb y m hm el => by
   obtain ⟨a1, y2, a2, a3⟩ := h.co hb y m hm el
   exfalso
   have := congrArg List.length a3
   simp at this⟩
theorem Tx.isBad (h : Tx l bad lk true acc) (z : ByteArray) : Rt pQ (fun _ m => ∀ t, m ≠ 39 :: t) l bad lk true z :=
 ⟨h.suf, fun _ => rfl, fun hb y m hm el => by
   have := (h.co hb y m hm el).1
   cases this⟩
end
section
variable {l lk l1 l2 : List Nat} {bad badk bad2 : Bool} {acc : List Nat}
end
section
variable {b : Bool} {d : Int} {l lk l1 l2 l3 l4 : List Nat} {bad badk bad1 bad2 bad3 bad4 : Bool} {f : Fo} {ns : List ByteArray} {v : Vt}
end
end Go.Proofs.YtpfiejmhnkcjbaaGreatDoor
namespace Go.Proofs.YtpfiejmhnkcjbaaGreatDoor
open Go.RowKit Math
set_option linter.unusedVariables false
set_option linter.unusedSimpArgs false
structure Kr (t : TypeId) (r : Nat) (W wr : World) (rc : List Value) : Prop where
 blk : Blk wr r t rc
 gr : W.grownBy wr (some r)
theorem Kr.trans {t : TypeId} {r : Nat} {W w1 w2 : World} {rc rc' : List Value} (h : Kr t r W w1 rc) (k : Kr t r w1 w2 rc') : Kr t r W w2 rc' := ⟨k.blk, h.gr.trans k.gr⟩
theorem Kr.then {t : TypeId} {r : Nat} {W w1 w2 : World} {rc : List Value} (h : Kr t r W w1 rc) (k : Below w1.heap.size w1 w2) : Kr t r W w2 rc :=
 ⟨h.blk.below k h.blk.lt, ⟨k.os.trans h.gr.os, k.tape.trans h.gr.tape, k.output.trans h.gr.output, Nat.le_trans h.gr.size k.size, fun x hx hne => (k.block x (Nat.lt_of_lt_of_le hx h.gr.size)).trans (h.gr.block x hx hne)⟩⟩
section
variable {t : TypeId} {B g6 g8 r : Nat} {W : World} {k : Int} {wr w' : World} {rc rc' : List Value} {ns : List ByteArray} {f : Fo} {vn vk : Value} {cs : List Value} {Lf : List Nat}
theorem kr_grown {w1 : World} {row : Option Nat} (h : Kr t r W wr rc) (g : wr.grownBy w1 row) (hr : ∀ x, row = some x -> x ≠ r /\ W.heap.size <= x) : Kr t r W w1 rc := by
 refine ⟨h.blk.kept g (fun c => (hr r c.symm).1 rfl), ⟨g.os.trans h.gr.os, g.tape.trans h.gr.tape, g.output.trans h.gr.output, Nat.le_trans h.gr.size g.size, fun x hx hne => (g.block x (Nat.lt_of_lt_of_le hx h.gr.size) ?_).trans (h.gr.block x hx hne)⟩⟩
 intro c
 have := (hr x c.symm).2
 omega
end
end Go.Proofs.YtpfiejmhnkcjbaaGreatDoor
namespace Go.Proofs.YtpfiejmhnkcjbaaGreatDoor
set_option maxHeartbeats 1000000
set_option maxRecDepth 8000
open Go.RowKit Math
set_option linter.unusedVariables false
set_option linter.unusedSimpArgs false
structure Bs (b B : Nat) (W : World) (v : Value) (l : List Nat) : Prop where
 blk : Blk W b 86 [.pointer none, v] ∨ Blk W b 86 [.pointer (some ⟨b, 0, none⟩), v]
 own : Own W B v l
 ne : v.ownBlock ≠ some b
 le : B <= b
structure Bw (b B : Nat) (W w' : World) (v v' : Value) (l' : List Nat) : Prop where
 bs : Bs b B w' v' l'
 os : w'.os = W.os
 tape : w'.tape = W.tape
 output : w'.output = W.output
 size : W.heap.size <= w'.heap.size
 keep : ∀ x, x < W.heap.size -> x ≠ b -> v.ownBlock ≠ some x -> w'.heap[x]? = W.heap[x]?
 ob : ∀ x, v'.ownBlock = some x -> v.ownBlock = some x ∨ W.heap.size <= x
theorem Bs.lt {b B : Nat} {W : World} {v : Value} {l : List Nat} (h : Bs b B W v l) : b < W.heap.size := by
 rcases h.blk with h | h <;> exact h.lt
theorem Bw.refl {b B : Nat} {W : World} {v : Value} {l : List Nat} (h : Bs b B W v l) : Bw b B W W v v l := ⟨h, rfl, rfl, rfl, Nat.le_refl _, fun _ _ _ _ => rfl, fun _ h => .inl h⟩
theorem Bw.trans {b B : Nat} {W w1 w2 : World} {v v1 v2 : Value} {l1 l2 : List Nat} (h : Bw b B W w1 v v1 l1) (k : Bw b B w1 w2 v1 v2 l2) : Bw b B W w2 v v2 l2 := by
 have hs := h.size
 refine ⟨k.bs, k.os.trans h.os, k.tape.trans h.tape, k.output.trans h.output, Nat.le_trans hs k.size, fun x hx h1 h2 => ?_, fun x hx => ?_⟩
 . rw [k.keep x (by omega) h1 (fun e => ?_), h.keep x hx h1 h2]
   rcases h.ob x e with h3 | h3
   . exact h2 h3
   . omega
 . rcases k.ob x hx with h3 | h3
   . exact h.ob x h3
   . exact .inr (by omega)
theorem Bs.below {b B : Nat} {W w' : World} {v : Value} {l : List Nat} (h : Bs b B W v l) (g : Below W.heap.size W w') : Bs b B w' v l :=
 ⟨h.blk.imp (fun k => k.below g k.lt) (fun k => k.below g k.lt), h.own.below g, h.ne, h.le⟩
theorem Bw.more {b B : Nat} {W w1 w2 : World} {v v1 : Value} {l1 : List Nat} (h : Bw b B W w1 v v1 l1) (g : Below w1.heap.size w1 w2) : Bw b B W w2 v v1 l1 :=
 ⟨h.bs.below g, g.os.trans h.os, g.tape.trans h.tape, g.output.trans h.output, Nat.le_trans h.size g.size, fun x hx h1 h2 => (g.block x (Nat.lt_of_lt_of_le hx h.size)).trans (h.keep x hx h1 h2), h.ob⟩
theorem Bw.after {b B : Nat} {W w1 w2 : World} {v v2 : Value} {l2 : List Nat} (g : Below W.heap.size W w1) (k : Bw b B w1 w2 v v2 l2) : Bw b B W w2 v v2 l2 :=
 ⟨k.bs, k.os.trans g.os, k.tape.trans g.tape, k.output.trans g.output, Nat.le_trans g.size k.size, fun x hx h1 h2 => (k.keep x (Nat.lt_of_lt_of_le hx g.size) h1 h2).trans (g.block x hx), fun x hx => (k.ob x hx).imp id (fun h => Nat.le_trans g.size h)⟩
theorem Bw.down {b B C : Nat} {w0 W w' : World} {v v' : Value} {l l' : List Nat} (k : Bw b B W w' v v' l') (h : Bs b B W v l) (hb : Below C w0 W) (hC : C <= B) : Below C w0 w' := by
 have h1 := h.le
 have h2 := h.lt
 refine ⟨k.os.trans hb.os, k.tape.trans hb.tape, k.output.trans hb.output, Nat.le_trans hb.size k.size, fun x hx => ?_⟩
 rw [k.keep x (by omega) (by omega) (fun e => ?_)]
 . exact hb.block x hx
 . have := (World.ownsRow.lt h.own x e).1
   omega
theorem Bw.blk {b B : Nat} {W w' : World} {v v' : Value} {l' : List Nat} (k : Bw b B W w' v v' l') {x : Nat} {t : TypeId} {vs : List Value} (h : Blk W x t vs) (h1 : x ≠ b) (h2 : v.ownBlock ≠ some x) : Blk w' x t vs := by
 unfold Blk at h ⊢
 rw [k.keep x (Array.getElem?_eq_some_iff.1 h).1 h1 h2]
 exact h
theorem Blk.shp {W : World} {b : Nat} {t : TypeId} {vs : List Value} (h : Blk W b t vs) : W.shape? b = some (t, vs.length) := by
 unfold Blk at h
 simp [World.shape?, h]
theorem copy_any {b B : Nat} {W : World} {v : Value} {l : List Nat} (h : Bs b B W v l) :
 Calls Tryz.prog 92 #[.pointer (some ⟨b, 0, none⟩)] W fun e w' => e = .returned (.tuple #[]) /\ Hid (Bw b B W w' v v l /\ Blk w' b 86 [.pointer (some ⟨b, 0, none⟩), v]) := by
 rcases h.blk with hb | hb
 . have K : Calls Tryz.prog 92 _ _ _ := Any.Builder_copyCheck_fresh (ρ := Tryz.lays159_ren) { Tryz.lays159 with } Tryz.Builder_Extra_159.toX72 b W (hb.cell 0) hb.shp (hb.frozen 0)
   refine K.mono ?_
   rintro e w' ⟨rfl, rfl⟩
   have h2 : Blk (W.setCell ⟨b, 0, none⟩ (.pointer (some ⟨b, 0, none⟩))) b 86 [.pointer (some ⟨b, 0, none⟩), v] := hb.set 0 _
   have g := grown_setCell W ⟨b, 0, none⟩ (.pointer (some ⟨b, 0, none⟩))
   refine ⟨rfl, ⟨⟨.inr h2, World.ownsRow.kept h.own g (.inr fun c => h.ne c), h.ne, h.le⟩, g.os, g.tape, g.output, g.size, fun x hx h1 h3 => g.block x hx (fun c => h1 (Option.some.inj c)), fun x hx => .inl hx⟩, h2⟩
 . have K : Calls Tryz.prog 92 _ _ _ := Any.Builder_copyCheck_used (ρ := Tryz.lays159_ren) { Tryz.lays159 with } Tryz.Builder_Extra_159.toX72 b W (hb.cell 0)
   refine K.mono ?_
   rintro e w' ⟨rfl, rfl⟩
   exact ⟨rfl, Bw.refl h, hb⟩
theorem s52 : (Tryz.prog.info? 34).map (·.size) = some 1 := by kernel_rfl
theorem Bw.app {b B : Nat} {W w1 w2 w3 : World} {v v' : Value} {l l' : List Nat} (h : Bw b B W w1 v v l) (hb : Blk w1 b 86 [.pointer (some ⟨b, 0, none⟩), v]) (w1' : World) (g1 : Below w1.heap.size w1 w1') (A : Ap B w1' w2 v v' l')
 (hs : Blk w3 b 86 [.pointer (some ⟨b, 0, none⟩), v']) (g3 : w2.grownBy w3 (some b)) : Bw b B W w3 v v' l' := by
 have hlt := hb.lt
 have z1 := g1.size
 have z2 := A.gr.size
 have z3 := g3.size
 have hne : v'.ownBlock ≠ some b := fun e => by
  rcases A.ob b e with c | c
  . exact h.bs.ne c
  . omega
 have k : Bw b B w1 w3 v v' l' := by
  refine ⟨⟨.inr hs, World.ownsRow.kept A.own g3 (.inr fun c => hne c), hne, h.bs.le⟩, ?_, ?_, ?_, by omega, fun x hx h1 h2 => ?_, fun x hx => ?_⟩
  . rw [g3.os, A.gr.os, g1.os]
  . rw [g3.tape, A.gr.tape, g1.tape]
  . rw [g3.output, A.gr.output, g1.output]
  . rw [g3.block x (by omega) (fun c => h1 (Option.some.inj c)), A.gr.block x (by omega) (fun c => h2 c.symm), g1.block x hx]
  . rcases A.ob x hx with c | c
    . exact .inl c
    . exact .inr (by omega)
 exact h.trans k
theorem wrb9 (c : Nat) {b B : Nat} {W : World} {v : Value} {l : List Nat} (h : Bs b B W v l) (hl : l.length <= 900000000) :
 Calls Tryz.prog 65 #[.pointer (some ⟨b, 0, none⟩), .int .u8 (c : Int)] W fun e w' => ∃ v', e = .returned .nilIface /\ Hid (Bw b B W w' v v' (l ++ [c])) := by
 have K := copy_any h
 have hlt := h.lt
 have hle := h.le
 clear h
 go_enter Tryz.func65, Tryz.ntmps65
 go_wp2_with fail
 refine K.mono ?_
 rintro e w1 ⟨rfl, H⟩
 clear K
 have c1 : w1.cell? ⟨b, 1, none⟩ = some v := H.out.2.cell 1
 have hs1 : B <= w1.heap.size := by have := H.out.1.size; omega
 go_wp2_with (at_builtin; go_must (refine ap_bytes rfl (.tmp 11) (.tmp 13) rfl B v l rfl (H.out.1.bs.own.alloc _) _ _ _ [c] rfl rfl (byt_lit w1 [c]) (by simp) (by simp; omega) (by simp; omega) ?_))
 intro v' w2 A
 have hb2 : Blk w2 b 86 [.pointer (some ⟨b, 0, none⟩), v] := A.blk (H.out.2.alloc _) H.out.1.bs.ne
 have HA : Hid (Ap B (w1.alloc (Obj.cells #[.int .u8 (c : Int)] 5)) w2 v v' (l ++ [c])) := A
 have HV : Hid (v'.cells = #[v'] /\ v'.oneCell' = true) := by
  obtain ⟨aa, cc, hv', _⟩ := A.own.byt
  rw [hv']
  exact ⟨rfl, rfl⟩
 clear A c1
 go_wp2_with (refine st_one rfl 34 (.tmp 16) (.tmp 14) rfl b 1 86 _ v' rfl rfl HV.out.1 HV.out.2 (by simp) hb2 s52 ?_)
 intro w3 b3 g3
 have HF : Hid (Bw b B W w3 v v' (l ++ [c])) := Bw.app H.out.1 H.out.2 _ ((Below.refl _ _).alloc (Nat.le_refl _) _) HA.out b3 g3
 clear b3 g3 HA H hb2
 go_wp2
 go_ret
 exact ⟨v', rfl, HF.out⟩
theorem wrs9 (s : ByteArray) {b B : Nat} {W : World} {v : Value} {l : List Nat} (h : Bs b B W v l) (hl : l.length + s.size <= 900000000) :
 Calls Tryz.prog 64 #[.pointer (some ⟨b, 0, none⟩), .string s] W fun e w' => ∃ v', e = .returned (.tuple #[.int .i64 (s.size : Int), .nilIface]) /\ Hid (Bw b B W w' v v' (l ++ bts s)) := by
 have K := copy_any h
 have hlt := h.lt
 have hle := h.le
 clear h
 go_enter Tryz.func64, Tryz.ntmps64
 go_wp2_with fail
 refine K.mono ?_
 rintro e w1 ⟨rfl, H⟩
 clear K
 have c1 : w1.cell? ⟨b, 1, none⟩ = some v := H.out.2.cell 1
 have hs1 : B <= w1.heap.size := by have := H.out.1.size; omega
 go_wp2_with (at_builtin; go_must (refine ap_str rfl (.tmp 12) (.tmp 13) rfl B v l rfl H.out.1.bs.own s rfl (by omega) (by omega) ?_))
 intro v' w2 A
 have hb2 : Blk w2 b 86 [.pointer (some ⟨b, 0, none⟩), v] := A.blk H.out.2 H.out.1.bs.ne
 have HA : Hid (Ap B w1 w2 v v' (l ++ bts s)) := A
 have HV : Hid (v'.cells = #[v'] /\ v'.oneCell' = true) := by
  obtain ⟨aa, cc, hv', _⟩ := A.own.byt
  rw [hv']
  exact ⟨rfl, rfl⟩
 clear A c1
 go_wp2_with (refine st_one rfl 34 (.tmp 16) (.tmp 14) rfl b 1 86 _ v' rfl rfl HV.out.1 HV.out.2 (by simp) hb2 s52 ?_)
 intro w3 b3 g3
 have HF : Hid (Bw b B W w3 v v' (l ++ bts s)) := Bw.app H.out.1 H.out.2 _ (Below.refl _ _) HA.out b3 g3
 clear b3 g3 HA H hb2
 go_wp2
 go_ret2
 exact ⟨v', rfl, HF.out⟩
theorem vals_cells {l : List Nat} (h : Oct l) : vals l = Lib.byteCells (l.map UInt8.ofNat) := by
 unfold vals Lib.byteCells
 rw [List.map_map]
 apply List.map_congr_left
 intro x hx
 have := h x hx
 simp only [Function.comp]
 rw [show (UInt8.ofNat x).toNat = x by rw [UInt8.toNat_ofNat']; omega]
theorem bstr9 {b B : Nat} {W : World} {v : Value} {l : List Nat} (h : Bs b B W v l) (ho : Oct l) :
 Calls Tryz.prog 66 #[.pointer (some ⟨b, 0, none⟩)] W fun e w' => e = .returned (.string (ofB l)) /\ Below B W w' := by
 have hw : W.ownsRow B 5 1 v (Lib.byteCells (l.map UInt8.ofNat)).length (Lib.byteCells (l.map UInt8.ofNat)) := by
  have := h.own
  unfold Own at this
  rw [vals_cells ho] at this
  rw [Lib.byteCells_length, List.length_map]
  exact this
 have hi : Lib.IsBuilder 86 5 B b (Lib.byteCells (l.map UInt8.ofNat)) W := by
  rcases h.blk with hb | hb
  . exact .inl ⟨h.le, v, hb, hw, h.ne⟩
  . exact .inr ⟨h.le, v, hb, hw, h.ne⟩
 have hlt := h.lt
 have hle := h.le
 have K : Calls Tryz.prog 66 _ _ _ := Any.Builder_String_any Tryz.lays169 Tryz.Builder_Extra_169 B b (l.map UInt8.ofNat) W hi (by omega)
 exact K
end Go.Proofs.YtpfiejmhnkcjbaaGreatDoor
