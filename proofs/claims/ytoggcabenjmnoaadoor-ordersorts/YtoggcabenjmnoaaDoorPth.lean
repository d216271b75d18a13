/-
  The order of values is an order: turned round it is the other one, 0 just of the same, and what is below what is below is below.
-/
import Derived.Test.YtoggcabenjmnoaaDoorPo
namespace Go.Proofs.YtoggcabenjmnoaaDoor
open Go.RowKit
set_option linter.unusedVariables false
/-! ### numbers that tell an order -/
def Thr (x y z : Int) : Prop := x ≤ 0 → y ≤ 0 → z ≤ 0 ∧ ((x < 0 ∨ y < 0) → z < 0)
theorem Thr.lex {t1 t2 t3 r1 r2 r3 : Int} (ht : Thr t1 t2 t3) (hr : t1 = 0 → t2 = 0 → t3 = 0 → Thr r1 r2 r3) : Thr (if t1 ≠ 0 then t1 else r1) (if t2 ≠ 0 then t2 else r2) (if t3 ≠ 0 then t3 else r3) := by
  unfold Thr at *
  by_cases h1 : t1 = 0
  · by_cases h2 : t2 = 0
    · by_cases h3 : t3 = 0
      · simpa [h1, h2, h3] using hr h1 h2 h3
      · intro _ _
        have := ht (by omega) (by omega)
        rw [if_pos h3]
        omega
    · rw [if_neg (by simp [h1]), if_pos h2]
      intro a b
      have := ht (by omega) (by omega)
      rw [if_pos (by omega)]
      omega
  · rw [if_pos h1]
    intro a b
    have h2 : t2 ≤ 0 := by
      by_cases h2 : t2 = 0
      · omega
      · rw [if_pos h2] at b; exact b
    have := ht a h2
    rw [if_pos (by omega)]
    omega
theorem sg_thr (a b c : Int) : Thr (sg a b) (sg b c) (sg a c) := by
  simp only [Thr, sg]
  (repeat' split) <;> omega
theorem sg_turn (a b : Int) : sg b a = -sg a b := by
  simp only [sg]
  (repeat' split) <;> omega
theorem sg_zero {a b : Int} (h : sg a b = 0) : a = b := by
  simp only [sg] at h
  (repeat' split at h) <;> omega
theorem lex_turn {t t' r r' : Int} (h1 : t' = -t) (h2 : r' = -r) : (if t' ≠ 0 then t' else r') = -(if t ≠ 0 then t else r) := by
  by_cases h : t = 0
  · rw [if_neg (by omega), if_neg (by simp [h]), h2]
  · rw [if_pos (by omega), if_pos h, h1]
/-! ### texts -/
def txl : List UInt8 → List UInt8 → Int
  | [], [] => 0
  | [], _ :: _ => -1
  | _ :: _, [] => 1
  | x :: r, y :: q => if sg x.toNat y.toNat ≠ 0 then sg x.toNat y.toNat else txl r q
theorem txl_eq : ∀ a b : List UInt8, (if Op.bytesLess a b then (-1 : Int) else if a == b then 0 else 1) = txl a b
  | [], [] => by simp [txl, Op.bytesLess]
  | [], _ :: _ => by simp [txl, Op.bytesLess]
  | _ :: _, [] => by simp [txl, Op.bytesLess]
  | x :: r, y :: q => by
    have ih := txl_eq r q
    unfold txl Op.bytesLess
    by_cases h1 : x < y
    · have h2 : (x.toNat : Int) < (y.toNat : Int) := by have := UInt8.lt_iff_toNat_lt.1 h1; omega
      simp [h1, sg_lt h2]
    · by_cases h2 : y < x
      · have h3 : ¬ x = y := fun e => by subst e; exact absurd h2 (UInt8.lt_irrefl _)
        have h4 : (y.toNat : Int) < (x.toNat : Int) := by have := UInt8.lt_iff_toNat_lt.1 h2; omega
        simp [h1, h3, sg_gt h4]
      · have h3 : x = y := UInt8.le_antisymm (UInt8.not_lt.1 h2) (UInt8.not_lt.1 h1)
        subst h3
        simp [h1, ← ih, sg_self]
theorem tx_l (a b : ByteArray) : tx a b = txl a.toList b.toList := txl_eq _ _
theorem txl_thr : ∀ a b c : List UInt8, Thr (txl a b) (txl b c) (txl a c)
  | [], [], [] => by simp [Thr, txl]
  | [], [], _ :: _ => by simp [Thr, txl]
  | [], _ :: _, [] => by simp [Thr, txl]
  | [], _ :: _, _ :: _ => by simp [Thr, txl]
  | _ :: _, [], [] => by simp [Thr, txl]
  | _ :: _, [], _ :: _ => by simp [Thr, txl]
  | _ :: _, _ :: _, [] => by simp [Thr, txl]
  | x :: r, y :: q, z :: p => Thr.lex (sg_thr _ _ _) fun _ _ _ => txl_thr r q p
theorem txl_turn : ∀ a b : List UInt8, txl b a = -txl a b
  | [], [] => rfl
  | [], _ :: _ => rfl
  | _ :: _, [] => rfl
  | x :: r, y :: q => lex_turn (sg_turn _ _) (txl_turn r q)
theorem txl_zero : ∀ {a b : List UInt8}, txl a b = 0 → a = b
  | [], [], _ => rfl
  | [], _ :: _, h => by simp [txl] at h
  | _ :: _, [], h => by simp [txl] at h
  | x :: r, y :: q, h => by
    unfold txl at h
    by_cases hs : sg x.toNat y.toNat = 0
    · rw [if_neg (by simp [hs])] at h
      have := sg_zero hs
      have e : x = y := UInt8.toNat_inj.1 (by omega)
      rw [e, txl_zero h]
    · rw [if_pos hs] at h
      exact absurd h hs
theorem bytes_ext {a b : ByteArray} (h : a.toList = b.toList) : a = b := by
  rw [ByteArray.toList_eq, ByteArray.toList_eq] at h
  obtain ⟨x⟩ := a
  obtain ⟨y⟩ := b
  obtain ⟨x⟩ := x
  obtain ⟨y⟩ := y
  simp at h
  rw [h]
theorem tx_thr (a b c : ByteArray) : Thr (tx a b) (tx b c) (tx a c) := by rw [tx_l, tx_l, tx_l]; exact txl_thr _ _ _
theorem tx_turn (a b : ByteArray) : tx b a = -tx a b := by rw [tx_l, tx_l]; exact txl_turn _ _
theorem tx_zero {a b : ByteArray} (h : tx a b = 0) : a = b := bytes_ext (txl_zero (by rw [← tx_l]; exact h))
/-! ### numbers -/
theorem nm_thr (a b c : Hd) : Thr (nm a b) (nm b c) (nm a c) := by
  unfold nm
  have pa : (0 : Int) < 10 ^ a.s.toNat := Int.pow_pos (by decide)
  have pb : (0 : Int) < 10 ^ b.s.toNat := Int.pow_pos (by decide)
  have pc : (0 : Int) < 10 ^ c.s.toNat := Int.pow_pos (by decide)
  generalize (10 : Int) ^ a.s.toNat = A at *
  generalize (10 : Int) ^ b.s.toNat = B at *
  generalize (10 : Int) ^ c.s.toNat = C at *
  have h1 : sg (a.n * B) (b.n * A) = sg (a.n * B * C) (b.n * A * C) := by
    simp only [sg]
    have e1 : a.n * B < b.n * A ↔ a.n * B * C < b.n * A * C := (Int.mul_lt_mul_right pc).symm
    have e2 : b.n * A < a.n * B ↔ b.n * A * C < a.n * B * C := (Int.mul_lt_mul_right pc).symm
    simp only [e1, e2]
  have h2 : sg (b.n * C) (c.n * B) = sg (b.n * A * C) (c.n * A * B) := by
    simp only [sg]
    have e1 : b.n * C < c.n * B ↔ b.n * C * A < c.n * B * A := (Int.mul_lt_mul_right pa).symm
    have e2 : c.n * B < b.n * C ↔ c.n * B * A < b.n * C * A := (Int.mul_lt_mul_right pa).symm
    have f1 : b.n * C * A = b.n * A * C := by rw [Int.mul_assoc, Int.mul_comm C A, ← Int.mul_assoc]
    have f2 : c.n * B * A = c.n * A * B := by rw [Int.mul_assoc, Int.mul_comm B A, ← Int.mul_assoc]
    simp only [e1, e2, f1, f2]
  have h3 : sg (a.n * C) (c.n * A) = sg (a.n * B * C) (c.n * A * B) := by
    simp only [sg]
    have e1 : a.n * C < c.n * A ↔ a.n * C * B < c.n * A * B := (Int.mul_lt_mul_right pb).symm
    have e2 : c.n * A < a.n * C ↔ c.n * A * B < a.n * C * B := (Int.mul_lt_mul_right pb).symm
    have f1 : a.n * C * B = a.n * B * C := by rw [Int.mul_assoc, Int.mul_comm C B, ← Int.mul_assoc]
    simp only [e1, e2, f1]
  rw [h1, h2, h3]
  exact sg_thr _ _ _
theorem nm_turn (a b : Hd) : nm b a = -nm a b := sg_turn _ _
/-! ### values -/
theorem cls_same {a b : Int} (h : sg (cls a) (cls b) = 0) : ((a = 2 ∨ a = 5) ↔ (b = 2 ∨ b = 5)) ∧ ((a = 3 ∨ a = 4) ↔ (b = 3 ∨ b = 4)) ∧ ((a = 6 ∨ a = 7) ↔ (b = 6 ∨ b = 7)) ∧ (a = 8 ↔ b = 8) ∧ (a = 9 ↔ b = 9) := by
  have := sg_zero h
  simp only [cls] at this
  (repeat' split at this) <;> omega
/-- Two values of one class. -/
def inn (p q : Vt) : Int := if p.1.k = 2 ∨ p.1.k = 5 then sg p.1.n q.1.n else if p.1.k = 3 ∨ p.1.k = 4 then nm p.1 q.1 else if p.1.k = 6 ∨ p.1.k = 7 then tx p.1.t q.1.t else if p.1.k = 8 then cmpF p.2 false [] q.2 [] else if p.1.k = 9 then cmpF p.2 true p.1.ns q.2 q.1.ns else 0
theorem ordV_inn (p q : Vt) : ordV p q = if sg (cls p.1.k) (cls q.1.k) ≠ 0 then sg (cls p.1.k) (cls q.1.k) else inn p q := by
  unfold ordV inn
  by_cases h : cls p.1.k = cls q.1.k
  · have e : ¬ sg (cls p.1.k) (cls q.1.k) ≠ 0 := by rw [h, sg_self]; simp
    have e2 : ¬ cls p.1.k ≠ cls q.1.k := fun x => x h
    simp only [if_neg e, if_neg e2]
  · rw [if_pos h, if_pos fun e => h (sg_zero e)]
theorem lex_three {t r : Int} (ht : -1 ≤ t ∧ t ≤ 1) (hr : -1 ≤ r ∧ r ≤ 1) : -1 ≤ (if t ≠ 0 then t else r) ∧ (if t ≠ 0 then t else r) ≤ 1 := by
  split
  · exact ht
  · exact hr
theorem ordV_thr (p q r : Vt) (h : ∀ st ns ms ls, Thr (cmpF p.2 st ns q.2 ms) (cmpF q.2 st ms r.2 ls) (cmpF p.2 st ns r.2 ls)) : Thr (ordV p q) (ordV q r) (ordV p r) := by
  rw [ordV_inn, ordV_inn, ordV_inn]
  refine Thr.lex (sg_thr _ _ _) fun e1 e2 e3 => ?_
  obtain ⟨a1, a2, a3, a4, a5⟩ := cls_same e1
  unfold inn
  simp only [← a1, ← a2, ← a3, ← a4, ← a5]
  by_cases c1 : p.1.k = 2 ∨ p.1.k = 5
  · simp only [if_pos c1]; exact sg_thr _ _ _
  by_cases c2 : p.1.k = 3 ∨ p.1.k = 4
  · simp only [if_neg c1, if_pos c2]; exact nm_thr _ _ _
  by_cases c3 : p.1.k = 6 ∨ p.1.k = 7
  · simp only [if_neg c1, if_neg c2, if_pos c3]; exact tx_thr _ _ _
  by_cases c4 : p.1.k = 8
  · simp only [if_neg c1, if_neg c2, if_neg c3, if_pos c4]; exact h _ _ _ _
  by_cases c5 : p.1.k = 9
  · simp only [if_neg c1, if_neg c2, if_neg c3, if_neg c4, if_pos c5]; exact h _ _ _ _
  simp only [if_neg c1, if_neg c2, if_neg c3, if_neg c4, if_neg c5]
  simp [Thr]
theorem cmpF_cons2 (p q : Vt) (r r' : Fo) (st : Bool) (ns ms : List ByteArray) : cmpF (.cons p.1 p.2 r) st ns (.cons q.1 q.2 r') ms = if (if st then tx (nameAt ns) (nameAt ms) else 0) ≠ 0 then (if st then tx (nameAt ns) (nameAt ms) else 0) else if ordV p q ≠ 0 then ordV p q else cmpF r st ns.tail r' ms.tail := by
  rw [cmpF_cons]
  cases st <;> simp
theorem cmpF_thr (f : Fo) : ∀ (g h : Fo) (st : Bool) (ns ms ls : List ByteArray), Thr (cmpF f st ns g ms) (cmpF g st ms h ls) (cmpF f st ns h ls) := by
  induction f with
  | nil => intro g h st ns ms ls; cases g <;> cases h <;> simp [Thr, cmpF]
  | cons hd k r ihk ihr =>
    intro g h st ns ms ls
    cases g with
    | nil => cases h <;> simp [Thr, cmpF]
    | cons hd2 k2 r2 =>
      cases h with
      | nil => intro _ b; simp [cmpF] at b
      | cons hd3 k3 r3 =>
        rw [cmpF_cons2 (hd, k) (hd2, k2), cmpF_cons2 (hd2, k2) (hd3, k3), cmpF_cons2 (hd, k) (hd3, k3)]
        refine Thr.lex ?_ fun _ _ _ => Thr.lex (ordV_thr _ _ _ fun st ns ms ls => ihk _ _ _ _ _ _) fun _ _ _ => ihr _ _ _ _ _ _
        cases st
        · simp [Thr]
        · exact tx_thr _ _ _
/-- What is below what is below is below. -/
theorem ord_thr (p q r : Vt) : Thr (ordV p q) (ordV q r) (ordV p r) := ordV_thr p q r fun st ns ms ls => cmpF_thr _ _ _ _ _ _ _
theorem ordV_turn (p q : Vt) (h : ∀ st ns ms, cmpF q.2 st ms p.2 ns = -cmpF p.2 st ns q.2 ms) : ordV q p = -ordV p q := by
  rw [ordV_inn, ordV_inn]
  by_cases e1 : sg (cls p.1.k) (cls q.1.k) = 0
  · have e2 : sg (cls q.1.k) (cls p.1.k) = 0 := by rw [sg_turn, e1]; rfl
    rw [if_neg (by simp [e2]), if_neg (by simp [e1])]
    obtain ⟨a1, a2, a3, a4, a5⟩ := cls_same e1
    unfold inn
    simp only [← a1, ← a2, ← a3, ← a4, ← a5]
    by_cases c1 : p.1.k = 2 ∨ p.1.k = 5
    · simp only [if_pos c1]; exact sg_turn _ _
    by_cases c2 : p.1.k = 3 ∨ p.1.k = 4
    · simp only [if_neg c1, if_pos c2]; exact nm_turn _ _
    by_cases c3 : p.1.k = 6 ∨ p.1.k = 7
    · simp only [if_neg c1, if_neg c2, if_pos c3]; exact tx_turn _ _
    by_cases c4 : p.1.k = 8
    · simp only [if_neg c1, if_neg c2, if_neg c3, if_pos c4]; exact h _ _ _
    by_cases c5 : p.1.k = 9
    · simp only [if_neg c1, if_neg c2, if_neg c3, if_neg c4, if_pos c5]; exact h _ _ _
    simp only [if_neg c1, if_neg c2, if_neg c3, if_neg c4, if_neg c5]
    rfl
  · have e2 : sg (cls q.1.k) (cls p.1.k) ≠ 0 := by rw [sg_turn]; omega
    rw [if_pos e2, if_pos e1, sg_turn]
theorem cmpF_turn (f : Fo) : ∀ (g : Fo) (st : Bool) (ns ms : List ByteArray), cmpF g st ms f ns = -cmpF f st ns g ms := by
  induction f with
  | nil => intro g st ns ms; cases g <;> rfl
  | cons hd k r ihk ihr =>
    intro g st ns ms
    cases g with
    | nil => rfl
    | cons hd2 k2 r2 =>
      rw [cmpF_cons2 (hd, k) (hd2, k2), cmpF_cons2 (hd2, k2) (hd, k)]
      refine lex_turn ?_ (lex_turn (ordV_turn _ _ fun st ns ms => ihk _ _ _ _) (ihr _ _ _ _))
      cases st
      · rfl
      · exact tx_turn _ _
/-- Turned round it is the other one. -/
theorem ord_turn (p q : Vt) : ordV q p = -ordV p q := ordV_turn p q fun st ns ms => cmpF_turn _ _ _ _ _
theorem ord_self (p : Vt) : ordV p p = 0 := by have := ord_turn p p; omega
theorem ord_three (p q : Vt) : -1 ≤ ordV p q ∧ ordV p q ≤ 1 := by
  have hsg : ∀ a b, -1 ≤ sg a b ∧ sg a b ≤ 1 := fun a b => by rcases sg_three a b with h | h | h <;> omega
  have htl : ∀ a b, -1 ≤ txl a b ∧ txl a b ≤ 1 := by
    intro a
    induction a with
    | nil => intro b; cases b <;> simp [txl]
    | cons x r ih =>
      intro b
      cases b with
      | nil => simp [txl]
      | cons y q =>
        unfold txl
        split
        · exact hsg _ _
        · exact ih _
  have htx : ∀ a b, -1 ≤ tx a b ∧ tx a b ≤ 1 := fun a b => by rw [tx_l]; exact htl _ _
  have hf : ∀ f g st ns ms, -1 ≤ cmpF f st ns g ms ∧ cmpF f st ns g ms ≤ 1 := by
    intro f
    induction f with
    | nil => intro g st ns ms; cases g <;> simp [cmpF]
    | cons hd k r ihk ihr =>
      intro g st ns ms
      cases g with
      | nil => simp [cmpF]
      | cons hd2 k2 r2 =>
        rw [cmpF_cons2 (hd, k) (hd2, k2)]
        refine lex_three ?_ (lex_three ?_ (ihr _ _ _ _))
        · cases st
          · simp
          · exact htx _ _
        · unfold ordV
          (repeat' split) <;> first | exact hsg _ _ | exact htx _ _ | exact ihk _ _ _ _ | omega
  unfold ordV
  (repeat' split) <;> first | exact hsg _ _ | exact htx _ _ | exact hf _ _ _ _ _ | omega
/-! ### each value has one form -/
theorem formed_num {h : Hd} {kl : Nat} (hk : h.k = 3 ∨ h.k = 4) (hf : formed h kl = true) : (h.k = 3 → h.s = 0) ∧ (h.k = 4 → 1 ≤ h.s ∧ h.n.tmod 10 ≠ 0) ∧ h.t = ⟨#[]⟩ ∧ h.ns = [] ∧ kl = 0 := by
  rcases hk with hk | hk <;> simp [formed, only, hk] at hf
  · obtain ⟨⟨⟨h1, h2⟩, h3⟩, h4⟩ := hf
    exact ⟨fun _ => h1, fun e => by omega, bytes_ext (by simpa using h2), by simpa using h3, h4⟩
  · obtain ⟨⟨⟨⟨⟨h2, h3⟩, h4⟩, h5⟩, h6⟩, h7⟩ := hf
    exact ⟨fun e => by omega, fun _ => ⟨h5, h7⟩, bytes_ext (by simpa using h2), by simpa using h3, h4⟩
theorem ten_one {a b : Hd} (ha : a.k = 3 ∨ a.k = 4) (hb : b.k = 3 ∨ b.k = 4) (fa : (a.k = 3 → a.s = 0) ∧ (a.k = 4 → 1 ≤ a.s ∧ a.n.tmod 10 ≠ 0)) (fb : (b.k = 3 → b.s = 0) ∧ (b.k = 4 → 1 ≤ b.s ∧ b.n.tmod 10 ≠ 0)) (h : nm a b = 0) : ¬ a.s.toNat < b.s.toNat := by
  intro hlt
  have h4 : b.k = 4 := by rcases hb with e | e; · have := fb.1 e; omega
                          · exact e
  obtain ⟨h5, h6⟩ := fb.2 h4
  have e := sg_zero h
  have ed : b.s.toNat = (b.s.toNat - a.s.toNat - 1) + 1 + a.s.toNat := by omega
  rw [ed, Int.pow_add, Int.pow_succ, ← Int.mul_assoc, ← Int.mul_assoc] at e
  have hne : (10 : Int) ^ a.s.toNat ≠ 0 := by
    have : (0 : Int) < 10 ^ a.s.toNat := Int.pow_pos (by decide)
    omega
  have e2 := Int.eq_of_mul_eq_mul_right hne e
  apply h6
  rw [← e2]
  exact Int.mul_tmod_left _ _
theorem num_same {a b : Hd} {kl kl2 : Nat} (ha : a.k = 3 ∨ a.k = 4) (hb : b.k = 3 ∨ b.k = 4) (fa : formed a kl = true) (fb : formed b kl2 = true) (sa : 0 ≤ a.s) (sb : 0 ≤ b.s) (h : nm a b = 0) : a = b := by
  obtain ⟨a1, a2, a3, a4, a5⟩ := formed_num ha fa
  obtain ⟨b1, b2, b3, b4, b5⟩ := formed_num hb fb
  have h1 := ten_one ha hb ⟨a1, a2⟩ ⟨b1, b2⟩ h
  have h2 := ten_one hb ha ⟨b1, b2⟩ ⟨a1, a2⟩ (by rw [nm_turn, h]; rfl)
  have es : a.s = b.s := by omega
  have e := sg_zero h
  rw [es] at e
  have hne : (10 : Int) ^ b.s.toNat ≠ 0 := by
    have : (0 : Int) < 10 ^ b.s.toNat := Int.pow_pos (by decide)
    omega
  have en := Int.eq_of_mul_eq_mul_right hne e
  have ek : a.k = b.k := by
    rcases ha with x | x <;> rcases hb with y | y
    · omega
    · have := a1 x; have := (b2 y).1; omega
    · have := b1 y; have := (a2 x).1; omega
    · omega
  obtain ⟨k, n, s, t, ns⟩ := a
  obtain ⟨k', n', s', t', ns'⟩ := b
  simp only at *
  rw [ek, en, es, a3, a4, b3, b4]
end Go.Proofs.YtoggcabenjmnoaaDoor
