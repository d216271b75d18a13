/-
  Values as bytes, over lists: what is written, what is read, and that these belong together. No program is named. · Values as bytes, over trees: what is written of a value, and what is read. No program is named.
-/
import Derived.Test.YtlefdnjokppibaaGreatDoorUG0x
namespace Go.Proofs.YtlefdnjokppibaaGreatDoor
open Go.RowKit Math
set_option linter.unusedVariables false
def Oct (l : List Nat) : Prop := ∀ x ∈ l, x < 256
theorem Oct.right {l m : List Nat} (h : Oct (l ++ m)) : Oct m := fun x hx => h x (by simp [hx])
theorem Oct.left {l m : List Nat} (h : Oct (l ++ m)) : Oct l := fun x hx => h x (by simp [hx])
theorem Oct.app {l m : List Nat} (h : Oct l) (g : Oct m) : Oct (l ++ m) := fun x hx => by
  rcases List.mem_append.1 hx with hx | hx
  · exact h x hx
  · exact g x hx
/-! ### readers -/
def Rdr (α : Type) := List Nat → Except Nat (α × List Nat)
def Rdr.ret {α : Type} (x : α) : Rdr α := fun l => .ok (x, l)
def Rdr.no {α : Type} (e : Nat) : Rdr α := fun _ => .error e
def Rdr.bind {α β : Type} (f : Rdr α) (g : α → Rdr β) : Rdr β := fun l => match f l with
  | .ok (x, r) => g x r
  | .error e => .error e
theorem bind_ok {α β : Type} {f : Rdr α} {g : α → Rdr β} {l r : List Nat} {x : α} (h : f l = .ok (x, r)) : f.bind g l = g x r := by
  unfold Rdr.bind; rw [h]
theorem bind_no {α β : Type} {f : Rdr α} {g : α → Rdr β} {l : List Nat} {e : Nat} (h : f l = .error e) : f.bind g l = .error e := by
  unfold Rdr.bind; rw [h]
theorem bind_inv {α β : Type} {f : Rdr α} {g : α → Rdr β} {l r : List Nat} {y : β} (h : f.bind g l = .ok (y, r)) : ∃ x m, f l = .ok (x, m) ∧ g x m = .ok (y, r) := by
  unfold Rdr.bind at h
  cases hf : f l with
  | error e => rw [hf] at h; cases h
  | ok v => obtain ⟨x, m⟩ := v; rw [hf] at h; exact ⟨x, m, rfl, h⟩
/-- A reader takes what it takes whatever stands behind, and less is too short. -/
def Good {α : Type} (f : Rdr α) : Prop := ∀ l x r, Oct l → f l = .ok (x, r) → ∃ c, l = c ++ r ∧ (∀ m, f (c ++ m) = .ok (x, m)) ∧ ∀ c' m, c = c' ++ m → m ≠ [] → f c' = .error 2
theorem good_ret {α : Type} (x : α) : Good (Rdr.ret x) := fun l y r _ h => by
  obtain ⟨rfl, rfl⟩ := Prod.mk.inj (Except.ok.inj h)
  refine ⟨[], rfl, fun m => rfl, fun c' m h1 h2 => ?_⟩
  have := List.append_eq_nil_iff.1 h1.symm
  exact absurd this.2 h2
theorem good_no {α : Type} (e : Nat) : Good (Rdr.no (α := α) e) := fun l y r _ h => by cases h
theorem good_bind {α β : Type} {f : Rdr α} {g : α → Rdr β} (hf : Good f) (hg : ∀ x, Good (g x)) : Good (f.bind g) := fun l y r ho h => by
  obtain ⟨x, m, h1, h2⟩ := bind_inv h
  obtain ⟨c1, rfl, a2, a3⟩ := hf l x m ho h1
  obtain ⟨c2, rfl, b2, b3⟩ := hg x m y r ho.right h2
  refine ⟨c1 ++ c2, by simp, fun m => ?_, fun c' m e hm => ?_⟩
  · rw [List.append_assoc, bind_ok (a2 _)]; exact b2 m
  · rcases List.append_eq_append_iff.1 e with ⟨a', e1, e2⟩ | ⟨a', e1, e2⟩
    · rw [e1, bind_ok (a2 _)]
      exact b3 a' m e2 hm
    · by_cases h0 : a' = []
      · subst h0
        simp only [List.append_nil] at e1
        subst e1
        rw [show c1 = c1 ++ [] by simp, bind_ok (a2 [])]
        exact b3 [] c2 rfl (by simp only [List.nil_append] at e2; rw [← e2]; exact hm)
      · exact bind_no (a3 c' a' e1 h0)
theorem good_if {α : Type} {p : Prop} [Decidable p] {f g : Rdr α} (hf : Good f) (hg : Good g) : Good (if p then f else g) := by
  split <;> assumption
/-- It reads these bytes, whatever stands behind. -/
def Reads {α : Type} (f : Rdr α) (c : List Nat) (x : α) : Prop := ∀ m, f (c ++ m) = .ok (x, m)
theorem reads_ret {α : Type} (x : α) : Reads (Rdr.ret x) [] x := fun m => rfl
theorem reads_bind {α β : Type} {f : Rdr α} {g : α → Rdr β} {c1 c2 : List Nat} {x : α} {y : β} (h1 : Reads f c1 x) (h2 : Reads (g x) c2 y) : Reads (f.bind g) (c1 ++ c2) y := fun m => by
  rw [List.append_assoc, bind_ok (h1 _)]; exact h2 m
/-! ### bytes, numbers, texts -/
def byR : Rdr Nat := fun l => match l with
  | [] => .error 2
  | x :: r => .ok (x, r)
def uvR : Rdr Nat := fun l => if (ruv l 0 0).2.2 = 0 then .ok ((ruv l 0 0).1, l.drop (ruv l 0 0).2.1) else .error (ruv l 0 0).2.2
def lenR : Rdr Nat := uvR.bind fun u => if 65536 < u then .no 3 else .ret u
def bts (s : ByteArray) : List Nat := s.data.toList.map UInt8.toNat
def ofB (l : List Nat) : ByteArray := ⟨(l.map UInt8.ofNat).toArray⟩
def takeR (n : Nat) : Rdr (List Nat) := fun l => if l.length < n then .error 2 else .ok (l.take n, l.drop n)
def txR : Rdr ByteArray := lenR.bind fun n => (takeR n).bind fun b => .ret (ofB b)
theorem bts_len (s : ByteArray) : (bts s).length = s.size := by simp [bts]
theorem bts_oct (s : ByteArray) : ∀ x ∈ bts s, x < 256 := fun x hx => by
  obtain ⟨y, _, rfl⟩ := List.mem_map.1 hx
  exact y.toNat_lt
theorem ofB_bts (s : ByteArray) : ofB (bts s) = s := by
  unfold ofB bts
  rw [List.map_map]
  have : (UInt8.ofNat ∘ UInt8.toNat) = id := by funext x; simp
  rw [this]
  simp
theorem bts_ofB (l : List Nat) (h : ∀ x ∈ l, x < 256) : bts (ofB l) = l := by
  unfold ofB bts
  simp only [List.map_map]
  conv => rhs; rw [← List.map_id l]
  apply List.map_congr_left
  intro x hx
  have := h x hx
  simp
  omega
theorem ofB_size (l : List Nat) : (ofB l).size = l.length := by
  have : (ofB l).size = (ofB l).data.toList.length := by simp
  rw [this]
  simp [ofB]
theorem good_by : Good byR := fun l x r _ h => by
  cases l with
  | nil => cases h
  | cons y l =>
    obtain ⟨rfl, rfl⟩ := Prod.mk.inj (Except.ok.inj h)
    refine ⟨[y], rfl, fun m => rfl, fun c' m e hm => ?_⟩
    cases c' with
    | nil => rfl
    | cons z c' =>
      simp only [List.cons_append, List.cons.injEq] at e
      exact absurd (List.append_eq_nil_iff.1 e.2.symm).2 hm
theorem acc_hi {v x k : Nat} (h : k ≤ 8) (hv : v < 2 ^ (7 * k)) : acc v x k = v + x % 128 * 2 ^ (7 * k) ∧ acc v x k < 2 ^ (7 * (k + 1)) := by
  have hp : 2 ^ (7 * (k + 1)) = 128 * 2 ^ (7 * k) := by rw [Nat.mul_add, Nat.pow_add]; omega
  have h2 : 2 ^ (7 * (k + 1)) ≤ 2 ^ 63 := Nat.pow_le_pow_right (by decide) (by omega)
  have h3 : x % 128 * 2 ^ (7 * k) ≤ 127 * 2 ^ (7 * k) := Nat.mul_le_mul_right _ (by omega)
  have e := acc_add v x k hv (by omega)
  rw [e]
  omega
/-- What is read as a number is written so. -/
theorem ruv_inv : ∀ (l : List Nat) (k v u n : Nat), (∀ x ∈ l, x < 256) → k ≤ 9 → v < 2 ^ (7 * k) → ruv l k v = (u, n, 0) → ∃ q r, l = uv q ++ r ∧ n = k + (uv q).length ∧ u = v + q * 2 ^ (7 * k) ∧ (k = 0 ∨ 0 < q) ∧ u < 18446744073709551616
  | [], k, v, u, n, ho, hk, hv, h => by simp [ruv] at h
  | x :: l, k, v, u, n, ho, hk, hv, h => by
    have hx := ho x (by simp)
    have hp : 2 ^ (7 * (k + 1)) = 128 * 2 ^ (7 * k) := by rw [Nat.mul_add, Nat.pow_add]; omega
    by_cases h1 : k = 9 ∧ 1 < x
    · rw [ruv_nine x k v l h1.1 h1.2] at h
      simp at h
    by_cases h2 : 127 < x
    · rw [ruv_more x k v l h1 h2] at h
      have hk8 : k ≤ 8 := by omega
      obtain ⟨e1, e2⟩ := acc_hi (x := x) hk8 hv
      obtain ⟨q, r, rfl, rfl, rfl, hq, hu⟩ := ruv_inv l (k + 1) _ u n (fun y hy => ho y (by simp [hy])) (by omega) e2 h
      have hq : 0 < q := by omega
      refine ⟨x - 128 + q * 128, r, ?_, ?_, ?_, by omega, hu⟩
      · rw [uv_hi (x - 128 + q * 128) (by omega), show (x - 128 + q * 128) % 128 + 128 = x by omega, show (x - 128 + q * 128) / 128 = q by omega]
        rfl
      · rw [uv_hi (x - 128 + q * 128) (by omega), show (x - 128 + q * 128) / 128 = q by omega, List.length_cons]
        omega
      · rw [e1, hp, Nat.add_mul, show x % 128 = x - 128 by omega, Nat.add_assoc, Nat.mul_assoc]
    · by_cases h3 : 0 < k ∧ x = 0
      · rw [ruv_zero x k v l h3.1 h3.2] at h
        simp at h
      · rw [ruv_end x k v l h1 h2 h3] at h
        simp only [Prod.mk.injEq, and_true] at h
        obtain ⟨rfl, rfl⟩ := h
        have hlt : x * 2 ^ (7 * k) < 18446744073709551616 := by
          by_cases h9 : k = 9
          · subst h9
            have : x ≤ 1 := by omega
            have := Nat.mul_le_mul_right (2 ^ (7 * 9)) this
            exact Nat.lt_of_le_of_lt this (by decide)
          · have h2 : 2 ^ (7 * k) ≤ 2 ^ 56 := Nat.pow_le_pow_right (by decide) (by omega)
            have := Nat.mul_le_mul (show x ≤ 127 by omega) h2
            exact Nat.lt_of_le_of_lt this (by decide)
        have e := acc_add v x k hv (by rw [Nat.mod_eq_of_lt (by omega)]; exact hlt)
        rw [Nat.mod_eq_of_lt (by omega)] at e
        refine ⟨x, l, by rw [uv_lo x (by omega)]; rfl, by rw [uv_lo x (by omega)]; rfl, e, by omega, acc_lt _ _ _ ?_⟩
        by_cases h9 : k = 9
        · subst h9; exact Nat.lt_of_lt_of_le hv (by decide)
        · have h2 : 2 ^ (7 * k) ≤ 2 ^ 56 := Nat.pow_le_pow_right (by decide) (by omega)
          omega
theorem ruv_short : ∀ (q k v : Nat) (c' m : List Nat), (k = 0 ∨ 0 < q) → q * 2 ^ (7 * k) < 18446744073709551616 → uv q = c' ++ m → m ≠ [] → ruv c' k v = (0, 0, 2) := by
  intro q
  induction q using Nat.strongRecOn with
  | _ q ih =>
    intro k v c' m hk hq e hm
    by_cases hv : q < 128
    · rw [uv_lo q hv] at e
      cases c' with
      | nil => rfl
      | cons y c' =>
        simp only [List.cons_append, List.cons.injEq] at e
        exact absurd (List.append_eq_nil_iff.1 e.2.symm).2 hm
    · rw [uv_hi q hv] at e
      cases c' with
      | nil => rfl
      | cons y c' =>
        simp only [List.cons_append, List.cons.injEq] at e
        obtain ⟨rfl, e⟩ := e
        have hp : 2 ^ (7 * (k + 1)) = 128 * 2 ^ (7 * k) := by rw [Nat.mul_add, Nat.pow_add]; omega
        have h1 : q / 128 * 2 ^ (7 * (k + 1)) ≤ q * 2 ^ (7 * k) := by
          rw [hp, ← Nat.mul_assoc]
          exact Nat.mul_le_mul_right _ (by omega)
        have hk9 : k ≠ 9 := by
          rintro rfl
          have h63 : (2 : Nat) ^ (7 * 9) = 9223372036854775808 := by decide
          rw [h63] at hq
          omega
        rw [ruv_more _ k v _ (by omega) (by omega)]
        exact ih (q / 128) (by omega) (k + 1) _ c' m (by right; omega) (by omega) e hm
theorem reads_uv (u : Nat) (hu : u < 18446744073709551616) : Reads uvR (uv u) u := fun m => by
  unfold uvR
  rw [ruv_back u m hu]
  simp
theorem uv_inv {l r : List Nat} {u : Nat} (ho : ∀ x ∈ l, x < 256) (h : uvR l = .ok (u, r)) : l = uv u ++ r ∧ u < 18446744073709551616 := by
  unfold uvR at h
  split at h
  · next h0 =>
    obtain ⟨rfl, rfl⟩ := Prod.mk.inj (Except.ok.inj h)
    obtain ⟨q, r, e1, e2, e3, _, e5⟩ := ruv_inv l 0 0 (ruv l 0 0).1 (ruv l 0 0).2.1 ho (by decide) (by decide) (by
      generalize ruv l 0 0 = t at *
      obtain ⟨a, b, c⟩ := t
      simp only at h0
      rw [h0])
    have e3 : (ruv l 0 0).1 = q := by simpa using e3
    rw [e3] at e5 ⊢
    refine ⟨?_, e5⟩
    rw [e2, Nat.zero_add]
    conv => lhs; rw [e1]
    conv => rhs; rw [e1]
    simp
  · cases h
end Go.Proofs.YtlefdnjokppibaaGreatDoor
namespace Go.Proofs.YtlefdnjokppibaaGreatDoor
open Go.RowKit Math
set_option linter.unusedVariables false
/-! ### values one behind the other -/
def Fo.snoc : Fo → Vt → Fo
  | .nil, p => .cons p.1 p.2 .nil
  | .cons h k r, p => .cons h k (r.snoc p)
theorem snoc_list (p : Vt) : ∀ f : Fo, (f.snoc p).list = f.list ++ [p]
  | .nil => rfl
  | .cons h k r => by simp [Fo.snoc, Fo.list, snoc_list p r]
theorem Fo.ind {P : Fo → Prop} (h0 : P .nil) (h1 : ∀ f p, P f → P (f.snoc p)) (f : Fo) : P f := by
  have key : ∀ (r g : Fo), P g → ∀ f : Fo, f.list = g.list ++ r.list → P f := by
    have ext : ∀ f g : Fo, f.list = g.list → f = g := by
      intro f
      induction f with
      | nil => intro g h; cases g with
        | nil => rfl
        | cons h k r => simp [Fo.list] at h
      | cons h k r _ ih => intro g e; cases g with
        | nil => simp [Fo.list] at e
        | cons h' k' r' =>
          simp only [Fo.list, List.cons.injEq, Prod.mk.injEq] at e
          obtain ⟨⟨rfl, rfl⟩, e⟩ := e
          rw [ih r' e]
    intro r
    induction r with
    | nil => intro g hg f e; rw [ext f g (by simpa [Fo.list] using e)]; exact hg
    | cons h k r _ ih =>
      intro g hg f e
      exact ih (g.snoc (h, k)) (h1 g (h, k) hg) f (by rw [e, snoc_list]; simp [Fo.list])
  exact key f .nil h0 f rfl
/-- How deep values are. -/
def dpF : Fo → Nat
  | .nil => 0
  | .cons _ k r => max (1 + dpF k) (dpF r)
def dpV (p : Vt) : Nat := 1 + dpF p.2
theorem dp_snoc (p : Vt) : ∀ f : Fo, dpF (f.snoc p) = max (dpF f) (dpV p)
  | .nil => by simp [Fo.snoc, dpF, dpV]
  | .cons h k r => by simp only [Fo.snoc, dpF, dp_snoc p r]; omega
/-! ### the check without the depth -/
def chk0 : Fo → Int
  | .nil => 0
  | .cons h k r => if (if own h k.list.length ≠ 0 then own h k.list.length else chk0 k) ≠ 0 then (if own h k.list.length ≠ 0 then own h k.list.length else chk0 k) else chk0 r
def chk0V (p : Vt) : Int := if own p.1 p.2.list.length ≠ 0 then own p.1 p.2.list.length else chk0 p.2
theorem chk_flat : ∀ (f : Fo) (d : Int), d + (dpF f : Int) ≤ 17 → chk f d = chk0 f
  | .nil, d, _ => rfl
  | .cons h k r, d, hd => by
    simp only [dpF] at hd
    have e1 := chk_flat k (d + 1) (by omega)
    have e2 := chk_flat r d (by omega)
    simp only [chk, chk0]
    rw [if_neg (show ¬ 16 < d by omega), e1, e2]
theorem chkV_flat (p : Vt) (d : Int) (hd : d + (dpV p : Int) ≤ 17) : chkV p d = chk0V p := by
  unfold dpV at hd
  unfold chkV chk0V
  rw [if_neg (by omega), chk_flat p.2 (d + 1) (by omega)]
theorem chk0_cons (p : Vt) (r : Fo) : chk0 (.cons p.1 p.2 r) = if chk0V p ≠ 0 then chk0V p else chk0 r := rfl
theorem chk0_snoc (p : Vt) : ∀ f : Fo, chk0 (f.snoc p) = if chk0 f ≠ 0 then chk0 f else chk0V p
  | .nil => by
    show chk0 (.cons p.1 p.2 .nil) = _
    rw [chk0_cons]
    simp only [chk0]
    by_cases h : chk0V p = 0 <;> simp [h]
  | .cons h k r => by
    show chk0 (.cons (h, k).1 (h, k).2 (r.snoc p)) = _
    have e : chk0 (.cons h k r) = if chk0V (h, k) ≠ 0 then chk0V (h, k) else chk0 r := rfl
    rw [chk0_cons, chk0_snoc p r, e]
    by_cases h1 : chk0V (h, k) = 0 <;> simp [h1]
theorem deep_of : ∀ (f : Fo) (d : Int), d ≤ 17 → chk f d = 0 → d + (dpF f : Int) ≤ 17
  | .nil, d, hd, _ => by simp [dpF]; exact hd
  | .cons h k r, d, hd, hc => by
    simp only [chk] at hc
    by_cases h16 : 16 < d
    · rw [if_pos h16] at hc
      simp at hc
    rw [if_neg h16] at hc
    by_cases h1 : own h k.list.length = 0
    · simp only [h1, ne_eq, not_true_eq_false, if_false] at hc
      by_cases h2 : chk k (d + 1) = 0
      · simp only [h2, not_true_eq_false, if_false] at hc
        have a := deep_of k (d + 1) (by omega) h2
        have b := deep_of r d hd hc
        simp only [dpF]
        omega
      · simp [h2] at hc
    · simp [h1] at hc
theorem deepV_of (p : Vt) (d : Int) (hc : chkV p d = 0) : d + (dpV p : Int) ≤ 17 := by
  unfold chkV at hc
  by_cases h16 : 16 < d
  · rw [if_pos h16] at hc; cases hc
  rw [if_neg h16] at hc
  by_cases h1 : own p.1 p.2.list.length = 0
  · simp only [h1, ne_eq, not_true_eq_false, if_false] at hc
    have := deep_of p.2 (d + 1) (by omega) hc
    unfold dpV
    omega
  · simp [h1] at hc
/-! ### what is written -/
def txB (s : ByteArray) : List Nat := uv s.size ++ bts s
def bodyB (h : Hd) (kl : Nat) : List Nat :=
  if h.k = 2 then [h.n.toNat] else if h.k = 3 then uv (zigS h.n).toNat else if h.k = 4 then uv (zigS h.n).toNat ++ [h.s.toNat] else if h.k = 5 then uv h.n.toNat
  else if h.k = 6 then txB h.t else if h.k = 7 then txB h.t else if h.k = 8 then uv kl else if h.k = 9 then uv kl else []
def headB (h : Hd) (kl : Nat) : List Nat := h.k.toNat :: bodyB h kl
/-- Values one behind the other, each behind its name where they have names. -/
def enc : Fo → Bool → List ByteArray → List Nat
  | .nil, _, _ => []
  | .cons h k r, b, ns => ((if b then txB (ns.headD ⟨#[]⟩) else []) ++ (headB h k.list.length ++ enc k (decide (h.k = 9)) h.ns)) ++ enc r b ns.tail
def encV (p : Vt) : List Nat := headB p.1 p.2.list.length ++ enc p.2 (decide (p.1.k = 9)) p.1.ns
theorem enc_cons (p : Vt) (r : Fo) (b : Bool) (ns : List ByteArray) : enc (.cons p.1 p.2 r) b ns = ((if b then txB (ns.headD ⟨#[]⟩) else []) ++ encV p) ++ enc r b ns.tail := rfl
theorem enc_snoc (p : Vt) (s : ByteArray) : ∀ (f : Fo) (b : Bool) (ns : List ByteArray), (b = true → ns.length = f.list.length) → enc (f.snoc p) b (if b then ns ++ [s] else ns) = enc f b ns ++ ((if b then txB s else []) ++ encV p)
  | .nil, b, ns, h => by
    show enc (.cons p.1 p.2 .nil) b _ = _
    rw [enc_cons]
    cases b
    · simp [enc]
    · have : ns = [] := List.eq_nil_of_length_eq_zero (by simpa [Fo.list] using h rfl)
      subst this
      simp [enc]
  | .cons hd k r, b, ns, h => by
    show enc (.cons (hd, k).1 (hd, k).2 (r.snoc p)) b _ = enc (.cons (hd, k).1 (hd, k).2 r) b ns ++ _
    rw [enc_cons, enc_cons, List.append_assoc]
    cases b
    · have := enc_snoc p s r false ns.tail (by simp)
      simp only [Bool.false_eq_true, if_false] at this ⊢
      rw [this, List.append_assoc, List.append_assoc]
    · cases ns with
      | nil => simp [Fo.list] at h
      | cons x ns =>
        have := enc_snoc p s r true ns (fun _ => by simpa [Fo.list] using h rfl)
        simp only [if_true] at this ⊢
        simp only [List.cons_append, List.headD_cons, List.tail_cons]
        rw [this, List.append_assoc, List.append_assoc]
/-! ### what is read -/
abbrev em : ByteArray := ⟨#[]⟩
def lf (k n s : Int) (t : ByteArray) : Vt := (⟨k, n, s, t, []⟩, .nil)
def nst (k : Int) (q : Fo × List ByteArray) : Vt := (⟨k, 0, 0, em, q.2⟩, q.1)
def wr64 (u : Nat) : Int := if u < 9223372036854775808 then (u : Int) else (u : Int) - 18446744073709551616
def rdN (g : Rdr Vt) (b : Bool) : Nat → Rdr (Fo × List ByteArray)
  | 0 => .ret (.nil, [])
  | n + 1 => (rdN g b n).bind fun q => if b then txR.bind fun s => g.bind fun v => .ret (q.1.snoc v, q.2 ++ [s]) else g.bind fun v => .ret (q.1.snoc v, q.2)
def rdV : Nat → Rdr Vt
  | 0 => .no 9
  | d + 1 => byR.bind fun k =>
      if k = 1 then .ret (lf 1 0 0 em)
      else if k = 2 then byR.bind fun x => if 1 < x then .no 3 else .ret (lf 2 x 0 em)
      else if k = 3 then uvR.bind fun u => .ret (lf 3 (zagS u) 0 em)
      else if k = 4 then uvR.bind fun u => byR.bind fun x => .ret (lf 4 (zagS u) x em)
      else if k = 5 then uvR.bind fun u => .ret (lf 5 (wr64 u) 0 em)
      else if k = 6 then txR.bind fun t => .ret (lf 6 0 0 t)
      else if k = 7 then txR.bind fun t => .ret (lf 7 0 0 t)
      else if k = 8 then lenR.bind fun n => (rdN (fun l => rdV d l) false n).bind fun q => .ret (nst 8 q)
      else if k = 9 then lenR.bind fun n => (rdN (fun l => rdV d l) true n).bind fun q => .ret (nst 9 q)
      else .no 3
/-! ### good readers -/
theorem good_uv : Good uvR := fun l u r ho h => by
  obtain ⟨rfl, hu⟩ := uv_inv ho h
  refine ⟨uv u, rfl, reads_uv u hu, fun c' m e hm => ?_⟩
  unfold uvR
  rw [ruv_short u 0 0 c' m (.inl rfl) (by simpa using hu) e hm]
  rfl
theorem good_take (n : Nat) : Good (takeR n) := fun l x r ho h => by
  unfold takeR at h
  split at h
  · cases h
  · next hl =>
    obtain ⟨rfl, rfl⟩ := Prod.mk.inj (Except.ok.inj h)
    have hn : (l.take n).length = n := by rw [List.length_take]; omega
    refine ⟨l.take n, (List.take_append_drop n l).symm, fun m => ?_, fun c' m e hm => ?_⟩
    · unfold takeR
      rw [if_neg (by rw [List.length_append, hn]; omega), List.take_left' hn, List.drop_left' hn]
    · unfold takeR
      rw [if_pos]
      have := congrArg List.length e
      rw [hn, List.length_append] at this
      have := List.length_pos_iff.2 hm
      omega
theorem good_len : Good lenR := good_bind good_uv fun u => good_if (good_no _) (good_ret _)
theorem good_tx : Good txR := good_bind good_len fun n => good_bind (good_take n) fun b => good_ret _
theorem good_N {g : Rdr Vt} (hg : Good g) (b : Bool) : ∀ n, Good (rdN g b n)
  | 0 => good_ret _
  | n + 1 => good_bind (good_N hg b n) fun q => good_if (good_bind good_tx fun s => good_bind hg fun v => good_ret _) (good_bind hg fun v => good_ret _)
theorem good_V : ∀ d, Good (rdV d)
  | 0 => good_no _
  | d + 1 => good_bind good_by fun k => good_if (good_ret _) (good_if (good_bind good_by fun x => good_if (good_no _) (good_ret _)) (good_if (good_bind good_uv fun u => good_ret _) (good_if (good_bind good_uv fun u => good_bind good_by fun x => good_ret _)
      (good_if (good_bind good_uv fun u => good_ret _) (good_if (good_bind good_tx fun t => good_ret _) (good_if (good_bind good_tx fun t => good_ret _) (good_if (good_bind good_len fun n => good_bind (good_N (good_V d) _ n) fun q => good_ret _)
      (good_if (good_bind good_len fun n => good_bind (good_N (good_V d) _ n) fun q => good_ret _) (good_no _)))))))))
/-! ### what is written is read -/
theorem reads_len (n : Nat) (h : n ≤ 65536) : Reads lenR (uv n) n := fun m => by
  unfold lenR
  rw [bind_ok (reads_uv n (by omega) m), if_neg (by omega)]
  rfl
theorem reads_tx (s : ByteArray) (h : s.size ≤ 65536) : Reads txR (txB s) s := by
  refine reads_bind (reads_len s.size h) fun m => ?_
  have e : takeR s.size (bts s ++ m) = .ok (bts s, m) := by
    unfold takeR
    rw [if_neg (by rw [List.length_append, bts_len]; omega), List.take_left' (bts_len s), List.drop_left' (bts_len s)]
  rw [bind_ok e, ofB_bts]
  rfl
theorem reads_by (x : Nat) : Reads byR [x] x := fun m => rfl
structure Fine (h : Hd) (kl : Nat) : Prop where
  form : formed h kl = true
  t : h.t.size ≤ 16384
  c : kl ≤ 200
  nm : h.k = 9 → named h.ns kl = true
theorem own_fine {h : Hd} {kl : Nat} (e : own h kl = 0) : Fine h kl := by
  unfold own at e
  split at e
  · next hf =>
    split at e
    · cases e
    · next h2 =>
      split at e
      · cases e
      · next h3 =>
        refine ⟨hf, by omega, by omega, fun h9 => ?_⟩
        cases hn : named h.ns kl with
        | true => rfl
        | false => exact absurd ⟨h9, hn⟩ h3
  · cases e
theorem em_of {t : ByteArray} (h : t.toList.isEmpty = true) : t = em := by
  rw [ByteArray.toList_eq] at h
  cases t with
  | mk d =>
    cases d with
    | mk l =>
      cases l with
      | nil => rfl
      | cons a l => simp at h
theorem fo_nil {f : Fo} (h : f.list.length = 0) : f = .nil := by
  cases f with
  | nil => rfl
  | cons h k r => simp [Fo.list] at h
/-- The parts that a kind has, and no others. -/
theorem leaf_of {p : Vt} {F : Int} (h : only p.1 p.2.list.length F = true) (hF : F ≠ 16) (hF2 : F ≠ 24) : p.1.ns = [] ∧ p.2 = .nil ∧ (F ≠ 4 → p.1.t = em) ∧ (F ≠ 3 → p.1.s = 0) ∧ (F ≠ 1 → F ≠ 3 → p.1.n = 0) := by
  simp only [only, Bool.and_eq_true, Bool.or_eq_true, decide_eq_true_eq] at h
  obtain ⟨⟨⟨⟨h1, h2⟩, h3⟩, h4⟩, h5⟩ := h
  refine ⟨?_, ?_, fun hf => ?_, fun hf => ?_, fun ha hb => ?_⟩
  · rcases h4 with h4 | h4
    · exact absurd h4 hF2
    · exact List.eq_nil_of_length_eq_zero h4
  · rcases h5 with (h5 | h5) | h5
    · exact absurd h5 hF
    · exact absurd h5 hF2
    · exact fo_nil h5
  · rcases h3 with h3 | h3
    · exact absurd h3 hf
    · exact em_of h3
  · rcases h2 with h2 | h2
    · exact absurd h2 hf
    · exact h2
  · rcases h1 with (h1 | h1) | h1
    · exact absurd h1 ha
    · exact absurd h1 hb
    · exact h1
end Go.Proofs.YtlefdnjokppibaaGreatDoor
