/-
  order.Key. · Keys that are read: plain mathematics.
-/
import Derived.Test.YtmlfhplhiedfjaaGreatDoorOKh
import Derived.Test.YtmlfhplhiedfjaaGreatDoorOG4x
import Derived.Laws.BytesArg
namespace Go.Proofs.YtmlfhplhiedfjaaGreatDoor
open Go.RowKit Math
set_option linter.unusedVariables false
set_option linter.unusedSimpArgs false
theorem strOf2 (l : List Nat) (h : Oct l) : strOfNums (l.map fun n : Nat => (n : Int)) = ofB l := by
  unfold strOfNums ofB
  congr 2
  rw [List.map_map]
  apply List.map_congr_left
  intro x hx
  have := h x hx
  simp
theorem conv_byt {w : World} {a : Option Addr} {l : List Nat} {c : Nat} (h : Byt w a l) (ho : Oct l) (hnil : a = none → c = 0) : (convert 52 9 (.slice a l.length c)).run Tryz.prog w = .ok (.string (ofB l)) w := by
  cases a with
  | none =>
    have hl : l = [] := by
      rcases h with h | ⟨_, _, h, _⟩
      · exact h
      · cases h
    subst hl
    exact run_convert_bytes_nil w 52 5 Tryz.underlying52 Tryz.underlying5 0 c 9 Tryz.underlying9
  | some ad =>
    rw [← strOf2 _ ho]
    by_cases hl : l = []
    · subst hl
      rw [run_convert_bytes_string w 52 9 5 (some ad) ([] : List Nat).length c Tryz.underlying52 Tryz.underlying5 Tryz.underlying9]
      have hl : (loadCells ad 0).run Tryz.prog w = .ok #[] w := by simpa using run_loadCells_list (P := Tryz.prog) w ad [] (by simp)
      simp [Conv.bytesToString, hl, strOfNums]
      try rfl
    · rcases h with h | ⟨b, o, h, hc⟩
      · exact absurd h hl
      · obtain rfl := Option.some.inj h
        refine run_convert_bytes_arg w 52 5 Tryz.underlying52 Tryz.underlying5 b o l.length c _ (by rw [List.length_map]) (fun k hk => ?_) 9 Tryz.underlying9
        have := hc k hk
        rw [this]
        simp [List.getD_eq_getElem?_getD, hk]
/-! ### bytes -/
theorem txK_oct (s : ByteArray) : Oct (txK s) := fun x hx => by
  rcases List.mem_append.1 hx with h | h
  · exact esc_oct (bts_oct s) x h
  · simp at h; omega
theorem turnB_oct (l : List Nat) : Oct (turnB l) := fun x hx => by
  obtain ⟨y, _, rfl⟩ := List.mem_map.1 hx
  omega
theorem numB_oct (n s : Int) (n0 : -9223372036854775808 ≤ n) (n1 : n < 9223372036854775808) (hs0 : 0 ≤ s) (hs1 : s ≤ 18) : Oct (numB n s) := by
  unfold numB
  split
  · intro x hx; simp at hx; omega
  split
  · exact turnB_oct _
  · exact posB_oct _ _ (by omega) hs0 hs1
theorem numB_len (n s : Int) : (numB n s).length ≤ 22 := by
  have := posB_len n.natAbs s
  unfold numB turnB
  split
  · simp
  split
  · simpa using this
  · exact this
/-- A number's exponent. -/
theorem own_scale {h : Hd} {kl : Nat} (e : own h kl = 0) (hk : h.k = 3 ∨ h.k = 4) : 0 ≤ h.s ∧ h.s ≤ 18 := by
  have hf := (own_fine e).1
  unfold formed at hf
  rcases hk with h3 | h4
  · simp only [h3] at hf
    simp [only] at hf
    omega
  · simp only [h4] at hf
    simp at hf
    omega
theorem headK_oct {h : Hd} {kl : Nat} (e : own h kl = 0) (n0 : -9223372036854775808 ≤ h.n) (n1 : h.n < 9223372036854775808) : Oct (headK h) := by
  have hf := (own_fine e).1
  intro x hx
  have c1 : ∀ (y : Nat) (l : List Nat), y < 256 → Oct l → Oct (y :: l) := fun y l hy hl z hz => by
    rcases List.mem_cons.1 hz with rfl | hz
    · exact hy
    · exact hl z hz
  have o0 : Oct [] := fun z hz => by cases hz
  unfold headK at hx
  split at hx
  · exact c1 _ _ (by omega) o0 x hx
  split at hx
  · next _ h2 =>
    unfold formed at hf
    simp [h2] at hf
    exact c1 _ _ (by omega) (c1 _ _ (by omega) o0) x hx
  split at hx
  · next _ _ h3 =>
    obtain ⟨a, b⟩ := own_scale e (.inl h3)
    exact c1 _ _ (by omega) (numB_oct _ _ n0 n1 a b) x hx
  split at hx
  · next _ _ _ h4 =>
    obtain ⟨a, b⟩ := own_scale e (.inr h4)
    exact c1 _ _ (by omega) (numB_oct _ _ n0 n1 a b) x hx
  split at hx
  · exact c1 _ _ (by omega) (hf_oct _ _) x hx
  split at hx
  · exact c1 _ _ (by omega) (txK_oct _) x hx
  split at hx
  · exact c1 _ _ (by omega) (txK_oct _) x hx
  split at hx
  · exact c1 _ _ (by omega) o0 x hx
  · exact c1 _ _ (by omega) o0 x hx
theorem chk0_tail {h : Hd} {k r : Fo} (hc : chk0 (.cons h k r) = 0) : chk0V (h, k) = 0 ∧ chk0 r = 0 := by
  have c1 := chk0_mem (p := (h, k)) hc (by simp [Fo.list])
  refine ⟨c1, ?_⟩
  have e : chk0 (.cons h k r) = if chk0V (h, k) ≠ 0 then chk0V (h, k) else chk0 r := rfl
  rw [e, if_neg (by simpa using c1)] at hc
  exact hc
theorem oct_app {l m : List Nat} (h : Oct l) (k : Oct m) : Oct (l ++ m) := fun x hx => by
  rcases List.mem_append.1 hx with e | e
  · exact h x e
  · exact k x e
theorem keyF_oct : ∀ (f : Fo) (b : Bool) (ns : List ByteArray), Wf f → chk0 f = 0 → Oct (keyF f b ns)
  | .nil, _, _, _, _ => fun x hx => by cases hx
  | .cons h k r, b, ns, hw, hc => by
    obtain ⟨c1, c2⟩ := chk0_tail hc
    obtain ⟨a, b'⟩ := own_of0 c1
    have one0 : Oct [0] := fun x hx => by simp at hx; omega
    refine oct_app (oct_app ?_ (oct_app (headK_oct a hw.1.1.n0 hw.1.1.n1) ?_)) (keyF_oct r b _ hw.2 c2)
    · cases b
      · intro x hx; cases hx
      · intro x hx
        rcases List.mem_cons.1 hx with rfl | hx
        · omega
        · exact txK_oct _ x hx
    · split
      · exact oct_app (keyF_oct k _ _ hw.1.2.2 b') one0
      · intro x hx; cases hx
theorem keyF_false : ∀ (f : Fo) (ns : List ByteArray), keyF f false ns = keyF f false []
  | .nil, _ => rfl
  | .cons h k r, ns => by
    show (_ ++ _) ++ keyF r false ns.tail = (_ ++ _) ++ keyF r false ([] : List ByteArray).tail
    rw [keyF_false r ns.tail, keyF_false r ([] : List ByteArray).tail]
    simp
theorem bound_headK {h : Hd} {kl : Nat} (ho : own h kl = 0) : (headK h).length ≤ 40 + 2 * h.t.size := by
  have hn := numB_len h.n h.s
  have ht : (txK h.t).length ≤ 2 * h.t.size + 2 := by
    unfold txK
    have := (esc_len (bts h.t)).2
    rw [bts_len] at this
    simp
    omega
  have h8 := hf_length h.n.toNat 8
  unfold headK
  split
  · simp; omega
  split
  · simp; omega
  split
  · simp; omega
  split
  · simp; omega
  split
  · simp; omega
  split
  · simp; omega
  split
  · simp; omega
  split
  · simp; omega
  · simp; omega
theorem bound_keyF : ∀ (f : Fo) (b : Bool) (ns : List ByteArray), chk0 f = 0 → (∀ x ∈ ns, x.size ≤ 40) → (keyF f b ns).length ≤ 300 * f.ws
  | .nil, _, _, _, _ => by simp [keyF]
  | .cons h k r, b, ns, hc, hn => by
    obtain ⟨c1, c2⟩ := chk0_tail hc
    obtain ⟨a, b'⟩ := own_of0 c1
    have hk := own_fine a
    have B1 : (headK h).length ≤ 40 + 2 * h.t.size := bound_headK a
    have B2 : (keyF k (decide (h.k = 9)) h.ns).length ≤ 300 * k.ws := by
      by_cases h9 : h.k = 9
      · exact bound_keyF k _ _ b' (names_len (hk.nm h9)).2
      · have e1 : decide (h.k = 9) = false := by simpa using h9
        rw [e1, keyF_false]
        exact bound_keyF k false [] b' (by simp)
    have B3 := bound_keyF r b ns.tail c2 (fun x hx => hn x (List.mem_of_mem_tail hx))
    have B4 : (if b then 1 :: txK (ns.headD ⟨#[]⟩) else []).length ≤ 90 := by
      cases b
      · simp
      · simp only [if_true]
        have hs : (ns.headD ⟨#[]⟩).size ≤ 40 := by
          cases ns with
          | nil => decide
          | cons x ns => exact hn x (by simp)
        generalize ns.headD ⟨#[]⟩ = y at hs ⊢
        unfold txK
        have := (esc_len (bts y)).2
        rw [bts_len] at this
        simp
        omega
    have e : keyF (.cons h k r) b ns = ((if b then 1 :: txK (ns.headD ⟨#[]⟩) else []) ++ (headK h ++ (if 8 ≤ h.k then keyF k (decide (h.k = 9)) h.ns ++ [0] else []))) ++ keyF r b ns.tail := rfl
    have B5 : (if 8 ≤ h.k then keyF k (decide (h.k = 9)) h.ns ++ [0] else []).length ≤ 300 * k.ws + 1 := by
      split
      · simp; omega
      · simp
    rw [e, List.length_append, List.length_append, List.length_append]
    simp only [Fo.ws, wsH]
    omega
/-! ### lists of values -/
def chkL : Fo → Int
  | .nil => 0
  | .cons h k r => if chkV (h, k) 1 ≠ 0 then chkV (h, k) 1 else chkL r
theorem chkL_drop {f : Fo} {k : Nat} {q : Vt} (h : f.list[k]? = some q) : chkL (f.drop k) = if chkV q 1 ≠ 0 then chkV q 1 else chkL (f.drop (k + 1)) := by
  rw [Fo.drop_at f k q h]; rfl
theorem chk1 {p : Vt} (h : chkV p 1 = 0) : chk0V p = 0 := by rw [← chkV_flat p 1 (deepV_of p 1 h)]; exact h
theorem chkL_flat : ∀ f : Fo, chkL f = 0 → chk0 f = 0
  | .nil, _ => rfl
  | .cons h k r, hc => by
    unfold chkL at hc
    split at hc
    · next hn => exact absurd hc hn
    · next hn =>
      have h1 : chk0V (h, k) = 0 := chk1 (by simpa using hn)
      have e : chk0 (.cons h k r) = if chk0V (h, k) ≠ 0 then chk0V (h, k) else chk0 r := rfl
      rw [e, if_neg (by simpa using h1)]
      exact chkL_flat r hc
def hdL : Hd := ⟨8, 0, 0, em, []⟩
def keyT (f : Fo) : ByteArray := if chkL f = 0 then ofB (keyF f false []) else em
end Go.Proofs.YtmlfhplhiedfjaaGreatDoor
namespace Go.Proofs.YtmlfhplhiedfjaaGreatDoor
open Go.RowKit Math
set_option linter.unusedVariables false
set_option linter.unusedSimpArgs false
/-! ### forests, one behind the other -/
def Fo.app : Fo → Fo → Fo
  | .nil, g => g
  | .cons h k r, g => .cons h k (r.app g)
theorem app_snoc (p : Vt) (g : Fo) : ∀ f : Fo, (f.snoc p).app g = f.app (.cons p.1 p.2 g)
  | .nil => rfl
  | .cons h k r => by
    show Fo.cons h k ((r.snoc p).app g) = .cons h k (r.app _)
    rw [app_snoc p g r]
theorem app_nil : ∀ f : Fo, f.app .nil = f
  | .nil => rfl
  | .cons h k r => by
    show Fo.cons h k (r.app .nil) = _
    rw [app_nil r]
theorem app_list (g : Fo) : ∀ f : Fo, (f.app g).list = f.list ++ g.list
  | .nil => rfl
  | .cons h k r => by
    show (h, k) :: (r.app g).list = _
    rw [app_list g r]; rfl
theorem keyF_snoc (p : Vt) (s : ByteArray) : ∀ (f : Fo) (b : Bool) (ns : List ByteArray), (b = true → ns.length = f.list.length) → keyF (f.snoc p) b (if b then ns ++ [s] else ns) = keyF f b ns ++ ((if b then 1 :: txK s else []) ++ keyV p)
  | .nil, b, ns, h => by
    show keyF (.cons p.1 p.2 .nil) b _ = _
    rw [keyF_cons]
    cases b with
    | false => simp [keyF]
    | true =>
      have : ns = [] := List.eq_nil_of_length_eq_zero (h rfl)
      subst this
      simp [keyF]
  | .cons hd k r, b, ns, h => by
    show keyF (.cons hd k (r.snoc p)) b _ = keyF (.cons hd k r) b ns ++ _
    rw [show ∀ (x : Fo) (b : Bool) (ns : List ByteArray), keyF (.cons hd k x) b ns = ((if b then 1 :: txK (ns.headD ⟨#[]⟩) else []) ++ keyV (hd, k)) ++ keyF x b ns.tail from fun x b ns => rfl, show ∀ (x : Fo) (b : Bool) (ns : List ByteArray), keyF (.cons hd k x) b ns = ((if b then 1 :: txK (ns.headD ⟨#[]⟩) else []) ++ keyV (hd, k)) ++ keyF x b ns.tail from fun x b ns => rfl]
    cases b with
    | false =>
      have := keyF_snoc p s r false ns.tail (by simp)
      simp only [Bool.false_eq_true, if_false] at this ⊢
      rw [this]
      simp
    | true =>
      cases ns with
      | nil => have := h rfl; simp [Fo.list] at this
      | cons n ns =>
        have := keyF_snoc p s r true ns (fun _ => by have := h rfl; simpa [Fo.list] using this)
        simp only [if_true] at this ⊢
        simp only [List.cons_append, List.tail_cons, List.headD_cons]
        rw [this]
        simp
/-! ### a value's class -/
def cby (k : Int) : Nat := if k = 1 then 16 else if k = 2 then 32 else if k = 3 then 48 else if k = 4 then 48 else if k = 5 then 64 else if k = 6 then 80 else if k = 7 then 96 else if k = 8 then 112 else 128
theorem key_class (p : Vt) : ∃ l, keyV p = cby p.1.k :: l := by
  unfold keyV headK cby
  split
  · exact ⟨_, rfl⟩
  split
  · exact ⟨_, rfl⟩
  split
  · exact ⟨_, rfl⟩
  split
  · exact ⟨_, rfl⟩
  split
  · exact ⟨_, rfl⟩
  split
  · exact ⟨_, rfl⟩
  split
  · exact ⟨_, rfl⟩
  split
  · exact ⟨_, rfl⟩
  · exact ⟨_, rfl⟩
theorem cby_ge (k : Int) : 16 ≤ cby k := by
  unfold cby; (repeat' split) <;> omega
theorem byt_ext {a : ByteArray} (h : a.toList = []) : a = ⟨#[]⟩ := by
  rw [ByteArray.toList_eq] at h
  obtain ⟨⟨l⟩⟩ := a
  simp only at h
  rw [h]
theorem form_all {h : Hd} {kl : Nat} (hf : formed h kl = true) : (h.k = 1 ∨ h.k = 2 ∨ h.k = 3 ∨ h.k = 4 ∨ h.k = 5 ∨ h.k = 6 ∨ h.k = 7 ∨ h.k = 8 ∨ h.k = 9) ∧ (h.k ≠ 2 → h.k ≠ 3 → h.k ≠ 4 → h.k ≠ 5 → h.n = 0) ∧ (h.k ≠ 4 → h.s = 0) ∧ (h.k ≠ 6 → h.k ≠ 7 → h.t = ⟨#[]⟩) ∧ (h.k ≠ 9 → h.ns = []) ∧ (h.k ≠ 8 → h.k ≠ 9 → kl = 0) := by
  by_cases hk : h.k = 1 ∨ h.k = 2 ∨ h.k = 3 ∨ h.k = 4 ∨ h.k = 5 ∨ h.k = 6 ∨ h.k = 7 ∨ h.k = 8 ∨ h.k = 9
  · refine ⟨hk, ?_⟩
    have ht : h.t.toList = [] → h.t = ⟨#[]⟩ := byt_ext
    rcases hk with hk | hk | hk | hk | hk | hk | hk | hk | hk <;> simp [formed, only, hk] at hf <;> simp [hk] <;> simp_all
  · simp only [not_or] at hk
    obtain ⟨k1, k2, k3, k4, k5, k6, k7, k8, k9⟩ := hk
    simp [formed, k1, k2, k3, k4, k5, k6, k7, k8, k9] at hf
theorem hd_eq {a b : Hd} (h1 : a.k = b.k) (h2 : a.n = b.n) (h3 : a.s = b.s) (h4 : a.t = b.t) (h5 : a.ns = b.ns) : a = b := by
  obtain ⟨k, n, s, t, ns⟩ := a
  obtain ⟨k', n', s', t', ns'⟩ := b
  simp only at *
  rw [h1, h2, h3, h4, h5]
theorem nil_of {f : Fo} (h : f.list.length = 0) : f = .nil := by
  cases f with
  | nil => rfl
  | cons a b c => simp [Fo.list] at h
theorem ckv_own {p : Vt} {d : Int} (h : chkV p d = 0) : ¬ 16 < d ∧ own p.1 p.2.list.length = 0 ∧ chk p.2 (d + 1) = 0 := by
  unfold chkV at h
  split at h
  · cases h
  · next h1 =>
    split at h
    · next h2 => exact absurd h h2
    · next h2 => exact ⟨h1, Classical.byContradiction h2, h⟩
/-- A value of a class without kids. -/
theorem flat_eq {p : Vt} {d : Int} (h : chkV p d = 0) (h8 : p.1.k ≠ 8) (h9 : p.1.k ≠ 9) : p = (⟨p.1.k, p.1.n, p.1.s, p.1.t, []⟩, .nil) := by
  obtain ⟨_, ho, _⟩ := ckv_own h
  obtain ⟨hk, a1, a2, a3, a4, a5⟩ := form_all (own_fine ho).1
  have e1 := nil_of (a5 h8 h9)
  have e2 := a4 h9
  obtain ⟨⟨k, n, s, t, ns⟩, f⟩ := p
  simp only at e1 e2 ⊢
  rw [e1, e2]
/-! ### what is read -/
/-- Something is read: what is behind it; what it was written as; whatever is so written is read. -/
structure Rd {α : Type} (enc : α → List Nat) (Ps Pc : α → Prop) (l : List Nat) (bad : Bool) (l' : List Nat) (bad' : Bool) (x : α) : Prop where
  suf : ∃ c, l = c ++ l'
  so : bad' = false → bad = false ∧ (Ps x → l = enc x ++ l')
  co : bad = false → ∀ y m, Pc y → l = enc y ++ m → bad' = false ∧ x = y ∧ l' = m
/-- A byte. -/
def Rb (l : List Nat) (bad : Bool) (l' : List Nat) (bad' : Bool) (x : Nat) : Prop := Rd (fun x : Nat => [x]) (fun _ => True) (fun _ => True) l bad l' bad' x
theorem Rd.suf2 {α β : Type} {enc : α → List Nat} {Ps Pc : α → Prop} {enc2 : β → List Nat} {Ps2 Pc2 : β → Prop} {l l1 l2 : List Nat} {b b1 b2 : Bool} {x : α} {y : β} (h : Rd enc Ps Pc l b l1 b1 x) (k : Rd enc2 Ps2 Pc2 l1 b1 l2 b2 y) : ∃ c, l = c ++ l2 := by
  obtain ⟨c, hc⟩ := h.suf
  obtain ⟨e, he⟩ := k.suf
  exact ⟨c ++ e, by rw [hc, he, List.append_assoc]⟩
/-- A value. -/
structure Vr (sd : Prop) (d : Int) (l : List Nat) (bad : Bool) (l' : List Nat) (bad' : Bool) (v : Vt) : Prop where
  rd : Rd keyV (fun v => sd ∧ chk0V v = 0) (fun v => WfV v ∧ chkV v d = 0) l bad l' bad' v
  pr : bad' = false → l'.length < l.length
/-- Whatever a value's key begins with. -/
theorem rb_class {l l1 : List Nat} {bad bad1 : Bool} {c : Nat} (R : Rb l bad l1 bad1 c) (hb : bad = false) (y : Vt) (m : List Nat) (h : l = keyV y ++ m) : bad1 = false ∧ cby y.1.k = c ∧ keyV y ++ m = c :: l1 := by
  obtain ⟨t, ht⟩ := key_class y
  rw [ht, List.cons_append] at h
  obtain ⟨h1, h2, h3⟩ := R.co hb (cby y.1.k) (t ++ m) trivial h
  exact ⟨h1, h2.symm, by rw [ht, List.cons_append, h2, h3]⟩
theorem rb_len {l l1 l2 : List Nat} {bad bad1 : Bool} {c : Nat} (R : Rb l bad l1 bad1 c) (hb : bad1 = false) (h2 : ∃ e, l1 = e ++ l2) : l2.length < l.length := by
  have := (R.so hb).2 trivial
  obtain ⟨e, he⟩ := h2
  rw [this, he]
  simp
  omega
/-- What follows a class, and the value that it makes. -/
theorem vr_then {α : Type} {enc : α → List Nat} {Ps Pc : α → Prop} {sd : Prop} {d : Int} {l l1 l2 : List Nat} {bad bad1 bad2 : Bool} {c : Nat} {x : α} (mk : α → Vt) (R1 : Rb l bad l1 bad1 c) (R2 : Rd enc Ps Pc l1 bad1 l2 bad2 x)
    (h1 : sd → chk0V (mk x) = 0 → Ps x ∧ keyV (mk x) = c :: enc x)
    (h2 : ∀ y : Vt, WfV y → chkV y d = 0 → cby y.1.k = c → ∃ z, y = mk z ∧ Pc z ∧ keyV y = c :: enc z) : Vr sd d l bad l2 bad2 (mk x) := by
  refine ⟨⟨R1.suf2 R2, fun hb => ?_, fun hb y m hy hl => ?_⟩, fun hb => ?_⟩
  · obtain ⟨a1, a2⟩ := R2.so hb
    obtain ⟨b1, b2⟩ := R1.so a1
    refine ⟨b1, fun ⟨s1, s2⟩ => ?_⟩
    obtain ⟨p1, p2⟩ := h1 s1 s2
    rw [b2 trivial, a2 p1, p2]
    rfl
  · obtain ⟨a1, a2, a3⟩ := rb_class R1 hb y m hl
    obtain ⟨z, z1, z2, z3⟩ := h2 y hy.1 hy.2 a2
    rw [z3, List.cons_append] at a3
    injection a3 with _ a3
    obtain ⟨c1, c2, c3⟩ := R2.co a1 z m z2 a3.symm
    exact ⟨c1, by rw [c2, z1], c3⟩
  · exact rb_len R1 (R2.so hb).1 R2.suf
theorem vr_null {sd : Prop} {d : Int} {l l1 : List Nat} {bad bad1 : Bool} (R1 : Rb l bad l1 bad1 16) : Vr sd d l bad l1 bad1 (⟨1, 0, 0, ⟨#[]⟩, []⟩, .nil) := by
  have R2 : Rd (fun _ : Unit => []) (fun _ => True) (fun _ => True) l1 bad1 l1 bad1 () := ⟨⟨[], rfl⟩, fun h => ⟨h, fun _ => rfl⟩, fun h y m _ e => ⟨h, rfl, e⟩⟩
  refine vr_then (fun _ => (⟨1, 0, 0, ⟨#[]⟩, []⟩, .nil)) R1 R2 (fun _ _ => ⟨trivial, rfl⟩) (fun y hw hy hc => ⟨(), ?_⟩)
  obtain ⟨_, ho, _⟩ := ckv_own hy
  obtain ⟨hk, a1, a2, a3, a4, a5⟩ := form_all (own_fine ho).1
  have k1 : y.1.k = 1 := by unfold cby at hc; (repeat' split at hc) <;> omega
  have e : y = (⟨1, 0, 0, ⟨#[]⟩, []⟩, .nil) := by
    rw [flat_eq hy (by omega) (by omega), k1, a1 (by omega) (by omega) (by omega) (by omega), a2 (by omega), a3 (by omega) (by omega)]
  exact ⟨e, trivial, by rw [e]; rfl⟩
theorem vr_bool {sd : Prop} {d : Int} {l l1 l2 : List Nat} {bad bad1 bad2 : Bool} {x : Nat} (R1 : Rb l bad l1 bad1 32) (R2 : Rb l1 bad1 l2 bad2 x) : Vr sd d l bad l2 bad2 (⟨2, (x : Int), 0, ⟨#[]⟩, []⟩, .nil) := by
  refine vr_then (fun x : Nat => (⟨2, (x : Int), 0, ⟨#[]⟩, []⟩, .nil)) R1 R2 (fun _ _ => ⟨trivial, by simp [keyV, headK]⟩) (fun y hw hy hc => ⟨y.1.n.toNat, ?_⟩)
  obtain ⟨_, ho, _⟩ := ckv_own hy
  obtain ⟨hk, a1, a2, a3, a4, a5⟩ := form_all (own_fine ho).1
  have k1 : y.1.k = 2 := by unfold cby at hc; (repeat' split at hc) <;> omega
  have hn : y.1.n = 0 ∨ y.1.n = 1 := by
    have := (own_fine ho).1
    unfold formed at this
    simp [k1] at this
    omega
  have e : y = (⟨2, ((y.1.n.toNat : Nat) : Int), 0, ⟨#[]⟩, []⟩, .nil) := by
    have h := flat_eq hy (by omega) (by omega)
    rw [k1, a2 (by omega), a3 (by omega) (by omega)] at h
    rw [show ((y.1.n.toNat : Nat) : Int) = y.1.n by omega]
    exact h
  exact ⟨e, trivial, by rw [e]; simp [keyV, headK]⟩
/-- A number. -/
def NumOk (h : Hd) : Prop := Hok h ∧ own h 0 = 0 ∧ (h.k = 3 ∨ h.k = 4) ∧ h.t = ⟨#[]⟩ ∧ h.ns = []
theorem vr_num {sd : Prop} {d : Int} {l l1 l2 : List Nat} {bad bad1 bad2 : Bool} {x : Hd} (R1 : Rb l bad l1 bad1 48) (R2 : Rd (fun h : Hd => numB h.n h.s) (fun h => sd ∧ (h.k = 3 ∨ h.k = 4)) NumOk l1 bad1 l2 bad2 x) (hx : sd → chk0V (x, .nil) = 0 → x.k = 3 ∨ x.k = 4) : Vr sd d l bad l2 bad2 (x, .nil) := by
  have kn : ∀ h : Hd, h.k = 3 ∨ h.k = 4 → keyV (h, .nil) = 48 :: numB h.n h.s := fun h hk => by
    unfold keyV headK
    rcases hk with e | e <;> simp [e]
  refine vr_then (fun x : Hd => (x, .nil)) R1 R2 (fun s1 s2 => ⟨⟨s1, hx s1 s2⟩, kn x (hx s1 s2)⟩) (fun y hw hy hc => ⟨y.1, ?_⟩)
  obtain ⟨_, ho, _⟩ := ckv_own hy
  obtain ⟨hk, a1, a2, a3, a4, a5⟩ := form_all (own_fine ho).1
  have k1 : y.1.k = 3 ∨ y.1.k = 4 := by unfold cby at hc; (repeat' split at hc) <;> omega
  have e1 := nil_of (a5 (by omega) (by omega))
  have e : y = (y.1, .nil) := by
    obtain ⟨h, f⟩ := y
    simp only at e1 ⊢
    rw [e1]
  exact ⟨e, ⟨hw.1, by rw [a5 (by omega) (by omega)] at ho; exact ho, k1, a3 (by omega) (by omega), a4 (by omega)⟩, by rw [e]; exact kn _ k1⟩
theorem vr_time {sd : Prop} {d : Int} {l l1 l2 : List Nat} {bad bad1 bad2 : Bool} {x : Int} (R1 : Rb l bad l1 bad1 64) (R2 : Rd (fun n : Int => hf n.toNat 8) (fun n => sd ∧ 0 ≤ n) (fun n => 0 ≤ n ∧ n ≤ 9007199254740992) l1 bad1 l2 bad2 x) : Vr sd d l bad l2 bad2 (⟨5, x, 0, ⟨#[]⟩, []⟩, .nil) := by
  have kn : ∀ n : Int, keyV (⟨5, n, 0, ⟨#[]⟩, []⟩, .nil) = 64 :: hf n.toNat 8 := fun n => by simp [keyV, headK]
  refine vr_then (fun x : Int => (⟨5, x, 0, ⟨#[]⟩, []⟩, .nil)) R1 R2 (fun s1 s2 => ⟨⟨s1, ?_⟩, kn x⟩) (fun y hw hy hc => ⟨y.1.n, ?_⟩)
  · have := (own_fine (own_of0 s2).1).1
    unfold formed at this
    simp at this
    omega
  · obtain ⟨_, ho, _⟩ := ckv_own hy
    obtain ⟨hk, a1, a2, a3, a4, a5⟩ := form_all (own_fine ho).1
    have k1 : y.1.k = 5 := by unfold cby at hc; (repeat' split at hc) <;> omega
    have hn : 0 ≤ y.1.n ∧ y.1.n ≤ 9007199254740992 := by
      have := (own_fine ho).1
      unfold formed at this
      simp [k1] at this
      omega
    have e : y = (⟨5, y.1.n, 0, ⟨#[]⟩, []⟩, .nil) := by
      have h := flat_eq hy (by omega) (by omega)
      rw [k1, a2 (by omega), a3 (by omega) (by omega)] at h
      exact h
    exact ⟨e, hn, by rw [e]; exact kn _⟩
theorem vr_text {sd : Prop} {d : Int} {l l1 l2 : List Nat} {bad bad1 bad2 : Bool} {x : ByteArray} (k : Int) (c : Nat) (hkc : (k = 6 ∧ c = 80) ∨ (k = 7 ∧ c = 96)) (R1 : Rb l bad l1 bad1 c) (R2 : Rd txK (fun _ => sd) (fun _ => True) l1 bad1 l2 bad2 x) : Vr sd d l bad l2 bad2 (⟨k, 0, 0, x, []⟩, .nil) := by
  have kn : ∀ t : ByteArray, keyV (⟨k, 0, 0, t, []⟩, .nil) = c :: txK t := fun t => by
    rcases hkc with ⟨rfl, rfl⟩ | ⟨rfl, rfl⟩ <;> simp [keyV, headK]
  refine vr_then (fun x : ByteArray => (⟨k, 0, 0, x, []⟩, .nil)) R1 R2 (fun s1 s2 => ⟨s1, kn x⟩) (fun y hw hy hc => ⟨y.1.t, ?_⟩)
  obtain ⟨_, ho, _⟩ := ckv_own hy
  obtain ⟨hk, a1, a2, a3, a4, a5⟩ := form_all (own_fine ho).1
  have k1 : y.1.k = k := by unfold cby at hc; (repeat' split at hc) <;> omega
  have e : y = (⟨k, 0, 0, y.1.t, []⟩, .nil) := by
    have h := flat_eq hy (by omega) (by omega)
    rw [k1, a1 (by omega) (by omega) (by omega) (by omega), a2 (by omega)] at h
    exact h
  exact ⟨e, trivial, by rw [e]; exact kn _⟩
/-! ### lists and structs -/
def encN (b : Bool) (x : Fo × List ByteArray) : List Nat := keyF x.1 b x.2 ++ [0]
structure NsOk (b : Bool) (d : Int) (x : Fo × List ByteArray) : Prop where
  wf : Wf x.1
  ck : chk x.1 (d + 1) = 0
  ln : b = true → x.2.length = x.1.list.length
  no : b = false → x.2 = []
  le : x.1.list.length ≤ 200
theorem vr_nest {sd : Prop} {d : Int} {l l1 l2 : List Nat} {bad bad1 bad2 : Bool} {x : Fo × List ByteArray} (k : Int) (b : Bool) (c : Nat) (hkc : (k = 8 ∧ b = false ∧ c = 112) ∨ (k = 9 ∧ b = true ∧ c = 128)) (R1 : Rb l bad l1 bad1 c) (R2 : Rd (encN b) (fun x => sd ∧ chk0 x.1 = 0) (NsOk b d) l1 bad1 l2 bad2 x) : Vr sd d l bad l2 bad2 (⟨k, 0, 0, ⟨#[]⟩, x.2⟩, x.1) := by
  have kn : ∀ x : Fo × List ByteArray, keyV (⟨k, 0, 0, ⟨#[]⟩, x.2⟩, x.1) = c :: encN b x := fun t => by
    rcases hkc with ⟨rfl, rfl, rfl⟩ | ⟨rfl, rfl, rfl⟩ <;> simp [keyV, headK, encN]
  refine vr_then (fun x : Fo × List ByteArray => (⟨k, 0, 0, ⟨#[]⟩, x.2⟩, x.1)) R1 R2 (fun s1 s2 => ⟨⟨s1, (own_of0 s2).2⟩, kn x⟩) (fun y hw hy hc => ⟨(y.2, y.1.ns), ?_⟩)
  obtain ⟨_, ho, hck⟩ := ckv_own hy
  have fn := own_fine ho
  obtain ⟨hk, a1, a2, a3, a4, a5⟩ := form_all fn.1
  have k1 : y.1.k = k := by unfold cby at hc; (repeat' split at hc) <;> omega
  have e : y = (⟨k, 0, 0, ⟨#[]⟩, y.1.ns⟩, y.2) := by
    refine Prod.ext (hd_eq k1 (a1 (by omega) (by omega) (by omega) (by omega)) (a2 (by omega)) (a3 (by omega) (by omega)) rfl) rfl
  have hle : y.2.list.length ≤ 200 := by
    unfold own at ho
    rw [if_pos fn.1] at ho
    split at ho
    · cases ho
    · omega
  refine ⟨e, ⟨hw.2.2, hck, fun hb => ?_, fun hb => ?_, hle⟩, ?_⟩
  · have k9 : y.1.k = 9 := by
      rcases hkc with ⟨_, e, _⟩ | ⟨e, _⟩
      · rw [e] at hb; cases hb
      · omega
    unfold own at ho
    rw [if_pos fn.1] at ho
    split at ho
    · cases ho
    split at ho
    · cases ho
    · next h3 =>
      have : named y.1.ns y.2.list.length = true := by
        cases hn : named y.1.ns y.2.list.length with
        | true => rfl
        | false => exact absurd ⟨k9, hn⟩ h3
      unfold named at this
      simp at this
      exact this.1
  · have k8 : y.1.k = 8 := by
      rcases hkc with ⟨e, _⟩ | ⟨_, e, _⟩
      · omega
      · rw [e] at hb; cases hb
    exact a4 (by omega)
  · have := kn (y.2, y.1.ns)
    rw [← this]
    exact congrArg keyV e
/-- Too deep. -/
theorem vr_deep {sd : Prop} {d : Int} {l l' : List Nat} {bad : Bool} {v : Vt} (hd : 16 < d) (hs : ∃ c, l = c ++ l') : Vr sd d l bad l' true v :=
  ⟨⟨hs, fun h => (by cases h), fun _ y m hy _ => absurd hd (ckv_own hy.2).1⟩, fun h => by cases h⟩
/-- No class. -/
theorem vr_none {sd : Prop} {d : Int} {l l1 : List Nat} {bad bad1 : Bool} {c : Nat} {v : Vt} (R1 : Rb l bad l1 bad1 c) (hc : c ≠ 16 ∧ c ≠ 32 ∧ c ≠ 48 ∧ c ≠ 64 ∧ c ≠ 80 ∧ c ≠ 96 ∧ c ≠ 112 ∧ c ≠ 128) : Vr sd d l bad l1 true v := by
  refine ⟨⟨R1.suf, fun h => (by cases h), fun hb y m hy hl => ?_⟩, fun h => by cases h⟩
  have h1 := (rb_class R1 hb y m hl).2.1
  unfold cby at h1
  (repeat' split at h1) <;> omega
/-! ### a nest, while it is read -/
structure Ns (sd : Prop) (b : Bool) (d : Int) (l : List Nat) (bad : Bool) (lk : List Nat) (badk : Bool) (f : Fo) (ns : List ByteArray) : Prop where
  suf : ∃ c, l = c ++ lk
  so : badk = false → bad = false ∧ (sd ∧ chk0 f = 0 → l = keyF f b ns ++ lk)
  co : bad = false → ∀ (x : Fo × List ByteArray) m, NsOk b d x → l = encN b x ++ m → badk = false ∧ ∃ g ms, x.1 = f.app g ∧ x.2 = ns ++ ms ∧ lk = keyF g b ms ++ (0 :: m) ∧ Wf g ∧ chk g (d + 1) = 0 ∧ (b = true → ms.length = g.list.length)
  ln : b = true → ns.length = f.list.length
  no : b = false → ns = []
theorem Ns.start (sd : Prop) (b : Bool) (d : Int) (l : List Nat) (bad : Bool) : Ns sd b d l bad l bad .nil [] :=
  ⟨⟨[], rfl⟩, fun h => ⟨h, fun _ => rfl⟩, fun h x m hx hl => ⟨h, x.1, x.2, rfl, rfl, by rw [hl]; simp [encN], hx.wf, hx.ck, hx.ln⟩, fun _ => rfl, fun _ => rfl⟩
theorem wf_cons {h : Hd} {k r : Fo} (hw : Wf (.cons h k r)) : WfV (h, k) ∧ Wf r := hw
theorem chk_cons2 {h : Hd} {k r : Fo} {d : Int} (hc : chk (.cons h k r) d = 0) : chkV (h, k) d = 0 ∧ chk r d = 0 := by
  have e : chk (.cons h k r) d = if chkV (h, k) d ≠ 0 then chkV (h, k) d else chk r d := rfl
  rw [e] at hc
  split at hc
  · next x => exact absurd hc x
  · next x => exact ⟨Classical.byContradiction x, hc⟩
/-- A value more, in a List. -/
theorem Ns.kid {sd : Prop} {d : Int} {l lk l' : List Nat} {bad badk bad' : Bool} {f : Fo} {v : Vt} (h : Ns sd false d l bad lk badk f []) (hne : ∀ t, lk ≠ 0 :: t) (R : Vr sd (d + 1) lk badk l' bad' v) : Ns sd false d l bad l' bad' (f.snoc v) [] := by
  refine ⟨?_, fun hb => ?_, fun hb x m hx hl => ?_, fun e => (by cases e), fun _ => rfl⟩
  · obtain ⟨c, hc⟩ := h.suf
    obtain ⟨e, he⟩ := R.rd.suf
    exact ⟨c ++ e, by rw [hc, he, List.append_assoc]⟩
  · obtain ⟨a1, a2⟩ := R.rd.so hb
    obtain ⟨b1, b2⟩ := h.so a1
    refine ⟨b1, fun ⟨s1, s2⟩ => ?_⟩
    rw [chk0_snoc] at s2
    split at s2
    · next e => exact absurd s2 e
    · next e =>
      have := keyF_snoc v ⟨#[]⟩ f false [] (by simp)
      simp only [Bool.false_eq_true, if_false] at this
      rw [this, b2 ⟨s1, Classical.byContradiction e⟩, a2 ⟨s1, s2⟩]
      simp
  · obtain ⟨a1, g, ms, e1, e2, e3, e4, e5, e6⟩ := h.co hb x m hx hl
    cases g with
    | nil => exact absurd e3 (hne m)
    | cons hd k r =>
      obtain ⟨w1, w2⟩ := wf_cons e4
      obtain ⟨c1, c2⟩ := chk_cons2 e5
      rw [show keyF (.cons hd k r) false ms = _ from keyF_cons (hd, k) r false ms] at e3
      simp only [Bool.false_eq_true, if_false, List.nil_append, List.append_assoc] at e3
      obtain ⟨r1, r2, r3⟩ := R.rd.co a1 (hd, k) _ ⟨w1, c1⟩ e3
      refine ⟨r1, r, [], by rw [e1, r2, app_snoc], by rw [hx.no rfl]; rfl, by rw [r3, keyF_false r ms.tail], w2, c2, fun e => by cases e⟩
/-- A field more, in a Struct: its mark, its name, its value. -/
theorem Ns.field {sd : Prop} {d : Int} {l lk l1 l2 l' : List Nat} {bad badk bad1 bad2 bad' : Bool} {f : Fo} {ns : List ByteArray} {s : ByteArray} {v : Vt} (h : Ns sd true d l bad lk badk f ns) (R1 : Rb lk badk l1 bad1 1) (R2 : Rd txK (fun _ => sd) (fun _ => True) l1 bad1 l2 bad2 s) (R : Vr sd (d + 1) l2 bad2 l' bad' v) : Ns sd true d l bad l' bad' (f.snoc v) (ns ++ [s]) := by
  refine ⟨?_, fun hb => ?_, fun hb x m hx hl => ?_, fun _ => by rw [snoc_list, List.length_append, List.length_append, h.ln rfl]; rfl, fun e => by cases e⟩
  · obtain ⟨c, hc⟩ := h.suf
    obtain ⟨e, he⟩ := R1.suf2 R2
    obtain ⟨e', he'⟩ := R.rd.suf
    exact ⟨c ++ (e ++ e'), by rw [hc, he, he', List.append_assoc, List.append_assoc]⟩
  · obtain ⟨a1, a2⟩ := R.rd.so hb
    obtain ⟨b1, b2⟩ := R2.so a1
    obtain ⟨c1, c2⟩ := R1.so b1
    obtain ⟨d1, d2⟩ := h.so c1
    refine ⟨d1, fun ⟨s1, s2⟩ => ?_⟩
    rw [chk0_snoc] at s2
    split at s2
    · next e => exact absurd s2 e
    · next e =>
      have := keyF_snoc v s f true ns h.ln
      simp only [if_true] at this
      rw [this, d2 ⟨s1, Classical.byContradiction e⟩, c2 trivial, b2 s1, a2 ⟨s1, s2⟩]
      simp
  · obtain ⟨a1, g, ms, e1, e2, e3, e4, e5, e6⟩ := h.co hb x m hx hl
    cases g with
    | nil =>
      have := (R1.co a1 0 m trivial e3).2.1
      cases this
    | cons hd k r =>
      cases ms with
      | nil => have := e6 rfl; simp [Fo.list] at this
      | cons n ms =>
        obtain ⟨w1, w2⟩ := wf_cons e4
        obtain ⟨c1, c2⟩ := chk_cons2 e5
        rw [show keyF (.cons hd k r) true (n :: ms) = _ from keyF_cons (hd, k) r true (n :: ms)] at e3
        simp only [if_true, List.headD_cons, List.tail_cons, List.append_assoc, List.cons_append] at e3
        obtain ⟨r1, r2, r3⟩ := R1.co a1 1 _ trivial e3
        obtain ⟨s1, s2, s3⟩ := R2.co r1 n _ trivial r3
        obtain ⟨t1, t2, t3⟩ := R.rd.co s1 (hd, k) _ ⟨w1, c1⟩ s3
        refine ⟨t1, r, ms, by rw [e1, t2, app_snoc], by rw [e2, s2]; simp, t3, w2, c2, fun e => ?_⟩
        have := e6 rfl
        simpa [Fo.list] using this
/-- The end. -/
theorem Ns.done {sd : Prop} {b : Bool} {d : Int} {l lk l' : List Nat} {bad badk bad' : Bool} {f : Fo} {ns : List ByteArray} (h : Ns sd b d l bad lk badk f ns) (R : Rb lk badk l' bad' 0) : Rd (encN b) (fun x => sd ∧ chk0 x.1 = 0) (NsOk b d) l bad l' bad' (f, ns) := by
  refine ⟨?_, fun hb => ?_, fun hb x m hx hl => ?_⟩
  · obtain ⟨c, hc⟩ := h.suf
    obtain ⟨e, he⟩ := R.suf
    exact ⟨c ++ e, by rw [hc, he, List.append_assoc]⟩
  · obtain ⟨a1, a2⟩ := R.so hb
    obtain ⟨b1, b2⟩ := h.so a1
    exact ⟨b1, fun s => by rw [b2 s, a2 trivial]; simp [encN]⟩
  · obtain ⟨a1, g, ms, e1, e2, e3, e4, e5, e6⟩ := h.co hb x m hx hl
    cases g with
    | nil =>
      obtain ⟨r1, _, r3⟩ := R.co a1 0 m trivial e3
      have hms : ms = [] := by
        cases b with
        | true => exact List.eq_nil_of_length_eq_zero (e6 rfl)
        | false =>
          have := hx.no rfl
          rw [e2] at this
          exact (List.append_eq_nil_iff.1 this).2
      refine ⟨r1, ?_, r3⟩
      rw [app_nil] at e1
      rw [hms, List.append_nil] at e2
      obtain ⟨x1, x2⟩ := x
      simp only at e1 e2
      rw [e1, e2]
    | cons hd k r =>
      exfalso
      rw [show keyF (.cons hd k r) b ms = _ from keyF_cons (hd, k) r b ms] at e3
      obtain ⟨t, ht⟩ := key_class (hd, k)
      have := cby_ge hd.k
      cases b with
      | true =>
        simp only [if_true, List.append_assoc, List.cons_append] at e3
        have := (R.co a1 1 _ trivial e3).2.1
        cases this
      | false =>
        rw [ht] at e3
        simp only [Bool.false_eq_true, if_false, List.nil_append, List.append_assoc, List.cons_append] at e3
        have := (R.co a1 _ _ trivial e3).2.1
        omega
/-- Something was bad. -/
theorem Ns.bad {sd : Prop} {b : Bool} {d : Int} {l lk : List Nat} {bad : Bool} {f : Fo} {ns : List ByteArray} (h : Ns sd b d l bad lk true f ns) (y : Fo × List ByteArray) : Rd (encN b) (fun x => sd ∧ chk0 x.1 = 0) (NsOk b d) l bad lk true y :=
  ⟨h.suf, fun e => (by cases e), fun hb x m hx hl => by have := (h.co hb x m hx hl).1; cases this⟩
/-- Too many, or no mark. -/
theorem Ns.brk {sd : Prop} {b : Bool} {d : Int} {l lk : List Nat} {bad badk : Bool} {f : Fo} {ns : List ByteArray} (h : Ns sd b d l bad lk badk f ns) (hne : ∀ t, lk ≠ 0 :: t) (hw : f.list.length = 200 ∨ (b = true ∧ ∀ t, lk ≠ 1 :: t)) (y : Fo × List ByteArray) : Rd (encN b) (fun x => sd ∧ chk0 x.1 = 0) (NsOk b d) l bad lk true y := by
  refine ⟨h.suf, fun e => (by cases e), fun hb x m hx hl => ?_⟩
  exfalso
  obtain ⟨a1, g, ms, e1, e2, e3, e4, e5, e6⟩ := h.co hb x m hx hl
  cases g with
  | nil => exact hne m e3
  | cons hd k r =>
    rcases hw with hw | ⟨rfl, hw⟩
    · have := hx.le
      rw [e1, app_list, List.length_append, hw] at this
      simp [Fo.list] at this
      omega
    · rw [show keyF (.cons hd k r) true ms = _ from keyF_cons (hd, k) r true ms] at e3
      simp only [if_true, List.append_assoc, List.cons_append] at e3
      exact hw _ e3
end Go.Proofs.YtmlfhplhiedfjaaGreatDoor
