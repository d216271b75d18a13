/-
  order.Key.
-/
import Derived.Test.YtoggcabenjmnoaaDoorKh
import Derived.Test.YtoggcabenjmnoaaDoorVch
import Derived.Laws.BytesArg
namespace Go.Proofs.YtoggcabenjmnoaaDoor
open Go.RowKit Math
set_option linter.unusedVariables false
set_option linter.unusedSimpArgs false
theorem strOf2 (l : List Nat) (h : Oct l) : strOfNums (l.map fun n : Nat => (n : Int)) = ofB l := by
  unfold strOfNums ofB
  congr 2
  rw [List.map_map]
  apply List.map_congr_left
  intro x hx
  have := h x hx
  simp
theorem conv_byt {w : World} {a : Option Addr} {l : List Nat} {c : Nat} (h : Byt w a l) (ho : Oct l) (hnil : a = none → c = 0) : (convert 42 9 (.slice a l.length c)).run Tryd.prog w = .ok (.string (ofB l)) w := by
  cases a with
  | none =>
    have hl : l = [] := by
      rcases h with h | ⟨_, _, h, _⟩
      · exact h
      · cases h
    subst hl
    exact run_convert_bytes_nil w 42 5 Tryd.underlying42 Tryd.underlying5 0 c 9 Tryd.underlying9
  | some ad =>
    rw [← strOf2 _ ho]
    by_cases hl : l = []
    · subst hl
      rw [run_convert_bytes_string w 42 9 5 (some ad) ([] : List Nat).length c Tryd.underlying42 Tryd.underlying5 Tryd.underlying9]
      have hl : (loadCells ad 0).run Tryd.prog w = .ok #[] w := by simpa using run_loadCells_list (P := Tryd.prog) w ad [] (by simp)
      simp [Conv.bytesToString, hl, strOfNums]
      try rfl
    · rcases h with h | ⟨b, o, h, hc⟩
      · exact absurd h hl
      · obtain rfl := Option.some.inj h
        refine run_convert_bytes_arg w 42 5 Tryd.underlying42 Tryd.underlying5 b o l.length c _ (by rw [List.length_map]) (fun k hk => ?_) 9 Tryd.underlying9
        have := hc k hk
        rw [this]
        simp [List.getD_eq_getElem?_getD, hk]
/-! ### bytes -/
theorem txK_oct (s : ByteArray) : Oct (txK s) := fun x hx => by
  rcases List.mem_append.1 hx with h | h
  · exact esc_oct (bts_oct s) x h
  · simp at h; omega
theorem turnB_oct (l : List Nat) : Oct (turnB l) := fun x hx => by
  obtain ⟨y, _, rfl⟩ := List.mem_map.1 hx
  omega
theorem numB_oct (n s : Int) (n0 : -9223372036854775808 ≤ n) (n1 : n < 9223372036854775808) (hs0 : 0 ≤ s) (hs1 : s ≤ 18) : Oct (numB n s) := by
  unfold numB
  split
  · intro x hx; simp at hx; omega
  split
  · exact turnB_oct _
  · exact posB_oct _ _ (by omega) hs0 hs1
theorem numB_len (n s : Int) : (numB n s).length ≤ 22 := by
  have := posB_len n.natAbs s
  unfold numB turnB
  split
  · simp
  split
  · simpa using this
  · exact this
/-- A number's exponent. -/
theorem own_scale {h : Hd} {kl : Nat} (e : own h kl = 0) (hk : h.k = 3 ∨ h.k = 4) : 0 ≤ h.s ∧ h.s ≤ 18 := by
  have hf := (own_fine e).1
  unfold formed at hf
  rcases hk with h3 | h4
  · simp only [h3] at hf
    simp [only] at hf
    omega
  · simp only [h4] at hf
    simp at hf
    omega
theorem headK_oct {h : Hd} {kl : Nat} (e : own h kl = 0) (n0 : -9223372036854775808 ≤ h.n) (n1 : h.n < 9223372036854775808) : Oct (headK h) := by
  have hf := (own_fine e).1
  intro x hx
  have c1 : ∀ (y : Nat) (l : List Nat), y < 256 → Oct l → Oct (y :: l) := fun y l hy hl z hz => by
    rcases List.mem_cons.1 hz with rfl | hz
    · exact hy
    · exact hl z hz
  have o0 : Oct [] := fun z hz => by cases hz
  unfold headK at hx
  split at hx
  · exact c1 _ _ (by omega) o0 x hx
  split at hx
  · next _ h2 =>
    unfold formed at hf
    simp [h2] at hf
    exact c1 _ _ (by omega) (c1 _ _ (by omega) o0) x hx
  split at hx
  · next _ _ h3 =>
    obtain ⟨a, b⟩ := own_scale e (.inl h3)
    exact c1 _ _ (by omega) (numB_oct _ _ n0 n1 a b) x hx
  split at hx
  · next _ _ _ h4 =>
    obtain ⟨a, b⟩ := own_scale e (.inr h4)
    exact c1 _ _ (by omega) (numB_oct _ _ n0 n1 a b) x hx
  split at hx
  · exact c1 _ _ (by omega) (hf_oct _ _) x hx
  split at hx
  · exact c1 _ _ (by omega) (txK_oct _) x hx
  split at hx
  · exact c1 _ _ (by omega) (txK_oct _) x hx
  split at hx
  · exact c1 _ _ (by omega) o0 x hx
  · exact c1 _ _ (by omega) o0 x hx
theorem chk0_tail {h : Hd} {k r : Fo} (hc : chk0 (.cons h k r) = 0) : chk0V (h, k) = 0 ∧ chk0 r = 0 := by
  have c1 := chk0_mem (p := (h, k)) hc (by simp [Fo.list])
  refine ⟨c1, ?_⟩
  have e : chk0 (.cons h k r) = if chk0V (h, k) ≠ 0 then chk0V (h, k) else chk0 r := rfl
  rw [e, if_neg (by simpa using c1)] at hc
  exact hc
theorem oct_app {l m : List Nat} (h : Oct l) (k : Oct m) : Oct (l ++ m) := fun x hx => by
  rcases List.mem_append.1 hx with e | e
  · exact h x e
  · exact k x e
theorem keyF_oct : ∀ (f : Fo) (b : Bool) (ns : List ByteArray), Wf f → chk0 f = 0 → Oct (keyF f b ns)
  | .nil, _, _, _, _ => fun x hx => by cases hx
  | .cons h k r, b, ns, hw, hc => by
    obtain ⟨c1, c2⟩ := chk0_tail hc
    obtain ⟨a, b'⟩ := own_of0 c1
    have one0 : Oct [0] := fun x hx => by simp at hx; omega
    refine oct_app (oct_app ?_ (oct_app (headK_oct a hw.1.1.n0 hw.1.1.n1) ?_)) (keyF_oct r b _ hw.2 c2)
    · cases b
      · intro x hx; cases hx
      · intro x hx
        rcases List.mem_cons.1 hx with rfl | hx
        · omega
        · exact txK_oct _ x hx
    · split
      · exact oct_app (keyF_oct k _ _ hw.1.2.2 b') one0
      · intro x hx; cases hx
theorem keyF_false : ∀ (f : Fo) (ns : List ByteArray), keyF f false ns = keyF f false []
  | .nil, _ => rfl
  | .cons h k r, ns => by
    show (_ ++ _) ++ keyF r false ns.tail = (_ ++ _) ++ keyF r false ([] : List ByteArray).tail
    rw [keyF_false r ns.tail, keyF_false r ([] : List ByteArray).tail]
    simp
theorem bound_headK {h : Hd} {kl : Nat} (ho : own h kl = 0) : (headK h).length ≤ 40 + 2 * h.t.size := by
  have hn := numB_len h.n h.s
  have ht : (txK h.t).length ≤ 2 * h.t.size + 2 := by
    unfold txK
    have := (esc_len (bts h.t)).2
    rw [bts_len] at this
    simp
    omega
  have h8 := hf_length h.n.toNat 8
  unfold headK
  split
  · simp; omega
  split
  · simp; omega
  split
  · simp; omega
  split
  · simp; omega
  split
  · simp; omega
  split
  · simp; omega
  split
  · simp; omega
  split
  · simp; omega
  · simp; omega
theorem bound_keyF : ∀ (f : Fo) (b : Bool) (ns : List ByteArray), chk0 f = 0 → (∀ x ∈ ns, x.size ≤ 40) → (keyF f b ns).length ≤ 300 * f.ws
  | .nil, _, _, _, _ => by simp [keyF]
  | .cons h k r, b, ns, hc, hn => by
    obtain ⟨c1, c2⟩ := chk0_tail hc
    obtain ⟨a, b'⟩ := own_of0 c1
    have hk := own_fine a
    have B1 : (headK h).length ≤ 40 + 2 * h.t.size := bound_headK a
    have B2 : (keyF k (decide (h.k = 9)) h.ns).length ≤ 300 * k.ws := by
      by_cases h9 : h.k = 9
      · exact bound_keyF k _ _ b' (names_len (hk.nm h9)).2
      · have e1 : decide (h.k = 9) = false := by simpa using h9
        rw [e1, keyF_false]
        exact bound_keyF k false [] b' (by simp)
    have B3 := bound_keyF r b ns.tail c2 (fun x hx => hn x (List.mem_of_mem_tail hx))
    have B4 : (if b then 1 :: txK (ns.headD ⟨#[]⟩) else []).length ≤ 90 := by
      cases b
      · simp
      · simp only [if_true]
        have hs : (ns.headD ⟨#[]⟩).size ≤ 40 := by
          cases ns with
          | nil => decide
          | cons x ns => exact hn x (by simp)
        generalize ns.headD ⟨#[]⟩ = y at hs ⊢
        unfold txK
        have := (esc_len (bts y)).2
        rw [bts_len] at this
        simp
        omega
    have e : keyF (.cons h k r) b ns = ((if b then 1 :: txK (ns.headD ⟨#[]⟩) else []) ++ (headK h ++ (if 8 ≤ h.k then keyF k (decide (h.k = 9)) h.ns ++ [0] else []))) ++ keyF r b ns.tail := rfl
    have B5 : (if 8 ≤ h.k then keyF k (decide (h.k = 9)) h.ns ++ [0] else []).length ≤ 300 * k.ws + 1 := by
      split
      · simp; omega
      · simp
    rw [e, List.length_append, List.length_append, List.length_append]
    simp only [Fo.ws, wsH]
    omega
/-! ### lists of values -/
def chkL : Fo → Int
  | .nil => 0
  | .cons h k r => if chkV (h, k) 1 ≠ 0 then chkV (h, k) 1 else chkL r
theorem chkL_drop {f : Fo} {k : Nat} {q : Vt} (h : f.list[k]? = some q) : chkL (f.drop k) = if chkV q 1 ≠ 0 then chkV q 1 else chkL (f.drop (k + 1)) := by
  rw [Fo.drop_at f k q h]; rfl
theorem chk1 {p : Vt} (h : chkV p 1 = 0) : chk0V p = 0 := by rw [← chkV_flat p 1 (deepV_of p 1 h)]; exact h
theorem chkL_flat : ∀ f : Fo, chkL f = 0 → chk0 f = 0
  | .nil, _ => rfl
  | .cons h k r, hc => by
    unfold chkL at hc
    split at hc
    · next hn => exact absurd hc hn
    · next hn =>
      have h1 : chk0V (h, k) = 0 := chk1 (by simpa using hn)
      have e : chk0 (.cons h k r) = if chk0V (h, k) ≠ 0 then chk0V (h, k) else chk0 r := rfl
      rw [e, if_neg (by simpa using h1)]
      exact chkL_flat r hc
def hdL : Hd := ⟨8, 0, 0, em, []⟩
/-- What Key answers. -/
def keyE (f : Fo) : Int := chkL f
def keyT (f : Fo) : ByteArray := if chkL f = 0 then ofB (keyF f false []) else em
end Go.Proofs.YtoggcabenjmnoaaDoor
