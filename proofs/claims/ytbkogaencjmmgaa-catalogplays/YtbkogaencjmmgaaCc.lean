/-
  A catalog in memory; the functions that only read.
-/
import Derived.Test.YtbkogaencjmmgaaCb
namespace Go.Proofs.Ytbkogaencjmmgaa
open Go.RowKit Go.MapKept
set_option linter.unusedVariables false
set_option linter.unusedSimpArgs false
abbrev TV := Tb × Value
def tbs (L : List TV) : List Value := L.flatMap fun p => [.string p.1.name, p.2]
def sts (l : List ByteArray) : List Value := l.map .string
def strip (L : List TV) : List Tb := L.map (·.1)
theorem tbs_app (X Y : List TV) : tbs (X ++ Y) = tbs X ++ tbs Y := by simp [tbs]
theorem tbs_cons (p : TV) (Y : List TV) : tbs (p :: Y) = .string p.1.name :: p.2 :: tbs Y := by simp [tbs]
theorem tbs_len : ∀ (X : List TV), (tbs X).length = X.length * 2
  | [] => rfl
  | p :: X => by rw [tbs_cons, List.length_cons, List.length_cons, tbs_len X, List.length_cons]; omega
theorem strip_len (X : List TV) : (strip X).length = X.length := by simp [strip]
structure CM (w : World) (g : Nat) (tv : Value) (dm : Nat) (mv : Value) (L : List TV) : Prop where
  blk : Blk w g 70 [tv, .int .u64 (dm : Int), mv]
  row : w.ownsRow 0 87 2 tv L.length (tbs L)
  fld : ∀ p ∈ L, w.ownsRow 0 9 1 p.2 p.1.fs.length (sts p.1.fs)
  map : MapS w mv (fun id s => hasB (strip L) id s = true)
  bits : ∀ i : Nat, dm.testBit i = goneB (strip L) ((i : Int) + 1)
  ok : OkA (strip L)
  apart : L.Pairwise (fun p q => ∀ x, p.2.ownBlock = some x → q.2.ownBlock ≠ some x)
/-- Where it lies. -/
structure In (S : Nat → Prop) (g : Nat) (tv mv : Value) (L : List TV) : Prop where
  g : S g
  tv : ∀ x, tv.ownBlock = some x → S x
  fld : ∀ p ∈ L, ∀ x, p.2.ownBlock = some x → S x
  map : ∀ x, mv = .map (some x) → S x
/-- A catalog in memory, within some blocks. -/
def Cat (w : World) (S : Nat → Prop) (g : Nat) (A : List Tb) : Prop := ∃ tv dm mv L, CM w g tv dm mv L ∧ strip L = A ∧ In S g tv mv L
theorem CM.upd {S : Nat → Prop} {w w' : World} {g dm : Nat} {tv mv : Value} {L : List TV} (h : CM w g tv dm mv L) (u : Upd S w w') {R : Nat → Prop} (i : In R g tv mv L) (hd : ∀ x, R x → ¬ S x) : CM w' g tv dm mv L :=
  ⟨h.blk.upd u (hd _ i.g), own_upd h.row u (fun x hx => hd _ (i.tv x hx)), fun p hp => own_upd (h.fld p hp) u (fun x hx => hd _ (i.fld p hp x hx)), h.map.upd u (fun b hb => hd _ (i.map b hb)), h.bits, h.ok, h.apart⟩
theorem Cat.upd {S R : Nat → Prop} {w w' : World} {g : Nat} {A : List Tb} (h : Cat w R g A) (u : Upd S w w') (hd : ∀ x, R x → ¬ S x) : Cat w' R g A := by
  obtain ⟨tv, dm, mv, L, h1, h2, h3⟩ := h
  exact ⟨tv, dm, mv, L, h1.upd u h3 hd, h2, h3⟩
theorem In.mono {S S' : Nat → Prop} {g : Nat} {tv mv : Value} {L : List TV} (h : In S g tv mv L) (hs : ∀ x, S x → S' x) : In S' g tv mv L := ⟨hs _ h.g, fun x hx => hs _ (h.tv x hx), fun p hp x hx => hs _ (h.fld p hp x hx), fun x hx => hs _ (h.map x hx)⟩
theorem Cat.mono {S S' : Nat → Prop} {w : World} {g : Nat} {A : List Tb} (h : Cat w S g A) (hs : ∀ x, S x → S' x) : Cat w S' g A := by
  obtain ⟨tv, dm, mv, L, h1, h2, h3⟩ := h
  exact ⟨tv, dm, mv, L, h1, h2, h3.mono hs⟩
theorem Cat.below {R : Nat → Prop} {w w' : World} {g : Nat} {A : List Tb} (h : Cat w R g A) (b : Below w.heap.size w w') : Cat w' R g A := h.upd (Upd.of_below Non b) (fun _ _ q => q)
theorem Cat.ok {S : Nat → Prop} {w : World} {g : Nat} {A : List Tb} (h : Cat w S g A) : OkA A := by
  obtain ⟨tv, dm, mv, L, h1, rfl, h3⟩ := h
  exact h1.ok
theorem new_any (w : World) : Calls Try.prog 9 #[] w fun e w' => ∃ g, e = .returned (.pointer (some ⟨g, 0, none⟩)) ∧ Hid (Cat w' (fun x => x = g) g [] ∧ w.heap.size ≤ g ∧ Below w.heap.size w w') := by
  go_enter Try.func9, Try.ntmps9
  go_wp2
  go_ret
  refine ⟨w.heap.size, rfl, ⟨.slice none 0 0, 0, .map none, [], ⟨blk_new w 70 [.slice none 0 0, .int .u64 0, .map none], World.ownsRow_nil _ _ _ _, by simp, .inl ⟨rfl, by simp [hasB, strip, tbl]⟩, by simp [goneB, strip, tbl], ⟨by simp [strip], by simp [strip]⟩, List.Pairwise.nil⟩, rfl, ⟨rfl, by simp [Value.ownBlock], by simp, by simp⟩⟩, Nat.le_refl _, (Below.refl _ w).alloc (Nat.le_refl _) _⟩
theorem str_ne {s : ByteArray} (h : ¬ s.size = 0) : s.toList ≠ [] := by
  intro e
  rw [ByteArray.toList_eq] at e
  exact h (by have := congrArg List.length e; simpa using this)
theorem isName_any (s : ByteArray) (w : World) : Calls Try.prog 32 #[.string s] w fun e w' => e = .returned (.bool (nameB s)) ∧ w' = w := by
  by_cases h0 : s.size = 0
  · obtain rfl : s = ⟨#[]⟩ := ByteArray.ext (Array.eq_empty_of_size_eq_zero h0)
    go_enter Try.func32, Try.ntmps32
    go_wp2
    go_ret
    exact ⟨rfl, rfl⟩
  · have hne := str_ne h0
    have hne2 : s.toList.isEmpty = false := by simpa using hne
    have e1 : nameB s = decide (s.size ≤ 40) := by simp [nameB, h0]
    rw [e1]
    obtain ⟨n, hn⟩ : ∃ n, s.size = n := ⟨_, rfl⟩
    by_cases h40 : n ≤ 40
    · have h40' : (n : Int) ≤ 40 := by omega
      go_enter Try.func32, Try.ntmps32
      go_wp2
      go_ret
      exact ⟨by simp [hn, h40], rfl⟩
    · have h40' : ¬ (n : Int) ≤ 40 := by omega
      go_enter Try.func32, Try.ntmps32
      go_wp2
      go_ret
      exact ⟨by simp [hn, h40], rfl⟩
theorem there_any (g : Nat) (tv mv : Value) (dm : Nat) (L : List TV) (id : Int) (w : World) (h : CM w g tv dm mv L) : Calls Try.prog 29 #[.pointer (some ⟨g, 0, none⟩), .int .i64 id] w fun e w' => e = .returned (.bool (thereB (strip L) id)) ∧ w' = w := by
  obtain ⟨a, c, rfl, _, _⟩ := row_val h.row
  have c0 : w.cell? ⟨g, 0, none⟩ = some (.slice a L.length c) := h.blk.cell 0
  unfold thereB
  rw [strip_len]
  clear h
  by_cases h1 : 1 ≤ id
  · by_cases h2 : id ≤ (L.length : Int)
    · go_enter Try.func29, Try.ntmps29
      go_wp2
      go_ret
      exact ⟨by simp [h1, h2], rfl⟩
    · go_enter Try.func29, Try.ntmps29
      go_wp2
      go_ret
      exact ⟨by simp [h1, h2], rfl⟩
  · go_enter Try.func29, Try.ntmps29
    go_wp2
    go_ret
    exact ⟨by simp; omega, rfl⟩
#print axioms there_any
end Go.Proofs.Ytbkogaencjmmgaa
