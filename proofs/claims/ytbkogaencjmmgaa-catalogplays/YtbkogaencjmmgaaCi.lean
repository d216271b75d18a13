/-
  Apply.
-/
import Derived.Test.YtbkogaencjmmgaaCh
namespace Go.Proofs.Ytbkogaencjmmgaa
open Go.RowKit Go.MapKept
set_option linter.unusedVariables false
set_option linter.unusedSimpArgs false
/-- An entry's cells, of which three are looked at. -/
structure EnC (k id : Int) (s : ByteArray) (ec : List Value) : Prop where
  len : ec.length = 46
  k : ec[0]? = some (.int .i64 k)
  s : ec[1]? = some (.string s)
  id : ec[2]? = some (.int .i64 id)
theorem Cat.step {S : Nat → Prop} {w w1 w' : World} {g : Nat} {A : List Tb} (b : Below w.heap.size w w1) (h : Cat w' (Nw S w1 w') g A ∧ Upd S w1 w') : Cat w' (Nw S w w') g A ∧ Upd S w w' :=
  ⟨h.1.mono (fun x hx => hx.imp id (fun q => ⟨Nat.le_trans b.size q.1, q.2⟩)), (Upd.of_below S b).trans h.2 (fun x hx _ => hx)⟩
theorem add_any (S : Nat → Prop) (g : Nat) (A : List Tb) (id : Int) (s : ByteArray) (hs : s.size ≤ 281474976710656) (w : World) (h : Cat w S g A) :
    Calls Try.prog 22 #[.pointer (some ⟨g, 0, none⟩), .int .i64 id, .string s] w fun e w' => e = .returned (.int .i64 (addE A id s)) ∧ Hid (Cat w' (Nw S w w') g (addA A id s) ∧ Upd S w w') := by
  obtain ⟨tv, dm, mv, L, h1, rfl, h3⟩ := h
  exact add_in S g tv mv dm L id s hs w h1 h3
theorem drop_any (S : Nat → Prop) (g : Nat) (A : List Tb) (id : Int) (w : World) (h : Cat w S g A) :
    Calls Try.prog 23 #[.pointer (some ⟨g, 0, none⟩), .int .i64 id] w fun e w' => e = .returned (.int .i64 (dropE A id)) ∧ Hid (Cat w' (Nw S w w') g (dropA A id) ∧ Upd S w w') := by
  obtain ⟨tv, dm, mv, L, h1, rfl, h3⟩ := h
  exact drop_in S g tv mv dm L id w h1 h3
theorem idx_any (S : Nat → Prop) (g : Nat) (A : List Tb) (id : Int) (s : ByteArray) (hs : s.size ≤ 281474976710656) (w : World) (h : Cat w S g A) :
    Calls Try.prog 24 #[.pointer (some ⟨g, 0, none⟩), .int .i64 id, .string s] w fun e w' => e = .returned (.int .i64 (idxE A id s)) ∧ Hid (Cat w' (Nw S w w') g (idxA A id s) ∧ Upd S w w') := by
  obtain ⟨tv, dm, mv, L, h1, rfl, h3⟩ := h
  exact idx_in S g tv mv dm L id s hs w h1 h3
set_option maxRecDepth 8000 in
theorem apply_any (S : Nat → Prop) (g : Nat) (A : List Tb) (k id : Int) (s : ByteArray) (ec : List Value) (he : EnC k id s ec) (hs : s.size ≤ 281474976710656) (w : World) (h : Cat w S g A) :
    Calls Try.prog 10 #[.pointer (some ⟨g, 0, none⟩), .agg ec.toArray] w fun e w' => e = .returned (.int .i64 (apE A k id s)) ∧ Hid (Cat w' (Nw S w w') g (apA A k id s) ∧ Upd S w w') := by
  have HE : Hid (EnC k id s ec) := he
  have HC : Hid (Cat w S g A) := h
  clear h he
  go_enter Try.func10, Try.ntmps10
  go_wp2_with (refine al_box rfl 42 (.tmp 1) rfl ec rfl ?_)
  intro ge w1 l1 B1 G1
  have hb : Below w.heap.size w w1 := ⟨G1.os, G1.tape, G1.output, G1.size, fun k hk => G1.block k hk (by simp)⟩
  have HB : Hid (Below w.heap.size w w1) := hb
  have HC1 : Hid (Cat w1 S g A) := HC.out.below hb
  have q0 : w1.cell? ⟨ge, 0, none⟩ = some (.int .i64 k) := by rw [B1.cell]; exact HE.out.k
  have q1 : w1.cell? ⟨ge, 1, none⟩ = some (.string s) := by rw [B1.cell]; exact HE.out.s
  have q2 : w1.cell? ⟨ge, 2, none⟩ = some (.int .i64 id) := by rw [B1.cell]; exact HE.out.id
  clear B1 G1 l1 hb HC HE
  by_cases k5 : k = 5
  · subst k5
    have K := add_any S g A id s hs w1 HC1.out
    go_wp2_with (go_at_call 22; refine K.mono ?_; clear K; rintro e w2 ⟨rfl, H⟩)
    go_ret
    exact ⟨rfl, Cat.step HB.out H.out⟩
  by_cases k6 : k = 6
  · subst k6
    have K := drop_any S g A id w1 HC1.out
    go_wp2_with (go_at_call 23; refine K.mono ?_; clear K; rintro e w2 ⟨rfl, H⟩)
    go_ret
    exact ⟨rfl, Cat.step HB.out H.out⟩
  by_cases k7 : k = 7
  · subst k7
    have K := idx_any S g A id s hs w1 HC1.out
    go_wp2_with (go_at_call 24; refine K.mono ?_; clear K; rintro e w2 ⟨rfl, H⟩)
    go_ret
    exact ⟨rfl, Cat.step HB.out H.out⟩
  have HEV : Hid (apE A k id s = 0) := by show _ = _; unfold apE; rw [if_neg k5, if_neg k6, if_neg k7]
  have HQ : Hid (apA A k id s = A) := by show _ = _; unfold apA; rw [if_neg k5, if_neg k6, if_neg k7]
  have k5' : (k == 5) = false := beq_eq_false_iff_ne.2 k5
  have k6' : (k == 6) = false := beq_eq_false_iff_ne.2 k6
  have k7' : (k == 7) = false := beq_eq_false_iff_ne.2 k7
  go_wp2
  go_ret
  refine ⟨by rw [HEV.out]; rfl, ?_, Upd.of_below _ HB.out⟩
  rw [HQ.out]
  exact HC1.out.mono (fun x hx => .inl hx)
theorem apply_nil (ec : List Value) (k id : Int) (s : ByteArray) (he : EnC k id s ec) (w : World) : Calls Try.prog 10 #[.pointer none, .agg ec.toArray] w fun e w' => e = .returned (.int .i64 1) ∧ Hid (Below w.heap.size w w') := by
  go_enter Try.func10, Try.ntmps10
  go_wp2_with (refine al_box rfl 42 (.tmp 1) rfl ec rfl ?_)
  intro ge w1 l1 B1 G1
  have HB : Hid (Below w.heap.size w w1) := ⟨G1.os, G1.tape, G1.output, G1.size, fun k hk => G1.block k hk (by simp)⟩
  clear B1 G1 l1
  go_wp2
  go_ret
  exact ⟨rfl, HB.out⟩
#print axioms apply_any
end Go.Proofs.Ytbkogaencjmmgaa
