/-
  The law package's does: Read.
-/
import Derived.Test.YtmpnceicodfifaaGreatDof
namespace Go.Proofs.YtmpnceicodfifaaGreat
open Go.RowKit Go.Maps
set_option linter.unusedVariables false
def bof (x : Option Fl) : List Nat := match x with | none => [] | some y => y.b
def eof (x : Option Fl) : Int := match x with | none => 7 | some _ => 0
theorem told_own {w : World} {base : Nat} {v : Value} {err : Int} {x : Option Fl} (h : Told w base v err x) : Own w base v (bof x) ∧ err = eof x := by
  cases x with
  | none => obtain ⟨rfl, e⟩ := h; exact ⟨⟨by simp [vals, bof], .inl ⟨rfl, rfl⟩⟩, e⟩
  | some y => exact h
theorem bof_fine {a : Ab} (h : Lim a) (nm : Nm) : Oct (bof (get a.fs nm)) ∧ (bof (get a.fs nm)).length ≤ 1073741824 := by
  cases e : get a.fs nm with
  | none => exact ⟨(fun x hx => by cases hx), by simp [bof]⟩
  | some y => exact ⟨h.fine.fs.oct _ (mem_of_get e), h.len (spot_some h.ris e)⟩
theorem read_two {w0 : World} {B : Nat} {X : Nat → Prop} {bd br : Nat} {a : Ab} {W : World} (h : Two w0 B X bd br a a W) (s : ByteArray) (hs : s.size ≤ maxLen) :
    Calls Tryz.prog 15 #[.pointer (some ⟨bd, 0, none⟩), .string s] W fun e w' => ∃ p c, e = .returned (.tuple #[.slice p (bof (get a.fs s.data.toList)).length c, .int .i64 (eof (get a.fs s.data.toList))]) ∧
      Hid (Own w' W.heap.size (.slice p (bof (get a.fs s.data.toList)).length c) (bof (get a.fs s.data.toList)) ∧ W.heap.size ≤ w'.heap.size ∧ ∀ w7, Below W.heap.size w' w7 → Two w0 B X bd br a a w7) := by
  obtain ⟨S, hd, hS, hn⟩ := h.disk
  refine (read_disk hd s hs).mono ?_
  rintro e w' ⟨v, err, rfl, ht, hd', hk⟩
  obtain ⟨o, rfl⟩ := told_own ht
  obtain ⟨p, c, rfl, _⟩ := o.shape
  refine ⟨p, c, rfl, o, hk.size, fun w7 hb => ?_⟩
  have k7 : Kept (fun i => W.heap.size ≤ i) w' w7 := ⟨hb.os, hb.tape, hb.output, hb.size, fun i hi hn => hb.block i (by omega)⟩
  exact hn w7 S a (hd'.keptBy k7 (fun i hi e => by have := hd.lt hi; omega)) (Went.of_kept (hk.trans k7 (fun i hi e => by omega)) (fun _ _ h => h))
theorem rread_two {w0 : World} {B : Nat} {X : Nat → Prop} {bd br : Nat} {a : Ab} {W : World} (h : Two w0 B X bd br a a W) (s : ByteArray) :
    Calls Tryz.prog 40 #[.pointer (some ⟨br, 0, none⟩), .string s] W fun e w' => ∃ p c, e = .returned (.tuple #[.slice p (bof (get a.fs s.data.toList)).length c, .int .i64 (eof (get a.fs s.data.toList))]) ∧
      Hid (Own w' W.heap.size (.slice p (bof (get a.fs s.data.toList)).length c) (bof (get a.fs s.data.toList)) ∧ Below W.heap.size W w') := by
  have hl := h.lim
  obtain ⟨R, hr, hR, hn⟩ := h.ref
  obtain ⟨its, aL, cL, hs⟩ := hr.seen
  refine (rread_any hs s hl.ris (Ref.len (w := W) (br := br) (R := R) hl hs.fs) hl.tot).mono ?_
  rintro e w' ⟨v, err, rfl, ht, hb⟩
  obtain ⟨o, rfl⟩ := told_own ht
  obtain ⟨p, c, rfl, _⟩ := o.shape
  exact ⟨p, c, rfl, o, hb⟩
theorem own_byt {w : World} {base : Nat} {p : Option Addr} {n c : Nat} {l : List Nat} (h : Own w base (.slice p n c) l) : Byt w p l := by
  obtain ⟨a, c', e, hb, _⟩ := own_src h
  injection e with e1
  rw [e1]; exact hb
theorem own_bel {w w' : World} {base : Nat} {v : Value} {l : List Nat} (h : Own w base v l) (hb : Below w.heap.size w w') : Own w' base v l := h.keptBy (Kept.of_below (S := fun _ => False) hb) (fun _ _ h => h)
theorem below_dq (w : World) (q : Nat) : Below w.heap.size w (w.drewN q) := ⟨rfl, rfl, rfl, Nat.le_refl _, fun _ _ => rfl⟩
set_option maxRecDepth 8000 in
set_option maxHeartbeats 4000000 in
theorem does_read {w0 : World} {B : Nat} {X : Nat → Prop} {bd br : Nat} {a : Ab} {W : World} (h : Two w0 B X bd br a a W) (kind n : Int) (A T : ByteArray) (hA : A.size ≤ maxLen) (a0 : Option Addr) (m cap : Nat)
    (k1 : (kind == 1) = false) (k2 : (kind == 2) = false) (k3 : (kind == 3) = false) (k4 : (kind == 4) = false) (k5 : (kind == 5) = false) (k6 : (kind == 6) = false) (k7 : (kind == 7) = false) :
    Calls Tryz.prog 12 #[.pointer (some ⟨bd, 0, none⟩), .pointer (some ⟨br, 0, none⟩), .agg #[.int .i64 kind, .int .i64 n, .string A, .string T, .slice a0 m cap]] W fun e w' => e = .returned (.bool true) ∧ ∃ a', Two w0 B X bd br a' a' w' := by
  have HT : Hid (Two w0 B X bd br a a W) := h
  obtain ⟨P, hP⟩ : ∃ P : World → Prop, P = fun W' => Two (W.alloc (.cells #[.int .i64 kind, .int .i64 n, .string A, .string T, .slice a0 m cap] 34)) B (fun i => X i ∨ i = W.heap.size) bd br a a W' := ⟨_, rfl⟩
  have P0 : Hid (P (W.alloc (.cells #[.int .i64 kind, .int .i64 n, .string A, .string T, .slice a0 m cap] 34))) := by rw [hP]; exact h.enter _
  have PE : Hid (∀ W', P W' → ∃ a', Two w0 B X bd br a' a' W') := fun W' h' => by rw [hP] at h'; exact ⟨_, HT.out.leave h'⟩
  have PB : Hid (∀ W', P W' → Blk W' W.heap.size 34 (stp kind n A T a0 m cap)) := fun W' h' => by rw [hP] at h'; exact Two.box h'
  obtain ⟨ho, hbl⟩ := bof_fine h.lim A.data.toList
  obtain ⟨l, hL⟩ : ∃ l, l = bof (get a.fs A.data.toList) := ⟨_, rfl⟩
  obtain ⟨er, hE⟩ : ∃ er, er = eof (get a.fs A.data.toList) := ⟨_, rfl⟩
  have CA : Hid (∀ W', P W' → Calls Tryz.prog 15 #[.pointer (some ⟨bd, 0, none⟩), .string A] W' fun e w' => ∃ p c, e = .returned (.tuple #[.slice p l.length c, .int .i64 er]) ∧ Hid (Own w' W'.heap.size (.slice p l.length c) l ∧ W'.heap.size ≤ w'.heap.size ∧ ∀ w7, Below W'.heap.size w' w7 → P w7)) := fun W' h' => by
    rw [hP] at h' ⊢; rw [hL, hE]; exact read_two h' A hA
  have CB : Hid (∀ W', P W' → Calls Tryz.prog 40 #[.pointer (some ⟨br, 0, none⟩), .string A] W' fun e w' => ∃ p c, e = .returned (.tuple #[.slice p l.length c, .int .i64 er]) ∧ Hid (Own w' W'.heap.size (.slice p l.length c) l ∧ Below W'.heap.size W' w')) := fun W' h' => by
    rw [hP] at h'; rw [hL, hE]; exact rread_two h' A
  rw [← hL] at ho hbl
  have HO : Hid (Oct l) := ho
  clear h hP hL hE ho
  have hb' : l.length ≤ 4294967296 := by omega
  go_enter Tryz.func12, Tryz.ntmps12
  go_wp2_with (first
    | (go_at_call 15; refine (CA.out _ P0.out).mono ?_; rintro e w5 ⟨p5, c5, rfl, h5⟩; have n5 := (PB.out _ (h5.out.2.2 _ (Below.refl _ _))).cell 2; simp only [stp, List.getElem?_cons_succ, List.getElem?_cons_zero] at n5)
    | (go_at_call 40; refine (CB.out _ (h5.out.2.2 _ (Below.refl _ _))).mono ?_; rintro e w6 ⟨p6, c6, rfl, h6⟩)
    | (go_at_call 16; refine (same_big _ _ _ _ l hb' _ ((own_byt h5.out.1).below h6.out.2) (own_byt h6.out.1) HO.out).mono ?_; rintro e w7 ⟨rfl, q, rfl⟩; have hS : Hid (Own (w6.drewN q) (W.alloc (.cells #[.int .i64 kind, .int .i64 n, .string A, .string T, .slice a0 m cap] 34)).heap.size (.slice p5 l.length c5) l) := own_bel (own_bel h5.out.1 h6.out.2) (below_dq _ _); have hsz := h5.out.2.1; have hsz6 := h6.out.2.size)
    | (go_at_call 29; refine (spoil_any _ l _ _ hS.out (by omega) (by simp at hsz hsz6 ⊢; omega)).mono ?_; rintro e w8 ⟨rfl, h8⟩))
  go_ret
  refine ⟨rfl, PE.out _ (h5.out.2.2 _ ?_)⟩
  exact ((h6.out.2.mono hsz).trans ((below_dq w6 q).mono (by omega))).trans h8
end Go.Proofs.YtmpnceicodfifaaGreat
