/-
  Both disks side by side, and a call on one of them; two operations that may come up in either order.
-/
import Derived.Test.YtmpnceicodfifaaGreatHlp
import Derived.Test.YtmpnceicodfifaaGreatRls
import Derived.Test.YtmpnceicodfifaaGreatRfn
import Derived.Test.YtmpnceicodfifaaGreatRfp
namespace Go.Proofs.YtmpnceicodfifaaGreat
open Go.RowKit Go.Maps
set_option linter.unusedVariables false
/-- Both disks, apart; below B nothing has turned since w0; the blocks X are as in w0. -/
def Two (w0 : World) (B : Nat) (X : Nat → Prop) (bd br : Nat) (a1 a2 : Ab) (W : World) : Prop :=
  ∃ S R, Disk W bd S a1 ∧ Ref W br R a2 ∧ (∀ i, S i → ¬ R i) ∧ (∀ i, S i → B ≤ i ∧ ¬ X i) ∧ (∀ i, R i → B ≤ i ∧ ¬ X i) ∧ B ≤ W.heap.size ∧ (∀ i, X i → i < W.heap.size) ∧ Kept (fun i => B ≤ i ∧ ¬ X i) w0 W
theorem Two.disk {w0 : World} {B : Nat} {X : Nat → Prop} {bd br : Nat} {a1 a2 : Ab} {W : World} (h : Two w0 B X bd br a1 a2 W) : ∃ S, Disk W bd S a1 ∧ (∀ i, S i → B ≤ i ∧ ¬ X i) ∧ ∀ W' S' a', Disk W' bd S' a' → Went W W' S S' → Two w0 B X bd br a' a2 W' := by
  obtain ⟨S, R, hd, hr, hap, hS, hR, hB, hX, hk⟩ := h
  refine ⟨S, hd, hS, fun W' S' a' hd' hw => ⟨S', R, hd', hr.keptBy hw.kept (fun i hi hs => hap i hs hi), fun i hi hri => ?_, fun i hi => ?_, hR, Nat.le_trans hB hw.kept.size, fun i hi => Nat.lt_of_lt_of_le (hX i hi) hw.kept.size, hk.trans hw.kept (fun i _ hi => hS i hi)⟩⟩
  · rcases hw.new i hi with e | e
    · exact hap i e hri
    · have := hr.lt hri; omega
  · rcases hw.new i hi with e | e
    · exact hS i e
    · exact ⟨by omega, fun hx => by have := hX i hx; omega⟩
theorem Two.ref {w0 : World} {B : Nat} {X : Nat → Prop} {bd br : Nat} {a1 a2 : Ab} {W : World} (h : Two w0 B X bd br a1 a2 W) : ∃ R, Ref W br R a2 ∧ (∀ i, R i → B ≤ i ∧ ¬ X i) ∧ ∀ W' R' a', Ref W' br R' a' → Went W W' R R' → Two w0 B X bd br a1 a' W' := by
  obtain ⟨S, R, hd, hr, hap, hS, hR, hB, hX, hk⟩ := h
  refine ⟨R, hr, hR, fun W' R' a' hr' hw => ⟨S, R', hd.keptBy hw.kept (fun i hi hs => hap i hi hs), hr', fun i hi hri => ?_, hS, fun i hi => ?_, Nat.le_trans hB hw.kept.size, fun i hi => Nat.lt_of_lt_of_le (hX i hi) hw.kept.size, hk.trans hw.kept (fun i _ hi => hR i hi)⟩⟩
  · rcases hw.new i hri with e | e
    · exact hap i hi e
    · have := hd.lt hi; omega
  · rcases hw.new i hi with e | e
    · exact hR i e
    · exact ⟨by omega, fun hx => by have := hX i hx; omega⟩
theorem Two.callD {w0 : World} {B : Nat} {X : Nat → Prop} {bd br : Nat} {a1 a2 : Ab} {W : World} (h : Two w0 B X bd br a1 a2 W) {k : Nat} {args : Array Value} {p : Int × Ab}
    (hc : ∀ S, Disk W bd S a1 → (∀ i, S i → B ≤ i ∧ ¬ X i) → Calls Tryz.prog k args W fun e w' => e = .returned (.int .i64 p.1) ∧ ∃ S', Disk w' bd S' p.2 ∧ Went W w' S S') :
    Calls Tryz.prog k args W fun e w' => e = .returned (.int .i64 p.1) ∧ Two w0 B X bd br p.2 a2 w' := by
  obtain ⟨S, hd, hS, hn⟩ := h.disk
  refine (hc S hd hS).mono ?_
  rintro e w' ⟨rfl, S', d', g'⟩
  exact ⟨rfl, hn _ _ _ d' g'⟩
theorem Two.callR {w0 : World} {B : Nat} {X : Nat → Prop} {bd br : Nat} {a1 a2 : Ab} {W : World} (h : Two w0 B X bd br a1 a2 W) {k : Nat} {args : Array Value} {p : Int × Ab}
    (hc : ∀ R, Ref W br R a2 → (∀ i, R i → B ≤ i ∧ ¬ X i) → Calls Tryz.prog k args W (RefA br W R p)) :
    Calls Tryz.prog k args W fun e w' => e = .returned (.int .i64 p.1) ∧ Two w0 B X bd br a1 p.2 w' := by
  obtain ⟨R, hr, hR, hn⟩ := h.ref
  refine (hc R hr hR).mono ?_
  rintro e w' ⟨rfl, R', r', g'⟩
  exact ⟨rfl, hn _ _ _ r' g'⟩
theorem Two.lim {w0 : World} {B : Nat} {X : Nat → Prop} {bd br : Nat} {a1 a2 : Ab} {W : World} (h : Two w0 B X bd br a1 a2 W) : Lim a1 := by
  obtain ⟨S, R, hd, _⟩ := h
  exact ⟨hd.1, hd.ris⟩
theorem Two.below {w0 : World} {B : Nat} {X : Nat → Prop} {bd br : Nat} {a1 a2 : Ab} {W W' : World} (h : Two w0 B X bd br a1 a2 W) (hb : Below W.heap.size W W') : Two w0 B X bd br a1 a2 W' := by
  obtain ⟨S, R, hd, hr, hap, hS, hR, hB, hX, hk⟩ := h
  have k : Kept (fun _ => False) W W' := Kept.of_below hb
  exact ⟨S, R, hd.keptBy k (fun _ _ h => h), hr.keptBy k (fun _ _ h => h), hap, hS, hR, Nat.le_trans hB hb.size, fun i hi => Nat.lt_of_lt_of_le (hX i hi) hb.size, hk.trans k (fun _ _ h => h.elim)⟩
section
variable {P : Program} {C : World → Prop} {z : Nat} {Q : Exit → Act → World → Prop}
/-- Two operations that alone may come up, in either order. -/
theorem pair_do {L : List Oper} {i j : Nat} {oi oj : Oper} {n : Nat} {listed : Array Bool} {a : Act} {w : World} (N : Nat) (hn : n = N + 1) (hr : Region.ready .any L.toArray listed = [i, j]) (hi : nth L i = some oi) (hj : nth L j = some oj)
    (hwi : Region.wanted oi (yielded L.toArray a.tmps) = true) (hwj : Region.wanted oj (yielded L.toArray a.tmps) = true)
    (h1 : ∀ K : Act → World → Prop, (∀ a' w', C w' → anyC P L.toArray C z Q N (listed.setIfInBounds i true) a' w' → K a' w') → oi.wp P a w K Q)
    (h2 : ∀ K : Act → World → Prop, (∀ a' w', C w' → anyC P L.toArray C z Q N (listed.setIfInBounds j true) a' w' → K a' w') → oj.wp P a w K Q) : anyC P L.toArray C z Q n listed a w := by
  subst hn
  have hi' : L.toArray[i]? = some oi := by rw [List.getElem?_toArray, ← nth_eq, hi]
  have hj' : L.toArray[j]? = some oj := by rw [List.getElem?_toArray, ← nth_eq, hj]
  refine ⟨fun h0 => (by rw [hr] at h0; cases h0), fun k hk => ?_⟩
  rw [hr] at hk
  rcases List.mem_cons.1 hk with rfl | hk
  · unfold wpOp
    simp only [hi']
    rw [if_pos hwi]
    exact .inl (h1 _ fun a' w' hC h' => ⟨.inr hC, h'⟩)
  · obtain rfl := List.mem_singleton.1 hk
    unfold wpOp
    simp only [hj']
    rw [if_pos hwj]
    exact .inl (h2 _ fun a' w' hC h' => ⟨.inr hC, h'⟩)
end
end Go.Proofs.YtmpnceicodfifaaGreat
