/-
  The law package's known.
-/
import Derived.Test.YtmpnceicodfifaaGreatRead
import Derived.Lib.SlBytesConst
import Derived.Laws.DeepNot64
namespace Go.Proofs.YtmpnceicodfifaaGreat
open Go.RowKit Go.Maps
theorem Went.below {base : Nat} {w w' : World} {S S' : Nat → Prop} (g : Went w w' S S') (h : ∀ i, S i → base ≤ i) (hb : base ≤ w.heap.size) : Below base w w' ∧ (∀ i, S' i → base ≤ i) ∧ base ≤ w'.heap.size :=
  ⟨g.kept.below hb h, fun i hi => by
    rcases g.new i hi with e | e
    · exact h i e
    · omega, Nat.le_trans hb g.kept.size⟩
def nmA : ByteArray := ⟨#[97]⟩
theorem k1 : aDo [⟨#[97]⟩] (aExt 100 [97] [49, 50, 51, 52, 53]) ⟨100, -1, []⟩ = (0, ⟨100, -1, [([97], ⟨[49, 50, 51, 52, 53], 0⟩)]⟩) := by rfl
theorem k2 : aDo [⟨#[97]⟩] (aSync [97]) ⟨100, -1, [([97], ⟨[49, 50, 51, 52, 53], 0⟩)]⟩ = (0, ⟨100, -1, [([97], ⟨[49, 50, 51, 52, 53], 5⟩)]⟩) := by rfl
theorem k3 : aDo [⟨#[97]⟩] (aExt 100 [97] [54, 55, 56]) ⟨100, -1, [([97], ⟨[49, 50, 51, 52, 53], 5⟩)]⟩ = (0, ⟨100, -1, [([97], ⟨[49, 50, 51, 52, 53, 54, 55, 56], 5⟩)]⟩) := by rfl
theorem k4 : aCrash 1 [([97], ⟨[49, 50, 51, 52, 53, 54, 55, 56], 5⟩)] = [([97], ⟨[49, 50, 51, 52, 53, 54], 6⟩)] := by rfl
theorem k5 : get [(([97] : Nm), (⟨[49, 50, 51, 52, 53, 54], 6⟩ : Fl))] [97] = some ⟨[49, 50, 51, 52, 53, 54], 6⟩ := by rfl
theorem conv_same (W : World) (C : Array Value) (n c : Nat) : (convert 32 32 (.slice (some ⟨W.heap.size, 0, none⟩) n c)).run Tryz.prog (W.alloc (.cells C 5)) = .ok (.slice (some ⟨W.heap.size, 0, none⟩) n c) (W.alloc (.cells C 5 (C.size, C.size + 1))) :=
  Lib.run_convert_bytes_const (P := Tryz.prog) W 32 5 C n c Tryz.underlying32 Tryz.underlying5
theorem byt_mark (w : World) (l : List Nat) (fr : Nat × Nat) : Byt (w.alloc (.cells (vals l).toArray 5 fr)) (some ⟨w.heap.size, 0, none⟩) l := by
  refine .inr ⟨_, _, rfl, fun i hi => ?_⟩
  rw [Nat.zero_add, World.cell?_alloc_mark, List.getElem?_toArray, vals_get l i hi]
theorem src_lit {w : World} {bd : Nat} {S : Nat → Prop} {a : Ab} (h : Disk w bd S a) (l : List Nat) (ho : Oct l) (c : Nat) (fr : Nat × Nat) : Src (w.alloc (.cells (vals l).toArray 5 fr)) S (some ⟨w.heap.size, 0, none⟩) c l :=
  ⟨byt_mark w l fr, by simp, fun b off e _ hb => by cases e; have := h.lt hb; omega, ho⟩
/-- What the walk carries of a disk that the call made. -/
structure Mine (w0 w : World) (bd : Nat) (S : Nat → Prop) (a : Ab) : Prop where
  disk : Disk w bd S a
  base : ∀ i, S i → w0.heap.size ≤ i
  below : Below w0.heap.size w0 w
theorem Mine.went {w0 w w' : World} {bd : Nat} {S S' : Nat → Prop} {a a' : Ab} (h : Mine w0 w bd S a) (d : Disk w' bd S' a') (g : Went w w' S S') : Mine w0 w' bd S' a' := by
  obtain ⟨h1, h2, h3⟩ := g.below h.base h.below.size
  exact ⟨d, h2, h.below.trans h1⟩
theorem Mine.alloc {w0 w : World} {bd : Nat} {S : Nat → Prop} {a : Ab} (h : Mine w0 w bd S a) (o : Obj) : Mine w0 (w.alloc o) bd S a := ⟨h.disk.alloc o, h.base, h.below.alloc h.below.size o⟩
/-- Append of a row that the call lays. -/
theorem Mine.append {w0 w : World} {bd : Nat} {S : Nat → Prop} {a a' : Ab} {err : Int} (h : Mine w0 w bd S a) (s : ByteArray) (a0 : Option Addr) (cap : Nat) (l : List Nat) (hs : Src w S a0 cap l) (e : aDo [s] (aExt a.room s.data.toList l) a = (err, a')) :
    Calls Tryz.prog 10 #[.pointer (some ⟨bd, 0, none⟩), .string s, .slice a0 l.length cap] w fun e w' => e = .returned (.int .i64 err) ∧ ∃ S', Mine w0 w' bd S' a' ∧ Went w w' S S' := by
  refine (append_disk h.disk s a0 cap l hs).mono ?_
  rintro e' w' ⟨rfl, S', d, g⟩
  rw [e] at d ⊢
  exact ⟨rfl, S', h.went d g, g⟩
theorem Mine.sync {w0 w : World} {bd : Nat} {S : Nat → Prop} {a a' : Ab} {err : Int} (h : Mine w0 w bd S a) (s : ByteArray) (e : aDo [s] (aSync s.data.toList) a = (err, a')) :
    Calls Tryz.prog 14 #[.pointer (some ⟨bd, 0, none⟩), .string s] w fun e w' => e = .returned (.int .i64 err) ∧ ∃ S', Mine w0 w' bd S' a' ∧ Went w w' S S' := by
  refine (sync_disk h.disk s).mono ?_
  rintro e' w' ⟨rfl, S', d, g⟩
  rw [e] at d ⊢
  exact ⟨rfl, S', h.went d g, g⟩
set_option maxHeartbeats 1000000 in
set_option maxRecDepth 100000 in
theorem known_any (w : World) : Calls Tryz.prog 5 #[] w fun e w' => e = .returned (.bool true) ∧ Below w.heap.size w w' := by
  have hcv := conv_same
  go_enter Tryz.func5, Tryz.ntmps5
  go_wp2_with fail
  refine (new_any 100 w (by decide) (by decide)).mono ?_
  rintro e w1 ⟨bd, S1, rfl, d1, n1, b1⟩
  have H1 : Hid (Mine w w1 bd S1 ⟨100, -1, []⟩) := ⟨d1, n1, b1⟩
  clear d1 n1 b1
  go_wp2_with fail
  refine ((H1.out.alloc _).append ⟨#[97]⟩ _ _ [49, 50, 51, 52, 53] (src_lit H1.out.disk _ (by unfold Oct; decide) _ _) k1).mono ?_
  rintro e w2 ⟨rfl, S2, m2, _⟩
  have H2 : Hid (Mine w w2 bd S2 _) := m2
  clear m2 H1
  go_wp2_with fail
  refine (H2.out.sync ⟨#[97]⟩ k2).mono ?_
  rintro e w3 ⟨rfl, S3, m3, _⟩
  have H3 : Hid (Mine w w3 bd S3 _) := m3
  clear m3 H2
  go_wp2_with fail
  refine ((H3.out.alloc _).append ⟨#[97]⟩ _ _ [54, 55, 56] (src_lit H3.out.disk _ (by unfold Oct; decide) _ _) k3).mono ?_
  rintro e w4 ⟨rfl, S4, m4, _⟩
  have H4 : Hid (Mine w w4 bd S4 _) := m4
  clear m4 H3
  go_wp2_with fail
  refine (crash_disk H4.out.disk 1).mono ?_
  rintro e w5 ⟨rfl, S5, d5, g5⟩
  have H5 : Hid (Mine w w5 bd S5 ⟨100, -1, [([97], ⟨[49, 50, 51, 52, 53, 54], 6⟩)]⟩) := H4.out.went d5 g5
  clear d5 g5 H4
  go_wp2_with fail
  refine (read_disk H5.out.disk ⟨#[97]⟩ (by decide)).mono ?_
  rintro e w6 ⟨v, err, rfl, t6, d6, k6⟩
  obtain ⟨o6, rfl⟩ : Own w6 w5.heap.size v [49, 50, 51, 52, 53, 54] ∧ err = 0 := t6
  obtain ⟨g, cap, rfl, hg, _, _, _, hc⟩ := o6.form (by decide)
  have B6 : Hid (Below w.heap.size w w6) := H5.out.below.trans (k6.below H5.out.below.size H5.out.base)
  have HC : Hid (Byt w6 (some ⟨g, 0, none⟩) [49, 50, 51, 52, 53, 54]) := .inr ⟨g, 0, rfl, hc⟩
  clear d6 k6 o6 hc H5
  go_wp2_with fail
  refine (same_any _ _ _ _ [49, 50, 51, 52, 53, 54] (by decide) _ (HC.out.below ((Below.refl _ _).alloc (Nat.le_refl _) _)) (byt_mark w6 _ _) (by unfold Oct; decide)).mono ?_
  rintro e w7 ⟨rfl, q, rfl⟩
  have B7 : Hid (Below w.heap.size w ((w6.alloc (.cells (vals [49, 50, 51, 52, 53, 54]).toArray 5 (6, 7))).drewN q)) := below_drewN (B6.out.alloc B6.out.size _) q
  clear B6 HC
  go_wp2
  go_ret
  exact ⟨rfl, B7.out⟩
#print axioms known_any
end Go.Proofs.YtmpnceicodfifaaGreat
