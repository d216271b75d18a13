/-
  What the walk of DiskKeeps carries.
-/
import Derived.Test.YtifeocedjomkmaaRowz
namespace Go.Proofs.Ytifeocedjomkmaa
open Go.RowKit
def wt (rs : List Rw) : Nat := (rs.map fun r => 1 + r.2.2.length).sum
def cat (rs : List Rw) : List Nat := rs.flatMap fun r => r.2.2
theorem wt_snoc (rs : List Rw) (k : Nat) (h : k < rs.length) : wt (rs.take (k + 1)) = wt (rs.take k) + (1 + rs[k].2.2.length) := by
  rw [List.take_succ_eq_append_getElem h]; unfold wt; rw [List.map_append, List.sum_append]; simp only [List.map_cons, List.map_nil, List.sum_cons, List.sum_nil]; omega
theorem cat_snoc (rs : List Rw) (k : Nat) (h : k < rs.length) : cat (rs.take (k + 1)) = cat (rs.take k) ++ rs[k].2.2 := by
  rw [List.take_succ_eq_append_getElem h]; unfold cat; rw [List.flatMap_append]; simp only [List.flatMap_cons, List.flatMap_nil, List.append_nil]
theorem cat_le : ∀ rs : List Rw, (cat rs).length + rs.length ≤ wt rs
  | [] => by simp [cat, wt]
  | r :: t => by
    have ih := cat_le t
    simp only [cat, wt, List.flatMap_cons, List.length_append, List.length_cons, List.map_cons, List.sum_cons] at *
    omega
theorem cat_take (rs : List Rw) (k : Nat) : (cat (rs.take k)).length ≤ (cat rs).length := by
  conv => rhs; rw [← List.take_append_drop k rs]
  unfold cat
  rw [List.flatMap_append, List.length_append]
  omega
theorem oct_cat {w : World} {a : Option Addr} {rs : List Rw} (h : Rws w a rs) : Oct (cat rs) := by
  intro x hx
  obtain ⟨r, hr, hx⟩ := List.mem_flatMap.1 hx
  rcases h with rfl | ⟨b, off, rfl, h⟩
  · cases hr
  · obtain ⟨i, hi⟩ := List.getElem?_of_mem hr
    exact (h i r hi).2.oct x hx
theorem Own.src {w : World} {base : Nat} {v : Value} {l : List Nat} (h : Own w base v l) : ∃ a c, v = .slice a l.length c ∧ Byt w a l ∧ (a = none → c = 0) ∧ l.length ≤ c := by
  obtain ⟨a, c, e, hc, hn⟩ := h.shape
  refine ⟨a, c, e, ?_, hn, hc⟩
  by_cases h0 : 0 < l.length
  · obtain ⟨g, cap, e2, _, _, _, _, hcell⟩ := h.form h0
    rw [e] at e2
    injection e2 with e2
    exact .inr ⟨g, 0, e2, hcell⟩
  · exact .inl (List.eq_nil_of_length_eq_zero (by omega))
theorem byt_take {w : World} {a : Option Addr} {l : List Nat} (h : Byt w a l) (n : Nat) : Byt w a (l.take n) := by
  rcases h with rfl | ⟨b, off, rfl, hc⟩
  · left; simp
  · refine .inr ⟨b, off, rfl, fun i hi => ?_⟩
    rw [List.length_take] at hi
    rw [hc i (by omega)]
    simp [List.getD_eq_getElem?_getD, show i < n by omega]
def one (z : Prop) [Decidable z] (b : List Nat) (k : Nat) : List (Nm × Fl) := if z then [] else [([102], ⟨b, k⟩)]
theorem ext_one (z : Prop) [Decidable z] (b l : List Nat) (k : Nat) (hz : z → b = [] ∧ k = 0) (h : b.length + l.length ≤ 1048576) :
    aDo [⟨#[102]⟩] (aExt 1048576 [102] l) ⟨1048576, -1, one z b k⟩ = (0, ⟨1048576, -1, [([102], ⟨b ++ l, k⟩)]⟩) := by
  have hb : [(⟨#[102]⟩ : ByteArray)].any bad = false := rfl
  by_cases hzz : z
  · obtain ⟨rfl, rfl⟩ := hz hzz
    have h1 : ¬ ((l.length : Int) > 1048576 - (total (one z [] 0) : Int) ∨ (get (one z [] 0) [102] = none ∧ 4096 ≤ (one z [] 0).length)) := by
      simp only [one, hzz, if_true, total, List.map_nil, List.sum_nil, List.length_nil] at *
      omega
    simp only [aDo, hb, aExt, if_neg h1]
    simp [one, hzz, get, ins, fuseAfter]
  · have h1 : ¬ ((l.length : Int) > 1048576 - (total (one z b k) : Int) ∨ (get (one z b k) [102] = none ∧ 4096 ≤ (one z b k).length)) := by
      simp only [one, hzz, if_false, total, List.map_cons, List.map_nil, List.sum_cons, List.sum_nil, List.length_cons, List.length_nil] at *
      omega
    simp only [aDo, hb, aExt, if_neg h1]
    simp [one, hzz, get, fupd, fuseAfter]
theorem sync_one (b : List Nat) (k : Nat) : aDo [⟨#[102]⟩] (aSync [102]) ⟨1048576, -1, [([102], ⟨b, k⟩)]⟩ = (0, ⟨1048576, -1, [([102], ⟨b, b.length⟩)]⟩) := by
  have hb : [(⟨#[102]⟩ : ByteArray)].any bad = false := rfl
  simp [aDo, hb, aSync, get, fupd, fuseAfter]
/-- What stands when k rows have been appended. -/
structure Kp (w wr : World) (bd : Nat) (S : Nat → Prop) (rs : List Rw) (m k : Nat) (al su : Value) : Prop where
  mine : Mine w wr bd S ⟨1048576, -1, one (k = 0) (cat (rs.take k)) (cat (rs.take (min k m))).length⟩
  all : Own wr w.heap.size al (cat (rs.take k))
  sure : Own wr w.heap.size su (cat (rs.take (min k m)))
  alS : ∀ g, al.ownBlock = some g → ¬ S g
  suS : ∀ g, su.ownBlock = some g → ¬ S g
  two : ∀ g, al.ownBlock = some g → su.ownBlock ≠ some g
/-- A row of the call's own that is none of the disk's stays. -/
theorem own_went {w w' : World} {base : Nat} {S S' : Nat → Prop} {v : Value} {l : List Nat} (h : Own w base v l) (g : Went w w' S S') (hS : ∀ g, v.ownBlock = some g → ¬ S g) : Own w' base v l ∧ ∀ g, v.ownBlock = some g → ¬ S' g := by
  refine ⟨h.keptBy g.kept hS, fun i hi hi' => ?_⟩
  rcases g.new i hi' with e | e
  · exact hS i hi e
  · obtain ⟨_, hv⟩ := h.blk hi
    have := hv.lt
    omega
theorem Mine.grown {w0 w w' : World} {bd : Nat} {S : Nat → Prop} {a : Ab} {row : Option Nat} (h : Mine w0 w bd S a) (g : w.grownBy w' row) (hS : ∀ i, row = some i → ¬ S i) (hb : ∀ i, row = some i → w0.heap.size ≤ i) : Mine w0 w' bd S a :=
  ⟨h.disk.keptBy (Kept.of_grown (S := fun i => row = some i) g (fun _ e => e)) (fun i hi e => hS i e hi), h.base, h.below.grown g h.below.size hb⟩
theorem own_base {w : World} {base : Nat} {v : Value} {l : List Nat} (h : Own w base v l) {g : Nat} (hg : v.ownBlock = some g) : base ≤ g ∧ g < w.heap.size := by
  rcases h with ⟨_, ⟨rfl, _⟩ | ⟨g', cap, cur, rfl, hb, hh, _⟩⟩
  · cases hg
  · have : g' = g := by simpa [Value.ownBlock] using hg
    subst this
    exact ⟨hb, (Array.getElem?_eq_some_iff.1 hh).1⟩
/-- Between: the row is appended, on the disk and to 'all'; nothing is synced yet. -/
structure Kq (w wr : World) (bd : Nat) (S : Nat → Prop) (b : List Nat) (ks : List Nat) (al su : Value) : Prop where
  mine : Mine w wr bd S ⟨1048576, -1, [([102], ⟨b, ks.length⟩)]⟩
  all : Own wr w.heap.size al b
  sure : Own wr w.heap.size su ks
  alS : ∀ g, al.ownBlock = some g → ¬ S g
  suS : ∀ g, su.ownBlock = some g → ¬ S g
  two : ∀ g, al.ownBlock = some g → su.ownBlock ≠ some g
theorem Kp.src {w wr : World} {bd : Nat} {S : Nat → Prop} {rs : List Rw} {m k : Nat} {al su : Value} (h : Kp w wr bd S rs m k al su) {r : Rw} (hr : RowAt w r) : Src wr S r.1 r.2.1 r.2.2 := by
  refine ⟨hr.byt.below h.mine.below, hr.nil, fun b off e hl hb => ?_, hr.oct⟩
  rcases hr.byt with e' | ⟨b', off', e', hc⟩
  · exact hl e'
  · rw [e] at e'
    injection e' with e'
    injection e' with e1
    subst e1
    have h1 := h.mine.base _ hb
    have : 0 < r.2.2.length := by
      cases hq : r.2.2 with
      | nil => exact absurd hq hl
      | cons _ _ => simp
    have h2 := cell_lt (hc 0 this)
    omega
/-- Append of row k. -/
theorem Kp.append {w wr : World} {bd : Nat} {S : Nat → Prop} {rs : List Rw} {m k : Nat} {al su : Value} (h : Kp w wr bd S rs m k al su) {r : Rw} (hr : RowAt w r) (hl : (cat (rs.take k)).length + r.2.2.length ≤ 8000) :
    Calls Try.prog 10 #[.pointer (some ⟨bd, 0, none⟩), .string ⟨#[102]⟩, .slice r.1 r.2.2.length r.2.1] wr fun e w1 => e = .returned (.int .i64 0) ∧
      Hid (∃ S', Mine w w1 bd S' ⟨1048576, -1, [([102], ⟨cat (rs.take k) ++ r.2.2, (cat (rs.take (min k m))).length⟩)]⟩ ∧ (∀ g, al.ownBlock = some g → ¬ S' g) ∧ (∀ g, su.ownBlock = some g → ¬ S' g)) ∧
      Hid (Own w1 w.heap.size al (cat (rs.take k))) ∧ Hid (Own w1 w.heap.size su (cat (rs.take (min k m)))) ∧ Hid (Byt w1 r.1 r.2.2) := by
  refine (h.mine.append ⟨#[102]⟩ r.1 r.2.1 r.2.2 (h.src hr) (ext_one (k = 0) _ r.2.2 _ (fun e => ?_) (by omega))).mono ?_
  · subst e
    simp [cat]
  · rintro e w1 ⟨rfl, S', m1, g1⟩
    obtain ⟨o1, s1⟩ := own_went h.all g1 h.alS
    obtain ⟨o2, s2⟩ := own_went h.sure g1 h.suS
    exact ⟨rfl, ⟨S', m1, s1, s2⟩, o1, o2, hr.byt.below m1.below⟩
/-- The row is appended to 'all'. -/
theorem kq_made {w w1 w2 : World} {bd : Nat} {S : Nat → Prop} {b l ks : List Nat} {al al' su : Value} (hm : Mine w w1 bd S ⟨1048576, -1, [([102], ⟨b ++ l, ks.length⟩)]⟩) (hal : Own w1 w.heap.size al b) (hsu : Own w1 w.heap.size su ks) (alS : ∀ g, al.ownBlock = some g → ¬ S g) (suS : ∀ g, su.ownBlock = some g → ¬ S g)
    (two : ∀ g, al.ownBlock = some g → su.ownBlock ≠ some g) (o : Own w2 w.heap.size al' (b ++ l)) (g : w1.grownBy w2 al.ownBlock) (loc : ∀ g, al'.ownBlock = some g → al.ownBlock = some g ∨ w1.heap.size ≤ g) : Kq w w2 bd S (b ++ l) ks al' su := by
  refine ⟨hm.grown g alS (fun i e => (own_base hal e).1), o, hsu.keptBy (Kept.of_grown (S := fun i => al.ownBlock = some i) g (fun _ e => e)) (fun i hi e => two i e hi), fun i hi hS => ?_, suS, fun i hi e => ?_⟩
  · rcases loc i hi with e | e
    · exact alS i e hS
    · have := hm.disk.lt hS
      omega
  · rcases loc i hi with e' | e'
    · exact two i e' e
    · have := (own_base hsu e).2
      omega
theorem Kq.no {w wr : World} {bd : Nat} {S : Nat → Prop} {rs : List Rw} {m k : Nat} {al su : Value} (h : Kq w wr bd S (cat (rs.take (k + 1))) (cat (rs.take (min k m))) al su) (hk : ¬ k < m) : Kp w wr bd S rs m (k + 1) al su := by
  have e : min (k + 1) m = min k m := by omega
  exact ⟨by rw [e]; simpa [one] using h.mine, h.all, by rw [e]; exact h.sure, h.alS, h.suS, h.two⟩
/-- Sync, and what is sure is copied. -/
theorem Kq.sync {w wr : World} {bd : Nat} {S : Nat → Prop} {b ks : List Nat} {al su : Value} (h : Kq w wr bd S b ks al su) :
    Calls Try.prog 11 #[.pointer (some ⟨bd, 0, none⟩), .string ⟨#[102]⟩] wr fun e w1 => e = .returned (.int .i64 0) ∧ Hid (∃ S', Mine w w1 bd S' ⟨1048576, -1, [([102], ⟨b, b.length⟩)]⟩ ∧ (∀ g, al.ownBlock = some g → ¬ S' g)) ∧ Hid (Own w1 w.heap.size al b) := by
  refine (h.mine.sync ⟨#[102]⟩ (sync_one b _)).mono ?_
  rintro e w1 ⟨rfl, S', m1, g1⟩
  obtain ⟨o1, s1⟩ := own_went h.all g1 h.alS
  exact ⟨rfl, ⟨S', m1, s1⟩, o1⟩
theorem kp_yes {w w1 w2 : World} {bd : Nat} {S : Nat → Prop} {rs : List Rw} {m k : Nat} {al su : Value} (hk : k < m) (hm : Mine w w1 bd S ⟨1048576, -1, [([102], ⟨cat (rs.take (k + 1)), (cat (rs.take (k + 1))).length⟩)]⟩) (hal : Own w1 w.heap.size al (cat (rs.take (k + 1)))) (alS : ∀ g, al.ownBlock = some g → ¬ S g)
    (o : Own w2 w.heap.size su (cat (rs.take (k + 1)))) (g : (w1.alloc (.cells #[] 5)).grownBy w2 (some w1.heap.size)) (loc : ∀ g, su.ownBlock = some g → (some w1.heap.size = some g ∨ w1.heap.size + 1 ≤ g)) : Kp w w2 bd S rs m (k + 1) al su := by
  have e : min (k + 1) m = k + 1 := by omega
  have hb := hm.below.size
  have hge : ∀ i, su.ownBlock = some i → w1.heap.size ≤ i := fun i hi => by
    rcases loc i hi with e | e
    · injection e with e; omega
    · omega
  have hm2 := (hm.alloc (.cells #[] 5)).grown g (fun i e hS => by injection e with e; have := hm.disk.lt hS; omega) (fun i e => by injection e with e; omega)
  have hal2 := (hal.alloc (.cells #[] 5)).keptBy (Kept.of_grown (S := fun i => some w1.heap.size = some i) g (fun _ e => e)) (fun i hi e => by injection e with e; have := (own_base hal hi).2; omega)
  refine ⟨by rw [e]; simpa [one] using hm2, hal2, by rw [e]; exact o, alS, fun i hi hS => ?_, fun i hi e => ?_⟩
  · have := hge i hi
    have := hm.disk.lt hS
    omega
  · have := hge i e
    have := (own_base hal hi).2
    omega
end Go.Proofs.Ytifeocedjomkmaa
