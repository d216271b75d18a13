/-
  known; heavy; a catalog that the call made; entries that came in.
-/
import Derived.Test.YtbkogaencjmmgaaCl
namespace Go.Proofs.Ytbkogaencjmmgaa
open Go.RowKit Go.MapKept
set_option linter.unusedVariables false
set_option linter.unusedSimpArgs false
/-- The cells of an entry of which three fields are given. -/
def entC (k id : Int) (s : ByteArray) : List Value := [.int .i64 k, .string s, .int .i64 id, .int .i64 0, .int .i64 0, .int .i64 0, .int .i64 0, .int .i64 0, .string ⟨#[]⟩, .slice none 0 0, .slice none 0 0] ++ (List.replicate 32 (.int .u8 0) ++ [.bool false, .int .i64 0, .int .i64 0])
theorem entC_en (k id : Int) (s : ByteArray) : EnC k id s (entC k id s) := by
  exact ⟨rfl, rfl, rfl, rfl⟩
/-- A catalog that the call made. -/
def St (B : Nat) (w0 w : World) (g : Nat) (A : List Tb) : Prop := ∃ S : Nat → Prop, Cat w S g A ∧ (∀ x, S x → B ≤ x ∧ x < w.heap.size) ∧ Below B w0 w ∧ B ≤ w.heap.size ∧ B ≤ w0.heap.size
theorem Cat.shrink {S : Nat → Prop} {w : World} {g : Nat} {A : List Tb} (h : Cat w S g A) : Cat w (fun x => S x ∧ x < w.heap.size) g A := by
  obtain ⟨tv, dm, mv, L, hM, e, hI⟩ := h
  refine ⟨tv, dm, mv, L, hM, e, ⟨hI.g, hM.blk.lt⟩, fun x hx => ⟨hI.tv x hx, row_lt hM.row hx⟩, fun p hp x hx => ⟨hI.fld p hp x hx, row_lt (hM.fld p hp) hx⟩, fun x hx => ⟨hI.map x hx, ?_⟩⟩
  rcases hM.map with ⟨h1, _⟩ | ⟨b, es, clock, h1, h2⟩
  · rw [h1] at hx; cases hx
  · rw [h1] at hx; injection hx with hx; injection hx with hx; subst hx
    exact (Array.getElem?_eq_some_iff.1 h2.blk).1
theorem St.ok {B : Nat} {w0 w : World} {g : Nat} {A : List Tb} (h : St B w0 w g A) : OkA A := by
  obtain ⟨S, h1, _⟩ := h
  exact h1.ok
theorem St.bl {B : Nat} {w0 w : World} {g : Nat} {A : List Tb} (h : St B w0 w g A) : Below B w0 w := by
  obtain ⟨S, h1, h2, h3, _⟩ := h
  exact h3
theorem St.sz {B : Nat} {w0 w : World} {g : Nat} {A : List Tb} (h : St B w0 w g A) : B ≤ w.heap.size := by
  obtain ⟨S, h1, h2, h3, h4, _⟩ := h
  exact h4
theorem St.below {B : Nat} {w0 w w' : World} {g : Nat} {A : List Tb} (h : St B w0 w g A) (b : Below w.heap.size w w') : St B w0 w' g A := by
  obtain ⟨S, h1, h2, h3, h4, h5⟩ := h
  exact ⟨S, h1.below b, fun x hx => ⟨(h2 x hx).1, Nat.lt_of_lt_of_le (h2 x hx).2 b.size⟩, h3.trans (b.mono h4), Nat.le_trans h4 b.size, h5⟩
theorem st_new (B : Nat) (w0 w : World) (hb : Below B w0 w) (hB : B ≤ w.heap.size) (hB0 : B ≤ w0.heap.size) : Calls Try.prog 9 #[] w fun e w' => ∃ g, e = .returned (.pointer (some ⟨g, 0, none⟩)) ∧ Hid (St B w0 w' g []) := by
  refine (new_any w).mono ?_
  rintro e w' ⟨g, rfl, H⟩
  obtain ⟨h1, h2, h3⟩ := H.out
  refine ⟨g, rfl, fun x => x = g ∧ x < w'.heap.size, h1.shrink, fun x hx => ⟨by omega, hx.2⟩, hb.trans (h3.mono hB), Nat.le_trans hB h3.size, hB0⟩
theorem st_apply (B : Nat) (w0 : World) (g : Nat) (A : List Tb) (k id : Int) (s : ByteArray) (ec : List Value) (he : EnC k id s ec) (hs : s.size ≤ 281474976710656) (w : World) (h : St B w0 w g A) :
    Calls Try.prog 10 #[.pointer (some ⟨g, 0, none⟩), .agg ec.toArray] w fun e w' => e = .returned (.int .i64 (apE A k id s)) ∧ Hid (St B w0 w' g (apA A k id s)) := by
  obtain ⟨S, h1, h2, h3, h4, h5⟩ := h
  refine (apply_any S g A k id s ec he hs w h1).mono ?_
  rintro e w' ⟨rfl, H⟩
  obtain ⟨q1, q2⟩ := H.out
  refine ⟨rfl, _, q1.shrink, fun x hx => ⟨?_, hx.2⟩, Upd.below h3 q2 h5 (fun x hx => (h2 x hx).1), Nat.le_trans h4 q2.size, h5⟩
  rcases hx.1 with hx | hx
  · exact (h2 x hx).1
  · omega
theorem sz1 : (⟨#[97]⟩ : ByteArray).size = 1 := rfl
theorem kn1 : apE [] 5 1 ⟨#[97]⟩ = 0 ∧ apA [] 5 1 ⟨#[97]⟩ = [⟨⟨#[97]⟩, [], false⟩] := by
  have e : apE [] 5 1 ⟨#[97]⟩ = 0 := by simp [apE, addE, nameB, nam, namF, sz1]
  exact ⟨e, by simp only [apA, if_pos, addA]; rw [show addE [] 1 ⟨#[97]⟩ = 0 from by simpa [apE] using e]; rfl⟩
theorem kn2 : apE [⟨⟨#[97]⟩, [], false⟩] 5 2 ⟨#[97]⟩ = 8 ∧ apA [⟨⟨#[97]⟩, [], false⟩] 5 2 ⟨#[97]⟩ = [⟨⟨#[97]⟩, [], false⟩] := by
  have hb : bq ⟨#[97]⟩ ⟨#[97]⟩ = true := bq_iff.2 rfl
  have e : addE [⟨⟨#[97]⟩, [], false⟩] 2 ⟨#[97]⟩ = 8 := by simp [addE, nameB, nam, namF, sz1, hb]
  refine ⟨by simp only [apE, if_pos]; exact e, ?_⟩
  simp only [apA, if_pos, addA]
  rw [if_neg (by rw [e]; decide)]
theorem kn3 : apE [⟨⟨#[97]⟩, [], false⟩] 6 1 ⟨#[]⟩ = 0 ∧ apA [⟨⟨#[97]⟩, [], false⟩] 6 1 ⟨#[]⟩ = [⟨⟨#[97]⟩, [], true⟩] := ⟨rfl, rfl⟩
theorem kn4 : apE [⟨⟨#[97]⟩, [], true⟩] 5 2 ⟨#[97]⟩ = 0 := by
  have e : addE [⟨⟨#[97]⟩, [], true⟩] 2 ⟨#[97]⟩ = 0 := by simp [addE, nameB, nam, namF, sz1]
  simp only [apE, if_pos]; exact e
set_option maxRecDepth 8000 in
set_option maxHeartbeats 1000000 in
theorem known_any (w : World) : Calls Try.prog 8 #[] w fun e w' => e = .returned (.bool true) ∧ Hid (Below w.heap.size w w') := by
  have K := st_new w.heap.size w w (Below.refl _ _) (Nat.le_refl _) (Nat.le_refl _)
  go_enter Try.func8, Try.ntmps8
  go_wp2_with fail
  refine K.mono ?_
  clear K
  rintro e w1 ⟨g, rfl, H1⟩
  have K := st_apply w.heap.size w g [] 5 1 ⟨#[97]⟩ _ (entC_en _ _ _) (by rw [sz1]; decide) w1 H1.out
  rw [kn1.1, kn1.2] at K
  clear H1
  go_wp2_with fail
  refine K.mono ?_
  clear K
  rintro e w2 ⟨rfl, H2⟩
  have K := st_apply w.heap.size w g [⟨⟨#[97]⟩, [], false⟩] 5 2 ⟨#[97]⟩ _ (entC_en _ _ _) (by rw [sz1]; decide) w2 H2.out
  rw [kn2.1, kn2.2] at K
  clear H2
  go_wp2_with fail
  refine K.mono ?_
  clear K
  rintro e w3 ⟨rfl, H3⟩
  have K := st_apply w.heap.size w g [⟨⟨#[97]⟩, [], false⟩] 6 1 ⟨#[]⟩ _ (entC_en _ _ _) (by decide) w3 H3.out
  rw [kn3.1, kn3.2] at K
  clear H3
  go_wp2_with fail
  refine K.mono ?_
  clear K
  rintro e w4 ⟨rfl, H4⟩
  have K := st_apply w.heap.size w g [⟨⟨#[97]⟩, [], true⟩] 5 2 ⟨#[97]⟩ _ (entC_en _ _ _) (by rw [sz1]; decide) w4 H4.out
  rw [kn4] at K
  clear H4
  go_wp2_with fail
  refine K.mono ?_
  clear K
  rintro e w5 ⟨rfl, H5⟩
  have HB : Hid (Below w.heap.size w w5) := H5.out.bl
  clear H5
  go_wp2
  go_ret
  exact ⟨rfl, HB.out⟩
/-! ### entries that came in -/
structure Ent where
  k : Int
  id : Int
  s : ByteArray
  ec : List Value
structure EntOk (y : Ent) : Prop where
  en : EnC y.k y.id y.s y.ec
  i64 : I64 y.id
  sz : y.s.size ≤ 140737488355328
def Scr (w : World) (a0 : Option Addr) (l : List Ent) : Prop := l = [] ∨ ∃ b off, a0 = some ⟨b, off, none⟩ ∧ ∀ k y, l[k]? = some y → w.rangeAt b (off + k * 46) y.ec
theorem Scr.at {w : World} {a0 : Option Addr} {l : List Ent} (h : Scr w a0 l) {k : Nat} {y : Ent} (hk : l[k]? = some y) : ∃ b off, a0 = some ⟨b, off, none⟩ ∧ w.rangeAt b (off + k * 46) y.ec := by
  rcases h with rfl | ⟨b, off, e, h⟩
  · cases hk
  · exact ⟨b, off, e, h k y hk⟩
theorem Scr.below {w w' : World} {a0 : Option Addr} {l : List Ent} (h : Scr w a0 l) (g : Below w.heap.size w w') : Scr w' a0 l := by
  rcases h with rfl | ⟨b, off, e, h⟩
  · exact .inl rfl
  · exact .inr ⟨b, off, e, fun k y hk j v hj => (g.cell (p := ⟨b, off + k * 46 + j, none⟩) (cell_lt (h k y hk j v hj))).trans (h k y hk j v hj)⟩
def IsB (e : Ending) : Prop := ∃ t, e = .returned (.bool t)
set_option maxRecDepth 8000 in
set_option maxHeartbeats 1000000 in
theorem heavy_any (a0 : Option Addr) (cap : Nat) (l : List Ent) (w : World) (hs : Scr w a0 l) (hz : ∀ y ∈ l, EntOk y) : Calls Try.prog 7 #[.slice a0 l.length cap] w fun e w' => IsB e ∧ w' = w := by
  have HS : Hid (Scr w a0 l) := hs
  have HZ : Hid (∀ y ∈ l, EntOk y) := hz
  clear hs hz
  go_enter Try.func7, Try.ntmps7
  go_wp2
  go_loopw [3, 4] (fun n i wr => ∃ m k : Nat, m ≤ 10000 ∧ k ≤ l.length ∧ k ≤ 150 ∧ n = .int .i64 (m : Int) ∧ i = .int .i64 (k : Int) ∧ wr = w) (fun _ i _ => 150 - (intOf i).toNat)
  case atStart => exact ⟨0, 0, by omega, by omega, by omega, rfl, rfl, rfl⟩
  case round =>
    obtain ⟨m, k, hm, hk, hk4, rfl, rfl, rfl⟩ := hrel
    by_cases hlt : k < l.length
    case neg =>
      have hlt' : ¬ (k : Int) < (l.length : Int) := by omega
      go_wp2
      go_ret
      exact ⟨⟨false, rfl⟩, rfl⟩
    have hlt' : (k : Int) < (l.length : Int) := by omega
    by_cases h4 : k < 150
    case neg =>
      have h4' : ¬ (k : Int) < 150 := by omega
      go_wp2
      go_ret
      exact ⟨⟨false, rfl⟩, rfl⟩
    have h4' : (k : Int) < 150 := by omega
    obtain ⟨y, hsk⟩ : ∃ y, l[k]? = some y := ⟨_, List.getElem?_eq_getElem hlt⟩
    obtain ⟨b, off, rfl, hr⟩ := HS.out.at hsk
    have hy := HZ.out y (List.mem_of_getElem? hsk)
    have q1 : wr.cell? ⟨b, off + k * 46 + 1, none⟩ = some (.string y.s) := hr 1 _ hy.en.s
    have hz := hy.sz
    obtain ⟨p, hp⟩ : ∃ p, y.s.size = p := ⟨_, rfl⟩
    have e1 : wrap64 ((m : Int) + (p : Int)) = ((m + p : Nat) : Int) := wrap_small (by omega) (by omega)
    have hx1 : ¬ ((k : Int) < 0) := by omega
    have hx2 : ¬ ((l.length : Int) ≤ (k : Int)) := by omega
    clear hsk hr hy
    go_wp2
    · go_ret
      exact ⟨⟨true, rfl⟩, rfl⟩
    · go_roundw
      case rel => exact ⟨m + p, k + 1, by omega, by omega, by omega, by simp, by go_num, by first | rfl | trivial⟩
      case measure => simp [intOf]; omega
#print axioms known_any
#print axioms heavy_any
end Go.Proofs.Ytbkogaencjmmgaa
