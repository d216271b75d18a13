/-
  order's texts: written, appendText; bytes.TrimRight of one byte; turnRound.
-/
import Derived.Test.YtoggcabenjmnoaaDoorKsh
import Derived.Test.YtoggcabenjmnoaaDoorKg
import Derived.Test.YtoggcabenjmnoaaDoorOru
namespace Go.Proofs.YtoggcabenjmnoaaDoor
open Go.RowKit Math
set_option linter.unusedVariables false
set_option linter.unusedSimpArgs false
/-- What the library's contract asks of its own variable. -/
def Mx (w : World) : Prop := ∃ m, w.cell? ⟨0, 0, none⟩ = some (.int .i64 m)
theorem Mx.below {w w' : World} {B : Nat} (h : Mx w) (hb : Below B w w') (h0 : 0 < B) : Mx w' := by
  obtain ⟨m, hm⟩ := h
  refine ⟨m, ?_⟩
  rw [← hm]
  unfold World.cell?
  rw [hb.block 0 h0]
theorem Mx.pos {w : World} (h : Mx w) : 0 < w.heap.size := by
  obtain ⟨m, hm⟩ := h
  exact cell_lt hm
theorem Mx.kept {w w' : World} {r : Option Nat} (h : Mx w) (g : w.grownBy w' r) (hr : r ≠ some 0) : Mx w' := by
  have h0 := h.pos
  obtain ⟨m, hm⟩ := h
  refine ⟨m, ?_⟩
  rw [← hm]
  unfold World.cell?
  rw [g.block 0 h0 (fun e => hr e.symm)]
/-! ### texts -/
def escU : List UInt8 → List UInt8
  | [] => []
  | x :: l => if x = 0 then 0 :: 255 :: escU l else x :: escU l
theorem escU_map (l : List UInt8) : (escU l).map UInt8.toNat = esc (l.map UInt8.toNat) := by
  induction l with
  | nil => rfl
  | cons x l ih =>
    rw [escU, List.map_cons, esc]
    by_cases h : x = 0
    · subst h
      simp [ih]
    · have : x.toNat ≠ 0 := fun e => h (UInt8.toNat_inj.1 (by simpa using e))
      rw [if_neg h, if_neg this, List.map_cons, ih]
theorem idx_hit (l : List UInt8) : Lib.index (0 :: l) [0] = ((0 : Nat) : Int) := by
  simp [Lib.index, List.isPrefixOf]
theorem idx_skip (b : UInt8) (l : List UInt8) (h : b ≠ 0) : Lib.index (b :: l) [0] = if Lib.index l [0] == -1 then -1 else Lib.index l [0] + 1 := by
  have : (List.isPrefixOf [0] (b :: l)) = false := by
    simp only [List.isPrefixOf, Bool.and_true, beq_eq_false_iff_ne]
    exact fun e => h e.symm
  rw [Lib.index, this]
  rfl
theorem rep_skip (b : UInt8) (h : b ≠ 0) (new : List UInt8) : ∀ (k : Nat) (l : List UInt8), Lib.replaceK [0] new k (b :: l) = b :: Lib.replaceK [0] new k l
  | 0, l => rfl
  | k + 1, l => by
    by_cases hm : Lib.index l [0] = -1
    · have h1 : Lib.index (b :: l) [0] = -1 := by rw [idx_skip b l h, hm]; rfl
      rw [Lib.replaceK, Lib.replaceK, if_pos (by rw [h1]; rfl), if_pos (by rw [hm]; rfl)]
    · obtain ⟨i, hi⟩ : ∃ i : Nat, Lib.index l [0] = i := ⟨(Lib.index l [0]).toNat, by have := Lib.index_ge l [0]; omega⟩
      have h1 : Lib.index (b :: l) [0] = ((i + 1 : Nat) : Int) := by
        rw [idx_skip b l h, if_neg (by simpa using hm), hi]
        rfl
      rw [Lib.replaceK_hit _ _ _ _ _ h1, Lib.replaceK_hit _ _ _ _ _ hi]
      simp
theorem cnt_skip (b : UInt8) (h : b ≠ 0) (l : List UInt8) : Lib.count (b :: l) [0] = Lib.count l [0] := by
  by_cases hm : Lib.index l [0] = -1
  · have h1 : Lib.index (b :: l) [0] = -1 := by rw [idx_skip b l h, hm]; rfl
    rw [Lib.count_miss h1, Lib.count_miss hm]
  · obtain ⟨i, hi⟩ : ∃ i : Nat, Lib.index l [0] = i := ⟨(Lib.index l [0]).toNat, by have := Lib.index_ge l [0]; omega⟩
    have h1 : Lib.index (b :: l) [0] = ((i + 1 : Nat) : Int) := by
      rw [idx_skip b l h, if_neg (by simpa using hm), hi]
      rfl
    rw [Lib.count_hit (by simp) h1, Lib.count_hit (by simp) hi]
    simp
theorem rep_all : ∀ l : List UInt8, Lib.replaceK [0] [0, 255] (Lib.count l [0]) l = escU l
  | [] => by
    have : Lib.count [] [0] = 0 := Lib.count_miss (by decide)
    rw [this]; rfl
  | b :: l => by
    by_cases h : b = 0
    · subst h
      rw [Lib.count_hit (by simp) (idx_hit l), Nat.add_comm, Lib.replaceK_hit _ _ _ _ _ (idx_hit l)]
      have := rep_all l
      simp only [List.take_zero, List.nil_append, List.length_singleton, Nat.zero_add, List.drop_succ_cons, List.drop_zero, this]
      rw [escU, if_pos rfl]
      rfl
    · rw [cnt_skip b h, rep_skip b h, rep_all l, escU, if_neg h]
theorem replaceAll_esc (s : ByteArray) : (⟨(Lib.replaceAll s.data.toList [0] [0, 255]).toArray⟩ : ByteArray) = ofB (esc (bts s)) := by
  have h1 : Lib.replaceAll s.data.toList [0] [0, 255] = escU s.data.toList := by
    unfold Lib.replaceAll Lib.replace
    rw [if_neg (by decide)]
    unfold Lib.replaceNum
    rw [if_pos (.inl (by decide)), rep_all]
  rw [h1]
  have h2 : (ofB ((escU s.data.toList).map UInt8.toNat)) = ⟨(escU s.data.toList).toArray⟩ := by
    unfold ofB
    rw [List.map_map, show (UInt8.ofNat ∘ UInt8.toNat) = id from funext fun x => by simp, List.map_id]
  rw [← h2, escU_map]
  rfl
theorem wr_any (s : ByteArray) (hs : s.size ≤ 100000) (W : World) (hm : Mx W) :
    Calls Tryd.prog 36 #[.string s] W fun e w' => e = .returned (.string (ofB (esc (bts s)))) ∧ Below W.heap.size W w' := by
  obtain ⟨m, hm⟩ := hm
  have hc : Lib.countB s ⟨#[0]⟩ ≤ s.size := by
    have := Lib.countB_mul_le ⟨#[0]⟩ (by decide) s.size s (Nat.le_refl _)
    have e : (⟨#[0]⟩ : ByteArray).size = 1 := rfl
    rw [e] at this
    omega
  have K : Calls Tryd.prog 42 #[.string s, .string ⟨#[0]⟩, .string ⟨#[0, 255]⟩] W fun e w' => e = .returned (.string ⟨(Lib.replaceAll s.data.toList [0] [0, 255]).toArray⟩) ∧ Below W.heap.size W w' :=
    Any.strings_ReplaceAll { Tryd.laysM155 with } Tryd.Builder_Extra_M155 s ⟨#[0]⟩ ⟨#[0, 255]⟩ m W (by omega) hm (by decide) (by
      have e : (⟨#[0, 255]⟩ : ByteArray).size = 2 := rfl
      rw [e]
      omega)
  rw [replaceAll_esc] at K
  generalize ofB (esc (bts s)) = R at *
  clear hc hm
  go_enter Tryd.func36, Tryd.ntmps36
  go_wp2_with fail
  refine K.mono ?_
  rintro e w1 ⟨rfl, b1⟩
  go_wp2
  go_ret
  exact ⟨rfl, b1⟩
set_option maxRecDepth 8000 in
theorem kTx (v : Value) (l : List Nat) (s : ByteArray) (B : Nat) (W : World) (ho : Own W B v l) (hB : B ≤ W.heap.size) (hm : Mx W) (hs : s.size ≤ 100000) (hl : l.length ≤ 800000000) :
    Calls Tryd.prog 24 #[v, .string s] W fun e w' => ∃ v', e = .returned v' ∧ Ap B W w' v v' (l ++ txK s) := by
  have K := wr_any s hs W hm
  have HE : Hid (bts (ofB (esc (bts s))) = esc (bts s)) := bts_ofB _ (esc_oct (bts_oct s))
  have hsz : (ofB (esc (bts s))).size ≤ 200000 := by rw [ofB_size]; have := (esc_len (bts s)).2; rw [bts_len] at this; omega
  have HO : Hid (Own W B v l) := ho
  have HT : Hid (txK s = esc (bts s) ++ [0, 0]) := rfl
  generalize ofB (esc (bts s)) = R at *
  clear ho
  go_enter Tryd.func24, Tryd.ntmps24
  go_wp2_with fail
  refine K.mono ?_
  rintro e w1 ⟨rfl, b1⟩
  have HO1 : Hid (Own w1 B v l) := HO.out.below b1
  have HG1 : Hid (Below W.heap.size W w1) := b1
  have hs1 := b1.size
  clear b1 K HO
  go_wp2_with (at_builtin; go_must (refine ap_str rfl (.tmp 5) (.tmp 7) rfl B v l rfl HO1.out R rfl (by omega) (by omega) ?_))
  intro v2 w2 A2
  have HA2 : Hid (Ap B W w2 v v2 (l ++ bts R)) := Ap.after HG1.out A2
  have hs2 := A2.gr.size
  have hbl : (bts R).length ≤ 200000 := by rw [bts_len]; exact hsz
  clear A2
  go_wp2_with (at_builtin; go_must (refine ap_str rfl (.tmp 8) (.const (.string ⟨#[0, 0]⟩)) rfl B v2 (l ++ bts R) rfl HA2.out.own ⟨#[0, 0]⟩ rfl (by rw [List.length_append]; simp [ByteArray.size]; omega) (by omega) ?_))
  intro v3 w3 A3
  have HA3 : Hid (Ap B W w3 v v3 (l ++ txK s)) := by
    have := HA2.out.trans A3
    have e0 : bts ⟨#[0, 0]⟩ = [0, 0] := by decide
    simp only [HE.out, e0, List.append_assoc] at this
    show Ap _ _ _ _ _ _
    rw [HT.out]
    exact this
  clear A3 HA2
  go_wp2
  go_ret
  exact ⟨v3, rfl, HA3.out⟩
end Go.Proofs.YtoggcabenjmnoaaDoor
