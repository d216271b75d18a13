/-
  text's reader: digit, pair. · text.writeText.
-/
import Derived.Test.YtmlfhplhiedfjaaGreatDoorCG29x
import Derived.Test.YtmlfhplhiedfjaaGreatDoorCG23x
namespace Go.Proofs.YtmlfhplhiedfjaaGreatDoor
open Go.RowKit Math
set_option linter.unusedVariables false
set_option linter.unusedSimpArgs false
theorem ixh9 (c : Nat) (h : c < 256) : (∃ d, d < 16 ∧ hxd d = c ∧ Lib.indexByte (⟨#[48, 49, 50, 51, 52, 53, 54, 55, 56, 57, 97, 98, 99, 100, 101, 102]⟩ : ByteArray).data.toList ((c : Int).toNat.toUInt8) = (d : Int)) ∨ (isHx c = false ∧ Lib.indexByte (⟨#[48, 49, 50, 51, 52, 53, 54, 55, 56, 57, 97, 98, 99, 100, 101, 102]⟩ : ByteArray).data.toList ((c : Int).toNat.toUInt8) = -1) := by
  have h1 : ∀ c : Fin 256, (∃ d : Fin 16, hxd d.val = c.val ∧ Lib.indexByte (⟨#[48, 49, 50, 51, 52, 53, 54, 55, 56, 57, 97, 98, 99, 100, 101, 102]⟩ : ByteArray).data.toList (((c.val : Nat) : Int).toNat.toUInt8) = ((d.val : Nat) : Int)) ∨ (isHx c.val = false ∧ Lib.indexByte (⟨#[48, 49, 50, 51, 52, 53, 54, 55, 56, 57, 97, 98, 99, 100, 101, 102]⟩ : ByteArray).data.toList (((c.val : Nat) : Int).toNat.toUInt8) = -1) := by decide +kernel
  rcases h1 ⟨c, h⟩ with ⟨d, e1, e2⟩ | e
  · exact .inl ⟨d.val, d.isLt, e1, e2⟩
  · exact .inr e
theorem ib9 (c : Nat) (W : World) : Calls Tryz.prog 181 #[.string ⟨#[48, 49, 50, 51, 52, 53, 54, 55, 56, 57, 97, 98, 99, 100, 101, 102]⟩, .int .u8 (c : Int)] W fun e w' => e = .returned (.int .i64 (Lib.indexByte (⟨#[48, 49, 50, 51, 52, 53, 54, 55, 56, 57, 97, 98, 99, 100, 101, 102]⟩ : ByteArray).data.toList ((c : Int).toNat.toUInt8))) ∧ w' = W := by
  have K : Calls Tryz.prog 181 _ _ _ := Any.strings_IndexByte Tryz.lays137 ⟨#[48, 49, 50, 51, 52, 53, 54, 55, 56, 57, 97, 98, 99, 100, 101, 102]⟩ (c : Int) W
  exact K
/-- What digit and pair leave behind. -/
structure Dg (r : Nat) (W w' : World) (s s' : ByteArray) (bad bad' : Bool) (n : Nat) : Prop where
  kt : Kt r W w' s' bad'
  pr : bad' = false → s'.size + n ≤ s.size
  lt : 0 < s.size → s'.size < s.size
  le : s'.size ≤ s.size
theorem rh_no {l l' : List Nat} {bad : Bool} {d : Nat} (hs : ∃ c, l = c ++ l') (h : ∀ c t, l = c :: t → isHx c = false) : Rh l bad l' true d :=
  ⟨hs, fun _ => rfl, fun hb y m hy e => by
    have := h (hxd y) m e
    rw [hxd_is hy] at this
    cases this⟩
set_option maxRecDepth 8000 in
set_option maxHeartbeats 1000000 in
theorem digit9 (r : Nat) (s : ByteArray) (bad : Bool) (hs : s.size ≤ 1000000000) (W : World) (hb : Blk W r 76 [.string s, .bool bad]) :
    Calls Tryz.prog 151 #[.pointer (some ⟨r, 0, none⟩)] W fun e w' => ∃ (s' : ByteArray) (bad' : Bool) (d : Nat), e = .returned (.int .u8 (d : Int)) ∧ Hid (Dg r W w' s s' bad bad' 1 ∧ Rh (bts s) bad (bts s') bad' d ∧ d < 16) := by
  have K := next9 r s bad hs W hb
  clear hb
  go_enter Tryz.func151, Tryz.ntmps151
  go_wp2_with fail
  refine K.mono ?_
  rintro e w1 ⟨s1, b1, c, rfl, H⟩
  have K2 := ib9 c w1
  have HX := Lib.hid (ixh9 c H.out.2.1)
  generalize Lib.indexByte (⟨#[48, 49, 50, 51, 52, 53, 54, 55, 56, 57, 97, 98, 99, 100, 101, 102]⟩ : ByteArray).data.toList ((c : Int).toNat.toUInt8) = ix at *
  clear K
  go_wp2_with fail
  refine K2.mono ?_
  rintro e w2 ⟨rfl, rfl⟩
  clear K2
  by_cases hx : ∃ d, d < 16 ∧ hxd d = c ∧ ix = (d : Int)
  · obtain ⟨d, hd, h1, rfl⟩ := hx
    have h2 : ¬ (d : Int) < 0 := by omega
    have HF : Hid (Dg r W w2 s s1 bad b1 1 ∧ Rh (bts s) bad (bts s1) b1 d ∧ d < 16) := by
      obtain ⟨k1, k2, k3⟩ := H.out
      rcases k3 with ⟨z1, z2, z3, z4⟩ | ⟨z1, z2, z3⟩
      · exfalso
        subst z4
        have := (hxd_lt hd).2
        omega
      · refine ⟨⟨k1, fun _ => by omega, fun _ => by omega, by omega⟩, ?_, hd⟩
        subst z2
        rw [z1]
        refine ⟨⟨[c], rfl⟩, id, fun hbb y m hy e => ?_⟩
        injection e with e1 e2
        exact ⟨hbb, hxd_inj hd hy (by rw [h1, e1]), e2⟩
    clear H HX h1
    go_wp2
    go_ret
    exact ⟨s1, b1, d, by congr 2, HF.out⟩
  · have HN : Hid (isHx c = false ∧ ix = -1) := by
      rcases HX.out with ⟨d, a1, a2, a3⟩ | h
      · exact absurd ⟨d, a1, a2, a3⟩ hx
      · exact h
    obtain rfl : ix = -1 := HN.out.2
    clear hx HX
    go_wp2_with (refine st_one rfl 4 (.tmp 11) (.const (.bool true)) rfl r 1 76 [.string s1, .bool b1] (.bool true) rfl rfl rfl rfl (by simp) H.out.1.blk sz4 ?_)
    intro w3 b3 g3
    have HF : Hid (Dg r W w3 s s1 bad true 1 ∧ Rh (bts s) bad (bts s1) true 0 ∧ 0 < 16) := by
      obtain ⟨k1, k2, k3⟩ := H.out
      rcases k3 with ⟨z1, z2, z3, z4⟩ | ⟨z1, z2, z3⟩
      · refine ⟨⟨k1.trans ⟨b3, g3⟩, fun h => (by cases h), fun h => absurd z1 (by omega), by rw [z2]; omega⟩, rh_no ⟨[], by rw [z2]; rfl⟩ (fun c t e => ?_), by omega⟩
        have := congrArg List.length e
        rw [bts_len, z1] at this
        simp at this
      · refine ⟨⟨k1.trans ⟨b3, g3⟩, fun h => (by cases h), fun _ => by omega, by omega⟩, rh_no ⟨[c], by rw [z1]; rfl⟩ (fun c' t e => ?_), by omega⟩
        rw [z1] at e
        injection e with e1 _
        rw [← e1]
        exact HN.out.1
    clear b3 g3 H HN
    go_wp2
    go_ret
    exact ⟨s1, true, 0, rfl, HF.out⟩
set_option maxRecDepth 8000 in
set_option maxHeartbeats 1000000 in
theorem pair9 (r : Nat) (s : ByteArray) (bad : Bool) (hs : s.size ≤ 1000000000) (W : World) (hb : Blk W r 76 [.string s, .bool bad]) :
    Calls Tryz.prog 117 #[.pointer (some ⟨r, 0, none⟩)] W fun e w' => ∃ (s' : ByteArray) (bad' : Bool) (d : Nat), e = .returned (.int .u8 (d : Int)) ∧ Hid (Dg r W w' s s' bad bad' 2 ∧ Rp (bts s) bad (bts s') bad' d ∧ d < 256) := by
  have K := digit9 r s bad hs W hb
  clear hb
  go_enter Tryz.func117, Tryz.ntmps117
  go_wp2_with fail
  refine K.mono ?_
  rintro e w1 ⟨s1, b1, a, rfl, H⟩
  have K2 := digit9 r s1 b1 (by have := H.out.1.le; omega) w1 H.out.1.kt.blk
  clear K
  go_wp2_with fail
  refine K2.mono ?_
  rintro e w2 ⟨s2, b2, b, rfl, H2⟩
  have HF : Hid (Dg r W w2 s s2 bad b2 2 ∧ Rp (bts s) bad (bts s2) b2 (a * 16 + b) ∧ a * 16 + b < 256) := by
    obtain ⟨d1, r1, l1⟩ := H.out
    obtain ⟨d2, r2, l2⟩ := H2.out
    refine ⟨⟨d1.kt.trans d2.kt, fun h => ?_, fun h => ?_, Nat.le_trans d2.le d1.le⟩, rp_of r1 r2 rfl, by omega⟩
    · have h2 := d2.pr h
      have h1 := d1.pr (r2.stay h)
      omega
    · have h1 := d1.lt h
      have h2 := d2.le
      omega
  have hbits : bits .or .u8 (((a : Int) * 16) % 256) (b : Int) = ((a * 16 + b : Nat) : Int) := by
    have h1 : ∀ (a b : Fin 16), bits .or .u8 ((((a.val : Nat) : Int) * 16) % 256) ((b.val : Nat) : Int) = ((a.val * 16 + b.val : Nat) : Int) := by decide +kernel
    exact h1 ⟨a, H.out.2.2⟩ ⟨b, H2.out.2.2⟩
  clear K2 H H2
  generalize a * 16 + b = d at *
  go_wp2
  go_ret
  exact ⟨s2, b2, d, rfl, HF.out⟩
end Go.Proofs.YtmlfhplhiedfjaaGreatDoor
namespace Go.Proofs.YtmlfhplhiedfjaaGreatDoor
open Go.RowKit Math
set_option linter.unusedVariables false
set_option linter.unusedSimpArgs false
set_option maxRecDepth 8000 in
set_option maxHeartbeats 2000000 in
theorem wtext9 (s : ByteArray) {b B : Nat} {W : World} {v : Value} {l : List Nat} (h : Bs b B W v l) (hl : l.length + 3 * s.size ≤ 800000000) :
    Calls Tryz.prog 58 #[.pointer (some ⟨b, 0, none⟩), .string s] W fun e w' => ∃ v', e = .returned (.tuple #[]) ∧ Hid (Bw b B W w' v v' (l ++ pQ s)) := by
  have K := wrs9 ⟨#[39]⟩ h (by show l.length + 1 ≤ _; omega)
  have hlt := h.lt
  clear h
  go_enter Tryz.func58, Tryz.ntmps58
  go_wp2_with fail
  refine K.mono ?_
  rintro e w1 ⟨v1, rfl, H1⟩
  obtain ⟨c, w2, hcv, hc1, hc2, hbl, hcl, hw2⟩ := conv9 s (by omega) w1
  have HI0 : Hid (Bw b B W w2 v v1 (l ++ (39 :: pS ((bts s).take 0))) ∧ Rw9 b w1.heap.size w2 v1 (bts s)) := ⟨H1.out.more hbl, Rw9.start H1.out.bs hcl hw2⟩
  clear K H1 hbl hcl hw2
  go_wp2
  go_loopw [5, 11] (fun x i wr => ∃ (k : Nat) (v2 : Value), k ≤ s.size ∧ i = .int .i64 (k : Int) ∧ Hid (Bw b B W wr v v2 (l ++ (39 :: pS ((bts s).take k))) ∧ Rw9 b w1.heap.size wr v2 (bts s))) (fun x i _ => s.size - (intOf i).toNat)
  case atStart => exact ⟨0, v1, by omega, rfl, HI0.out⟩
  case round =>
    clear HI0 hcv
    obtain ⟨k, v2, hk, rfl, HI⟩ := hrel
    have hlen : (l ++ (39 :: pS ((bts s).take k))).length ≤ 800000001 := by
      have := (pS_len ((bts s).take k)).2
      rw [List.length_take, bts_len] at this
      rw [List.length_append, List.length_cons]
      omega
    by_cases hk2 : k < s.size
    case neg =>
      have K := wrs9 ⟨#[39]⟩ HI.out.1.bs (by show _ + 1 ≤ _; omega)
      clear hlen
      go_wp2_with fail
      refine K.mono ?_
      rintro e w3 ⟨v3, rfl, H3⟩
      have HF : Hid (Bw b B W w3 v v3 (l ++ pQ s)) := by
        have := HI.out.1.trans H3.out
        rw [List.take_of_length_le (by rw [bts_len]; omega)] at this
        show Bw _ _ _ _ _ _ _
        unfold pQ
        rw [show bts ⟨#[39]⟩ = [39] from rfl, List.append_assoc] at this
        exact this
      clear K H3 HI
      go_wp2
      go_end0
      exact ⟨v3, rfl, HF.out⟩
    have hx := bts_oct s ((bts s).getD k 0) (by rw [List.getD_eq_getElem?_getD, List.getElem?_eq_getElem (by rw [bts_len]; exact hk2)]; exact List.getElem_mem _)
    have hcell : wr.cell? ⟨w1.heap.size, k, none⟩ = some (.int .u8 (((bts s).getD k 0 : Nat) : Int)) := by
      have := HI.out.2.cl k (by rw [bts_len]; exact hk2)
      rw [Nat.zero_add] at this
      exact this
    have HN : Hid (pS ((bts s).take (k + 1)) = pS ((bts s).take k) ++ pE ((bts s).getD k 0)) := pS_next (by rw [bts_len]; exact hk2)
    generalize (bts s).getD k 0 = x at *
    have HS : Hid (∀ w3 v3, Bw b B wr w3 v2 v3 (l ++ (39 :: pS ((bts s).take k)) ++ pE x) → Bw b B W w3 v v3 (l ++ (39 :: pS ((bts s).take (k + 1)))) ∧ Rw9 b w1.heap.size w3 v3 (bts s)) := fun w3 v3 H3 => by
      refine ⟨?_, HI.out.2.step H3⟩
      have := HI.out.1.trans H3
      rw [HN.out]
      simpa using this
    have HBs : Hid (Bs b B wr v2 (l ++ (39 :: pS ((bts s).take k)))) := HI.out.1.bs
    clear HI HN
    by_cases h39 : x = 39
    · have hb : ((x : Int) == 39) = true := by rw [h39]; rfl
      have HE : Hid (pE x = [39, 39]) := by show _ = _; unfold pE; rw [if_pos h39]
      have K := wrs9 ⟨#[39, 39]⟩ HBs.out (by show _ + 2 ≤ _; omega)
      clear hlen h39
      go_wp2_with fail
      refine K.mono ?_
      rintro e w3 ⟨v3, rfl, H3⟩
      have HI2 : Hid (Bw b B W w3 v v3 (l ++ (39 :: pS ((bts s).take (k + 1)))) ∧ Rw9 b w1.heap.size w3 v3 (bts s)) := HS.out w3 v3 (by rw [HE.out]; exact H3.out)
      clear K H3 HS HBs HE hcell
      go_wp2
      go_roundw
      case rel => exact ⟨k + 1, v3, by omega, by go_num, HI2.out⟩
      case measure => simp [intOf]; omega
    have hb : ((x : Int) == 39) = false := by simp; omega
    by_cases hesc : x < 32 ∨ 126 < x ∨ x = 92
    · have HE : Hid (pE x = [92] ++ pX x) := by show _ = _; unfold pE; rw [if_neg h39, if_pos hesc]; rfl
      have K := wrb9 92 HBs.out (by omega)
      by_cases h1 : x < 32
      · clear hesc h39
        go_wp2_with fail
        refine K.mono ?_
        rintro e w3 ⟨v3, rfl, H3⟩
        have K2 := wpair9 x hx H3.out.bs (by simp at hlen ⊢; omega)
        clear K hlen
        go_wp2_with fail
        refine K2.mono ?_
        rintro e w4 ⟨v4, rfl, H4⟩
        have HI2 : Hid (Bw b B W w4 v v4 (l ++ (39 :: pS ((bts s).take (k + 1)))) ∧ Rw9 b w1.heap.size w4 v4 (bts s)) := HS.out w4 v4 (by rw [HE.out]; have := H3.out.trans H4.out; rw [List.append_assoc] at this ⊢; simpa using this)
        clear K2 H3 H4 HS HBs HE hcell
        go_wp2
        go_roundw
        case rel => exact ⟨k + 1, v4, by omega, by go_num, HI2.out⟩
        case measure => simp [intOf]; omega
      by_cases h2 : 126 < x
      · clear hesc h39
        go_wp2_with fail
        refine K.mono ?_
        rintro e w3 ⟨v3, rfl, H3⟩
        have K2 := wpair9 x hx H3.out.bs (by simp at hlen ⊢; omega)
        clear K hlen
        go_wp2_with fail
        refine K2.mono ?_
        rintro e w4 ⟨v4, rfl, H4⟩
        have HI2 : Hid (Bw b B W w4 v v4 (l ++ (39 :: pS ((bts s).take (k + 1)))) ∧ Rw9 b w1.heap.size w4 v4 (bts s)) := HS.out w4 v4 (by rw [HE.out]; have := H3.out.trans H4.out; rw [List.append_assoc] at this ⊢; simpa using this)
        clear K2 H3 H4 HS HBs HE hcell
        go_wp2
        go_roundw
        case rel => exact ⟨k + 1, v4, by omega, by go_num, HI2.out⟩
        case measure => simp [intOf]; omega
      have h92 : ((x : Int) == 92) = true := by
        have : x = 92 := by omega
        rw [this]; rfl
      clear hesc h39
      go_wp2_with fail
      refine K.mono ?_
      rintro e w3 ⟨v3, rfl, H3⟩
      have K2 := wpair9 x hx H3.out.bs (by simp at hlen ⊢; omega)
      clear K hlen
      go_wp2_with fail
      refine K2.mono ?_
      rintro e w4 ⟨v4, rfl, H4⟩
      have HI2 : Hid (Bw b B W w4 v v4 (l ++ (39 :: pS ((bts s).take (k + 1)))) ∧ Rw9 b w1.heap.size w4 v4 (bts s)) := HS.out w4 v4 (by rw [HE.out]; have := H3.out.trans H4.out; rw [List.append_assoc] at this ⊢; simpa using this)
      clear K2 H3 H4 HS HBs HE hcell
      go_wp2
      go_roundw
      case rel => exact ⟨k + 1, v4, by omega, by go_num, HI2.out⟩
      case measure => simp [intOf]; omega
    have HE : Hid (pE x = [x]) := by show _ = _; unfold pE; rw [if_neg h39, if_neg hesc]
    have h1 : ¬ x < 32 := fun h => hesc (.inl h)
    have h2 : ¬ 126 < x := fun h => hesc (.inr (.inl h))
    have h92 : ((x : Int) == 92) = false := by
      have : ¬ x = 92 := fun h => hesc (.inr (.inr h))
      simp; omega
    have K := wrb9 x HBs.out (by omega)
    clear hesc h39 hlen
    go_wp2_with fail
    refine K.mono ?_
    rintro e w3 ⟨v3, rfl, H3⟩
    have HI2 : Hid (Bw b B W w3 v v3 (l ++ (39 :: pS ((bts s).take (k + 1)))) ∧ Rw9 b w1.heap.size w3 v3 (bts s)) := HS.out w3 v3 (by rw [HE.out]; exact H3.out)
    clear K H3 HS HBs HE hcell
    go_wp2
    go_roundw
    case rel => exact ⟨k + 1, v3, by omega, by go_num, HI2.out⟩
    case measure => simp [intOf]; omega
end Go.Proofs.YtmlfhplhiedfjaaGreatDoor
