/-
  text's reader: skip, must, next, digit, pair. · text's reader: digit, pair.
-/
import Derived.Test.YtpfiejmhnkcjbaaGreatDoorFG35x
import Derived.Test.YtpfiejmhnkcjbaaGreatDoorFD6Shz
namespace Go.Proofs.YtpfiejmhnkcjbaaGreatDoor
open Go.RowKit Math
set_option linter.unusedVariables false
set_option linter.unusedSimpArgs false
theorem sz9 : (Tryz.prog.info? 9).map (·.size) = some 1 := by kernel_rfl
theorem sz4 : (Tryz.prog.info? 4).map (·.size) = some 1 := by kernel_rfl
theorem map_inj9 {l m : List UInt8} (h : l.map UInt8.toNat = m.map UInt8.toNat) : l = m := by
  exact (List.map_inj_right (fun a b h => UInt8.toNat_inj.1 h)).1 h
theorem cutp9 (s mark : ByteArray) : ∃ s' is, (∀ W, Calls Tryz.prog 50 #[.string s, .string mark] W fun e w' => e = .returned (.tuple #[.string s', .bool is]) ∧ w' = W) ∧ ((is = true ∧ bts s = bts mark ++ bts s') ∨ (is = false ∧ s' = s ∧ ∀ t, bts s ≠ bts mark ++ t)) := by
  have K : ∀ W, Calls Tryz.prog 50 _ _ _ := fun W => Any.strings_CutPrefix Tryz.lays103 s mark W
  refine ⟨_, _, K, ?_⟩
  cases hp : Lib.hasPrefix s.data.toList mark.data.toList with
  | true =>
    refine .inl ⟨rfl, ?_⟩
    have h1 : mark.data.toList <+: s.data.toList := List.isPrefixOf_iff_prefix.1 hp
    obtain ⟨t, ht⟩ := h1
    unfold Lib.trimPrefix
    rw [hp, if_pos rfl]
    unfold bts
    rw [← ht, ← List.map_append]
    simp
  | false =>
    have h1 : ¬ mark.data.toList <+: s.data.toList := by
      intro h
      have : Lib.hasPrefix s.data.toList mark.data.toList = true := List.isPrefixOf_iff_prefix.2 h
      rw [hp] at this
      cases this
    refine .inr ⟨rfl, ?_, fun t e => h1 ?_⟩
    · unfold Lib.trimPrefix
      rw [hp, if_neg (by simp)]
    · unfold bts at e
      obtain ⟨a, b, e1, e2, e3⟩ := List.map_eq_append_iff.1 e
      rw [e1]
      exact ⟨b, by rw [map_inj9 e2]⟩
/-- The reader in memory. -/
abbrev Kt (r : Nat) (W w' : World) (s : ByteArray) (bad : Bool) : Prop := Kr 106 r W w' [.string s, .bool bad]
set_option maxRecDepth 8000 in
set_option maxHeartbeats 1000000 in
theorem skip9 (r : Nat) (s mark : ByteArray) (bad : Bool) (W : World) (hb : Blk W r 106 [.string s, .bool bad]) :
    Calls Tryz.prog 131 #[.pointer (some ⟨r, 0, none⟩), .string mark] W fun e w' => ∃ s' is, e = .returned (.bool is) ∧ Hid (Kt r W w' s' bad ∧ ((is = true ∧ bts s = bts mark ++ bts s') ∨ (is = false ∧ s' = s ∧ ∀ t, bts s ≠ bts mark ++ t))) := by
  obtain ⟨s', is, K, hc⟩ := cutp9 s mark
  have HC : Hid ((is = true ∧ bts s = bts mark ++ bts s') ∨ (is = false ∧ s' = s ∧ ∀ t, bts s ≠ bts mark ++ t)) := hc
  have c0 : W.cell? ⟨r, 0, none⟩ = some (.string s) := hb.cell 0
  have HB : Hid (Blk W r 106 [.string s, .bool bad]) := hb
  have K0 := K W
  clear hc hb K
  go_enter Tryz.func131, Tryz.ntmps131
  go_wp2_with fail
  refine K0.mono ?_
  rintro e w1 ⟨rfl, rfl⟩
  clear K0
  go_wp2_with (refine st_one rfl 9 (.tmp 19) (.tmp 17) rfl r 0 106 [.string s, .bool bad] (.string s') rfl rfl rfl rfl (by simp) HB.out sz9 ?_)
  intro w2 b2 g2
  have HF : Hid (Kt r w1 w2 s' bad) := ⟨b2, g2⟩
  clear b2 g2 HB
  go_wp2
  go_ret
  exact ⟨s', is, rfl, HF.out, HC.out⟩
set_option maxRecDepth 8000 in
set_option maxHeartbeats 1000000 in
theorem must9 (r : Nat) (s mark : ByteArray) (bad : Bool) (W : World) (hb : Blk W r 106 [.string s, .bool bad]) :
    Calls Tryz.prog 103 #[.pointer (some ⟨r, 0, none⟩), .string mark] W fun e w' => ∃ s' bad', e = .returned (.tuple #[]) ∧ Hid (Kt r W w' s' bad' ∧ Rm (bts mark) (bts s) bad (bts s') bad' ∧ (bad' = false → bts s = bts mark ++ bts s') ∧ s'.size ≤ s.size) := by
  have K := skip9 r s mark bad W hb
  clear hb
  go_enter Tryz.func103, Tryz.ntmps103
  go_wp2_with fail
  refine K.mono ?_
  rintro e w1 ⟨s1, is, rfl, H⟩
  have HK : Hid (Kt r W w1 s1 bad) := H.out.1
  have HC := Lib.hid H.out.2
  clear K H
  cases is with
  | true =>
    have HF : Hid (Kt r W w1 s1 bad ∧ Rm (bts mark) (bts s) bad (bts s1) bad ∧ (bad = false → bts s = bts mark ++ bts s1) ∧ s1.size ≤ s.size) := by
      rcases HC.out with ⟨_, h⟩ | ⟨h, _⟩
      · refine ⟨HK.out, by rw [h]; exact rm_yes _ _ _, fun _ => h, ?_⟩
        have := congrArg List.length h
        rw [List.length_append, bts_len, bts_len, bts_len] at this
        omega
      · cases h
    clear HK HC
    go_wp2
    go_end0
    exact ⟨s1, bad, rfl, HF.out⟩
  | false =>
    have HE : Hid (s1 = s ∧ ∀ t, bts s ≠ bts mark ++ t) := by
      rcases HC.out with ⟨h, _⟩ | ⟨_, h⟩
      · cases h
      · exact h
    clear HC
    go_wp2_with (refine st_one rfl 4 (.tmp 10) (.const (.bool true)) rfl r 1 106 [.string s1, .bool bad] (.bool true) rfl rfl rfl rfl (by simp) HK.out.blk sz4 ?_)
    intro w2 b2 g2
    have HF : Hid (Kt r W w2 s1 true ∧ Rm (bts mark) (bts s) bad (bts s1) true ∧ (true = false → bts s = bts mark ++ bts s1) ∧ s1.size ≤ s.size) := by
      obtain ⟨e, hn⟩ := HE.out
      refine ⟨HK.out.trans ⟨b2, g2⟩, by rw [e]; exact rm_no fun _ => hn, fun h => (by cases h), by rw [e]; omega⟩
    clear b2 g2 HK HE
    go_wp2
    go_end0
    exact ⟨s1, true, rfl, HF.out⟩
theorem bcons9 (s : ByteArray) (h : 0 < s.size) : bts s = (s[0]'h).toNat :: bts (s.extract 1 s.size) := by
  unfold bts
  have h2 : 0 < s.data.toList.length := by rw [Array.length_toList]; exact h
  have e : (s.extract 1 s.size).data.toList = s.data.toList.drop 1 := by
    rw [ByteArray.data_extract, show s.size = s.data.size from rfl, Array.toList_extract, List.extract_eq_take_drop]
    rw [List.take_of_length_le (by rw [List.length_drop, Array.length_toList]; omega)]
  rw [e]
  obtain ⟨x, t, hx⟩ : ∃ x t, s.data.toList = x :: t := by
    cases hl : s.data.toList with
    | nil => rw [hl] at h2; simp at h2
    | cons x t => exact ⟨x, t, rfl⟩
  have h0 : s[0]'h = x := by
    have : s.data.toList[0]'h2 = x := by simp [hx]
    rw [← this]
    rfl
  rw [hx, h0]
  simp
theorem empty9 (s : ByteArray) : (s.toList.isEmpty = true ↔ s.size = 0) := by
  rw [ByteArray.toList_eq, List.isEmpty_iff]
  constructor
  · intro h
    have := congrArg List.length h
    rw [Array.length_toList] at this
    exact this
  · intro h
    apply List.eq_nil_of_length_eq_zero
    rw [Array.length_toList]
    exact h
set_option maxRecDepth 8000 in
set_option maxHeartbeats 1000000 in
theorem next9 (r : Nat) (s : ByteArray) (bad : Bool) (hs : s.size ≤ 1000000000) (W : World) (hb : Blk W r 106 [.string s, .bool bad]) :
    Calls Tryz.prog 133 #[.pointer (some ⟨r, 0, none⟩)] W fun e w' => ∃ (s' : ByteArray) (bad' : Bool) (c : Nat), e = .returned (.int .u8 (c : Int)) ∧ Hid (Kt r W w' s' bad' ∧ c < 256 ∧ ((s.size = 0 ∧ s' = s ∧ bad' = true ∧ c = 0) ∨ (bts s = c :: bts s' ∧ bad' = bad ∧ s.size = s'.size + 1))) := by
  have c0 : W.cell? ⟨r, 0, none⟩ = some (.string s) := hb.cell 0
  have HB : Hid (Blk W r 106 [.string s, .bool bad]) := hb
  clear hb
  by_cases h0 : s.size = 0
  · have he : s.toList.isEmpty = true := (empty9 s).2 h0
    go_enter Tryz.func133, Tryz.ntmps133
    go_wp2_with (refine st_one rfl 4 (.tmp 11) (.const (.bool true)) rfl r 1 106 [.string s, .bool bad] (.bool true) rfl rfl rfl rfl (by simp) HB.out sz4 ?_)
    intro w2 b2 g2
    have HF : Hid (Kt r W w2 s true) := ⟨b2, g2⟩
    clear b2 g2 HB
    go_wp2
    go_ret
    exact ⟨s, true, 0, rfl, HF.out, by omega, .inl ⟨h0, rfl, rfl, rfl⟩⟩
  · have he : s.toList.isEmpty = false := by
      cases hh : s.toList.isEmpty with
      | true => exact absurd ((empty9 s).1 hh) h0
      | false => rfl
    have hp : 0 < s.size := by omega
    have HE : Hid (bts s = (s[0]'hp).toNat :: bts (s.extract 1 s.size) ∧ s.size = (s.extract 1 s.size).size + 1 ∧ (s[0]'hp).toNat < 256) := ⟨bcons9 s hp, by simp [ByteArray.size_extract]; omega, (s[0]'hp).toNat_lt⟩
    have h1 : (1 : Int) ≤ (s.size : Int) := by omega
    clear h0
    go_enter Tryz.func133, Tryz.ntmps133
    go_wp2_with (refine st_one rfl 9 (.tmp 24) (.tmp 22) rfl r 0 106 [.string s, .bool bad] (.string (s.extract 1 s.size)) rfl rfl rfl rfl (by simp) HB.out sz9 ?_)
    intro w2 b2 g2
    have HF : Hid (Kt r W w2 (s.extract 1 s.size) bad) := ⟨b2, g2⟩
    clear b2 g2 HB
    go_wp2
    go_ret
    exact ⟨_, bad, _, rfl, HF.out, HE.out.2.2, .inr ⟨HE.out.1, rfl, HE.out.2.1⟩⟩
end Go.Proofs.YtpfiejmhnkcjbaaGreatDoor
namespace Go.Proofs.YtpfiejmhnkcjbaaGreatDoor
open Go.RowKit Math
set_option linter.unusedVariables false
set_option linter.unusedSimpArgs false
theorem ixh9 (c : Nat) (h : c < 256) : (∃ d, d < 16 ∧ hxd d = c ∧ Lib.indexByte (⟨#[48, 49, 50, 51, 52, 53, 54, 55, 56, 57, 97, 98, 99, 100, 101, 102]⟩ : ByteArray).data.toList ((c : Int).toNat.toUInt8) = (d : Int)) ∨ (isHx c = false ∧ Lib.indexByte (⟨#[48, 49, 50, 51, 52, 53, 54, 55, 56, 57, 97, 98, 99, 100, 101, 102]⟩ : ByteArray).data.toList ((c : Int).toNat.toUInt8) = -1) := by
  have h1 : ∀ c : Fin 256, (∃ d : Fin 16, hxd d.val = c.val ∧ Lib.indexByte (⟨#[48, 49, 50, 51, 52, 53, 54, 55, 56, 57, 97, 98, 99, 100, 101, 102]⟩ : ByteArray).data.toList (((c.val : Nat) : Int).toNat.toUInt8) = ((d.val : Nat) : Int)) ∨ (isHx c.val = false ∧ Lib.indexByte (⟨#[48, 49, 50, 51, 52, 53, 54, 55, 56, 57, 97, 98, 99, 100, 101, 102]⟩ : ByteArray).data.toList (((c.val : Nat) : Int).toNat.toUInt8) = -1) := by decide +kernel
  rcases h1 ⟨c, h⟩ with ⟨d, e1, e2⟩ | e
  · exact .inl ⟨d.val, d.isLt, e1, e2⟩
  · exact .inr e
theorem ib9 (c : Nat) (W : World) : Calls Tryz.prog 32 #[.string ⟨#[48, 49, 50, 51, 52, 53, 54, 55, 56, 57, 97, 98, 99, 100, 101, 102]⟩, .int .u8 (c : Int)] W fun e w' => e = .returned (.int .i64 (Lib.indexByte (⟨#[48, 49, 50, 51, 52, 53, 54, 55, 56, 57, 97, 98, 99, 100, 101, 102]⟩ : ByteArray).data.toList ((c : Int).toNat.toUInt8))) ∧ w' = W := by
  have K : Calls Tryz.prog 32 _ _ _ := Any.strings_IndexByte Tryz.lays137 ⟨#[48, 49, 50, 51, 52, 53, 54, 55, 56, 57, 97, 98, 99, 100, 101, 102]⟩ (c : Int) W
  exact K
/-- What digit and pair leave behind. -/
structure Dg (r : Nat) (W w' : World) (s s' : ByteArray) (bad bad' : Bool) (n : Nat) : Prop where
  kt : Kt r W w' s' bad'
  pr : bad' = false → s'.size + n ≤ s.size
  lt : 0 < s.size → s'.size < s.size
  le : s'.size ≤ s.size
theorem rh_no {l l' : List Nat} {bad : Bool} {d : Nat} (hs : ∃ c, l = c ++ l') (h : ∀ c t, l = c :: t → isHx c = false) : Rh l bad l' true d :=
  ⟨hs, fun _ => rfl, fun hb y m hy e => by
    have := h (hxd y) m e
    rw [hxd_is hy] at this
    cases this⟩
set_option maxRecDepth 8000 in
set_option maxHeartbeats 1000000 in
theorem digit9 (r : Nat) (s : ByteArray) (bad : Bool) (hs : s.size ≤ 1000000000) (W : World) (hb : Blk W r 106 [.string s, .bool bad]) :
    Calls Tryz.prog 157 #[.pointer (some ⟨r, 0, none⟩)] W fun e w' => ∃ (s' : ByteArray) (bad' : Bool) (d : Nat), e = .returned (.int .u8 (d : Int)) ∧ Hid (Dg r W w' s s' bad bad' 1 ∧ Rh (bts s) bad (bts s') bad' d ∧ d < 16) := by
  have K := next9 r s bad hs W hb
  clear hb
  go_enter Tryz.func157, Tryz.ntmps157
  go_wp2_with fail
  refine K.mono ?_
  rintro e w1 ⟨s1, b1, c, rfl, H⟩
  have K2 := ib9 c w1
  have HX := Lib.hid (ixh9 c H.out.2.1)
  generalize Lib.indexByte (⟨#[48, 49, 50, 51, 52, 53, 54, 55, 56, 57, 97, 98, 99, 100, 101, 102]⟩ : ByteArray).data.toList ((c : Int).toNat.toUInt8) = ix at *
  clear K
  go_wp2_with fail
  refine K2.mono ?_
  rintro e w2 ⟨rfl, rfl⟩
  clear K2
  by_cases hx : ∃ d, d < 16 ∧ hxd d = c ∧ ix = (d : Int)
  · obtain ⟨d, hd, h1, rfl⟩ := hx
    have h2 : ¬ (d : Int) < 0 := by omega
    have HF : Hid (Dg r W w2 s s1 bad b1 1 ∧ Rh (bts s) bad (bts s1) b1 d ∧ d < 16) := by
      obtain ⟨k1, k2, k3⟩ := H.out
      rcases k3 with ⟨z1, z2, z3, z4⟩ | ⟨z1, z2, z3⟩
      · exfalso
        subst z4
        have := (hxd_lt hd).2
        omega
      · refine ⟨⟨k1, fun _ => by omega, fun _ => by omega, by omega⟩, ?_, hd⟩
        subst z2
        rw [z1]
        refine ⟨⟨[c], rfl⟩, id, fun hbb y m hy e => ?_⟩
        injection e with e1 e2
        exact ⟨hbb, hxd_inj hd hy (by rw [h1, e1]), e2⟩
    clear H HX h1
    go_wp2
    go_ret
    exact ⟨s1, b1, d, by congr 2, HF.out⟩
  · have HN : Hid (isHx c = false ∧ ix = -1) := by
      rcases HX.out with ⟨d, a1, a2, a3⟩ | h
      · exact absurd ⟨d, a1, a2, a3⟩ hx
      · exact h
    obtain rfl : ix = -1 := HN.out.2
    clear hx HX
    go_wp2_with (refine st_one rfl 4 (.tmp 11) (.const (.bool true)) rfl r 1 106 [.string s1, .bool b1] (.bool true) rfl rfl rfl rfl (by simp) H.out.1.blk sz4 ?_)
    intro w3 b3 g3
    have HF : Hid (Dg r W w3 s s1 bad true 1 ∧ Rh (bts s) bad (bts s1) true 0 ∧ 0 < 16) := by
      obtain ⟨k1, k2, k3⟩ := H.out
      rcases k3 with ⟨z1, z2, z3, z4⟩ | ⟨z1, z2, z3⟩
      · refine ⟨⟨k1.trans ⟨b3, g3⟩, fun h => (by cases h), fun h => absurd z1 (by omega), by rw [z2]; omega⟩, rh_no ⟨[], by rw [z2]; rfl⟩ (fun c t e => ?_), by omega⟩
        have := congrArg List.length e
        rw [bts_len, z1] at this
        simp at this
      · refine ⟨⟨k1.trans ⟨b3, g3⟩, fun h => (by cases h), fun _ => by omega, by omega⟩, rh_no ⟨[c], by rw [z1]; rfl⟩ (fun c' t e => ?_), by omega⟩
        rw [z1] at e
        injection e with e1 _
        rw [← e1]
        exact HN.out.1
    clear b3 g3 H HN
    go_wp2
    go_ret
    exact ⟨s1, true, 0, rfl, HF.out⟩
set_option maxRecDepth 8000 in
set_option maxHeartbeats 1000000 in
theorem pair9 (r : Nat) (s : ByteArray) (bad : Bool) (hs : s.size ≤ 1000000000) (W : World) (hb : Blk W r 106 [.string s, .bool bad]) :
    Calls Tryz.prog 134 #[.pointer (some ⟨r, 0, none⟩)] W fun e w' => ∃ (s' : ByteArray) (bad' : Bool) (d : Nat), e = .returned (.int .u8 (d : Int)) ∧ Hid (Dg r W w' s s' bad bad' 2 ∧ Rp (bts s) bad (bts s') bad' d ∧ d < 256) := by
  have K := digit9 r s bad hs W hb
  clear hb
  go_enter Tryz.func134, Tryz.ntmps134
  go_wp2_with fail
  refine K.mono ?_
  rintro e w1 ⟨s1, b1, a, rfl, H⟩
  have K2 := digit9 r s1 b1 (by have := H.out.1.le; omega) w1 H.out.1.kt.blk
  clear K
  go_wp2_with fail
  refine K2.mono ?_
  rintro e w2 ⟨s2, b2, b, rfl, H2⟩
  have HF : Hid (Dg r W w2 s s2 bad b2 2 ∧ Rp (bts s) bad (bts s2) b2 (a * 16 + b) ∧ a * 16 + b < 256) := by
    obtain ⟨d1, r1, l1⟩ := H.out
    obtain ⟨d2, r2, l2⟩ := H2.out
    refine ⟨⟨d1.kt.trans d2.kt, fun h => ?_, fun h => ?_, Nat.le_trans d2.le d1.le⟩, rp_of r1 r2 rfl, by omega⟩
    · have h2 := d2.pr h
      have h1 := d1.pr (r2.stay h)
      omega
    · have h1 := d1.lt h
      have h2 := d2.le
      omega
  have hbits : bits .or .u8 (((a : Int) * 16) % 256) (b : Int) = ((a * 16 + b : Nat) : Int) := by
    have h1 : ∀ (a b : Fin 16), bits .or .u8 ((((a.val : Nat) : Int) * 16) % 256) ((b.val : Nat) : Int) = ((a.val * 16 + b.val : Nat) : Int) := by decide +kernel
    exact h1 ⟨a, H.out.2.2⟩ ⟨b, H2.out.2.2⟩
  clear K2 H H2
  generalize a * 16 + b = d at *
  go_wp2
  go_ret
  exact ⟨s2, b2, d, rfl, HF.out⟩
end Go.Proofs.YtpfiejmhnkcjbaaGreatDoor
