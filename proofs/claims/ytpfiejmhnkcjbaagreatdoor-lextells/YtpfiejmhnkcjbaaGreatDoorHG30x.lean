/-
   ·  ·  ·  · 
-/
import Derived.Test.YtpfiejmhnkcjbaaGreatDoorHG29x
import Derived.Test.YtpfiejmhnkcjbaaGreatDoorHD6Shz
namespace Go.Proofs.YtpfiejmhnkcjbaaGreatDoor
set_option maxHeartbeats 1000000
set_option maxRecDepth 8000
open Go.RowKit Math
set_option linter.unusedVariables false
set_option linter.unusedSimpArgs false
theorem sz9 : (Tryz.prog.info? 9).map (·.size) = some 1 := by kernel_rfl
theorem sz4 : (Tryz.prog.info? 4).map (·.size) = some 1 := by kernel_rfl
theorem map_inj9 {l m : List UInt8} (h : l.map UInt8.toNat = m.map UInt8.toNat) : l = m := by
 exact (List.map_inj_right (fun a b h => UInt8.toNat_inj.1 h)).1 h
theorem cutp9 (s mark : ByteArray) : ∃ s' is, (∀ W, Calls Tryz.prog 50 #[.string s, .string mark] W fun e w' => e = .returned (.tuple #[.string s', .bool is]) /\ w' = W) /\ ((is = true /\ bts s = bts mark ++ bts s') ∨ (is = false /\ s' = s /\ ∀ t, bts s ≠ bts mark ++ t)) := by
 have K : ∀ W, Calls Tryz.prog 50 _ _ _ := fun W => Any.strings_CutPrefix Tryz.lays103 s mark W
 refine ⟨_, _, K, ?_⟩
 cases hp : Lib.hasPrefix s.data.toList mark.data.toList with
 | true =>
   refine .inl ⟨rfl, ?_⟩
   have h1 : mark.data.toList <+: s.data.toList := List.isPrefixOf_iff_prefix.1 hp
   obtain ⟨t, ht⟩ := h1
   unfold Lib.trimPrefix
   rw [hp, if_pos rfl]
   unfold bts
   rw [<- ht, <- List.map_append]
   simp
 | false =>
   have h1 : ¬ mark.data.toList <+: s.data.toList := by
    intro h
    have : Lib.hasPrefix s.data.toList mark.data.toList = true := List.isPrefixOf_iff_prefix.2 h
    rw [hp] at this
    cases this
   refine .inr ⟨rfl, ?_, fun t e => h1 ?_⟩
   . unfold Lib.trimPrefix
     rw [hp, if_neg (by simp)]
   . unfold bts at e
     obtain ⟨a, b, e1, e2, e3⟩ := List.map_eq_append_iff.1 e
     rw [e1]
     exact ⟨b, by rw [map_inj9 e2]⟩
abbrev Kt (r : Nat) (W w' : World) (s : ByteArray) (bad : Bool) : Prop := Kr 106 r W w' [.string s, .bool bad]
theorem skip9 (r : Nat) (s mark : ByteArray) (bad : Bool) (W : World) (hb : Blk W r 106 [.string s, .bool bad]) :
 Calls Tryz.prog 131 #[.pointer (some ⟨r, 0, none⟩), .string mark] W fun e w' => ∃ s' is, e = .returned (.bool is) /\ Hid (Kt r W w' s' bad /\ ((is = true /\ bts s = bts mark ++ bts s') ∨ (is = false /\ s' = s /\ ∀ t, bts s ≠ bts mark ++ t))) := by
 obtain ⟨s', is, K, hc⟩ := cutp9 s mark
 have HC : Hid ((is = true /\ bts s = bts mark ++ bts s') ∨ (is = false /\ s' = s /\ ∀ t, bts s ≠ bts mark ++ t)) := hc
 have c0 : W.cell? ⟨r, 0, none⟩ = some (.string s) := hb.cell 0
 have HB : Hid (Blk W r 106 [.string s, .bool bad]) := hb
 have K0 := K W
 clear hc hb K
 go_enter Tryz.func131, Tryz.ntmps131
 go_wp2_with fail
 refine K0.mono ?_
 rintro e w1 ⟨rfl, rfl⟩
 clear K0
 go_wp2_with (refine st_one rfl 9 (.tmp 19) (.tmp 17) rfl r 0 106 [.string s, .bool bad] (.string s') rfl rfl rfl rfl (by simp) HB.out sz9 ?_)
 intro w2 b2 g2
 have HF : Hid (Kt r w1 w2 s' bad) := ⟨b2, g2⟩
 clear b2 g2 HB
 go_wp2
 go_ret
 exact ⟨s', is, rfl, HF.out, HC.out⟩
theorem must9 (r : Nat) (s mark : ByteArray) (bad : Bool) (W : World) (hb : Blk W r 106 [.string s, .bool bad]) :
 Calls Tryz.prog 103 #[.pointer (some ⟨r, 0, none⟩), .string mark] W fun e w' => ∃ s' bad', e = .returned (.tuple #[]) /\ Hid (Kt r W w' s' bad' /\ Rm (bts mark) (bts s) bad (bts s') bad' /\ (bad' = false -> bts s = bts mark ++ bts s') /\ s'.size <= s.size) := by
 have K := skip9 r s mark bad W hb
 clear hb
 go_enter Tryz.func103, Tryz.ntmps103
 go_wp2_with fail
 refine K.mono ?_
 rintro e w1 ⟨s1, is, rfl, H⟩
 have HK : Hid (Kt r W w1 s1 bad) := H.out.1
 have HC := Lib.hid H.out.2
 clear K H
 cases is with
 | true =>
   have HF : Hid (Kt r W w1 s1 bad /\ Rm (bts mark) (bts s) bad (bts s1) bad /\ (bad = false -> bts s = bts mark ++ bts s1) /\ s1.size <= s.size) := by
    rcases HC.out with ⟨_, h⟩ | ⟨h, _⟩
    . refine ⟨HK.out, by rw [h]; exact rm_yes _ _ _, fun _ => h, ?_⟩
      have := congrArg List.length h
      rw [List.length_append, bts_len, bts_len, bts_len] at this
      omega
    . cases h
   clear HK HC
   go_wp2
   go_end0
   exact ⟨s1, bad, rfl, HF.out⟩
 | false =>
   have HE : Hid (s1 = s /\ ∀ t, bts s ≠ bts mark ++ t) := by
    rcases HC.out with ⟨h, _⟩ | ⟨_, h⟩
    . cases h
    . exact h
   clear HC
   go_wp2_with (refine st_one rfl 4 (.tmp 10) (.const (.bool true)) rfl r 1 106 [.string s1, .bool bad] (.bool true) rfl rfl rfl rfl (by simp) HK.out.blk sz4 ?_)
   intro w2 b2 g2
   have HF : Hid (Kt r W w2 s1 true /\ Rm (bts mark) (bts s) bad (bts s1) true /\ (true = false -> bts s = bts mark ++ bts s1) /\ s1.size <= s.size) := by
    obtain ⟨e, hn⟩ := HE.out
    refine ⟨HK.out.trans ⟨b2, g2⟩, by rw [e]; exact rm_no fun _ => hn, fun h => (by cases h), by rw [e]; omega⟩
   clear b2 g2 HK HE
   go_wp2
   go_end0
   exact ⟨s1, true, rfl, HF.out⟩
theorem bcons9 (s : ByteArray) (h : 0 < s.size) : bts s = (s[0]'h).toNat :: bts (s.extract 1 s.size) := by
 unfold bts
 have h2 : 0 < s.data.toList.length := by rw [Array.length_toList]; exact h
 have e : (s.extract 1 s.size).data.toList = s.data.toList.drop 1 := by
  rw [ByteArray.data_extract, show s.size = s.data.size from rfl, Array.toList_extract, List.extract_eq_take_drop]
  rw [List.take_of_length_le (by rw [List.length_drop, Array.length_toList]; omega)]
 rw [e]
 obtain ⟨x, t, hx⟩ : ∃ x t, s.data.toList = x :: t := by
  cases hl : s.data.toList with
  | nil => rw [hl] at h2; simp at h2
  | cons x t => exact ⟨x, t, rfl⟩
 have h0 : s[0]'h = x := by
  have : s.data.toList[0]'h2 = x := by simp [hx]
  rw [<- this]
  rfl
 rw [hx, h0]
 simp
theorem empty9 (s : ByteArray) : (s.toList.isEmpty = true ↔ s.size = 0) := by
 rw [ByteArray.toList_eq, List.isEmpty_iff]
 constructor
 . intro h
   have := congrArg List.length h
   rw [Array.length_toList] at this
   exact this
 . intro h
   apply List.eq_nil_of_length_eq_zero
   rw [Array.length_toList]
   exact h
theorem next9 (r : Nat) (s : ByteArray) (bad : Bool) (hs : s.size <= 1000000000) (W : World) (hb : Blk W r 106 [.string s, .bool bad]) :
 Calls Tryz.prog 133 #[.pointer (some ⟨r, 0, none⟩)] W fun e w' => ∃ (s' : ByteArray) (bad' : Bool) (c : Nat), e = .returned (.int .u8 (c : Int)) /\ Hid (Kt r W w' s' bad' /\ c < 256 /\ ((s.size = 0 /\ s' = s /\ bad' = true /\ c = 0) ∨ (bts s = c :: bts s' /\ bad' = bad /\ s.size = s'.size + 1))) := by
 have c0 : W.cell? ⟨r, 0, none⟩ = some (.string s) := hb.cell 0
 have HB : Hid (Blk W r 106 [.string s, .bool bad]) := hb
 clear hb
 by_cases h0 : s.size = 0
 . have he : s.toList.isEmpty = true := (empty9 s).2 h0
   go_enter Tryz.func133, Tryz.ntmps133
   go_wp2_with (refine st_one rfl 4 (.tmp 11) (.const (.bool true)) rfl r 1 106 [.string s, .bool bad] (.bool true) rfl rfl rfl rfl (by simp) HB.out sz4 ?_)
   intro w2 b2 g2
   have HF : Hid (Kt r W w2 s true) := ⟨b2, g2⟩
   clear b2 g2 HB
   go_wp2
   go_ret
   exact ⟨s, true, 0, rfl, HF.out, by omega, .inl ⟨h0, rfl, rfl, rfl⟩⟩
 . have he : s.toList.isEmpty = false := by
    cases hh : s.toList.isEmpty with
    | true => exact absurd ((empty9 s).1 hh) h0
    | false => rfl
   have hp : 0 < s.size := by omega
   have HE : Hid (bts s = (s[0]'hp).toNat :: bts (s.extract 1 s.size) /\ s.size = (s.extract 1 s.size).size + 1 /\ (s[0]'hp).toNat < 256) := ⟨bcons9 s hp, by simp [ByteArray.size_extract]; omega, (s[0]'hp).toNat_lt⟩
   have h1 : (1 : Int) <= (s.size : Int) := by omega
   clear h0
   go_enter Tryz.func133, Tryz.ntmps133
   go_wp2_with (refine st_one rfl 9 (.tmp 24) (.tmp 22) rfl r 0 106 [.string s, .bool bad] (.string (s.extract 1 s.size)) rfl rfl rfl rfl (by simp) HB.out sz9 ?_)
   intro w2 b2 g2
   have HF : Hid (Kt r W w2 (s.extract 1 s.size) bad) := ⟨b2, g2⟩
   clear b2 g2 HB
   go_wp2
   go_ret
   exact ⟨_, bad, _, rfl, HF.out, HE.out.2.2, .inr ⟨HE.out.1, rfl, HE.out.2.1⟩⟩
end Go.Proofs.YtpfiejmhnkcjbaaGreatDoor
namespace Go.Proofs.YtpfiejmhnkcjbaaGreatDoor
set_option maxHeartbeats 1000000
set_option maxRecDepth 8000
open Go.RowKit Math
set_option linter.unusedVariables false
set_option linter.unusedSimpArgs false
theorem ixh9 (c : Nat) (h : c < 256) : (∃ d, d < 16 /\ hxd d = c /\ Lib.indexByte (⟨#[48, 49, 50, 51, 52, 53, 54, 55, 56, 57, 97, 98, 99, 100, 101, 102]⟩ : ByteArray).data.toList ((c : Int).toNat.toUInt8) = (d : Int)) ∨ (isHx c = false /\ Lib.indexByte (⟨#[48, 49, 50, 51, 52, 53, 54, 55, 56, 57, 97, 98, 99, 100, 101, 102]⟩ : ByteArray).data.toList ((c : Int).toNat.toUInt8) = -1) := by
 have h1 : ∀ c : Fin 256, (∃ d : Fin 16, hxd d.val = c.val /\ Lib.indexByte (⟨#[48, 49, 50, 51, 52, 53, 54, 55, 56, 57, 97, 98, 99, 100, 101, 102]⟩ : ByteArray).data.toList (((c.val : Nat) : Int).toNat.toUInt8) = ((d.val : Nat) : Int)) ∨ (isHx c.val = false /\ Lib.indexByte (⟨#[48, 49, 50, 51, 52, 53, 54, 55, 56, 57, 97, 98, 99, 100, 101, 102]⟩ : ByteArray).data.toList (((c.val : Nat) : Int).toNat.toUInt8) = -1) := by decide +kernel
 rcases h1 ⟨c, h⟩ with ⟨d, e1, e2⟩ | e
 . exact .inl ⟨d.val, d.isLt, e1, e2⟩
 . exact .inr e
theorem ib9 (c : Nat) (W : World) : Calls Tryz.prog 32 #[.string ⟨#[48, 49, 50, 51, 52, 53, 54, 55, 56, 57, 97, 98, 99, 100, 101, 102]⟩, .int .u8 (c : Int)] W fun e w' => e = .returned (.int .i64 (Lib.indexByte (⟨#[48, 49, 50, 51, 52, 53, 54, 55, 56, 57, 97, 98, 99, 100, 101, 102]⟩ : ByteArray).data.toList ((c : Int).toNat.toUInt8))) /\ w' = W := by
 have K : Calls Tryz.prog 32 _ _ _ := Any.strings_IndexByte Tryz.lays137 ⟨#[48, 49, 50, 51, 52, 53, 54, 55, 56, 57, 97, 98, 99, 100, 101, 102]⟩ (c : Int) W
 exact K
structure Dg (r : Nat) (W w' : World) (s s' : ByteArray) (bad bad' : Bool) (n : Nat) : Prop where
 kt : Kt r W w' s' bad'
 pr : bad' = false -> s'.size + n <= s.size
 lt : 0 < s.size -> s'.size < s.size
 le : s'.size <= s.size
theorem rh_no {l l' : List Nat} {bad : Bool} {d : Nat} (hs : ∃ c, l = c ++ l') (h : ∀ c t, l = c :: t -> isHx c = false) : Rh l bad l' true d :=
 ⟨hs, fun _ => rfl, fun hb y m hy e => by
   have := h (hxd y) m e
   rw [hxd_is hy] at this
   cases this⟩
theorem digit9 (r : Nat) (s : ByteArray) (bad : Bool) (hs : s.size <= 1000000000) (W : World) (hb : Blk W r 106 [.string s, .bool bad]) :
 Calls Tryz.prog 157 #[.pointer (some ⟨r, 0, none⟩)] W fun e w' => ∃ (s' : ByteArray) (bad' : Bool) (d : Nat), e = .returned (.int .u8 (d : Int)) /\ Hid (Dg r W w' s s' bad bad' 1 /\ Rh (bts s) bad (bts s') bad' d /\ d < 16) := by
 have K := next9 r s bad hs W hb
 clear hb
 go_enter Tryz.func157, Tryz.ntmps157
 go_wp2_with fail
 refine K.mono ?_
 rintro e w1 ⟨s1, b1, c, rfl, H⟩
 have K2 := ib9 c w1
 have HX := Lib.hid (ixh9 c H.out.2.1)
 generalize Lib.indexByte (⟨#[48, 49, 50, 51, 52, 53, 54, 55, 56, 57, 97, 98, 99, 100, 101, 102]⟩ : ByteArray).data.toList ((c : Int).toNat.toUInt8) = ix at *
 clear K
 go_wp2_with fail
 refine K2.mono ?_
 rintro e w2 ⟨rfl, rfl⟩
 clear K2
 by_cases hx : ∃ d, d < 16 /\ hxd d = c /\ ix = (d : Int)
 . obtain ⟨d, hd, h1, rfl⟩ := hx
   have h2 : ¬ (d : Int) < 0 := by omega
   have HF : Hid (Dg r W w2 s s1 bad b1 1 /\ Rh (bts s) bad (bts s1) b1 d /\ d < 16) := by
    obtain ⟨k1, k2, k3⟩ := H.out
    rcases k3 with ⟨z1, z2, z3, z4⟩ | ⟨z1, z2, z3⟩
    . exfalso
      subst z4
      have := (hxd_lt hd).2
      omega
    . refine ⟨⟨k1, fun _ => by omega, fun _ => by omega, by omega⟩, ?_, hd⟩
      subst z2
      rw [z1]
      refine ⟨⟨[c], rfl⟩, id, fun hbb y m hy e => ?_⟩
      injection e with e1 e2
      exact ⟨hbb, hxd_inj hd hy (by rw [h1, e1]), e2⟩
   clear H HX h1
   go_wp2
   go_ret
   exact ⟨s1, b1, d, by congr 2, HF.out⟩
 . have HN : Hid (isHx c = false /\ ix = -1) := by
    rcases HX.out with ⟨d, a1, a2, a3⟩ | h
    . exact absurd ⟨d, a1, a2, a3⟩ hx
    . exact h
   obtain rfl : ix = -1 := HN.out.2
   clear hx HX
   go_wp2_with (refine st_one rfl 4 (.tmp 11) (.const (.bool true)) rfl r 1 106 [.string s1, .bool b1] (.bool true) rfl rfl rfl rfl (by simp) H.out.1.blk sz4 ?_)
   intro w3 b3 g3
   have HF : Hid (Dg r W w3 s s1 bad true 1 /\ Rh (bts s) bad (bts s1) true 0 /\ 0 < 16) := by
    obtain ⟨k1, k2, k3⟩ := H.out
    rcases k3 with ⟨z1, z2, z3, z4⟩ | ⟨z1, z2, z3⟩
    . refine ⟨⟨k1.trans ⟨b3, g3⟩, fun h => (by cases h), fun h => absurd z1 (by omega), by rw [z2]; omega⟩, rh_no ⟨[], by rw [z2]; rfl⟩ (fun c t e => ?_), by omega⟩
      have := congrArg List.length e
      rw [bts_len, z1] at this
      simp at this
    . refine ⟨⟨k1.trans ⟨b3, g3⟩, fun h => (by cases h), fun _ => by omega, by omega⟩, rh_no ⟨[c], by rw [z1]; rfl⟩ (fun c' t e => ?_), by omega⟩
      rw [z1] at e
      injection e with e1 _
      rw [<- e1]
      exact HN.out.1
   clear b3 g3 H HN
   go_wp2
   go_ret
   exact ⟨s1, true, 0, rfl, HF.out⟩
theorem pair9 (r : Nat) (s : ByteArray) (bad : Bool) (hs : s.size <= 1000000000) (W : World) (hb : Blk W r 106 [.string s, .bool bad]) :
 Calls Tryz.prog 134 #[.pointer (some ⟨r, 0, none⟩)] W fun e w' => ∃ (s' : ByteArray) (bad' : Bool) (d : Nat), e = .returned (.int .u8 (d : Int)) /\ Hid (Dg r W w' s s' bad bad' 2 /\ Rp (bts s) bad (bts s') bad' d /\ d < 256) := by
 have K := digit9 r s bad hs W hb
 clear hb
 go_enter Tryz.func134, Tryz.ntmps134
 go_wp2_with fail
 refine K.mono ?_
 rintro e w1 ⟨s1, b1, a, rfl, H⟩
 have K2 := digit9 r s1 b1 (by have := H.out.1.le; omega) w1 H.out.1.kt.blk
 clear K
 go_wp2_with fail
 refine K2.mono ?_
 rintro e w2 ⟨s2, b2, b, rfl, H2⟩
 have HF : Hid (Dg r W w2 s s2 bad b2 2 /\ Rp (bts s) bad (bts s2) b2 (a * 16 + b) /\ a * 16 + b < 256) := by
  obtain ⟨d1, r1, l1⟩ := H.out
  obtain ⟨d2, r2, l2⟩ := H2.out
  refine ⟨⟨d1.kt.trans d2.kt, fun h => ?_, fun h => ?_, Nat.le_trans d2.le d1.le⟩, rp_of r1 r2 rfl, by omega⟩
  . have h2 := d2.pr h
    have h1 := d1.pr (r2.stay h)
    omega
  . have h1 := d1.lt h
    have h2 := d2.le
    omega
 have hbits : bits .or .u8 (((a : Int) * 16) % 256) (b : Int) = ((a * 16 + b : Nat) : Int) := by
  have h1 : ∀ (a b : Fin 16), bits .or .u8 ((((a.val : Nat) : Int) * 16) % 256) ((b.val : Nat) : Int) = ((a.val * 16 + b.val : Nat) : Int) := by decide +kernel
  exact h1 ⟨a, H.out.2.2⟩ ⟨b, H2.out.2.2⟩
 clear K2 H H2
 generalize a * 16 + b = d at *
 go_wp2
 go_ret
 exact ⟨s2, b2, d, rfl, HF.out⟩
end Go.Proofs.YtpfiejmhnkcjbaaGreatDoor
namespace Go.Proofs.YtpfiejmhnkcjbaaGreatDoor
set_option maxHeartbeats 1000000
set_option maxRecDepth 8000
open Go.RowKit Math
set_option linter.unusedVariables false
set_option linter.unusedSimpArgs false
theorem hx_idx (n : Nat) (h : n < 16) (w : World) : (Instr.index 9 (.string ⟨#[48, 49, 50, 51, 52, 53, 54, 55, 56, 57, 97, 98, 99, 100, 101, 102]⟩) (.int .u8 (n : Int))).run Tryz.prog w = .ok (.int .u8 ((hxd n : Nat) : Int)) w := by
 have h1 : ∀ k : Fin 16, ∃ u : UInt8, (#[48, 49, 50, 51, 52, 53, 54, 55, 56, 57, 97, 98, 99, 100, 101, 102] : Array UInt8)[k.val]? = some u /\ u.toNat = hxd k.val := by decide +kernel
 obtain ⟨u, e1, e2⟩ := h1 ⟨n, h⟩
 simp only at e1 e2
 have e3 : (⟨#[48, 49, 50, 51, 52, 53, 54, 55, 56, 57, 97, 98, 99, 100, 101, 102]⟩ : ByteArray)[n]? = some u := by
  rw [<- e1]; rfl
 simp [Instr.index, asIntOf, run_underlying Tryz.underlying9, e3, e2]
theorem wpair9 (c : Nat) (hc : c < 256) {b B : Nat} {W : World} {v : Value} {l : List Nat} (h : Bs b B W v l) (hl : l.length <= 899999990) :
 Calls Tryz.prog 169 #[.pointer (some ⟨b, 0, none⟩), .int .u8 (c : Int)] W fun e w' => ∃ v', e = .returned (.tuple #[]) /\ Hid (Bw b B W w' v v' (l ++ pX c)) := by
 have hi := hx_idx (c / 16) (by omega)
 have lo := hx_idx (c % 16) (by omega)
 have e1 : ((c / 16 : Nat) : Int) = (c : Int) / 16 := by omega
 rw [e1] at hi
 obtain ⟨q, hq⟩ : ∃ q : Nat, q = c % 16 := ⟨_, rfl⟩
 have hand : bits .and .u8 (c : Int) 15 = (q : Int) := by
  have h1 : ∀ k : Fin 256, bits .and .u8 ((k.val : Nat) : Int) 15 = ((k.val % 16 : Nat) : Int) := by decide +kernel
  rw [hq]
  exact h1 ⟨c, hc⟩
 rw [<- hq] at lo
 have HP : Hid (pX c = [hxd (c / 16), hxd q]) := by rw [hq]; rfl
 have K1 := wrb9 (hxd (c / 16)) h (by omega)
 clear hq e1
 go_enter Tryz.func169, Tryz.ntmps169
 go_wp2_with fail
 refine K1.mono ?_
 rintro e w1 ⟨v1, rfl, H1⟩
 have K2 := wrb9 (hxd q) H1.out.bs (by simp; omega)
 clear K1 hi
 go_wp2_with fail
 refine K2.mono ?_
 rintro e w2 ⟨v2, rfl, H2⟩
 have hF : Bw b B W w2 v v2 (l ++ pX c) := by
  have := H1.out.trans H2.out
  rw [HP.out]
  simpa using this
 have HF : Hid (Bw b B W w2 v v2 (l ++ pX c)) := hF
 clear hF
 clear K2 H1 H2 HP lo hand
 go_wp2
 go_end0
 exact ⟨v2, rfl, HF.out⟩
end Go.Proofs.YtpfiejmhnkcjbaaGreatDoor
namespace Go.Proofs.YtpfiejmhnkcjbaaGreatDoor
set_option maxHeartbeats 1000000
set_option maxRecDepth 8000
open Go.RowKit Math
set_option linter.unusedVariables false
set_option linter.unusedSimpArgs false
theorem bget9 (s : ByteArray) (n : Nat) (h : n < s.size) : (bts s).getD n 0 = (s[n]'h).toNat := by
 rw [List.getD_eq_getElem?_getD, bts, List.getElem?_map]
 have h2 : n < s.data.toList.length := by rw [Array.length_toList]; exact h
 rw [List.getElem?_eq_getElem h2]
 rfl
theorem conv9 (s : ByteArray) (hs : s.size <= 1000000000) (W : World) : ∃ c w', (convert 9 34 (.string s)).run Tryz.prog W = .ok (.slice (some ⟨W.heap.size, 0, none⟩) s.size c) w' /\ s.size <= c /\ c <= 9223372036854775807 /\ Below W.heap.size W w' /\ Cells w' W.heap.size 0 (bts s) /\ W.heap.size < w'.heap.size := by
 have hge := grownCap_ge W s.size 0 5
 have hmx := grownCap_le_maxLen W s.size 0 5 (by unfold maxLen; omega)
 unfold maxLen at hmx
 refine ⟨_, _, run_bytes_of_string W 9 34 5 s Tryz.underlying9 Tryz.underlying34 Tryz.underlying5, hge, by omega, ?_, ?_, ?_⟩
 . exact (Below.drew (Below.refl _ _)).alloc (Nat.le_refl _) _
 . generalize grownCap W s.size 0 5 = c at *
   intro i hi
   rw [bts_len] at hi
   have hh : ((W.drew.alloc (.cells (bytesRow s c) 5 ((bytesRow s c).size, (bytesRow s c).size + 1))).heap)[W.heap.size]? = some (.cells (bytesRow s c) 5 ((bytesRow s c).size, (bytesRow s c).size + 1)) := by
    show (W.heap.push _)[W.heap.size]? = _
    simp
   unfold World.cell?
   simp only [hh, Nat.zero_add]
   rw [bget9 s i hi]
   unfold bytesRow
   rw [Array.getElem?_append_left (by rw [Array.size_map]; exact hi), Array.getElem?_map]
   have h2 : i < s.data.size := hi
   rw [Array.getElem?_eq_getElem h2]
   rfl
 . show W.heap.size < (W.heap.push _).size
   simp
structure Rw9 (b g : Nat) (wr : World) (v : Value) (l : List Nat) : Prop where
 cl : Cells wr g 0 l
 lt : g < wr.heap.size
 nb : g ≠ b
 no : v.ownBlock ≠ some g
theorem Rw9.step {b B g : Nat} {wr w' : World} {v v' : Value} {l l' : List Nat} (h : Rw9 b g wr v l) (k : Bw b B wr w' v v' l') : Rw9 b g w' v' l := by
 have hz := k.size
 refine ⟨fun i hi => ?_, by have := h.lt; omega, h.nb, fun e => ?_⟩
 . have := h.cl i hi
   rw [<- this]
   unfold World.cell?
   rw [k.keep g h.lt h.nb h.no]
 . rcases k.ob g e with c | c
   . exact h.no c
   . have := h.lt; omega
theorem Rw9.start {b B : Nat} {w w' : World} {v : Value} {l m : List Nat} (h : Bs b B w v l) (hc : Cells w' w.heap.size 0 m) (hl : w.heap.size < w'.heap.size) : Rw9 b w.heap.size w' v m :=
 ⟨hc, hl, by have := h.lt; omega, fun e => by have := (World.ownsRow.lt h.own _ e).2; omega⟩
theorem take_next {l : List Nat} {k : Nat} (h : k < l.length) : l.take (k + 1) = l.take k ++ [l.getD k 0] := by
 rw [List.take_add_one, List.getElem?_eq_getElem h, List.getD_eq_getElem?_getD, List.getElem?_eq_getElem h]
 rfl
theorem pY_next {l : List Nat} {k : Nat} (h : k < l.length) : pY (l.take (k + 1)) = pY (l.take k) ++ pX (l.getD k 0) := by
 rw [take_next h, pY_app]
 simp [pY]
theorem pS_next {l : List Nat} {k : Nat} (h : k < l.length) : pS (l.take (k + 1)) = pS (l.take k) ++ pE (l.getD k 0) := by
 rw [take_next h, pS_app]
 simp [pS]
theorem tw_any (n : Int) (w : World) : Calls Tryz.prog 139 #[.int .i64 n] w fun e w' => e = .returned (.string (if n = 1 then ⟨#[116, 114, 117, 101]⟩ else ⟨#[102, 97, 108, 115, 101]⟩)) /\ w' = w := by
 by_cases h : n = 1
 . subst h
   go_enter Tryz.func139, Tryz.ntmps139
   go_wp2
   go_ret
   exact ⟨rfl, rfl⟩
 . have h2 : (n == 1) = false := by simpa using h
   rw [if_neg h]
   go_enter Tryz.func139, Tryz.ntmps139
   go_wp2
   go_ret
   exact ⟨rfl, rfl⟩
theorem wblob9 (s : ByteArray) {b B : Nat} {W : World} {v : Value} {l : List Nat} (h : Bs b B W v l) (hl : l.length + 3 * s.size <= 800000000) :
 Calls Tryz.prog 143 #[.pointer (some ⟨b, 0, none⟩), .string s] W fun e w' => ∃ v', e = .returned (.tuple #[]) /\ Hid (Bw b B W w' v v' (l ++ pB s)) := by
 have K := wrs9 ⟨#[35]⟩ h (by show l.length + 1 <= _; omega)
 have hlt := h.lt
 clear h
 go_enter Tryz.func143, Tryz.ntmps143
 go_wp2_with fail
 refine K.mono ?_
 rintro e w1 ⟨v1, rfl, H1⟩
 obtain ⟨c, w2, hcv, hc1, hc2, hbl, hcl, hw2⟩ := conv9 s (by omega) w1
 have HI0 : Hid (Bw b B W w2 v v1 (l ++ (35 :: pY ((bts s).take 0))) /\ Rw9 b w1.heap.size w2 v1 (bts s)) := ⟨H1.out.more hbl, Rw9.start H1.out.bs hcl hw2⟩
 clear K H1 hbl hcl hw2
 go_wp2
 go_loopw [5, 11] (fun x i wr => ∃ (k : Nat) (v2 : Value), k <= s.size /\ i = .int .i64 (k : Int) /\ Hid (Bw b B W wr v v2 (l ++ (35 :: pY ((bts s).take k))) /\ Rw9 b w1.heap.size wr v2 (bts s))) (fun x i _ => s.size - (intOf i).toNat)
 case atStart => exact ⟨0, v1, by omega, rfl, HI0.out⟩
 case round =>
  clear HI0 hcv
  obtain ⟨k, v2, hk, rfl, HI⟩ := hrel
  by_cases hk2 : k < s.size
  . have hx := bts_oct s ((bts s).getD k 0) (by rw [List.getD_eq_getElem?_getD, List.getElem?_eq_getElem (by rw [bts_len]; exact hk2)]; exact List.getElem_mem _)
    have hcell : wr.cell? ⟨w1.heap.size, k, none⟩ = some (.int .u8 (((bts s).getD k 0 : Nat) : Int)) := by
     have := HI.out.2.cl k (by rw [bts_len]; exact hk2)
     rw [Nat.zero_add] at this
     exact this
    have HN : Hid (pY ((bts s).take (k + 1)) = pY ((bts s).take k) ++ pX ((bts s).getD k 0)) := pY_next (by rw [bts_len]; exact hk2)
    have hlen : (l ++ (35 :: pY ((bts s).take k))).length <= 899999990 := by
     rw [List.length_append, List.length_cons, pY_len, List.length_take, bts_len]
     omega
    have K := wpair9 ((bts s).getD k 0) hx HI.out.1.bs hlen
    generalize (bts s).getD k 0 = x at *
    clear hlen
    go_wp2_with fail
    refine K.mono ?_
    rintro e w3 ⟨v3, rfl, H3⟩
    have HI2 : Hid (Bw b B W w3 v v3 (l ++ (35 :: pY ((bts s).take (k + 1)))) /\ Rw9 b w1.heap.size w3 v3 (bts s)) := by
     refine ⟨?_, HI.out.2.step H3.out⟩
     have := HI.out.1.trans H3.out
     rw [HN.out]
     simpa using this
    clear K H3 HI HN hcell
    go_wp2
    go_roundw
    case rel => exact ⟨k + 1, v3, by omega, by go_num, HI2.out⟩
    case measure => simp [intOf]; omega
  . have HF : Hid (Bw b B W wr v v2 (l ++ pB s)) := by
     have := HI.out.1
     rw [List.take_of_length_le (by rw [bts_len]; omega)] at this
     exact this
    clear HI
    go_wp2
    go_end0
    exact ⟨v2, rfl, HF.out⟩
end Go.Proofs.YtpfiejmhnkcjbaaGreatDoor
namespace Go.Proofs.YtpfiejmhnkcjbaaGreatDoor
set_option maxHeartbeats 2000000
set_option maxRecDepth 8000
open Go.RowKit Math
set_option linter.unusedVariables false
set_option linter.unusedSimpArgs false
theorem wtext9 (s : ByteArray) {b B : Nat} {W : World} {v : Value} {l : List Nat} (h : Bs b B W v l) (hl : l.length + 3 * s.size <= 800000000) :
 Calls Tryz.prog 142 #[.pointer (some ⟨b, 0, none⟩), .string s] W fun e w' => ∃ v', e = .returned (.tuple #[]) /\ Hid (Bw b B W w' v v' (l ++ pQ s)) := by
 have K := wrs9 ⟨#[39]⟩ h (by show l.length + 1 <= _; omega)
 have hlt := h.lt
 clear h
 go_enter Tryz.func142, Tryz.ntmps142
 go_wp2_with fail
 refine K.mono ?_
 rintro e w1 ⟨v1, rfl, H1⟩
 obtain ⟨c, w2, hcv, hc1, hc2, hbl, hcl, hw2⟩ := conv9 s (by omega) w1
 have HI0 : Hid (Bw b B W w2 v v1 (l ++ (39 :: pS ((bts s).take 0))) /\ Rw9 b w1.heap.size w2 v1 (bts s)) := ⟨H1.out.more hbl, Rw9.start H1.out.bs hcl hw2⟩
 clear K H1 hbl hcl hw2
 go_wp2
 go_loopw [5, 11] (fun x i wr => ∃ (k : Nat) (v2 : Value), k <= s.size /\ i = .int .i64 (k : Int) /\ Hid (Bw b B W wr v v2 (l ++ (39 :: pS ((bts s).take k))) /\ Rw9 b w1.heap.size wr v2 (bts s))) (fun x i _ => s.size - (intOf i).toNat)
 case atStart => exact ⟨0, v1, by omega, rfl, HI0.out⟩
 case round =>
  clear HI0 hcv
  obtain ⟨k, v2, hk, rfl, HI⟩ := hrel
  have hlen : (l ++ (39 :: pS ((bts s).take k))).length <= 800000001 := by
   have := (pS_len ((bts s).take k)).2
   rw [List.length_take, bts_len] at this
   rw [List.length_append, List.length_cons]
   omega
  by_cases hk2 : k < s.size
  case neg =>
   have K := wrs9 ⟨#[39]⟩ HI.out.1.bs (by show _ + 1 <= _; omega)
   clear hlen
   go_wp2_with fail
   refine K.mono ?_
   rintro e w3 ⟨v3, rfl, H3⟩
   have HF : Hid (Bw b B W w3 v v3 (l ++ pQ s)) := by
    have := HI.out.1.trans H3.out
    rw [List.take_of_length_le (by rw [bts_len]; omega)] at this
    show Bw _ _ _ _ _ _ _
    unfold pQ
    rw [show bts ⟨#[39]⟩ = [39] from rfl, List.append_assoc] at this
    exact this
   clear K H3 HI
   go_wp2
   go_end0
   exact ⟨v3, rfl, HF.out⟩
  have hx := bts_oct s ((bts s).getD k 0) (by rw [List.getD_eq_getElem?_getD, List.getElem?_eq_getElem (by rw [bts_len]; exact hk2)]; exact List.getElem_mem _)
  have hcell : wr.cell? ⟨w1.heap.size, k, none⟩ = some (.int .u8 (((bts s).getD k 0 : Nat) : Int)) := by
   have := HI.out.2.cl k (by rw [bts_len]; exact hk2)
   rw [Nat.zero_add] at this
   exact this
  have HN : Hid (pS ((bts s).take (k + 1)) = pS ((bts s).take k) ++ pE ((bts s).getD k 0)) := pS_next (by rw [bts_len]; exact hk2)
  generalize (bts s).getD k 0 = x at *
  have HS : Hid (∀ w3 v3, Bw b B wr w3 v2 v3 (l ++ (39 :: pS ((bts s).take k)) ++ pE x) -> Bw b B W w3 v v3 (l ++ (39 :: pS ((bts s).take (k + 1)))) /\ Rw9 b w1.heap.size w3 v3 (bts s)) := fun w3 v3 H3 => by
   refine ⟨?_, HI.out.2.step H3⟩
   have := HI.out.1.trans H3
   rw [HN.out]
   simpa using this
  have HBs : Hid (Bs b B wr v2 (l ++ (39 :: pS ((bts s).take k)))) := HI.out.1.bs
  clear HI HN
  by_cases h39 : x = 39
  . have hb : ((x : Int) == 39) = true := by rw [h39]; rfl
    have HE : Hid (pE x = [39, 39]) := by show _ = _; unfold pE; rw [if_pos h39]
    have K := wrs9 ⟨#[39, 39]⟩ HBs.out (by show _ + 2 <= _; omega)
    clear hlen h39
    go_wp2_with fail
    refine K.mono ?_
    rintro e w3 ⟨v3, rfl, H3⟩
    have HI2 : Hid (Bw b B W w3 v v3 (l ++ (39 :: pS ((bts s).take (k + 1)))) /\ Rw9 b w1.heap.size w3 v3 (bts s)) := HS.out w3 v3 (by rw [HE.out]; exact H3.out)
    clear K H3 HS HBs HE hcell
    go_wp2
    go_roundw
    case rel => exact ⟨k + 1, v3, by omega, by go_num, HI2.out⟩
    case measure => simp [intOf]; omega
  have hb : ((x : Int) == 39) = false := by simp; omega
  by_cases hesc : x < 32 ∨ 126 < x ∨ x = 92
  . have HE : Hid (pE x = [92] ++ pX x) := by show _ = _; unfold pE; rw [if_neg h39, if_pos hesc]; rfl
    have K := wrb9 92 HBs.out (by omega)
    by_cases h1 : x < 32
    . clear hesc h39
      go_wp2_with fail
      refine K.mono ?_
      rintro e w3 ⟨v3, rfl, H3⟩
      have K2 := wpair9 x hx H3.out.bs (by simp at hlen ⊢; omega)
      clear K hlen
      go_wp2_with fail
      refine K2.mono ?_
      rintro e w4 ⟨v4, rfl, H4⟩
      have HI2 : Hid (Bw b B W w4 v v4 (l ++ (39 :: pS ((bts s).take (k + 1)))) /\ Rw9 b w1.heap.size w4 v4 (bts s)) := HS.out w4 v4 (by rw [HE.out]; have := H3.out.trans H4.out; rw [List.append_assoc] at this ⊢; simpa using this)
      clear K2 H3 H4 HS HBs HE hcell
      go_wp2
      go_roundw
      case rel => exact ⟨k + 1, v4, by omega, by go_num, HI2.out⟩
      case measure => simp [intOf]; omega
    by_cases h2 : 126 < x
    . clear hesc h39
      go_wp2_with fail
      refine K.mono ?_
      rintro e w3 ⟨v3, rfl, H3⟩
      have K2 := wpair9 x hx H3.out.bs (by simp at hlen ⊢; omega)
      clear K hlen
      go_wp2_with fail
      refine K2.mono ?_
      rintro e w4 ⟨v4, rfl, H4⟩
      have HI2 : Hid (Bw b B W w4 v v4 (l ++ (39 :: pS ((bts s).take (k + 1)))) /\ Rw9 b w1.heap.size w4 v4 (bts s)) := HS.out w4 v4 (by rw [HE.out]; have := H3.out.trans H4.out; rw [List.append_assoc] at this ⊢; simpa using this)
      clear K2 H3 H4 HS HBs HE hcell
      go_wp2
      go_roundw
      case rel => exact ⟨k + 1, v4, by omega, by go_num, HI2.out⟩
      case measure => simp [intOf]; omega
    have h92 : ((x : Int) == 92) = true := by
     have : x = 92 := by omega
     rw [this]; rfl
    clear hesc h39
    go_wp2_with fail
    refine K.mono ?_
    rintro e w3 ⟨v3, rfl, H3⟩
    have K2 := wpair9 x hx H3.out.bs (by simp at hlen ⊢; omega)
    clear K hlen
    go_wp2_with fail
    refine K2.mono ?_
    rintro e w4 ⟨v4, rfl, H4⟩
    have HI2 : Hid (Bw b B W w4 v v4 (l ++ (39 :: pS ((bts s).take (k + 1)))) /\ Rw9 b w1.heap.size w4 v4 (bts s)) := HS.out w4 v4 (by rw [HE.out]; have := H3.out.trans H4.out; rw [List.append_assoc] at this ⊢; simpa using this)
    clear K2 H3 H4 HS HBs HE hcell
    go_wp2
    go_roundw
    case rel => exact ⟨k + 1, v4, by omega, by go_num, HI2.out⟩
    case measure => simp [intOf]; omega
  have HE : Hid (pE x = [x]) := by show _ = _; unfold pE; rw [if_neg h39, if_neg hesc]
  have h1 : ¬ x < 32 := fun h => hesc (.inl h)
  have h2 : ¬ 126 < x := fun h => hesc (.inr (.inl h))
  have h92 : ((x : Int) == 92) = false := by
   have : ¬ x = 92 := fun h => hesc (.inr (.inr h))
   simp; omega
  have K := wrb9 x HBs.out (by omega)
  clear hesc h39 hlen
  go_wp2_with fail
  refine K.mono ?_
  rintro e w3 ⟨v3, rfl, H3⟩
  have HI2 : Hid (Bw b B W w3 v v3 (l ++ (39 :: pS ((bts s).take (k + 1)))) /\ Rw9 b w1.heap.size w3 v3 (bts s)) := HS.out w3 v3 (by rw [HE.out]; exact H3.out)
  clear K H3 HS HBs HE hcell
  go_wp2
  go_roundw
  case rel => exact ⟨k + 1, v3, by omega, by go_num, HI2.out⟩
  case measure => simp [intOf]; omega
end Go.Proofs.YtpfiejmhnkcjbaaGreatDoor
