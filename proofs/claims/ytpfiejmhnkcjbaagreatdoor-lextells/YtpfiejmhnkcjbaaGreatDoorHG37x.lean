/-
   ·  ·  ·  · 
-/
import Derived.Test.YtpfiejmhnkcjbaaGreatDoorHG30x
import Derived.Test.YtpfiejmhnkcjbaaGreatDoorHSha
import Derived.Test.YtpfiejmhnkcjbaaGreatDoorHG4x
import Derived.Test.YtpfiejmhnkcjbaaGreatDoorHG35x
namespace Go.Proofs.YtpfiejmhnkcjbaaGreatDoor
set_option maxHeartbeats 1000000
set_option maxRecDepth 8000
open Go.RowKit Math
set_option linter.unusedVariables false
set_option linter.unusedSimpArgs false
abbrev Kq (r : Nat) (W w' : World) (s : ByteArray) (bad : Bool) : Prop := Kr 82 r W w' [.string s, .bool bad]
theorem idx0 (s : ByteArray) (c : Nat) (l : List Nat) (h : bts s = c :: l) (w : World) : (Instr.index 9 (.string s) (.int .i64 0)).run Tryz.prog w = .ok (.int .u8 (c : Int)) w := by
 have hs : 0 < s.size := by rw [<- bts_len, h]; simp
 have := idx9 s 0 hs w
 rw [h] at this
 exact this
theorem idx1 (s : ByteArray) (b c : Nat) (l : List Nat) (h : bts s = b :: c :: l) (w : World) : (Instr.index 9 (.string s) (.int .i64 1)).run Tryz.prog w = .ok (.int .u8 (c : Int)) w := by
 have hs : 1 < s.size := by rw [<- bts_len, h]; simp
 have := idx9 s 1 hs w
 rw [h] at this
 exact this
theorem hx64 (n : Nat) (h : n < 16) (w : World) : (Instr.index 9 (.string ⟨#[48, 49, 50, 51, 52, 53, 54, 55, 56, 57, 97, 98, 99, 100, 101, 102]⟩) (.int .i64 (n : Int))).run Tryz.prog w = .ok (.int .u8 ((hxd n : Nat) : Int)) w := by
 have := idx9 ⟨#[48, 49, 50, 51, 52, 53, 54, 55, 56, 57, 97, 98, 99, 100, 101, 102]⟩ n h w
 have h1 : ∀ k : Fin 16, (bts (⟨#[48, 49, 50, 51, 52, 53, 54, 55, 56, 57, 97, 98, 99, 100, 101, 102]⟩ : ByteArray)).getD k.val 0 = hxd k.val := by decide +kernel
 rw [h1 ⟨n, h⟩] at this
 exact this
theorem rnext9 (r : Nat) (s : ByteArray) (bad : Bool) (c : Nat) (W : World) (hb : Blk W r 82 [.string s, .bool bad]) :
 ∃ t : Bool, (t = true ↔ bad = false /\ ∃ m, bts s = c :: m) /\ Calls Tryz.prog 89 #[.pointer (some ⟨r, 0, none⟩), .int .u8 (c : Int)] W fun e w' => e = .returned (.bool t) /\ w' = W := by
 have c0 : W.cell? ⟨r, 0, none⟩ = some (.string s) := hb.cell 0
 have c1 : W.cell? ⟨r, 1, none⟩ = some (.bool bad) := hb.cell 1
 clear hb
 cases bad with
 | true =>
   refine ⟨false, ⟨(fun h => by cases h), (fun h => by cases h.1)⟩, ?_⟩
   go_enter Tryz.func89, Tryz.ntmps89
   go_wp2
   go_ret
   exact ⟨rfl, rfl⟩
 | false =>
   by_cases h0 : s.size = 0
   . have he : s.toList.isEmpty = true := (empty9 s).2 h0
     refine ⟨false, ⟨(fun h => by cases h), (fun ⟨_, m, e⟩ => by
      have := congrArg List.length e
      rw [bts_len, h0] at this
      simp at this)⟩, ?_⟩
     clear h0
     go_enter Tryz.func89, Tryz.ntmps89
     go_wp2
     go_ret
     exact ⟨rfl, rfl⟩
   . have he : s.toList.isEmpty = false := by
      cases hh : s.toList.isEmpty with
      | true => exact absurd ((empty9 s).1 hh) h0
      | false => rfl
     have hp : 0 < s.size := by omega
     obtain ⟨x, l, hl⟩ : ∃ x l, bts s = x :: l := ⟨_, _, bcons9 s hp⟩
     have hi := idx0 s x l hl
     have HL : Hid (bts s = x :: l) := hl
     clear hl h0
     by_cases hx : x = c
     . have hxb : ((x : Int) == (c : Int)) = true := by rw [hx]; simp
       refine ⟨true, ⟨fun _ => ⟨rfl, l, by rw [HL.out, hx]⟩, fun _ => rfl⟩, ?_⟩
       clear hx
       go_enter Tryz.func89, Tryz.ntmps89
       go_wp2
       go_ret
       exact ⟨rfl, rfl⟩
     . have hxb : ((x : Int) == (c : Int)) = false := by simp; omega
       refine ⟨false, ⟨(fun h => by cases h), fun ⟨_, m, h⟩ => by
        rw [HL.out] at h
        injection h with h1 h2
        exact absurd h1 hx⟩, ?_⟩
       clear hx
       go_enter Tryz.func89, Tryz.ntmps89
       go_wp2
       go_ret
       exact ⟨rfl, rfl⟩
theorem rdigit9 (c : Nat) (hc : c < 256) (W : World) :
 Calls Tryz.prog 87 #[.int .u8 (c : Int)] W fun e w' => ∃ ix : Int, e = .returned (.int .i64 ix) /\ w' = W /\ Hid ((∃ d, d < 16 /\ hxd d = c /\ ix = (d : Int)) ∨ (isHx c = false /\ ix = -1)) := by
 go_enter Tryz.func87, Tryz.ntmps87
 go_wp2
 go_loopw [3] (fun i wr => ∃ (k : Nat), k <= 16 /\ i = .int .i64 (k : Int) /\ wr = W /\ Hid (∀ j, j < k -> hxd j ≠ c)) (fun i _ => 16 - (intOf i).toNat)
 case atStart => exact ⟨0, by omega, rfl, rfl, fun j hj => by omega⟩
 case round =>
  obtain ⟨k, hk, rfl, rfl, HK⟩ := hrel
  by_cases hk2 : k < 16
  case neg =>
   have HF : Hid (isHx c = false) := by
    have h1 : ∀ c : Fin 256, isHx c.val = false ∨ ∃ d : Fin 16, hxd d.val = c.val := by decide +kernel
    rcases h1 ⟨c, hc⟩ with h | ⟨d, h⟩
    . exact h
    . exact absurd h (HK.out d.val (by have := d.isLt; omega))
   go_wp2
   go_ret
   exact ⟨-1, rfl, rfl, .inr ⟨HF.out, rfl⟩⟩
  have hi := hx64 k hk2
  by_cases hx : hxd k = c
  . have hxb : (((hxd k : Nat) : Int) == (c : Int)) = true := by rw [hx]; simp
    have HF : Hid (hxd k = c) := hx
    clear hx
    obtain ⟨x, hxk⟩ : ∃ x, hxd k = x := ⟨_, rfl⟩
    rw [hxk] at hi hxb
    clear hxk
    go_wp2
    go_ret
    exact ⟨(k : Int), rfl, rfl, .inl ⟨k, hk2, HF.out, rfl⟩⟩
  . have hxb : (((hxd k : Nat) : Int) == (c : Int)) = false := by simp; omega
    have HF : Hid (∀ j, j < k + 1 -> hxd j ≠ c) := fun j hj => by
     by_cases e : j = k
     . rw [e]; exact hx
     . exact HK.out j (by omega)
    clear hx
    obtain ⟨x, hxk⟩ : ∃ x, hxd k = x := ⟨_, rfl⟩
    rw [hxk] at hi hxb
    clear hxk
    go_wp2
    go_roundw
    case rel => exact ⟨k + 1, by omega, by go_num, (by first | trivial | rfl), HF.out⟩
    case measure => simp [intOf]; omega
end Go.Proofs.YtpfiejmhnkcjbaaGreatDoor
namespace Go.Proofs.YtpfiejmhnkcjbaaGreatDoor
set_option maxHeartbeats 1000000
set_option maxRecDepth 8000
open Go.RowKit Math
set_option linter.unusedVariables false
set_option linter.unusedSimpArgs false
theorem bts_ext (s : ByteArray) (i j : Nat) : bts (s.extract i j) = ((bts s).drop i).take (j - i) := by
 unfold bts
 rw [ByteArray.data_extract, Array.toList_extract, List.extract_eq_take_drop, List.map_take, List.map_drop]
theorem ext_head (s x : ByteArray) (h : x.size <= s.size) : ((s.extract 0 x.size).toList == x.toList) = true ↔ bts s = bts x ++ bts (s.extract x.size s.size) := by
 rw [beq_iff_eq]
 have e0 : bts (s.extract 0 x.size) = (bts s).take x.size := by rw [bts_ext]; simp
 have e1 : bts (s.extract x.size s.size) = (bts s).drop x.size := by
  rw [bts_ext, List.take_of_length_le (by rw [List.length_drop, bts_len]; omega)]
 rw [e1]
 constructor
 . intro h1
   have h2 := bytes_eq h1
   rw [h2] at e0
   rw [e0, List.take_append_drop]
 . intro h1
   have h2 : (bts s).take x.size = bts x := by
    rw [h1, List.take_append_of_le_length (by rw [bts_len]; omega), List.take_of_length_le (by rw [bts_len]; omega)]
   rw [<- e0] at h2
   rw [show s.extract 0 x.size = x by rw [<- ofB_bts (s.extract 0 x.size), h2, ofB_bts]]
structure Sg (r : Nat) (W w' : World) (mark s s' : ByteArray) (bad bad' : Bool) : Prop where
 kq : Kq r W w' s' bad'
 rm : Rm (bts mark) (bts s) bad (bts s') bad'
 eq : bad' = false -> bts s = bts mark ++ bts s'
 le : s'.size <= s.size
theorem rsign9 (r : Nat) (s mark : ByteArray) (bad : Bool) (hs : s.size <= 1000000000) (hm : mark.size <= 1000) (W : World) (hb : Blk W r 82 [.string s, .bool bad]) :
 Calls Tryz.prog 85 #[.pointer (some ⟨r, 0, none⟩), .string mark] W fun e w' => ∃ s' bad', e = .returned (.tuple #[]) /\ Hid (Sg r W w' mark s s' bad bad') := by
 have c0 : W.cell? ⟨r, 0, none⟩ = some (.string s) := hb.cell 0
 have c1 : W.cell? ⟨r, 1, none⟩ = some (.bool bad) := hb.cell 1
 have HB : Hid (Blk W r 82 [.string s, .bool bad]) := hb
 clear hb
 by_cases hn : bad = true ∨ s.size < mark.size ∨ ((s.extract 0 mark.size).toList == mark.toList) = false
 . have HR : Hid (∀ w', Kq r W w' s true -> Sg r W w' mark s s bad true) := fun w' k => by
    refine ⟨k, rm_no fun h0 t e => ?_, fun h => (by cases h), Nat.le_refl _⟩
    rcases hn with h | h | h
    . rw [h0] at h; cases h
    . have := congrArg List.length e
      rw [List.length_append, bts_len, bts_len] at this
      omega
    . have h2 : mark.size <= s.size := by
       have := congrArg List.length e
       rw [List.length_append, bts_len, bts_len] at this
       omega
      have h3 := (ext_head s mark h2).2 (by
       rw [bts_ext, List.take_of_length_le (by rw [List.length_drop, bts_len]; omega)]
       rw [e, List.drop_append_of_le_length (by rw [bts_len]; omega), List.drop_of_length_le (by rw [bts_len]; omega)]
       rfl)
      rw [h] at h3
      cases h3
   have fin : Hid (∀ w2, Blk w2 r 82 [.string s, .bool true] -> W.grownBy w2 (some r) -> Sg r W w2 mark s s bad true) := fun w2 b g => HR.out w2 ⟨b, g⟩
   clear HR
   by_cases h1 : bad = true
   . subst h1
     clear hn
     go_enter Tryz.func85, Tryz.ntmps85
     go_wp2_with (refine st_one rfl 4 (.tmp 31) (.const (.bool true)) rfl r 1 82 [.string s, .bool true] (.bool true) rfl rfl rfl rfl (by simp) HB.out sz4 ?_)
     intro w2 b2 g2
     have HF := Lib.hid (fin.out w2 b2 g2)
     clear b2 g2 HB fin
     go_wp2
     refine bodyPost_ret (results_none rfl _ _ _) rfl ?_
     exact ⟨s, true, rfl, HF.out⟩
   obtain rfl : bad = false := by simpa using h1
   clear h1
   by_cases h2 : s.size < mark.size
   . have h2i : (s.size : Int) < (mark.size : Int) := by omega
     clear hn
     go_enter Tryz.func85, Tryz.ntmps85
     go_wp2_with (refine st_one rfl 4 (.tmp 31) (.const (.bool true)) rfl r 1 82 [.string s, .bool false] (.bool true) rfl rfl rfl rfl (by simp) HB.out sz4 ?_)
     intro w2 b2 g2
     have HF := Lib.hid (fin.out w2 b2 g2)
     clear b2 g2 HB fin
     go_wp2
     refine bodyPost_ret (results_none rfl _ _ _) rfl ?_
     exact ⟨s, true, rfl, HF.out⟩
   have h2i : ¬ (s.size : Int) < (mark.size : Int) := by omega
   have h2j : (mark.size : Int) <= (s.size : Int) := by omega
   have h3 : ((s.extract 0 mark.size).toList == mark.toList) = false := by
    rcases hn with h | h | h
    . cases h
    . exact absurd h h2
    . exact h
   clear hn
   go_enter Tryz.func85, Tryz.ntmps85
   go_wp2_with (refine st_one rfl 4 (.tmp 31) (.const (.bool true)) rfl r 1 82 [.string s, .bool false] (.bool true) rfl rfl rfl rfl (by simp) HB.out sz4 ?_)
   intro w2 b2 g2
   have HF := Lib.hid (fin.out w2 b2 g2)
   clear b2 g2 HB fin
   go_wp2
   refine bodyPost_ret (results_none rfl _ _ _) rfl ?_
   exact ⟨s, true, rfl, HF.out⟩
 . obtain ⟨rfl, h2, h3⟩ : bad = false /\ mark.size <= s.size /\ ((s.extract 0 mark.size).toList == mark.toList) = true := by
    refine ⟨by simpa using fun h => hn (.inl h), Classical.byContradiction fun h => hn (.inr (.inl (by omega))), by simpa using fun h => hn (.inr (.inr h))⟩
   have HE : Hid (bts s = bts mark ++ bts (s.extract mark.size s.size)) := (ext_head s mark h2).1 h3
   have HZ : Hid ((s.extract mark.size s.size).size <= s.size) := by show _ <= _; rw [ByteArray.size_extract]; omega
   have h2i : ¬ (s.size : Int) < (mark.size : Int) := by omega
   have h2j : (mark.size : Int) <= (s.size : Int) := by omega
   clear hn
   go_enter Tryz.func85, Tryz.ntmps85
   go_wp2_with (refine st_one rfl 9 (.tmp 41) (.tmp 39) rfl r 0 82 [.string s, .bool false] (.string (s.extract mark.size s.size)) rfl rfl rfl rfl (by simp) HB.out sz9 ?_)
   intro w2 b2 g2
   have HF : Hid (Sg r W w2 mark s (s.extract mark.size s.size) false false) :=
    ⟨⟨b2, g2⟩, by rw [HE.out]; exact rm_yes _ _ _, fun _ => HE.out, HZ.out⟩
   clear b2 g2 HB HE HZ
   go_wp2
   go_end0
   exact ⟨_, false, rfl, HF.out⟩
end Go.Proofs.YtpfiejmhnkcjbaaGreatDoor
namespace Go.Proofs.YtpfiejmhnkcjbaaGreatDoor
set_option maxHeartbeats 2000000
set_option maxRecDepth 8000
open Go.RowKit Math
set_option linter.unusedVariables false
set_option linter.unusedSimpArgs false
structure Dq (r : Nat) (W w' : World) (s s' : ByteArray) (bad bad' : Bool) (c : Nat) : Prop where
 kq : Kq r W w' s' bad'
 rp : Rp (bts s) bad (bts s') bad' c
 pr : bad' = false -> s'.size + 2 = s.size
 le : s'.size <= s.size
 lt : c < 256
theorem rp_no {l : List Nat} {bad : Bool} {c : Nat} (h : bad = false -> ∀ a b t, l = a :: b :: t -> isHx a = false ∨ isHx b = false) : Rp l bad l true c :=
 ⟨⟨[], rfl⟩, fun _ => rfl, fun hb y m hy e => by
   have hy : y < 256 := hy
   rcases h hb (hxd (y / 16)) (hxd (y % 16)) m e with h | h
   . rw [hxd_is (by omega)] at h; cases h
   . rw [hxd_is (by omega)] at h; cases h⟩
theorem rp_yes {l : List Nat} {bad : Bool} {a b : Nat} (ha : a < 16) (hb : b < 16) : Rp (hxd a :: hxd b :: l) bad l bad (16 * a + b) :=
 ⟨⟨[hxd a, hxd b], rfl⟩, id, fun h y m hy e => by
   have hy : y < 256 := hy
   have e : hxd a :: hxd b :: l = hxd (y / 16) :: hxd (y % 16) :: m := e
   injection e with e1 e2
   injection e2 with e2 e3
   have := hxd_inj ha (by omega) e1
   have := hxd_inj hb (by omega) e2
   exact ⟨h, by omega, e3⟩⟩
theorem rpair9 (r : Nat) (s : ByteArray) (bad : Bool) (hs : s.size <= 1000000000) (W : World) (hb : Blk W r 82 [.string s, .bool bad]) :
 Calls Tryz.prog 88 #[.pointer (some ⟨r, 0, none⟩)] W fun e w' => ∃ (s' : ByteArray) (bad' : Bool) (d : Nat), e = .returned (.int .u8 (d : Int)) /\ Hid (Dq r W w' s s' bad bad' d) := by
 have c0 : W.cell? ⟨r, 0, none⟩ = some (.string s) := hb.cell 0
 have c1 : W.cell? ⟨r, 1, none⟩ = some (.bool bad) := hb.cell 1
 have HB : Hid (Blk W r 82 [.string s, .bool bad]) := hb
 clear hb
 have fin : Hid (∀ w2, (bad = false -> ∀ a b t, bts s = a :: b :: t -> isHx a = false ∨ isHx b = false) -> Blk w2 r 82 [.string s, .bool true] -> W.grownBy w2 (some r) -> Dq r W w2 s s bad true 0) := fun w2 h b g => ⟨⟨b, g⟩, rp_no h, fun h => (by cases h), Nat.le_refl _, by omega⟩
 by_cases h1 : bad = true
 . subst h1
   go_enter Tryz.func88, Tryz.ntmps88
   go_wp2_with (refine st_one rfl 4 (.tmp 36) (.const (.bool true)) rfl r 1 82 [.string s, .bool true] (.bool true) rfl rfl rfl rfl (by simp) HB.out sz4 ?_)
   intro w2 b2 g2
   have HF := Lib.hid (fin.out w2 (fun h => by cases h) b2 g2)
   clear b2 g2 HB fin
   go_wp2
   go_ret
   exact ⟨s, true, 0, rfl, HF.out⟩
 obtain rfl : bad = false := by simpa using h1
 clear h1
 by_cases h2 : s.size < 2
 . have h2i : (s.size : Int) < 2 := by omega
   go_enter Tryz.func88, Tryz.ntmps88
   go_wp2_with (refine st_one rfl 4 (.tmp 36) (.const (.bool true)) rfl r 1 82 [.string s, .bool false] (.bool true) rfl rfl rfl rfl (by simp) HB.out sz4 ?_)
   intro w2 b2 g2
   have HF := Lib.hid (fin.out w2 (fun _ a b t e => by
    have := congrArg List.length e
    rw [bts_len] at this
    simp at this
    omega) b2 g2)
   clear b2 g2 HB fin
   go_wp2
   go_ret
   exact ⟨s, true, 0, rfl, HF.out⟩
 have h2i : ¬ (s.size : Int) < 2 := by omega
 have h2j : (2 : Int) <= (s.size : Int) := by omega
 obtain ⟨x, y, l, hl⟩ : ∃ x y l, bts s = x :: y :: l := by
  match h : bts s with
  | [] => have := congrArg List.length h; rw [bts_len] at this; simp only [List.length_nil] at this; omega
  | [a] => have := congrArg List.length h; rw [bts_len] at this; simp only [List.length_nil, List.length_cons] at this; omega
  | a :: b :: t => exact ⟨a, b, t, rfl⟩
 have i0 := idx0 s x (y :: l) hl
 have i1 := idx1 s x y l hl
 have hx : x < 256 := bts_oct s x (by rw [hl]; simp)
 have hy : y < 256 := bts_oct s y (by rw [hl]; simp)
 have HL : Hid (bts s = x :: y :: l) := hl
 clear hl
 have K1 := rdigit9 x hx
 have K2 := rdigit9 y hy
 have KX : Hid (∀ w, Calls Tryz.prog 87 #[.int .u8 (x : Int)] w fun e w' => ∃ ix : Int, e = .returned (.int .i64 ix) /\ w' = w /\ Hid ((∃ d, d < 16 /\ hxd d = x /\ ix = (d : Int)) ∨ (isHx x = false /\ ix = -1))) := K1
 have KY : Hid (∀ w, Calls Tryz.prog 87 #[.int .u8 (y : Int)] w fun e w' => ∃ ix : Int, e = .returned (.int .i64 ix) /\ w' = w /\ Hid ((∃ d, d < 16 /\ hxd d = y /\ ix = (d : Int)) ∨ (isHx y = false /\ ix = -1))) := K2
 clear K1 K2
 go_enter Tryz.func88, Tryz.ntmps88
 go_wp2_with fail
 refine (KX.out W).mono ?_
 rintro e w1 ⟨ix, rfl, rfl, HX⟩
 by_cases hxn : ix < 0
 . have HN : Hid (isHx x = false) := by
    rcases HX.out with ⟨d, _, _, e⟩ | h
    . omega
    . exact h.1
   clear HX
   go_wp2_with (refine st_one rfl 4 (.tmp 36) (.const (.bool true)) rfl r 1 82 [.string s, .bool false] (.bool true) rfl rfl rfl rfl (by simp) HB.out sz4 ?_)
   intro w2 b2 g2
   have HF := Lib.hid (fin.out w2 (fun _ a b t e => by
    rw [HL.out] at e
    injection e with e1 _
    exact .inl (by rw [<- e1]; exact HN.out)) b2 g2)
   clear b2 g2 HB fin
   go_wp2
   go_ret
   exact ⟨s, true, 0, rfl, HF.out⟩
 obtain ⟨a, ha, hxa, rfl⟩ : ∃ d, d < 16 /\ hxd d = x /\ ix = (d : Int) := by
  rcases HX.out with h | h
  . exact h
  . omega
 clear HX hxn
 have HXA : Hid (hxd a = x) := hxa
 clear hxa
 have han : ¬ (a : Int) < 0 := by omega
 go_wp2_with fail
 refine (KY.out w1).mono ?_
 rintro e w2 ⟨iy, rfl, rfl, HY⟩
 by_cases hyn : iy < 0
 . have HN : Hid (isHx y = false) := by
    rcases HY.out with ⟨d, _, _, e⟩ | h
    . omega
    . exact h.1
   clear HY
   go_wp2_with (refine st_one rfl 4 (.tmp 36) (.const (.bool true)) rfl r 1 82 [.string s, .bool false] (.bool true) rfl rfl rfl rfl (by simp) HB.out sz4 ?_)
   intro w3 b2 g2
   have HF := Lib.hid (fin.out w3 (fun _ a b t e => by
    rw [HL.out] at e
    injection e with _ e1
    injection e1 with e1 _
    exact .inr (by rw [<- e1]; exact HN.out)) b2 g2)
   clear b2 g2 HB fin
   go_wp2
   go_ret
   exact ⟨s, true, 0, rfl, HF.out⟩
 obtain ⟨b, hb, hyb, rfl⟩ : ∃ d, d < 16 /\ hxd d = y /\ iy = (d : Int) := by
  rcases HY.out with h | h
  . exact h
  . omega
 clear HY hyn
 have HYB : Hid (hxd b = y) := hyb
 clear hyb
 have hbn : ¬ (b : Int) < 0 := by omega
 obtain ⟨C, hC⟩ : ∃ C : World -> Prop, C = fun w' => Kq r w2 w' s false := ⟨_, rfl⟩
 have CE : Hid (∀ w', C w' -> Kq r w2 w' s false) := fun w' h => by rw [hC] at h; exact h
 have CI : Hid (∀ w', Kq r w2 w' s false -> C w') := fun w' h => by rw [hC]; exact h
 have HK0 : Hid (Kq r w2 { w2 with drawn := w2.drawn + 1 } s false) := (Kr.mk HB.out (World.grownBy.refl _ _) : Kq r w2 w2 s false).then (Below.drew (Below.refl _ _))
 have z0 : Hid (C { w2 with drawn := w2.drawn + 1 }) := CI.out _ HK0.out
 have s0 : Hid (∀ w', C w' -> w'.cell? ⟨r, 0, none⟩ = some (.string s)) := fun w' h => (CE.out _ h).blk.cell 0
 have k1 : Hid (∀ W', C W' -> Calls Tryz.prog 87 #[.int .u8 (x : Int)] W' fun e w' => e = .returned (.int .i64 (a : Int)) /\ C w') := fun W' hW => by
  refine (KX.out W').mono ?_
  rintro e w' ⟨ix, rfl, rfl, HX⟩
  refine ⟨?_, hW⟩
  rcases HX.out with ⟨d, h1, h2, rfl⟩ | ⟨h1, _⟩
  . rw [hxd_inj h1 ha (by rw [h2, HXA.out])]
  . rw [<- HXA.out, hxd_is ha] at h1; cases h1
 have k2 : Hid (∀ W', C W' -> Calls Tryz.prog 87 #[.int .u8 (y : Int)] W' fun e w' => e = .returned (.int .i64 (b : Int)) /\ C w') := fun W' hW => by
  refine (KY.out W').mono ?_
  rintro e w' ⟨ix, rfl, rfl, HX⟩
  refine ⟨?_, hW⟩
  rcases HX.out with ⟨d, h1, h2, rfl⟩ | ⟨h1, _⟩
  . rw [hxd_inj h1 hb (by rw [h2, HYB.out])]
  . rw [<- HYB.out, hxd_is hb] at h1; cases h1
 have HE : Hid (bts s = hxd a :: hxd b :: bts (s.extract 2 s.size)) := by
  show _ = _
  rw [bts_ext, HL.out, List.take_of_length_le (by
   have := congrArg List.length HL.out
   rw [bts_len] at this
   simp only [List.length_cons] at this
   simp only [List.length_drop, List.length_cons]
   omega), HXA.out, HYB.out]
  rfl
 have HZ : Hid ((s.extract 2 s.size).size + 2 = s.size) := by show _ = _; rw [ByteArray.size_extract]; omega
 have j0 : Hid (∀ w, (Instr.index 9 (.string s) (.int .i64 ((0 : Nat) : Int))).run Tryz.prog w = .ok (.int .u8 (x : Int)) w) := i0
 have j1 : Hid (∀ w, (Instr.index 9 (.string s) (.int .i64 ((1 : Nat) : Int))).run Tryz.prog w = .ok (.int .u8 (y : Int)) w) := i1
 clear hC KX KY fin
 go_wp2
 have hCp : ∀ p : Prop, (∀ W, C W -> p) ↔ p := fun p => ⟨fun h => h _ z0.out, fun h _ _ => h⟩
 refine q_region (C := C) (by kernel_rfl) (by kernel_rfl) z0.out ?_
 repeat (first
  | go_big_quiet_skip
  | (go_big_quiet_want
     first
     | (refine q_one 9 (.inr (.inl rfl)) (.tmp 39) rfl r 0 rfl _ s0.out ?_
        simp only [Act.put, List.setIfInBounds_toArray, List.set_cons_zero, List.set_cons_succ]
        go_big_quiet_on)
     | (refine q_one 9 (.inr (.inl rfl)) (.tmp 46) rfl r 0 rfl _ s0.out ?_
        simp only [Act.put, List.setIfInBounds_toArray, List.set_cons_zero, List.set_cons_succ]
        go_big_quiet_on)
     | (refine q_sidx (.tmp 40) (.const (.int .i64 0)) rfl s 0 x j0.out rfl rfl ?_
        simp only [Act.put, List.setIfInBounds_toArray, List.set_cons_zero, List.set_cons_succ]
        go_big_quiet_on)
     | (refine q_sidx (.tmp 47) (.const (.int .i64 1)) rfl s 1 y j1.out rfl rfl ?_
        simp only [Act.put, List.setIfInBounds_toArray, List.set_cons_zero, List.set_cons_succ]
        go_big_quiet_on)
     | (go_big_quiet_op
        first
        | go_big_quiet_on
        | (apply Exists.intro
           refine ⟨?_, ?_⟩
           . first
             | with_reducible exact k1.out
             | with_reducible exact k2.out
           go_big_quiet_on))))
 refine wpQuiet_nil ?_
 intro W' hW
 have HKw : Hid (Kq r w2 W' s false) := CE.out _ hW
 have d0 : W'.cell? ⟨r, 0, none⟩ = some (.string s) := HKw.out.blk.cell 0
 clear k1 k2 s0 z0 hCp hW CE CI i0 i1 j0 j1 c0 c1 HK0
 go_wp2_with (refine st_one rfl 9 (.tmp 59) (.tmp 57) rfl r 0 82 [.string s, .bool false] (.string (s.extract 2 s.size)) rfl rfl rfl rfl (by simp) HKw.out.blk sz9 ?_)
 intro w5 b5 g5
 have HF : Hid (Dq r w2 w5 s (s.extract 2 s.size) false false (16 * a + b)) := by
  refine ⟨HKw.out.trans ⟨b5, g5⟩, ?_, fun _ => HZ.out, by have := HZ.out; omega, by omega⟩
  rw [HE.out]
  exact rp_yes ha hb
 clear b5 g5 HKw HE HZ HB d0
 go_wp2
 go_ret
 refine ⟨_, false, _, ?_, HF.out⟩
 simp
end Go.Proofs.YtpfiejmhnkcjbaaGreatDoor
namespace Go.Proofs.YtpfiejmhnkcjbaaGreatDoor
set_option maxHeartbeats 4000000
set_option maxRecDepth 8000
open Go.RowKit Math
set_option linter.unusedVariables false
set_option linter.unusedSimpArgs false
structure Ry (r B : Nat) (W wr : World) (s : ByteArray) (bad : Bool) (v : Value) (acc : List Nat) : Prop where
 kq : Kq r W wr s bad
 own : Own wr B v acc
 sz : B <= wr.heap.size
theorem Ry.read {r B : Nat} {W wr w' : World} {s s' : ByteArray} {bad bad' : Bool} {v : Value} {acc : List Nat} (h : Ry r B W wr s bad v acc) (hr : r < B) (k : Kq r wr w' s' bad') : Ry r B W w' s' bad' v acc :=
 ⟨h.kq.trans k, World.ownsRow.kept h.own k.gr (.inr fun c => by have := (World.ownsRow.lt h.own r c).1; omega), Nat.le_trans h.sz k.gr.size⟩
theorem Ry.below {r B : Nat} {W wr w' : World} {s : ByteArray} {bad : Bool} {v : Value} {acc : List Nat} (h : Ry r B W wr s bad v acc) (k : Below wr.heap.size wr w') : Ry r B W w' s bad v acc :=
 ⟨h.kq.then k, h.own.below k, Nat.le_trans h.sz k.size⟩
theorem Ry.put {r B : Nat} {W wr w' : World} {s : ByteArray} {bad : Bool} {v v' : Value} {acc acc' : List Nat} (h : Ry r B W wr s bad v acc) (hr : r < B) (hW : W.heap.size <= B) (A : Ap B wr w' v v' acc') : Ry r B W w' s bad v' acc' := by
 have hv : ∀ x, x < B -> some x ≠ v.ownBlock := fun x hx e => by have := (World.ownsRow.lt h.own x e.symm).1; omega
 refine ⟨⟨A.blk h.kq.blk (fun e => hv r hr e.symm), ⟨A.gr.os.trans h.kq.gr.os, A.gr.tape.trans h.kq.gr.tape, A.gr.output.trans h.kq.gr.output, Nat.le_trans h.kq.gr.size A.gr.size, fun x hx hne => ?_⟩⟩, A.own, Nat.le_trans h.sz A.gr.size⟩
 have hz := h.kq.gr.size
 rw [A.gr.block x (by omega) (hv x (by omega))]
 exact h.kq.gr.block x hx hne
structure Tq (r : Nat) (W w' : World) (s s' : ByteArray) (bad bad' : Bool) (x : ByteArray) : Prop where
 kq : Kq r W w' s' bad'
 rt : Rt pQ (fun _ m => ∀ t, m ≠ 39 :: t) (bts s) bad (bts s') bad' x
 pr : bad' = false -> x.size + 1 + s'.size <= s.size
 xs : x.size <= 600000
 le : s'.size <= s.size
def slq (r : Nat) (w : World) : Nat := match w.cell? ⟨r, 0, none⟩, w.cell? ⟨r, 1, none⟩ with
 | some (.string s), some (.bool b) => if b then 0 else s.size + 1
 | _, _ => 0
theorem slq_of {r : Nat} {w : World} {s : ByteArray} {b : Bool} (h : Blk w r 82 [.string s, .bool b]) : slq r w = if b then 0 else s.size + 1 := by
 unfold slq
 rw [h.cell 0, h.cell 1]
 rfl
theorem rtext9 (r : Nat) (s : ByteArray) (bad : Bool) (hs : s.size <= 600000) (W : World) (hb : Blk W r 82 [.string s, .bool bad]) :
 Calls Tryz.prog 86 #[.pointer (some ⟨r, 0, none⟩)] W fun e w' => ∃ (s' : ByteArray) (bad' : Bool) (x : ByteArray), e = .returned (.string x) /\ Hid (Tq r W w' s s' bad bad' x) := by
 have K := rsign9 r s ⟨#[39]⟩ bad (by omega) (by show (1 : Nat) <= 1000; omega) W hb
 have hrW := hb.lt
 clear hb
 go_enter Tryz.func86, Tryz.ntmps86
 go_wp2_with fail
 refine K.mono ?_
 rintro e w1 ⟨s1, b1, rfl, H1⟩
 clear K
 have hW1 : W.heap.size <= w1.heap.size := H1.out.kq.gr.size
 have HI0 : Hid (Ry r w1.heap.size W w1 s1 b1 (.slice none 0 0) [] /\ Tx (bts s) bad (bts s1) b1 []) := by
  refine ⟨⟨H1.out.kq, World.ownsRow_nil _ _ _ _, Nat.le_refl _⟩, Tx.start H1.out.rm fun h => ?_⟩
  have := congrArg List.length (H1.out.eq h)
  rw [List.length_append, bts_len, bts_len] at this
  have h1 : (⟨#[39]⟩ : ByteArray).size = 1 := rfl
  rw [bts_len] at this
  rw [bts_len, bts_len]
  omega
 have hs1 : s1.size <= s.size := H1.out.le
 clear H1
 go_wp2
 go_loopw [3, 4] (fun v _ wr => ∃ (sk : ByteArray) (bk : Bool) (acc : List Nat), sk.size <= s.size /\ acc.length <= 600000 /\ Hid (Ry r w1.heap.size W wr sk bk v acc /\ Tx (bts s) bad (bts sk) bk acc)) (fun _ _ wr => slq r wr)
 case atStart => exact ⟨s1, b1, [], hs1, by simp, HI0.out⟩
 case round =>
  clear HI0
  obtain ⟨sk, bk, acc, hsk, hac, HJ⟩ := hrel
  have HR : Hid (Ry r w1.heap.size W wr sk bk u3 acc) := HJ.out.1
  have HT : Hid (Tx (bts s) bad (bts sk) bk acc) := HJ.out.2
  have hrB : r < w1.heap.size := by omega
  have c0 : wr.cell? ⟨r, 0, none⟩ = some (.string sk) := HR.out.kq.blk.cell 0
  have c1 : wr.cell? ⟨r, 1, none⟩ = some (.bool bk) := HR.out.kq.blk.cell 1
  have HM : Hid (slq r wr = if bk then 0 else sk.size + 1) := slq_of HR.out.kq.blk
  have hwr : w1.heap.size <= wr.heap.size := HR.out.sz
  clear HJ
  cases bk with
  | true =>
    have HF : Hid (Tq r W wr s sk bad true em) := ⟨HR.out.kq, HT.out.isBad em, fun h => (by cases h), by decide, hsk⟩
    clear HR HT HM
    go_wp2
    go_ret
    exact ⟨sk, true, em, rfl, HF.out⟩
  | false =>
    have hac2 : acc.length + 1 + sk.size <= s.size := by
     have := HT.out.pr rfl
     rw [bts_len, bts_len] at this
     omega
    by_cases h0 : sk.size = 0
    . have he : sk.toList.isEmpty = true := (empty9 sk).2 h0
      have HE : Hid (bts sk = []) := List.eq_nil_of_length_eq_zero (by rw [bts_len]; exact h0)
      clear h0
      go_wp2_with (refine st_one rfl 4 (.tmp 19) (.const (.bool true)) rfl r 1 82 [.string sk, .bool false] (.bool true) rfl rfl rfl rfl (by simp) HR.out.kq.blk sz4 ?_)
      intro w2 b2 g2
      have HF : Hid (Tq r W w2 s sk bad true em) := by
       refine ⟨HR.out.kq.trans ⟨b2, g2⟩, ?_, fun h => (by cases h), by decide, hsk⟩
       have h := HT.out
       rw [HE.out] at h ⊢
       exact h.none em
      clear b2 g2 HR HT HM HE
      go_wp2
      go_ret
      exact ⟨sk, true, em, rfl, HF.out⟩
    have he : sk.toList.isEmpty = false := by
     cases hh : sk.toList.isEmpty with
     | true => exact absurd ((empty9 sk).1 hh) h0
     | false => rfl
    have hp : 0 < sk.size := by omega
    obtain ⟨c, hl, hc256⟩ : ∃ c, bts sk = c :: bts (sk.extract 1 sk.size) /\ c < 256 := ⟨_, bcons9 sk hp, (sk[0]'hp).toNat_lt⟩
    have hi := idx0 sk c _ hl
    have HL : Hid (bts sk = c :: bts (sk.extract 1 sk.size)) := hl
    have hz3 : (sk.extract 1 sk.size).size + 1 = sk.size := by rw [ByteArray.size_extract]; omega
    have h1i : (1 : Int) <= (sk.size : Int) := by omega
    clear hl h0
    obtain ⟨s3, hs3⟩ : ∃ s3, sk.extract 1 sk.size = s3 := ⟨_, rfl⟩
    rw [hs3] at HL hz3
    have Hs3 : Hid (sk.extract 1 sk.size = s3) := hs3
    clear hs3
    have HZ : Hid (s3.size + 1 = sk.size) := hz3
    clear hz3
    go_wp2_with (refine st_one rfl 9 (.tmp 32) (.tmp 30) rfl r 0 82 [.string sk, .bool false] (.string (sk.extract 1 sk.size)) rfl rfl rfl rfl (by simp) HR.out.kq.blk sz9 ?_)
    intro w2 b2 g2
    rw [Hs3.out] at b2
    have HR2 : Hid (Ry r w1.heap.size W w2 s3 false u3 acc) := HR.out.read hrB ⟨b2, g2⟩
    have hw2 : w1.heap.size <= w2.heap.size := HR2.out.sz
    clear b2 g2 HR c0 c1 hi
    have HO : Hid (Own w2 w1.heap.size u3 acc) := HR2.out.own
    have hac3 : acc.length <= 600000 := hac
    by_cases h39 : c = 39
    . have hc39 : ((c : Int) == 39) = true := by rw [h39]; rfl
      have HL9 : Hid (bts sk = 39 :: bts s3) := by show _ = _; rw [HL.out, h39]
      obtain ⟨t, ht, KN⟩ := rnext9 r s3 false 39 w2 HR2.out.kq.blk
      have HTt : Hid (t = true ↔ false = false /\ ∃ m, bts s3 = 39 :: m) := ht
      have KN' : Calls Tryz.prog 89 #[.pointer (some ⟨r, 0, none⟩), .int .u8 39] w2 fun e w' => e = .returned (.bool t) /\ w' = w2 := KN
      clear ht h39 HL KN
      go_wp2_with fail
      refine KN'.mono ?_
      rintro e w4 ⟨rfl, rfl⟩
      clear KN'
      cases t with
      | true =>
        obtain ⟨m, hm⟩ : ∃ m, bts s3 = 39 :: m := (HTt.out.1 rfl).2
        have hp3 : 0 < s3.size := by rw [<- bts_len, hm]; simp
        have HL4 : Hid (bts s3 = 39 :: bts (s3.extract 1 s3.size)) := by
         have h := bcons9 s3 hp3
         rw [hm] at h
         injection h with h1 h2
         show _ = _
         rw [hm, h2]
        have HZ4 : Hid ((s3.extract 1 s3.size).size + 1 = s3.size) := by show _ = _; rw [ByteArray.size_extract]; omega
        have h3i : (1 : Int) <= (s3.size : Int) := by omega
        clear hm HTt
        go_wp2_with (at_builtin; go_must (refine ap_bytes rfl (.tmp 44) (.tmp 45) rfl w1.heap.size _ acc rfl (HO.out.alloc _) _ _ _ [39] rfl rfl (byt_lit w4 [39]) (by simp) (by simp; omega) (by simp; omega) ?_))
        intro v5 w5 A5
        have HR5 : Hid (Ry r w1.heap.size W w5 s3 false v5 (acc ++ [39])) := (HR2.out.below ((Below.refl _ _).alloc (Nat.le_refl _) _)).put hrB hW1 A5
        have c0 : w5.cell? ⟨r, 0, none⟩ = some (.string s3) := HR5.out.kq.blk.cell 0
        clear A5 HO HR2
        go_wp2_with (refine st_one rfl 9 (.tmp 54) (.tmp 52) rfl r 0 82 [.string s3, .bool false] (.string (s3.extract 1 s3.size)) rfl rfl rfl rfl (by simp) HR5.out.kq.blk sz9 ?_)
        intro w6 b6 g6
        have HR6 : Hid (Ry r w1.heap.size W w6 (s3.extract 1 s3.size) false v5 (acc ++ [39])) := HR5.out.read hrB ⟨b6, g6⟩
        have HT6 : Hid (Tx (bts s) bad (bts (s3.extract 1 s3.size)) false (acc ++ [39])) := HT.out.quote (by rw [HL9.out, HL4.out])
        have HM6 : Hid (slq r w6 < slq r wr) := by
         show _ < _
         rw [HM.out, slq_of HR6.out.kq.blk]
         have := HZ.out
         have := HZ4.out
         simp
         omega
        have HS6 : Hid ((s3.extract 1 s3.size).size <= s.size /\ (acc ++ [39]).length <= 600000) := by
         have := HZ.out
         have := HZ4.out
         refine ⟨by omega, by simp; omega⟩
        clear b6 g6 HR5 c0 HT HM HZ4 HL4 HL9 HZ
        go_wp2
        go_roundw
        case rel => exact ⟨_, false, _, HS6.out.1, HS6.out.2, HR6.out, HT6.out⟩
        case measure => exact HM6.out
      | false =>
        have HNo : Hid (∀ t, bts s3 ≠ 39 :: t) := fun t e => by
         have := HTt.out.2 ⟨(by first | trivial | rfl), t, e⟩
         cases this
        obtain ⟨a, cc, hu, hbt, hn, _⟩ := HO.out.byt
        have hcv := conv_byt9 hbt HT.out.oc hn
        rw [<- hu] at hcv
        have HF : Hid (Tq r W w4 s s3 bad false (ofB acc)) := by
         have := HZ.out
         refine ⟨HR2.out.kq, HT.out.done HL9.out HNo.out, fun _ => ?_, ?_, by omega⟩
         . rw [ofB_size]; omega
         . rw [ofB_size]; omega
        clear hbt hn HTt HO HNo HR2 HT HM HL9 HZ hu
        generalize ofB acc = X at *
        go_wp2
        go_ret
        exact ⟨s3, false, X, rfl, HF.out⟩
    have hc39 : ((c : Int) == 39) = false := by simp; omega
    by_cases h92 : c = 92
    . have hc92 : ((c : Int) == 92) = true := by rw [h92]; rfl
      have HL9 : Hid (bts sk = 92 :: bts s3) := by show _ = _; rw [HL.out, h92]
      have KP := rpair9 r s3 false (by have := HZ.out; omega) w2 HR2.out.kq.blk
      clear h39 h92 HL
      go_wp2_with fail
      refine KP.mono ?_
      rintro e w4 ⟨s4, b4, d, rfl, H4⟩
      have HR4 : Hid (Ry r w1.heap.size W w4 s4 b4 u3 acc) := HR2.out.read hrB H4.out.kq
      have hw4 : w1.heap.size <= w4.heap.size := HR4.out.sz
      clear KP HO
      go_wp2_with (at_builtin; go_must (refine ap_bytes rfl (.tmp 63) (.tmp 66) rfl w1.heap.size _ acc rfl (HR4.out.own.alloc _) _ _ _ [d] rfl rfl (byt_lit w4 [d]) (by simp) (by simp; omega) (by simp; omega) ?_))
      intro v5 w5 A5
      have HR5 : Hid (Ry r w1.heap.size W w5 s4 b4 v5 (acc ++ [d])) := (HR4.out.below ((Below.refl _ _).alloc (Nat.le_refl _) _)).put hrB hW1 A5
      have HT5 : Hid (Tx (bts s) bad (bts s4) b4 (acc ++ [d])) := HT.out.esc HL9.out H4.out.rp H4.out.lt fun h => by
       have := H4.out.pr h
       rw [bts_len, bts_len]
       omega
      have HM5 : Hid (slq r w5 < slq r wr) := by
       show _ < _
       rw [HM.out, slq_of HR5.out.kq.blk]
       have := HZ.out
       have := H4.out.le
       simp
       split <;> omega
      have HS5 : Hid (s4.size <= s.size /\ (acc ++ [d]).length <= 600000) := by
       have := HZ.out
       have := H4.out.le
       refine ⟨by omega, by simp; omega⟩
      clear A5 HR4 HT HM H4 HR2 HZ HL9
      go_wp2
      go_roundw
      case rel => exact ⟨_, b4, _, HS5.out.1, HS5.out.2, HR5.out, HT5.out⟩
      case measure => exact HM5.out
    have hc92 : ((c : Int) == 92) = false := by simp; omega
    have HT5 : Hid (Tx (bts s) bad (bts s3) false (acc ++ [c])) := HT.out.plain HL.out h39 h92 hc256
    clear h39 h92
    go_wp2_with (at_builtin; go_must (refine ap_bytes rfl (.tmp 33) (.tmp 35) rfl w1.heap.size _ acc rfl (HO.out.alloc _) _ _ _ [c] rfl rfl (byt_lit w2 [c]) (by simp) (by simp; omega) (by simp; omega) ?_))
    intro v5 w5 A5
    have HR5 : Hid (Ry r w1.heap.size W w5 s3 false v5 (acc ++ [c])) := (HR2.out.below ((Below.refl _ _).alloc (Nat.le_refl _) _)).put hrB hW1 A5
    have HM5 : Hid (slq r w5 < slq r wr) := by
     show _ < _
     rw [HM.out, slq_of HR5.out.kq.blk]
     have := HZ.out
     simp
     omega
    have HS5 : Hid (s3.size <= s.size /\ (acc ++ [c]).length <= 600000) := by
     have := HZ.out
     refine ⟨by omega, by simp; omega⟩
    clear A5 HT HM HR2 HZ HL HO
    go_wp2
    go_roundw
    case rel => exact ⟨_, false, _, HS5.out.1, HS5.out.2, HR5.out, HT5.out⟩
    case measure => exact HM5.out
end Go.Proofs.YtpfiejmhnkcjbaaGreatDoor
namespace Go.Proofs.YtpfiejmhnkcjbaaGreatDoor
set_option maxHeartbeats 4000000
set_option maxRecDepth 8000
open Go.RowKit Math
set_option linter.unusedVariables false
set_option linter.unusedSimpArgs false
theorem kq_kept {r g : Nat} {W w w' : World} {s : ByteArray} {b : Bool} (h : Kq r W w s b) (k : w.grownBy w' (some g)) (hg : W.heap.size <= g) (hr : r < W.heap.size) : Kq r W w' s b := kr_grown h k (fun x c => by injection c with c; omega)
structure Vq9 (dp : Int) (r : Nat) (W w' : World) (s s' : ByteArray) (bad bad' : Bool) (p : Vt) (na : Option Addr) (nc : Nat) (ka : Option Addr) (kc : Nat) : Prop where
 kq : Kq r W w' s' bad'
 vl : ∃ Lp, VlL w' p na nc ka kc Lp /\ ∀ x ∈ Lp, W.heap.size <= x /\ x < w'.heap.size
 wf : WfV p
 vx : Vx dp (bts s) bad (bts s') bad' p
theorem rv_null (dp : Int) (r : Nat) (s : ByteArray) (W : World) (hs : s.size <= 100000) (hb : Blk W r 82 [.string s, .bool false]) (hdp : dp <= 16) (T : List Nat) (hT : bts s = 110 :: T) :
 Calls Tryz.prog 60 #[.pointer (some ⟨r, 0, none⟩), .int .i64 dp] W fun e w' => ∃ (p : Vt) (na : Option Addr) (nc : Nat) (ka : Option Addr) (kc : Nat) (s' : ByteArray) (bad' : Bool), e = .returned (.agg #[.int .i64 p.1.k, .int .i64 p.1.n, .int .i64 p.1.s, .string p.1.t, .slice na p.1.ns.length nc, .slice ka p.2.list.length kc]) /\ Hid (Vq9 dp r W w' s s' false bad' p na nc ka kc) := by
 have he : s.toList.isEmpty = false := by
  cases hh : s.toList.isEmpty with
  | true =>
    have := (empty9 s).1 hh
    rw [<- bts_len, hT] at this
    simp at this
  | false => rfl
 have hd : decide ((16 : Int) < dp) = false := decide_eq_false (by omega)
 have hi := idx0 s 110 T hT
 have HT : Hid (bts s = 110 :: T) := hT
 clear hT
 have hrW : r < W.heap.size := hb.lt
 have HB : Hid (Blk W r 82 [.string s, .bool false]) := hb
 clear hb
 go_enter Tryz.func60, Tryz.ntmps60
 go_wp2_with (refine al_zero rfl 41 rfl zer z25 ?_)
 intro g4 w1 hg4 b1 gr1
 have HK1 : Hid (Kq r W w1 s false) := ⟨HB.out.kept gr1 (by simp), ⟨gr1.os, gr1.tape, gr1.output, gr1.size, fun x hx hne => gr1.block x hx (by simp)⟩⟩
 have HZ1 : Hid (Blk w1 g4 41 zer) := b1
 have hg4l : g4 < w1.heap.size := b1.lt
 have hW1 : W.heap.size <= w1.heap.size := gr1.size
 clear b1 gr1 HB
 have c0 : w1.cell? ⟨r, 0, none⟩ = some (.string s) := HK1.out.blk.cell 0
 have c1 : w1.cell? ⟨r, 1, none⟩ = some (.bool false) := HK1.out.blk.cell 1
 have K := rsign9 r s ⟨#[110, 117, 108, 108]⟩ false (by omega) (by show (4 : Nat) <= 1000; omega) w1 HK1.out.blk
 go_wp2_with fail
 refine K.mono ?_
 rintro e w2 ⟨s2, b2, rfl, H2⟩
 have HK : Hid (Kq r W w2 s2 b2) := HK1.out.trans H2.out.kq
 have HZ : Hid (Blk w2 g4 41 zer) := HZ1.out.kept H2.out.kq.gr (by intro e; injection e with e; omega)
 have HVR : Hid (Vx dp (bts s) false (bts s2) b2 (lf 1 0 0 em)) := by
  have h1 := H2.out.rm
  have h2 := H2.out.eq
  rw [HT.out] at h1 h2 ⊢
  refine vx_null h1 fun hb => ?_
  rw [h2 hb, List.length_append]
  have : 0 < (bts ⟨#[110, 117, 108, 108]⟩).length := by decide
  omega
 have HWF : Hid (WfV (⟨1, 0, 0, ⟨#[]⟩, []⟩, .nil)) := wf_leaf9 1 0 0 ⟨#[]⟩ (by omega) (by omega) (by omega) (by decide)
 clear K H2 HK1 HZ1 c0 c1 HT hi
 go_wp2_with (refine st_all rfl 41 (.tmp 4) (.tmp 42) rfl g4 41 zer [.int .i64 1, .int .i64 0, .int .i64 0, .string ⟨#[]⟩, .slice none 0 0, .slice none 0 0] rfl rfl HZ.out rfl s25 (D6.ones rfl) ?_)
 intro w9 b9 g9
 have HB9 : Hid (Blk w9 g4 41 [.int .i64 1, .int .i64 0, .int .i64 0, .string ⟨#[]⟩, .slice none 0 0, .slice none 0 0]) := b9
 have HQ : Hid (Vq9 dp r W w9 s s2 false b2 (⟨1, 0, 0, ⟨#[]⟩, []⟩, .nil) none 0 none 0) := ⟨kq_kept HK.out g9 hg4 hrW, ⟨[], vl_leaf9 _ _ _ _ _, fun x hx => by cases hx⟩, HWF.out, HVR.out⟩
 clear b9 g9 HZ HK HWF HVR
 go_wp2
 exact bodyPost_ret (D6.res_row rfl _ g4 41 _ _ rfl HB9.out Tryz.underlying41 rfl s25) rfl ⟨(⟨1, 0, 0, ⟨#[]⟩, []⟩, .nil), none, 0, none, 0, s2, b2, rfl, HQ.out⟩
theorem rv_text (dp : Int) (r : Nat) (s : ByteArray) (W : World) (hs : s.size <= 100000) (hb : Blk W r 82 [.string s, .bool false]) (hdp : dp <= 16) (T : List Nat) (hT : bts s = 39 :: T) :
 Calls Tryz.prog 60 #[.pointer (some ⟨r, 0, none⟩), .int .i64 dp] W fun e w' => ∃ (p : Vt) (na : Option Addr) (nc : Nat) (ka : Option Addr) (kc : Nat) (s' : ByteArray) (bad' : Bool), e = .returned (.agg #[.int .i64 p.1.k, .int .i64 p.1.n, .int .i64 p.1.s, .string p.1.t, .slice na p.1.ns.length nc, .slice ka p.2.list.length kc]) /\ Hid (Vq9 dp r W w' s s' false bad' p na nc ka kc) := by
 have he : s.toList.isEmpty = false := by
  cases hh : s.toList.isEmpty with
  | true =>
    have := (empty9 s).1 hh
    rw [<- bts_len, hT] at this
    simp at this
  | false => rfl
 have hd : decide ((16 : Int) < dp) = false := decide_eq_false (by omega)
 have hi := idx0 s 39 T hT
 have HT : Hid (bts s = 39 :: T) := hT
 clear hT
 have hrW : r < W.heap.size := hb.lt
 have HB : Hid (Blk W r 82 [.string s, .bool false]) := hb
 clear hb
 go_enter Tryz.func60, Tryz.ntmps60
 go_wp2_with (refine al_zero rfl 41 rfl zer z25 ?_)
 intro g4 w1 hg4 b1 gr1
 have HK1 : Hid (Kq r W w1 s false) := ⟨HB.out.kept gr1 (by simp), ⟨gr1.os, gr1.tape, gr1.output, gr1.size, fun x hx hne => gr1.block x hx (by simp)⟩⟩
 have HZ1 : Hid (Blk w1 g4 41 zer) := b1
 have hg4l : g4 < w1.heap.size := b1.lt
 have hW1 : W.heap.size <= w1.heap.size := gr1.size
 clear b1 gr1 HB
 have c0 : w1.cell? ⟨r, 0, none⟩ = some (.string s) := HK1.out.blk.cell 0
 have c1 : w1.cell? ⟨r, 1, none⟩ = some (.bool false) := HK1.out.blk.cell 1
 have K := rtext9 r s false (by omega) w1 HK1.out.blk
 go_wp2_with fail
 refine K.mono ?_
 rintro e w2 ⟨s2, b2, x, rfl, H2⟩
 have HK : Hid (Kq r W w2 s2 b2) := HK1.out.trans H2.out.kq
 have HZ : Hid (Blk w2 g4 41 zer) := HZ1.out.kept H2.out.kq.gr (by intro e; injection e with e; omega)
 have HVR : Hid (Vx dp (bts s) false (bts s2) b2 (⟨6, 0, 0, x, []⟩, .nil)) := by
  have R := H2.out.rt
  have hl := H2.out.pr
  have hz : (bts s).length = s.size := bts_len s
  rw [HT.out] at R hz ⊢
  exact vx_text R fun hb => by have := hl hb; rw [hz, bts_len]; exact this
 have HWF : Hid (WfV (⟨6, 0, 0, x, []⟩, .nil)) := wf_leaf9 6 0 0 x (by omega) (by omega) (by omega) (by have := H2.out.xs; omega)
 clear K H2 HK1 HZ1 c0 c1 HT hi
 go_wp2_with (refine st_all rfl 41 (.tmp 4) (.tmp 60) rfl g4 41 zer [.int .i64 6, .int .i64 0, .int .i64 0, .string x, .slice none 0 0, .slice none 0 0] rfl rfl HZ.out rfl s25 (D6.ones rfl) ?_)
 intro w9 b9 g9
 have HB9 : Hid (Blk w9 g4 41 [.int .i64 6, .int .i64 0, .int .i64 0, .string x, .slice none 0 0, .slice none 0 0]) := b9
 have HQ : Hid (Vq9 dp r W w9 s s2 false b2 (⟨6, 0, 0, x, []⟩, .nil) none 0 none 0) := ⟨kq_kept HK.out g9 hg4 hrW, ⟨[], vl_leaf9 _ _ _ _ _, fun x hx => by cases hx⟩, HWF.out, HVR.out⟩
 clear b9 g9 HZ HK HWF HVR
 go_wp2
 exact bodyPost_ret (D6.res_row rfl _ g4 41 _ _ rfl HB9.out Tryz.underlying41 rfl s25) rfl ⟨(⟨6, 0, 0, x, []⟩, .nil), none, 0, none, 0, s2, b2, rfl, HQ.out⟩
end Go.Proofs.YtpfiejmhnkcjbaaGreatDoor
