/-
   ·  · 
-/
import Derived.Test.YtobfdcdobhhagaaGreatDoorAG21x
import Derived.Test.YtobfdcdobhhagaaGreatDoorASha
import Derived.Test.YtobfdcdobhhagaaGreatDoorAG14x
namespace Go.Proofs.YtobfdcdobhhagaaGreatDoor
set_option maxHeartbeats 1000000
set_option maxRecDepth 8000
open Go.RowKit Math
set_option linter.unusedVariables false
set_option linter.unusedSimpArgs false
abbrev Kq (r : Nat) (W w' : World) (s : ByteArray) (bad : Bool) : Prop := Kr 79 r W w' [.string s, .bool bad]
theorem idx0 (s : ByteArray) (c : Nat) (l : List Nat) (h : bts s = c :: l) (w : World) : (Instr.index 9 (.string s) (.int .i64 0)).run Tryz.prog w = .ok (.int .u8 (c : Int)) w := by
 have hs : 0 < s.size := by rw [<- bts_len, h]; simp
 have := idx9 s 0 hs w
 rw [h] at this
 exact this
theorem idx1 (s : ByteArray) (b c : Nat) (l : List Nat) (h : bts s = b :: c :: l) (w : World) : (Instr.index 9 (.string s) (.int .i64 1)).run Tryz.prog w = .ok (.int .u8 (c : Int)) w := by
 have hs : 1 < s.size := by rw [<- bts_len, h]; simp
 have := idx9 s 1 hs w
 rw [h] at this
 exact this
theorem hx64 (n : Nat) (h : n < 16) (w : World) : (Instr.index 9 (.string ⟨#[48, 49, 50, 51, 52, 53, 54, 55, 56, 57, 97, 98, 99, 100, 101, 102]⟩) (.int .i64 (n : Int))).run Tryz.prog w = .ok (.int .u8 ((hxd n : Nat) : Int)) w := by
 have := idx9 ⟨#[48, 49, 50, 51, 52, 53, 54, 55, 56, 57, 97, 98, 99, 100, 101, 102]⟩ n h w
 have h1 : ∀ k : Fin 16, (bts (⟨#[48, 49, 50, 51, 52, 53, 54, 55, 56, 57, 97, 98, 99, 100, 101, 102]⟩ : ByteArray)).getD k.val 0 = hxd k.val := by decide +kernel
 rw [h1 ⟨n, h⟩] at this
 exact this
theorem rnext9 (r : Nat) (s : ByteArray) (bad : Bool) (c : Nat) (W : World) (hb : Blk W r 79 [.string s, .bool bad]) :
 ∃ t : Bool, (t = true ↔ bad = false /\ ∃ m, bts s = c :: m) /\ Calls Tryz.prog 77 #[.pointer (some ⟨r, 0, none⟩), .int .u8 (c : Int)] W fun e w' => e = .returned (.bool t) /\ w' = W := by
 have c0 : W.cell? ⟨r, 0, none⟩ = some (.string s) := hb.cell 0
 have c1 : W.cell? ⟨r, 1, none⟩ = some (.bool bad) := hb.cell 1
 clear hb
 cases bad with
 | true =>
   refine ⟨false, ⟨(fun h => by cases h), (fun h => by cases h.1)⟩, ?_⟩
   go_enter Tryz.func77, Tryz.ntmps77
   go_wp2
   go_ret
   exact ⟨rfl, rfl⟩
 | false =>
   by_cases h0 : s.size = 0
   . have he : s.toList.isEmpty = true := (empty9 s).2 h0
     refine ⟨false, ⟨(fun h => by cases h), (fun ⟨_, m, e⟩ => by
      have := congrArg List.length e
      rw [bts_len, h0] at this
      simp at this)⟩, ?_⟩
     clear h0
     go_enter Tryz.func77, Tryz.ntmps77
     go_wp2
     go_ret
     exact ⟨rfl, rfl⟩
   . have he : s.toList.isEmpty = false := by
      cases hh : s.toList.isEmpty with
      | true => exact absurd ((empty9 s).1 hh) h0
      | false => rfl
     have hp : 0 < s.size := by omega
     obtain ⟨x, l, hl⟩ : ∃ x l, bts s = x :: l := ⟨_, _, bcons9 s hp⟩
     have hi := idx0 s x l hl
     have HL : Hid (bts s = x :: l) := hl
     clear hl h0
     by_cases hx : x = c
     . have hxb : ((x : Int) == (c : Int)) = true := by rw [hx]; simp
       refine ⟨true, ⟨fun _ => ⟨rfl, l, by rw [HL.out, hx]⟩, fun _ => rfl⟩, ?_⟩
       clear hx
       go_enter Tryz.func77, Tryz.ntmps77
       go_wp2
       go_ret
       exact ⟨rfl, rfl⟩
     . have hxb : ((x : Int) == (c : Int)) = false := by simp; omega
       refine ⟨false, ⟨(fun h => by cases h), fun ⟨_, m, h⟩ => by
        rw [HL.out] at h
        injection h with h1 h2
        exact absurd h1 hx⟩, ?_⟩
       clear hx
       go_enter Tryz.func77, Tryz.ntmps77
       go_wp2
       go_ret
       exact ⟨rfl, rfl⟩
theorem rdigit9 (c : Nat) (hc : c < 256) (W : World) :
 Calls Tryz.prog 75 #[.int .u8 (c : Int)] W fun e w' => ∃ ix : Int, e = .returned (.int .i64 ix) /\ w' = W /\ Hid ((∃ d, d < 16 /\ hxd d = c /\ ix = (d : Int)) ∨ (isHx c = false /\ ix = -1)) := by
 go_enter Tryz.func75, Tryz.ntmps75
 go_wp2
 go_loopw [3] (fun i wr => ∃ (k : Nat), k <= 16 /\ i = .int .i64 (k : Int) /\ wr = W /\ Hid (∀ j, j < k -> hxd j ≠ c)) (fun i _ => 16 - (intOf i).toNat)
 case atStart => exact ⟨0, by omega, rfl, rfl, fun j hj => by omega⟩
 case round =>
  obtain ⟨k, hk, rfl, rfl, HK⟩ := hrel
  by_cases hk2 : k < 16
  case neg =>
   have HF : Hid (isHx c = false) := by
    have h1 : ∀ c : Fin 256, isHx c.val = false ∨ ∃ d : Fin 16, hxd d.val = c.val := by decide +kernel
    rcases h1 ⟨c, hc⟩ with h | ⟨d, h⟩
    . exact h
    . exact absurd h (HK.out d.val (by have := d.isLt; omega))
   go_wp2
   go_ret
   exact ⟨-1, rfl, rfl, .inr ⟨HF.out, rfl⟩⟩
  have hi := hx64 k hk2
  by_cases hx : hxd k = c
  . have hxb : (((hxd k : Nat) : Int) == (c : Int)) = true := by rw [hx]; simp
    have HF : Hid (hxd k = c) := hx
    clear hx
    obtain ⟨x, hxk⟩ : ∃ x, hxd k = x := ⟨_, rfl⟩
    rw [hxk] at hi hxb
    clear hxk
    go_wp2
    go_ret
    exact ⟨(k : Int), rfl, rfl, .inl ⟨k, hk2, HF.out, rfl⟩⟩
  . have hxb : (((hxd k : Nat) : Int) == (c : Int)) = false := by simp; omega
    have HF : Hid (∀ j, j < k + 1 -> hxd j ≠ c) := fun j hj => by
     by_cases e : j = k
     . rw [e]; exact hx
     . exact HK.out j (by omega)
    clear hx
    obtain ⟨x, hxk⟩ : ∃ x, hxd k = x := ⟨_, rfl⟩
    rw [hxk] at hi hxb
    clear hxk
    go_wp2
    go_roundw
    case rel => exact ⟨k + 1, by omega, by go_num, (by first | trivial | rfl), HF.out⟩
    case measure => simp [intOf]; omega
end Go.Proofs.YtobfdcdobhhagaaGreatDoor
namespace Go.Proofs.YtobfdcdobhhagaaGreatDoor
set_option maxHeartbeats 1000000
set_option maxRecDepth 8000
open Go.RowKit Math
set_option linter.unusedVariables false
set_option linter.unusedSimpArgs false
theorem bts_ext (s : ByteArray) (i j : Nat) : bts (s.extract i j) = ((bts s).drop i).take (j - i) := by
 unfold bts
 rw [ByteArray.data_extract, Array.toList_extract, List.extract_eq_take_drop, List.map_take, List.map_drop]
theorem ext_head (s x : ByteArray) (h : x.size <= s.size) : ((s.extract 0 x.size).toList == x.toList) = true ↔ bts s = bts x ++ bts (s.extract x.size s.size) := by
 rw [beq_iff_eq]
 have e0 : bts (s.extract 0 x.size) = (bts s).take x.size := by rw [bts_ext]; simp
 have e1 : bts (s.extract x.size s.size) = (bts s).drop x.size := by
  rw [bts_ext, List.take_of_length_le (by rw [List.length_drop, bts_len]; omega)]
 rw [e1]
 constructor
 . intro h1
   have h2 := bytes_eq h1
   rw [h2] at e0
   rw [e0, List.take_append_drop]
 . intro h1
   have h2 : (bts s).take x.size = bts x := by
    rw [h1, List.take_append_of_le_length (by rw [bts_len]; omega), List.take_of_length_le (by rw [bts_len]; omega)]
   rw [<- e0] at h2
   rw [show s.extract 0 x.size = x by rw [<- ofB_bts (s.extract 0 x.size), h2, ofB_bts]]
structure Sg (r : Nat) (W w' : World) (mark s s' : ByteArray) (bad bad' : Bool) : Prop where
 kq : Kq r W w' s' bad'
 rm : Rm (bts mark) (bts s) bad (bts s') bad'
 eq : bad' = false -> bts s = bts mark ++ bts s'
 le : s'.size <= s.size
theorem rsign9 (r : Nat) (s mark : ByteArray) (bad : Bool) (hs : s.size <= 1000000000) (hm : mark.size <= 1000) (W : World) (hb : Blk W r 79 [.string s, .bool bad]) :
 Calls Tryz.prog 73 #[.pointer (some ⟨r, 0, none⟩), .string mark] W fun e w' => ∃ s' bad', e = .returned (.tuple #[]) /\ Hid (Sg r W w' mark s s' bad bad') := by
 have c0 : W.cell? ⟨r, 0, none⟩ = some (.string s) := hb.cell 0
 have c1 : W.cell? ⟨r, 1, none⟩ = some (.bool bad) := hb.cell 1
 have HB : Hid (Blk W r 79 [.string s, .bool bad]) := hb
 clear hb
 by_cases hn : bad = true ∨ s.size < mark.size ∨ ((s.extract 0 mark.size).toList == mark.toList) = false
 . have HR : Hid (∀ w', Kq r W w' s true -> Sg r W w' mark s s bad true) := fun w' k => by
    refine ⟨k, rm_no fun h0 t e => ?_, fun h => (by cases h), Nat.le_refl _⟩
    rcases hn with h | h | h
    . rw [h0] at h; cases h
    . have := congrArg List.length e
      rw [List.length_append, bts_len, bts_len] at this
      omega
    . have h2 : mark.size <= s.size := by
       have := congrArg List.length e
       rw [List.length_append, bts_len, bts_len] at this
       omega
      have h3 := (ext_head s mark h2).2 (by
       rw [bts_ext, List.take_of_length_le (by rw [List.length_drop, bts_len]; omega)]
       rw [e, List.drop_append_of_le_length (by rw [bts_len]; omega), List.drop_of_length_le (by rw [bts_len]; omega)]
       rfl)
      rw [h] at h3
      cases h3
   have fin : Hid (∀ w2, Blk w2 r 79 [.string s, .bool true] -> W.grownBy w2 (some r) -> Sg r W w2 mark s s bad true) := fun w2 b g => HR.out w2 ⟨b, g⟩
   clear HR
   by_cases h1 : bad = true
   . subst h1
     clear hn
     go_enter Tryz.func73, Tryz.ntmps73
     go_wp2_with (refine st_one rfl 4 (.tmp 31) (.const (.bool true)) rfl r 1 79 [.string s, .bool true] (.bool true) rfl rfl rfl rfl (by simp) HB.out sz4 ?_)
     intro w2 b2 g2
     have HF := Lib.hid (fin.out w2 b2 g2)
     clear b2 g2 HB fin
     go_wp2
     refine bodyPost_ret (results_none rfl _ _ _) rfl ?_
     exact ⟨s, true, rfl, HF.out⟩
   obtain rfl : bad = false := by simpa using h1
   clear h1
   by_cases h2 : s.size < mark.size
   . have h2i : (s.size : Int) < (mark.size : Int) := by omega
     clear hn
     go_enter Tryz.func73, Tryz.ntmps73
     go_wp2_with (refine st_one rfl 4 (.tmp 31) (.const (.bool true)) rfl r 1 79 [.string s, .bool false] (.bool true) rfl rfl rfl rfl (by simp) HB.out sz4 ?_)
     intro w2 b2 g2
     have HF := Lib.hid (fin.out w2 b2 g2)
     clear b2 g2 HB fin
     go_wp2
     refine bodyPost_ret (results_none rfl _ _ _) rfl ?_
     exact ⟨s, true, rfl, HF.out⟩
   have h2i : ¬ (s.size : Int) < (mark.size : Int) := by omega
   have h2j : (mark.size : Int) <= (s.size : Int) := by omega
   have h3 : ((s.extract 0 mark.size).toList == mark.toList) = false := by
    rcases hn with h | h | h
    . cases h
    . exact absurd h h2
    . exact h
   clear hn
   go_enter Tryz.func73, Tryz.ntmps73
   go_wp2_with (refine st_one rfl 4 (.tmp 31) (.const (.bool true)) rfl r 1 79 [.string s, .bool false] (.bool true) rfl rfl rfl rfl (by simp) HB.out sz4 ?_)
   intro w2 b2 g2
   have HF := Lib.hid (fin.out w2 b2 g2)
   clear b2 g2 HB fin
   go_wp2
   refine bodyPost_ret (results_none rfl _ _ _) rfl ?_
   exact ⟨s, true, rfl, HF.out⟩
 . obtain ⟨rfl, h2, h3⟩ : bad = false /\ mark.size <= s.size /\ ((s.extract 0 mark.size).toList == mark.toList) = true := by
    refine ⟨by simpa using fun h => hn (.inl h), Classical.byContradiction fun h => hn (.inr (.inl (by omega))), by simpa using fun h => hn (.inr (.inr h))⟩
   have HE : Hid (bts s = bts mark ++ bts (s.extract mark.size s.size)) := (ext_head s mark h2).1 h3
   have HZ : Hid ((s.extract mark.size s.size).size <= s.size) := by show _ <= _; rw [ByteArray.size_extract]; omega
   have h2i : ¬ (s.size : Int) < (mark.size : Int) := by omega
   have h2j : (mark.size : Int) <= (s.size : Int) := by omega
   clear hn
   go_enter Tryz.func73, Tryz.ntmps73
   go_wp2_with (refine st_one rfl 9 (.tmp 41) (.tmp 39) rfl r 0 79 [.string s, .bool false] (.string (s.extract mark.size s.size)) rfl rfl rfl rfl (by simp) HB.out sz9 ?_)
   intro w2 b2 g2
   have HF : Hid (Sg r W w2 mark s (s.extract mark.size s.size) false false) :=
    ⟨⟨b2, g2⟩, by rw [HE.out]; exact rm_yes _ _ _, fun _ => HE.out, HZ.out⟩
   clear b2 g2 HB HE HZ
   go_wp2
   go_end0
   exact ⟨_, false, rfl, HF.out⟩
end Go.Proofs.YtobfdcdobhhagaaGreatDoor
namespace Go.Proofs.YtobfdcdobhhagaaGreatDoor
set_option maxHeartbeats 2000000
set_option maxRecDepth 8000
open Go.RowKit Math
set_option linter.unusedVariables false
set_option linter.unusedSimpArgs false
structure Dq (r : Nat) (W w' : World) (s s' : ByteArray) (bad bad' : Bool) (c : Nat) : Prop where
 kq : Kq r W w' s' bad'
 rp : Rp (bts s) bad (bts s') bad' c
 pr : bad' = false -> s'.size + 2 = s.size
 le : s'.size <= s.size
 lt : c < 256
theorem rp_no {l : List Nat} {bad : Bool} {c : Nat} (h : bad = false -> ∀ a b t, l = a :: b :: t -> isHx a = false ∨ isHx b = false) : Rp l bad l true c :=
 ⟨⟨[], rfl⟩, fun _ => rfl, fun hb y m hy e => by
   have hy : y < 256 := hy
   rcases h hb (hxd (y / 16)) (hxd (y % 16)) m e with h | h
   . rw [hxd_is (by omega)] at h; cases h
   . rw [hxd_is (by omega)] at h; cases h⟩
theorem rp_yes {l : List Nat} {bad : Bool} {a b : Nat} (ha : a < 16) (hb : b < 16) : Rp (hxd a :: hxd b :: l) bad l bad (16 * a + b) :=
 ⟨⟨[hxd a, hxd b], rfl⟩, id, fun h y m hy e => by
   have hy : y < 256 := hy
   have e : hxd a :: hxd b :: l = hxd (y / 16) :: hxd (y % 16) :: m := e
   injection e with e1 e2
   injection e2 with e2 e3
   have := hxd_inj ha (by omega) e1
   have := hxd_inj hb (by omega) e2
   exact ⟨h, by omega, e3⟩⟩
theorem rpair9 (r : Nat) (s : ByteArray) (bad : Bool) (hs : s.size <= 1000000000) (W : World) (hb : Blk W r 79 [.string s, .bool bad]) :
 Calls Tryz.prog 76 #[.pointer (some ⟨r, 0, none⟩)] W fun e w' => ∃ (s' : ByteArray) (bad' : Bool) (d : Nat), e = .returned (.int .u8 (d : Int)) /\ Hid (Dq r W w' s s' bad bad' d) := by
 have c0 : W.cell? ⟨r, 0, none⟩ = some (.string s) := hb.cell 0
 have c1 : W.cell? ⟨r, 1, none⟩ = some (.bool bad) := hb.cell 1
 have HB : Hid (Blk W r 79 [.string s, .bool bad]) := hb
 clear hb
 have fin : Hid (∀ w2, (bad = false -> ∀ a b t, bts s = a :: b :: t -> isHx a = false ∨ isHx b = false) -> Blk w2 r 79 [.string s, .bool true] -> W.grownBy w2 (some r) -> Dq r W w2 s s bad true 0) := fun w2 h b g => ⟨⟨b, g⟩, rp_no h, fun h => (by cases h), Nat.le_refl _, by omega⟩
 by_cases h1 : bad = true
 . subst h1
   go_enter Tryz.func76, Tryz.ntmps76
   go_wp2_with (refine st_one rfl 4 (.tmp 36) (.const (.bool true)) rfl r 1 79 [.string s, .bool true] (.bool true) rfl rfl rfl rfl (by simp) HB.out sz4 ?_)
   intro w2 b2 g2
   have HF := Lib.hid (fin.out w2 (fun h => by cases h) b2 g2)
   clear b2 g2 HB fin
   go_wp2
   go_ret
   exact ⟨s, true, 0, rfl, HF.out⟩
 obtain rfl : bad = false := by simpa using h1
 clear h1
 by_cases h2 : s.size < 2
 . have h2i : (s.size : Int) < 2 := by omega
   go_enter Tryz.func76, Tryz.ntmps76
   go_wp2_with (refine st_one rfl 4 (.tmp 36) (.const (.bool true)) rfl r 1 79 [.string s, .bool false] (.bool true) rfl rfl rfl rfl (by simp) HB.out sz4 ?_)
   intro w2 b2 g2
   have HF := Lib.hid (fin.out w2 (fun _ a b t e => by
    have := congrArg List.length e
    rw [bts_len] at this
    simp at this
    omega) b2 g2)
   clear b2 g2 HB fin
   go_wp2
   go_ret
   exact ⟨s, true, 0, rfl, HF.out⟩
 have h2i : ¬ (s.size : Int) < 2 := by omega
 have h2j : (2 : Int) <= (s.size : Int) := by omega
 obtain ⟨x, y, l, hl⟩ : ∃ x y l, bts s = x :: y :: l := by
  match h : bts s with
  | [] => have := congrArg List.length h; rw [bts_len] at this; simp only [List.length_nil] at this; omega
  | [a] => have := congrArg List.length h; rw [bts_len] at this; simp only [List.length_nil, List.length_cons] at this; omega
  | a :: b :: t => exact ⟨a, b, t, rfl⟩
 have i0 := idx0 s x (y :: l) hl
 have i1 := idx1 s x y l hl
 have hx : x < 256 := bts_oct s x (by rw [hl]; simp)
 have hy : y < 256 := bts_oct s y (by rw [hl]; simp)
 have HL : Hid (bts s = x :: y :: l) := hl
 clear hl
 have K1 := rdigit9 x hx
 have K2 := rdigit9 y hy
 have KX : Hid (∀ w, Calls Tryz.prog 75 #[.int .u8 (x : Int)] w fun e w' => ∃ ix : Int, e = .returned (.int .i64 ix) /\ w' = w /\ Hid ((∃ d, d < 16 /\ hxd d = x /\ ix = (d : Int)) ∨ (isHx x = false /\ ix = -1))) := K1
 have KY : Hid (∀ w, Calls Tryz.prog 75 #[.int .u8 (y : Int)] w fun e w' => ∃ ix : Int, e = .returned (.int .i64 ix) /\ w' = w /\ Hid ((∃ d, d < 16 /\ hxd d = y /\ ix = (d : Int)) ∨ (isHx y = false /\ ix = -1))) := K2
 clear K1 K2
 go_enter Tryz.func76, Tryz.ntmps76
 go_wp2_with fail
 refine (KX.out W).mono ?_
 rintro e w1 ⟨ix, rfl, rfl, HX⟩
 by_cases hxn : ix < 0
 . have HN : Hid (isHx x = false) := by
    rcases HX.out with ⟨d, _, _, e⟩ | h
    . omega
    . exact h.1
   clear HX
   go_wp2_with (refine st_one rfl 4 (.tmp 36) (.const (.bool true)) rfl r 1 79 [.string s, .bool false] (.bool true) rfl rfl rfl rfl (by simp) HB.out sz4 ?_)
   intro w2 b2 g2
   have HF := Lib.hid (fin.out w2 (fun _ a b t e => by
    rw [HL.out] at e
    injection e with e1 _
    exact .inl (by rw [<- e1]; exact HN.out)) b2 g2)
   clear b2 g2 HB fin
   go_wp2
   go_ret
   exact ⟨s, true, 0, rfl, HF.out⟩
 obtain ⟨a, ha, hxa, rfl⟩ : ∃ d, d < 16 /\ hxd d = x /\ ix = (d : Int) := by
  rcases HX.out with h | h
  . exact h
  . omega
 clear HX hxn
 have HXA : Hid (hxd a = x) := hxa
 clear hxa
 have han : ¬ (a : Int) < 0 := by omega
 go_wp2_with fail
 refine (KY.out w1).mono ?_
 rintro e w2 ⟨iy, rfl, rfl, HY⟩
 by_cases hyn : iy < 0
 . have HN : Hid (isHx y = false) := by
    rcases HY.out with ⟨d, _, _, e⟩ | h
    . omega
    . exact h.1
   clear HY
   go_wp2_with (refine st_one rfl 4 (.tmp 36) (.const (.bool true)) rfl r 1 79 [.string s, .bool false] (.bool true) rfl rfl rfl rfl (by simp) HB.out sz4 ?_)
   intro w3 b2 g2
   have HF := Lib.hid (fin.out w3 (fun _ a b t e => by
    rw [HL.out] at e
    injection e with _ e1
    injection e1 with e1 _
    exact .inr (by rw [<- e1]; exact HN.out)) b2 g2)
   clear b2 g2 HB fin
   go_wp2
   go_ret
   exact ⟨s, true, 0, rfl, HF.out⟩
 obtain ⟨b, hb, hyb, rfl⟩ : ∃ d, d < 16 /\ hxd d = y /\ iy = (d : Int) := by
  rcases HY.out with h | h
  . exact h
  . omega
 clear HY hyn
 have HYB : Hid (hxd b = y) := hyb
 clear hyb
 have hbn : ¬ (b : Int) < 0 := by omega
 obtain ⟨C, hC⟩ : ∃ C : World -> Prop, C = fun w' => Kq r w2 w' s false := ⟨_, rfl⟩
 have CE : Hid (∀ w', C w' -> Kq r w2 w' s false) := fun w' h => by rw [hC] at h; exact h
 have CI : Hid (∀ w', Kq r w2 w' s false -> C w') := fun w' h => by rw [hC]; exact h
 have HK0 : Hid (Kq r w2 { w2 with drawn := w2.drawn + 1 } s false) := (Kr.mk HB.out (World.grownBy.refl _ _) : Kq r w2 w2 s false).then (Below.drew (Below.refl _ _))
 have z0 : Hid (C { w2 with drawn := w2.drawn + 1 }) := CI.out _ HK0.out
 have s0 : Hid (∀ w', C w' -> w'.cell? ⟨r, 0, none⟩ = some (.string s)) := fun w' h => (CE.out _ h).blk.cell 0
 have k1 : Hid (∀ W', C W' -> Calls Tryz.prog 75 #[.int .u8 (x : Int)] W' fun e w' => e = .returned (.int .i64 (a : Int)) /\ C w') := fun W' hW => by
  refine (KX.out W').mono ?_
  rintro e w' ⟨ix, rfl, rfl, HX⟩
  refine ⟨?_, hW⟩
  rcases HX.out with ⟨d, h1, h2, rfl⟩ | ⟨h1, _⟩
  . rw [hxd_inj h1 ha (by rw [h2, HXA.out])]
  . rw [<- HXA.out, hxd_is ha] at h1; cases h1
 have k2 : Hid (∀ W', C W' -> Calls Tryz.prog 75 #[.int .u8 (y : Int)] W' fun e w' => e = .returned (.int .i64 (b : Int)) /\ C w') := fun W' hW => by
  refine (KY.out W').mono ?_
  rintro e w' ⟨ix, rfl, rfl, HX⟩
  refine ⟨?_, hW⟩
  rcases HX.out with ⟨d, h1, h2, rfl⟩ | ⟨h1, _⟩
  . rw [hxd_inj h1 hb (by rw [h2, HYB.out])]
  . rw [<- HYB.out, hxd_is hb] at h1; cases h1
 have HE : Hid (bts s = hxd a :: hxd b :: bts (s.extract 2 s.size)) := by
  show _ = _
  rw [bts_ext, HL.out, List.take_of_length_le (by
   have := congrArg List.length HL.out
   rw [bts_len] at this
   simp only [List.length_cons] at this
   simp only [List.length_drop, List.length_cons]
   omega), HXA.out, HYB.out]
  rfl
 have HZ : Hid ((s.extract 2 s.size).size + 2 = s.size) := by show _ = _; rw [ByteArray.size_extract]; omega
 have j0 : Hid (∀ w, (Instr.index 9 (.string s) (.int .i64 ((0 : Nat) : Int))).run Tryz.prog w = .ok (.int .u8 (x : Int)) w) := i0
 have j1 : Hid (∀ w, (Instr.index 9 (.string s) (.int .i64 ((1 : Nat) : Int))).run Tryz.prog w = .ok (.int .u8 (y : Int)) w) := i1
 clear hC KX KY fin
 go_wp2
 have hCp : ∀ p : Prop, (∀ W, C W -> p) ↔ p := fun p => ⟨fun h => h _ z0.out, fun h _ _ => h⟩
 refine q_region (C := C) (by kernel_rfl) (by kernel_rfl) z0.out ?_
 repeat (first
  | go_big_quiet_skip
  | (go_big_quiet_want
     first
     | (refine q_one 9 (.inr (.inl rfl)) (.tmp 39) rfl r 0 rfl _ s0.out ?_
        simp only [Act.put, List.setIfInBounds_toArray, List.set_cons_zero, List.set_cons_succ]
        go_big_quiet_on)
     | (refine q_one 9 (.inr (.inl rfl)) (.tmp 46) rfl r 0 rfl _ s0.out ?_
        simp only [Act.put, List.setIfInBounds_toArray, List.set_cons_zero, List.set_cons_succ]
        go_big_quiet_on)
     | (refine q_sidx (.tmp 40) (.const (.int .i64 0)) rfl s 0 x j0.out rfl rfl ?_
        simp only [Act.put, List.setIfInBounds_toArray, List.set_cons_zero, List.set_cons_succ]
        go_big_quiet_on)
     | (refine q_sidx (.tmp 47) (.const (.int .i64 1)) rfl s 1 y j1.out rfl rfl ?_
        simp only [Act.put, List.setIfInBounds_toArray, List.set_cons_zero, List.set_cons_succ]
        go_big_quiet_on)
     | (go_big_quiet_op
        first
        | go_big_quiet_on
        | (apply Exists.intro
           refine ⟨?_, ?_⟩
           . first
             | with_reducible exact k1.out
             | with_reducible exact k2.out
           go_big_quiet_on))))
 refine wpQuiet_nil ?_
 intro W' hW
 have HKw : Hid (Kq r w2 W' s false) := CE.out _ hW
 have d0 : W'.cell? ⟨r, 0, none⟩ = some (.string s) := HKw.out.blk.cell 0
 clear k1 k2 s0 z0 hCp hW CE CI i0 i1 j0 j1 c0 c1 HK0
 go_wp2_with (refine st_one rfl 9 (.tmp 59) (.tmp 57) rfl r 0 79 [.string s, .bool false] (.string (s.extract 2 s.size)) rfl rfl rfl rfl (by simp) HKw.out.blk sz9 ?_)
 intro w5 b5 g5
 have HF : Hid (Dq r w2 w5 s (s.extract 2 s.size) false false (16 * a + b)) := by
  refine ⟨HKw.out.trans ⟨b5, g5⟩, ?_, fun _ => HZ.out, by have := HZ.out; omega, by omega⟩
  rw [HE.out]
  exact rp_yes ha hb
 clear b5 g5 HKw HE HZ HB d0
 go_wp2
 go_ret
 refine ⟨_, false, _, ?_, HF.out⟩
 simp
end Go.Proofs.YtobfdcdobhhagaaGreatDoor
