/-
   ·  · 
-/
import Derived.Test.YtpfiejmhnkcjbaaGreatDoorHG0x
import Derived.Test.YtpfiejmhnkcjbaaGreatDoorHG11x
namespace Go.Proofs.YtpfiejmhnkcjbaaGreatDoor
open Lx
set_option linter.unusedVariables false
set_option linter.unusedSimpArgs false
def NuDot (nu : List Nat -> Bool) : Prop := ∀ l : List Nat, (∀ x ∈ l, isDg x = true) -> nu (l ++ [46]) = false
theorem tw_mem {f : Nat -> Bool} : ∀ (l : List Nat) (x : Nat), x ∈ l.takeWhile f -> f x = true
 | [], x, h => by simp at h
 | c :: l, x, h => by
   rw [List.takeWhile_cons] at h
   split at h
   . rename_i hc
     rcases List.mem_cons.1 h with rfl | h
     . exact hc
     . exact tw_mem l x h
   . simp at h
theorem num_no {tx nu : List Nat -> Bool} {c : Nat} {q : List Nat} (hd : isDg c = true) {A : Nat} (hA : ((c :: q).takeWhile isDg).length = A) (h : ¬ ((c :: q).drop A).head? = some 46) :
 ans (Lx.step tx nu (c :: q)) = if folw ((c :: q).drop A) = true ∨ nu ((c :: q).take A) = false then (0, [], 0) else (3, (c :: q).take A, A) := by
 have hn : nuE (c :: q) = (A, false) := by
  rcases nuE_at (c :: q) with ⟨h1, _, _⟩ | ⟨_, h2⟩
  . rw [hA] at h1
    exact absurd (by rw [List.head?_drop]; exact h1) h
  . rw [hA] at h2; exact h2
 rw [st_num hd, hn]
 simp only
 split <;> rfl
theorem num_yes {tx nu : List Nat -> Bool} (HD : NuDot nu) {c : Nat} {q : List Nat} (hd : isDg c = true) {A : Nat} (hA : ((c :: q).takeWhile isDg).length = A) {z : List Nat} (h : (c :: q).drop A = 46 :: z) {B : Nat} (hB : (z.takeWhile isDg).length = B) :
 ans (Lx.step tx nu (c :: q)) = if folw ((c :: q).drop (A + 1 + B)) = true ∨ nu ((c :: q).take (A + 1 + B)) = false then (0, [], 0) else (4, (c :: q).take (A + 1 + B), A + 1 + B) := by
 have e46 : (c :: q)[A]? = some 46 := by
  have := List.getElem?_drop (xs := c :: q) (i := A) (j := 0)
  rw [h] at this
  simpa using this.symm
 have ez : (c :: q).drop (A + 1) = z := by
  have : ((c :: q).drop A).drop 1 = z := by rw [h]; rfl
  rw [List.drop_drop] at this
  exact this
 have e1 : ∀ j, (c :: q)[A + 1 + j]? = z[j]? := fun j => by
  rw [<- ez, List.getElem?_drop]
 rw [st_num hd]
 rcases nuE_at (c :: q) with ⟨_, _, h3⟩ | ⟨h2, h3⟩
 . rw [hA, ez, hB] at h3
   rw [h3]
   simp only
   split <;> rfl
 . rw [hA] at h2 h3
   rw [h3]
   have hB0 : B = 0 := by
    cases hz : z with
    | nil => rw [hz] at hB; simpa using hB.symm
    | cons d z' =>
      by_cases hdd : isDg d = true
      . exact absurd ⟨e46, d, by have := e1 0; rw [hz] at this; simpa using this, hdd⟩ h2
      . rw [hz, List.takeWhile_cons, if_neg hdd] at hB
        simpa using hB.symm
   subst hB0
   have e4 : folw ((c :: q).drop A) = true := by rw [h]; rfl
   simp only [e4, true_or, if_true, Nat.add_zero]
   have e5 : nu ((c :: q).take (A + 1)) = false := by
    have : (c :: q).take (A + 1) = (c :: q).takeWhile isDg ++ [46] := by
     have hlt := (List.getElem?_eq_some_iff.1 e46)
     rw [List.take_succ_eq_append_getElem hlt.1, hlt.2]
     congr 1
     rw [<- hA]
     have := List.takeWhile_append_dropWhile (p := isDg) (l := c :: q)
     conv => lhs; arg 2; rw [<- this]
     rw [List.take_left]
    rw [this]
    exact HD _ (fun x hx => tw_mem _ x hx)
   rw [if_pos (.inr e5)]
   rfl
theorem txE_none : ∀ l : List Nat, ¬ (l.takeWhile (· != 39)).length < l.length -> txE l = none
 | [], _ => rfl
 | c :: l, h => by
   by_cases hc : c = 39
   . subst hc
     exact absurd (by simp) h
   . rw [tx_skip hc, txE_none l, Option.map_none]
     intro hl
     apply h
     rw [List.takeWhile_cons, if_pos (by simpa using hc)]
     simpa using hl
theorem txE_some : ∀ (l : List Nat) {T : Nat}, (l.takeWhile (· != 39)).length = T -> T < l.length -> (¬ (l.drop (T + 1)).head? = some 39 -> txE l = some (T + 1)) /\ ((l.drop (T + 1)).head? = some 39 -> txE l = (txE (l.drop (T + 2))).map (· + (T + 2)))
 | [], T, _, h => by simp at h
 | c :: l, T, hT, h => by
   by_cases hc : c = 39
   . subst hc
     have : T = 0 := by rw [<- hT]; simp
     subst this
     refine ⟨fun h1 => tx_end (by simpa using h1), fun h1 => ?_⟩
     cases l with
     | nil => simp at h1
     | cons d l =>
       simp only [Nat.zero_add, List.drop_succ_cons, List.drop_zero, List.head?_cons, Option.some.injEq] at h1
       subst h1
       rw [tx_two]
       rfl
   . rw [List.takeWhile_cons, if_pos (by simpa using hc), List.length_cons] at hT
     subst hT
     simp only [List.length_cons, Nat.add_lt_add_iff_right] at h
     obtain ⟨i1, i2⟩ := txE_some l rfl h
     rw [tx_skip hc]
     refine ⟨fun h1 => ?_, fun h1 => ?_⟩
     . rw [i1 (by simpa using h1)]
       rfl
     . rw [i2 (by simpa using h1), Option.map_map, show (l.takeWhile (· != 39)).length + 1 + 2 = (l.takeWhile (· != 39)).length + 2 + 1 by omega, List.drop_succ_cons]
       congr 1
def isTwo (l : List Nat) : Bool := [[60, 61], [62, 61], [33, 61], [60, 62], [124, 124]].contains l
theorem sgn_one (c : Nat) : sgn [c] = if isS1 c then [c] else [] := by
 by_cases hm : c ∈ [60, 62, 61, 43, 45, 42, 40, 41, 91, 93, 123, 125, 44, 46, 58, 59]
 . simp only [List.mem_cons, List.not_mem_nil, or_false] at hm
   rcases hm with rfl | rfl | rfl | rfl | rfl | rfl | rfl | rfl | rfl | rfl | rfl | rfl | rfl | rfl | rfl | rfl <;> rfl
 . simp only [List.mem_cons, List.not_mem_nil, or_false, not_or] at hm
   obtain ⟨a0, a1, a2, a3, a4, a5, a6, a7, a8, a9, a10, a11, a12, a13, a14, a15⟩ := hm
   have b0 : (60 == c) = false := beq_eq_false_iff_ne.2 (Ne.symm a0)
   have b1 : (62 == c) = false := beq_eq_false_iff_ne.2 (Ne.symm a1)
   have b2 : (61 == c) = false := beq_eq_false_iff_ne.2 (Ne.symm a2)
   have b3 : (43 == c) = false := beq_eq_false_iff_ne.2 (Ne.symm a3)
   have b4 : (45 == c) = false := beq_eq_false_iff_ne.2 (Ne.symm a4)
   have b5 : (42 == c) = false := beq_eq_false_iff_ne.2 (Ne.symm a5)
   have b6 : (40 == c) = false := beq_eq_false_iff_ne.2 (Ne.symm a6)
   have b7 : (41 == c) = false := beq_eq_false_iff_ne.2 (Ne.symm a7)
   have b8 : (91 == c) = false := beq_eq_false_iff_ne.2 (Ne.symm a8)
   have b9 : (93 == c) = false := beq_eq_false_iff_ne.2 (Ne.symm a9)
   have b10 : (123 == c) = false := beq_eq_false_iff_ne.2 (Ne.symm a10)
   have b11 : (125 == c) = false := beq_eq_false_iff_ne.2 (Ne.symm a11)
   have b12 : (44 == c) = false := beq_eq_false_iff_ne.2 (Ne.symm a12)
   have b13 : (46 == c) = false := beq_eq_false_iff_ne.2 (Ne.symm a13)
   have b14 : (58 == c) = false := beq_eq_false_iff_ne.2 (Ne.symm a14)
   have b15 : (59 == c) = false := beq_eq_false_iff_ne.2 (Ne.symm a15)
   simp [sgn, signs, isS1, List.find?, List.isPrefixOf, a0, a1, a2, a3, a4, a5, a6, a7, a8, a9, a10, a11, a12, a13, a14, a15, b0, b1, b2, b3, b4, b5, b6, b7, b8, b9, b10, b11, b12, b13, b14, b15]
theorem sgn_two (c d : Nat) (q : List Nat) : sgn (c :: d :: q) = if isTwo [c, d] then [c, d] else if isS1 c then [c] else [] := by
 by_cases hm : c ∈ [60, 62, 61, 43, 45, 42, 40, 41, 91, 93, 123, 125, 44, 46, 58, 59]
 . simp only [List.mem_cons, List.not_mem_nil, or_false] at hm
   by_cases h1 : d = 61
   . subst h1
     rcases hm with rfl | rfl | rfl | rfl | rfl | rfl | rfl | rfl | rfl | rfl | rfl | rfl | rfl | rfl | rfl | rfl <;> rfl
   by_cases h2 : d = 62
   . subst h2
     rcases hm with rfl | rfl | rfl | rfl | rfl | rfl | rfl | rfl | rfl | rfl | rfl | rfl | rfl | rfl | rfl | rfl <;> rfl
   have h1' : (61 == d) = false := beq_eq_false_iff_ne.2 (Ne.symm h1)
   have h2' : (62 == d) = false := beq_eq_false_iff_ne.2 (Ne.symm h2)
   rcases hm with rfl | rfl | rfl | rfl | rfl | rfl | rfl | rfl | rfl | rfl | rfl | rfl | rfl | rfl | rfl | rfl <;> simp [sgn, signs, isS1, isTwo, List.find?, List.isPrefixOf, h1, h2, h1', h2']
 . simp only [List.mem_cons, List.not_mem_nil, or_false, not_or] at hm
   obtain ⟨a0, a1, a2, a3, a4, a5, a6, a7, a8, a9, a10, a11, a12, a13, a14, a15⟩ := hm
   have b0 : (60 == c) = false := beq_eq_false_iff_ne.2 (Ne.symm a0)
   have b1 : (62 == c) = false := beq_eq_false_iff_ne.2 (Ne.symm a1)
   have b2 : (61 == c) = false := beq_eq_false_iff_ne.2 (Ne.symm a2)
   have b3 : (43 == c) = false := beq_eq_false_iff_ne.2 (Ne.symm a3)
   have b4 : (45 == c) = false := beq_eq_false_iff_ne.2 (Ne.symm a4)
   have b5 : (42 == c) = false := beq_eq_false_iff_ne.2 (Ne.symm a5)
   have b6 : (40 == c) = false := beq_eq_false_iff_ne.2 (Ne.symm a6)
   have b7 : (41 == c) = false := beq_eq_false_iff_ne.2 (Ne.symm a7)
   have b8 : (91 == c) = false := beq_eq_false_iff_ne.2 (Ne.symm a8)
   have b9 : (93 == c) = false := beq_eq_false_iff_ne.2 (Ne.symm a9)
   have b10 : (123 == c) = false := beq_eq_false_iff_ne.2 (Ne.symm a10)
   have b11 : (125 == c) = false := beq_eq_false_iff_ne.2 (Ne.symm a11)
   have b12 : (44 == c) = false := beq_eq_false_iff_ne.2 (Ne.symm a12)
   have b13 : (46 == c) = false := beq_eq_false_iff_ne.2 (Ne.symm a13)
   have b14 : (58 == c) = false := beq_eq_false_iff_ne.2 (Ne.symm a14)
   have b15 : (59 == c) = false := beq_eq_false_iff_ne.2 (Ne.symm a15)
   by_cases h33 : c = 33
   . subst h33
     by_cases h1 : d = 61
     . subst h1; rfl
     . simp [sgn, signs, isS1, isTwo, List.find?, List.isPrefixOf, h1, beq_eq_false_iff_ne.2 (Ne.symm h1)]
   by_cases h124 : c = 124
   . subst h124
     by_cases h1 : d = 124
     . subst h1; rfl
     . simp [sgn, signs, isS1, isTwo, List.find?, List.isPrefixOf, h1, beq_eq_false_iff_ne.2 (Ne.symm h1)]
   simp [sgn, signs, isS1, isTwo, List.find?, List.isPrefixOf, h33, h124, beq_eq_false_iff_ne.2 (Ne.symm h33), beq_eq_false_iff_ne.2 (Ne.symm h124), a0, a1, a2, a3, a4, a5, a6, a7, a8, a9, a10, a11, a12, a13, a14, a15, b0, b1, b2, b3, b4, b5, b6, b7, b8, b9, b10, b11, b12, b13, b14, b15]
end Go.Proofs.YtpfiejmhnkcjbaaGreatDoor
namespace Go.Proofs.YtpfiejmhnkcjbaaGreatDoor
set_option maxHeartbeats 2000000
set_option maxRecDepth 8000
open Go.RowKit Lx
set_option linter.unusedVariables false
set_option linter.unusedSimpArgs false
theorem tl_nat (s : ByteArray) (L : List UInt8) : (s.toList == L) = (bts s == L.map UInt8.toNat) := by
 rw [ByteArray.toList_eq, Bool.eq_iff_iff, beq_iff_eq, beq_iff_eq]
 unfold bts
 exact ⟨fun h => by rw [h], fun h => (List.map_inj_right (fun _ _ => UInt8.toNat_inj.1)).1 h⟩
theorem isW_yes {s : ByteArray} {L : List UInt8} (h : (s.toList == L) = true) (hL : isW (L.map UInt8.toNat) = true) : isW (bts s) = true := by
 rw [tl_nat] at h
 rw [eq_of_beq h, hL]
theorem isWord_any (s : ByteArray) (w : World) : Calls Tryz.prog 49 #[.string s] w fun e w' => e = .returned (.bool (isW (bts s))) /\ w' = w := by
 go_enter Tryz.func49, Tryz.ntmps49
 go_wp2
 all_goals first
  | (exfalso
     rename_i h1 h2
     rw [h1] at h2
     cases h2
     done)
  | (rename_i h
     go_ret
     rw [isW_yes h rfl]
     exact ⟨rfl, rfl⟩)
  | skip
 have hn : isW (bts s) = false := by
  simp only [tl_nat] at *
  rw [Bool.eq_false_iff]
  intro h
  have hm : bts s ∈ words := List.contains_iff_mem.1 h
  unfold words at hm
  simp only [List.mem_cons, List.not_mem_nil, or_false] at hm
  simp_all
 rw [hn]
 go_ret
 exact ⟨rfl, rfl⟩
end Go.Proofs.YtpfiejmhnkcjbaaGreatDoor
namespace Go.Proofs.YtpfiejmhnkcjbaaGreatDoor
set_option maxHeartbeats 2000000
set_option maxRecDepth 8000
open Go.RowKit Lx
set_option linter.unusedVariables false
set_option linter.unusedSimpArgs false
theorem sTk : (Tryz.prog.info? 32).map (·.size) = some 3 := by kernel_rfl
def tkZ : List Value := [.int .i64 0, .string ⟨#[]⟩, .int .i64 0]
theorem zTk : (Tryz.prog.info? 32).map (fun i => i.zero.map (·.cells)) = some (some (List.toArray [.int .i64 0, .string ⟨#[]⟩, .int .i64 0])) := by kernel_rfl
def AnsE (x : Nat × List Nat × Nat) : Ending := .returned (.tuple #[.agg (tk1 (x.1, x.2.1, 0)).toArray, .int .i64 (x.2.2 : Int)])
theorem one_k (k : Nat) (t : List Nat) : ∀ u ∈ tk1 (k, t, 0), u.oneCell' = true := by
 unfold tk1
 simp
 exact ⟨rfl, rfl, rfl⟩
theorem none_any (w : World) : Calls Tryz.prog 52 #[] w fun e w' => e = .returned (.tuple #[.agg (tk1 (0, [], 0)).toArray, .int .i64 0]) /\ Hid (Below w.heap.size w w') := by
 go_enter Tryz.func52, Tryz.ntmps52
 go_wp2_with (refine al_zero rfl 32 rfl tkZ zTk ?_)
 intro g w1 hg bz gr
 go_wp2_with (refine st_all rfl 32 (.tmp 0) (.tmp 2) rfl g 32 tkZ tkZ rfl rfl bz rfl sTk (one_k 0 []) ?_)
 intro w2 b2 g2
 have HB2 : Hid (Below w.heap.size w w2) := below_new gr hg g2
 have HK : Hid (Blk w2 g 32 (tk1 (0, [], 0))) := b2
 clear b2 g2 gr bz
 go_wp2
 refine bodyPost_ret (res_two rfl _ g 32 _ _ rfl HK.out Tryz.underlying32 rfl sTk) rfl ?_
 exact ⟨rfl, HB2.out⟩
theorem word_any (s : ByteArray) (hs : s.size <= 4096) (w : World) : Calls Tryz.prog 35 #[.string s] w fun e w' => e = AnsE (if isW (sml ((bts s).takeWhile isNm)) then (2, sml ((bts s).takeWhile isNm), ((bts s).takeWhile isNm).length) else (1, (bts s).takeWhile isNm, ((bts s).takeWhile isNm).length)) /\ Hid (Below w.heap.size w w') := by
 obtain ⟨X, HX⟩ : ∃ X : Nat × List Nat × Nat, Hid ((if isW (sml ((bts s).takeWhile isNm)) then (2, sml ((bts s).takeWhile isNm), ((bts s).takeWhile isNm).length) else (1, (bts s).takeWhile isNm, ((bts s).takeWhile isNm).length)) = X) := ⟨_, rfl⟩
 rw [HX.out]
 have hle : ((bts s).takeWhile isNm).length <= s.size := by rw [<- bts_len s]; exact tw_le _ _
 have hpre : bts (s.extract 0 ((bts s).takeWhile isNm).length) = (bts s).takeWhile isNm := by
  have h := bts_midL s 0 ((bts s).takeWhile isNm).length (by omega)
  rw [Nat.zero_add, List.drop_zero] at h
  rw [h]
  exact List.prefix_iff_eq_take.1 (List.takeWhile_prefix _) |>.symm
 have KR := fun W => run_any cDg cLt isNm inC_nm (by decide) (by decide) s (by omega) W
 obtain ⟨n, hn⟩ : ∃ n, ((bts s).takeWhile isNm).length = n := ⟨_, rfl⟩
 have hoct : ∀ x ∈ bts (s.extract 0 n), x < 128 := fun x hx => by
  rw [<- hn, hpre] at hx
  have h := tw_mem (f := isNm) (bts s) x hx
  unfold isNm isLt isDg at h
  simp at h
  omega
 rw [hn] at hpre hle KR HX
 have HP : Hid (bts (s.extract 0 n) = (bts s).takeWhile isNm) := hpre
 have hsz : (s.extract 0 n).size <= 4096 := by rw [<- bts_len, hpre]; have := tw_le isNm (bts s); rw [bts_len] at this; omega
 have x1 : (n : Int) <= (s.size : Int) := by omega
 have KT := fun W => tlow_any (s.extract 0 n) (by omega) hoct W
 rw [hpre] at KT
 have KW := fun W => isWord_any (ofB (sml ((bts s).takeWhile isNm))) W
 have hob : bts (ofB (sml ((bts s).takeWhile isNm))) = sml ((bts s).takeWhile isNm) := bts_ofB _ (sml_oct (fun x hx => by
  have h := tw_mem (f := isNm) (bts s) x hx
  unfold isNm isLt isDg at h
  simp at h
  omega))
 rw [hob] at KW
 have hofp : ofB ((bts s).takeWhile isNm) = s.extract 0 n := by rw [<- hpre, ofB_bts]
 have HOP : Hid (ofB ((bts s).takeWhile isNm) = s.extract 0 n) := hofp
 clear hob hoct hpre hsz hofp hn hs
 go_enter Tryz.func35, Tryz.ntmps35
 go_wp2_with (refine al_zero rfl 32 rfl tkZ zTk ?_)
 intro g w1 hg bz gr
 have HZ1 : Hid (Blk w1 g 32 tkZ) := bz
 have HB1 : Hid (Below w.heap.size w w1) := (Below.refl _ _).grown gr (Nat.le_refl _) (fun k e => by cases e)
 clear bz gr
 go_wp2_with fail
 refine (letters_any _).mono ?_
 rintro e w2 ⟨rfl, q⟩
 have HZ2 : Hid (Blk w2 g 32 tkZ) := HZ1.out.below (Hid.out q) HZ1.out.lt
 have HB2 : Hid (Below w.heap.size w w2) := HB1.out.trans ((Hid.out q).mono HB1.out.size)
 clear q HZ1 HB1
 go_wp2_with fail
 refine (digits_any _).mono ?_
 rintro e w3 ⟨rfl, q⟩
 have HZ3 : Hid (Blk w3 g 32 tkZ) := HZ2.out.below (Hid.out q) HZ2.out.lt
 have HB3 : Hid (Below w.heap.size w w3) := HB2.out.trans ((Hid.out q).mono HB2.out.size)
 clear q HZ2 HB2
 go_wp2_with fail
 refine (or_any _).mono ?_
 rintro e w4 ⟨rfl, q⟩
 have HZ4 : Hid (Blk w4 g 32 tkZ) := HZ3.out.below (Hid.out q) HZ3.out.lt
 have HB4 : Hid (Below w.heap.size w w4) := HB3.out.trans ((Hid.out q).mono HB3.out.size)
 clear q HZ3 HB3
 go_wp2_with fail
 refine (KR _).mono ?_
 rintro e w5 ⟨rfl, q⟩
 have HZ5 : Hid (Blk w5 g 32 tkZ) := HZ4.out.below (Hid.out q) HZ4.out.lt
 have HB5 : Hid (Below w.heap.size w w5) := HB4.out.trans ((Hid.out q).mono HB4.out.size)
 clear q HZ4 HB4
 go_wp2_with fail
 refine (KT _).mono ?_
 rintro e w6 ⟨rfl, q⟩
 have HZ6 : Hid (Blk w6 g 32 tkZ) := HZ5.out.below q HZ5.out.lt
 have HB6 : Hid (Below w.heap.size w w6) := HB5.out.trans (q.mono HB5.out.size)
 clear q HZ5 HB5
 go_wp2_with fail
 refine (KW _).mono ?_
 rintro e w7 ⟨rfl, q⟩
 subst q
 cases hW : isW (sml ((bts s).takeWhile isNm)) with
 | true =>
   rw [hW, if_pos rfl] at HX
   go_wp2_with (refine st_all rfl 32 (.tmp 2) (.tmp 18) rfl g 32 tkZ (tk1 (2, sml ((bts s).takeWhile isNm), 0)) rfl rfl HZ6.out rfl sTk (one_k _ _) ?_)
   intro w98 b98 g98
   have HBB : Hid (Below w.heap.size w w98) := HB6.out.grown g98 HB6.out.size (fun k e => by injection e with e; omega)
   have HZZ : Hid (Blk w98 g 32 (tk1 (2, sml ((bts s).takeWhile isNm), 0))) := b98
   clear b98 g98 HZ6 HB6
   go_wp2
   refine bodyPost_ret (res_two rfl _ g 32 _ _ rfl HZZ.out Tryz.underlying32 rfl sTk) rfl ?_
   rw [<- HX.out]
   exact ⟨rfl, HBB.out⟩
 | false =>
   rw [hW, if_neg (by decide)] at HX
   go_wp2_with (refine st_all rfl 32 (.tmp 2) (.tmp 23) rfl g 32 tkZ (tk1 (1, (bts s).takeWhile isNm, 0)) rfl (by unfold tk1; rw [HOP.out]; rfl) HZ6.out rfl sTk (one_k _ _) ?_)
   intro w98 b98 g98
   have HBB : Hid (Below w.heap.size w w98) := HB6.out.grown g98 HB6.out.size (fun k e => by injection e with e; omega)
   have HZZ : Hid (Blk w98 g 32 (tk1 (1, (bts s).takeWhile isNm, 0))) := b98
   clear b98 g98 HZ6 HB6
   go_wp2
   refine bodyPost_ret (res_two rfl _ g 32 _ _ rfl HZZ.out Tryz.underlying32 rfl sTk) rfl ?_
   rw [<- HX.out]
   exact ⟨rfl, HBB.out⟩
end Go.Proofs.YtpfiejmhnkcjbaaGreatDoor
