/-
  The program's lex: which texts are words. · The program's lex: words, names in marks, signs.
-/
import Derived.Test.YtpfiejmhnkcjbaaGreatDoorELye
import Derived.Test.YtpfiejmhnkcjbaaGreatDoorEG12x
namespace Go.Proofs.YtpfiejmhnkcjbaaGreatDoor
open Go.RowKit Lx
set_option linter.unusedVariables false
set_option linter.unusedSimpArgs false
theorem tl_nat (s : ByteArray) (L : List UInt8) : (s.toList == L) = (bts s == L.map UInt8.toNat) := by
  rw [ByteArray.toList_eq, Bool.eq_iff_iff, beq_iff_eq, beq_iff_eq]
  unfold bts
  exact ⟨fun h => by rw [h], fun h => (List.map_inj_right (fun _ _ => UInt8.toNat_inj.1)).1 h⟩
theorem isW_yes {s : ByteArray} {L : List UInt8} (h : (s.toList == L) = true) (hL : isW (L.map UInt8.toNat) = true) : isW (bts s) = true := by
  rw [tl_nat] at h
  rw [eq_of_beq h, hL]
set_option maxRecDepth 8000 in
set_option maxHeartbeats 2000000 in
theorem isWord_any (s : ByteArray) (w : World) : Calls Tryz.prog 49 #[.string s] w fun e w' => e = .returned (.bool (isW (bts s))) ∧ w' = w := by
  go_enter Tryz.func49, Tryz.ntmps49
  go_wp2
  all_goals first
    | (exfalso
       rename_i h1 h2
       rw [h1] at h2
       cases h2
       done)
    | (rename_i h
       go_ret
       rw [isW_yes h rfl]
       exact ⟨rfl, rfl⟩)
    | skip
  have hn : isW (bts s) = false := by
    simp only [tl_nat] at *
    rw [Bool.eq_false_iff]
    intro h
    have hm : bts s ∈ words := List.contains_iff_mem.1 h
    unfold words at hm
    simp only [List.mem_cons, List.not_mem_nil, or_false] at hm
    simp_all
  rw [hn]
  go_ret
  exact ⟨rfl, rfl⟩
end Go.Proofs.YtpfiejmhnkcjbaaGreatDoor
namespace Go.Proofs.YtpfiejmhnkcjbaaGreatDoor
open Go.RowKit Lx
set_option linter.unusedVariables false
set_option linter.unusedSimpArgs false
theorem sTk : (Tryz.prog.info? 32).map (·.size) = some 3 := by kernel_rfl
def tkZ : List Value := [.int .i64 0, .string ⟨#[]⟩, .int .i64 0]
theorem zTk : (Tryz.prog.info? 32).map (fun i => i.zero.map (·.cells)) = some (some (List.toArray [.int .i64 0, .string ⟨#[]⟩, .int .i64 0])) := by kernel_rfl
/-- A token and how many bytes it has, as they are answered. -/
def AnsE (x : Nat × List Nat × Nat) : Ending := .returned (.tuple #[.agg (tk1 (x.1, x.2.1, 0)).toArray, .int .i64 (x.2.2 : Int)])
theorem one_k (k : Nat) (t : List Nat) : ∀ u ∈ tk1 (k, t, 0), u.oneCell' = true := by
  unfold tk1
  simp
  exact ⟨rfl, rfl, rfl⟩
set_option maxRecDepth 8000 in
theorem none_any (w : World) : Calls Tryz.prog 52 #[] w fun e w' => e = .returned (.tuple #[.agg (tk1 (0, [], 0)).toArray, .int .i64 0]) ∧ Hid (Below w.heap.size w w') := by
  go_enter Tryz.func52, Tryz.ntmps52
  go_wp2_with (refine al_zero rfl 32 rfl tkZ zTk ?_)
  intro g w1 hg bz gr
  go_wp2_with (refine st_all rfl 32 (.tmp 0) (.tmp 2) rfl g 32 tkZ tkZ rfl rfl bz rfl sTk (one_k 0 []) ?_)
  intro w2 b2 g2
  have HB2 : Hid (Below w.heap.size w w2) := below_new gr hg g2
  have HK : Hid (Blk w2 g 32 (tk1 (0, [], 0))) := b2
  clear b2 g2 gr bz
  go_wp2
  refine bodyPost_ret (res_two rfl _ g 32 _ _ rfl HK.out Tryz.underlying32 rfl sTk) rfl ?_
  exact ⟨rfl, HB2.out⟩
set_option maxRecDepth 8000 in
set_option maxHeartbeats 2000000 in
theorem word_any (s : ByteArray) (hs : s.size ≤ 4096) (w : World) : Calls Tryz.prog 35 #[.string s] w fun e w' => e = AnsE (if isW (sml ((bts s).takeWhile isNm)) then (2, sml ((bts s).takeWhile isNm), ((bts s).takeWhile isNm).length) else (1, (bts s).takeWhile isNm, ((bts s).takeWhile isNm).length)) ∧ Hid (Below w.heap.size w w') := by
  obtain ⟨X, HX⟩ : ∃ X : Nat × List Nat × Nat, Hid ((if isW (sml ((bts s).takeWhile isNm)) then (2, sml ((bts s).takeWhile isNm), ((bts s).takeWhile isNm).length) else (1, (bts s).takeWhile isNm, ((bts s).takeWhile isNm).length)) = X) := ⟨_, rfl⟩
  rw [HX.out]
  have hle : ((bts s).takeWhile isNm).length ≤ s.size := by rw [← bts_len s]; exact tw_le _ _
  have hpre : bts (s.extract 0 ((bts s).takeWhile isNm).length) = (bts s).takeWhile isNm := by
    have h := bts_midL s 0 ((bts s).takeWhile isNm).length (by omega)
    rw [Nat.zero_add, List.drop_zero] at h
    rw [h]
    exact List.prefix_iff_eq_take.1 (List.takeWhile_prefix _) |>.symm
  have KR := fun W => run_any cDg cLt isNm inC_nm (by decide) (by decide) s (by omega) W
  obtain ⟨n, hn⟩ : ∃ n, ((bts s).takeWhile isNm).length = n := ⟨_, rfl⟩
  have hoct : ∀ x ∈ bts (s.extract 0 n), x < 128 := fun x hx => by
    rw [← hn, hpre] at hx
    have h := tw_mem (f := isNm) (bts s) x hx
    unfold isNm isLt isDg at h
    simp at h
    omega
  rw [hn] at hpre hle KR HX
  have HP : Hid (bts (s.extract 0 n) = (bts s).takeWhile isNm) := hpre
  have hsz : (s.extract 0 n).size ≤ 4096 := by rw [← bts_len, hpre]; have := tw_le isNm (bts s); rw [bts_len] at this; omega
  have x1 : (n : Int) ≤ (s.size : Int) := by omega
  have KT := fun W => tlow_any (s.extract 0 n) (by omega) hoct W
  rw [hpre] at KT
  have KW := fun W => isWord_any (ofB (sml ((bts s).takeWhile isNm))) W
  have hob : bts (ofB (sml ((bts s).takeWhile isNm))) = sml ((bts s).takeWhile isNm) := bts_ofB _ (sml_oct (fun x hx => by
    have h := tw_mem (f := isNm) (bts s) x hx
    unfold isNm isLt isDg at h
    simp at h
    omega))
  rw [hob] at KW
  have hofp : ofB ((bts s).takeWhile isNm) = s.extract 0 n := by rw [← hpre, ofB_bts]
  have HOP : Hid (ofB ((bts s).takeWhile isNm) = s.extract 0 n) := hofp
  clear hob hoct hpre hsz hofp hn hs
  go_enter Tryz.func35, Tryz.ntmps35
  go_wp2_with (refine al_zero rfl 32 rfl tkZ zTk ?_)
  intro g w1 hg bz gr
  have HZ1 : Hid (Blk w1 g 32 tkZ) := bz
  have HB1 : Hid (Below w.heap.size w w1) := (Below.refl _ _).grown gr (Nat.le_refl _) (fun k e => by cases e)
  clear bz gr
  go_wp2_with fail
  refine (letters_any _).mono ?_
  rintro e w2 ⟨rfl, q⟩
  have HZ2 : Hid (Blk w2 g 32 tkZ) := HZ1.out.below (Hid.out q) HZ1.out.lt
  have HB2 : Hid (Below w.heap.size w w2) := HB1.out.trans ((Hid.out q).mono HB1.out.size)
  clear q HZ1 HB1
  go_wp2_with fail
  refine (digits_any _).mono ?_
  rintro e w3 ⟨rfl, q⟩
  have HZ3 : Hid (Blk w3 g 32 tkZ) := HZ2.out.below (Hid.out q) HZ2.out.lt
  have HB3 : Hid (Below w.heap.size w w3) := HB2.out.trans ((Hid.out q).mono HB2.out.size)
  clear q HZ2 HB2
  go_wp2_with fail
  refine (or_any _).mono ?_
  rintro e w4 ⟨rfl, q⟩
  have HZ4 : Hid (Blk w4 g 32 tkZ) := HZ3.out.below (Hid.out q) HZ3.out.lt
  have HB4 : Hid (Below w.heap.size w w4) := HB3.out.trans ((Hid.out q).mono HB3.out.size)
  clear q HZ3 HB3
  go_wp2_with fail
  refine (KR _).mono ?_
  rintro e w5 ⟨rfl, q⟩
  have HZ5 : Hid (Blk w5 g 32 tkZ) := HZ4.out.below (Hid.out q) HZ4.out.lt
  have HB5 : Hid (Below w.heap.size w w5) := HB4.out.trans ((Hid.out q).mono HB4.out.size)
  clear q HZ4 HB4
  go_wp2_with fail
  refine (KT _).mono ?_
  rintro e w6 ⟨rfl, q⟩
  have HZ6 : Hid (Blk w6 g 32 tkZ) := HZ5.out.below q HZ5.out.lt
  have HB6 : Hid (Below w.heap.size w w6) := HB5.out.trans (q.mono HB5.out.size)
  clear q HZ5 HB5
  go_wp2_with fail
  refine (KW _).mono ?_
  rintro e w7 ⟨rfl, q⟩
  subst q
  cases hW : isW (sml ((bts s).takeWhile isNm)) with
  | true =>
    rw [hW, if_pos rfl] at HX
    go_wp2_with (refine st_all rfl 32 (.tmp 2) (.tmp 18) rfl g 32 tkZ (tk1 (2, sml ((bts s).takeWhile isNm), 0)) rfl rfl HZ6.out rfl sTk (one_k _ _) ?_)
    intro w98 b98 g98
    have HBB : Hid (Below w.heap.size w w98) := HB6.out.grown g98 HB6.out.size (fun k e => by injection e with e; omega)
    have HZZ : Hid (Blk w98 g 32 (tk1 (2, sml ((bts s).takeWhile isNm), 0))) := b98
    clear b98 g98 HZ6 HB6
    go_wp2
    refine bodyPost_ret (res_two rfl _ g 32 _ _ rfl HZZ.out Tryz.underlying32 rfl sTk) rfl ?_
    rw [← HX.out]
    exact ⟨rfl, HBB.out⟩
  | false =>
    rw [hW, if_neg (by decide)] at HX
    go_wp2_with (refine st_all rfl 32 (.tmp 2) (.tmp 23) rfl g 32 tkZ (tk1 (1, (bts s).takeWhile isNm, 0)) rfl (by unfold tk1; rw [HOP.out]; rfl) HZ6.out rfl sTk (one_k _ _) ?_)
    intro w98 b98 g98
    have HBB : Hid (Below w.heap.size w w98) := HB6.out.grown g98 HB6.out.size (fun k e => by injection e with e; omega)
    have HZZ : Hid (Blk w98 g 32 (tk1 (1, (bts s).takeWhile isNm, 0))) := b98
    clear b98 g98 HZ6 HB6
    go_wp2
    refine bodyPost_ret (res_two rfl _ g 32 _ _ rfl HZZ.out Tryz.underlying32 rfl sTk) rfl ?_
    rw [← HX.out]
    exact ⟨rfl, HBB.out⟩
end Go.Proofs.YtpfiejmhnkcjbaaGreatDoor
