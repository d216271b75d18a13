/-
  The law TextPlain, walked. · The law's great of chapter 9. · The law TextOne, walked. · The table of tens, out of what the rows of chapter 9 list.
-/
import Derived.Test.YtmlfhplhiedfjaaGreatDoorBG48x
import Derived.Test.YtmlfhplhiedfjaaGreatDoorBGrt
import Derived.MakeChecks
import Derived.Stop.LaidErr
namespace Go.Proofs.YtmlfhplhiedfjaaGreatDoor
open Go.RowKit Math
set_option linter.unusedVariables false
set_option linter.unusedSimpArgs false
set_option maxRecDepth 8000 in
set_option maxHeartbeats 4000000 in
theorem plain_walk (a : Option Addr) (cap : Nat) (l : List Nat) (hcl : l.length ≤ cap) (hcm : cap ≤ 140737488351232) (hnil : a = none → cap = 0) (ho : Oct l) (name : ByteArray) (hn : name.size ≤ 4611686018427387904) (W : World) (hb : Byt W a l) (ht : D6.Ptab W) :
    Calls Tryz.prog 6 #[.slice a l.length cap, .string name] W fun e w' => e = .returned (.bool true) ∧ Below W.heap.size W w' := by
  have HTb : Hid (D6.Ptab W) := ht
  clear ht
  by_cases h500 : 500 < l.length + name.size
  · have hi : (500 : Int) < (l.length : Int) + (name.size : Int) := by omega
    clear hb
    go_enter Tryz.func6, Tryz.ntmps6
    go_wp2
    go_ret
    exact ⟨rfl, Below.refl _ _⟩
  by_cases h1 : name.size < 1
  · have hi : ¬ (500 : Int) < (l.length : Int) + (name.size : Int) := by omega
    have hj : (name.size : Int) < 1 := by omega
    clear hb
    go_enter Tryz.func6, Tryz.ntmps6
    go_wp2
    go_ret
    exact ⟨rfl, Below.refl _ _⟩
  by_cases h40 : 40 < name.size
  · have hi : ¬ (500 : Int) < (l.length : Int) + (name.size : Int) := by omega
    have hj : ¬ (name.size : Int) < 1 := by omega
    have hk : (40 : Int) < (name.size : Int) := by omega
    clear hb
    go_enter Tryz.func6, Tryz.ntmps6
    go_wp2
    go_ret
    exact ⟨rfl, Below.refl _ _⟩
  have hi : ¬ (500 : Int) < (l.length : Int) + (name.size : Int) := by omega
  have hj : ¬ (name.size : Int) < 1 := by omega
  have hk : ¬ (40 : Int) < (name.size : Int) := by omega
  have hxz : (ofB l).size ≤ 500 := by rw [ofB_size]; omega
  obtain ⟨x, hx⟩ : ∃ x, ofB l = x := ⟨_, rfl⟩
  have hcv := conv_byt9 (c := cap) (w := W.alloc (Obj.cells #[.string name] 9)) (hb.below ((Below.refl _ _).alloc (Nat.le_refl _) _)) ho hnil
  rw [hx] at hcv hxz
  have HP : Hid (WfV (pl9 name x) ∧ ws (pl9 name x) ≤ 60 ∧ encE (pl9 name x) = 0) := ⟨pl9_wf name x (by omega) hxz, pl9_ws name x hxz, pl9_enc name x (by omega) (by omega) hxz⟩
  obtain ⟨W3, HW3⟩ : ∃ W3, Hid (((W.alloc (Obj.cells #[.string name] 9)).alloc (Obj.cells #[.int .i64 6, .int .i64 0, .int .i64 0, .string x, .slice none 0 0, .slice none 0 0, .int .i64 7, .int .i64 0, .int .i64 0, .string x, .slice none 0 0, .slice none 0 0] 38)).alloc (Obj.cells #[.int .i64 8, .int .i64 0, .int .i64 0, .string ⟨#[]⟩, .slice none 0 0, .slice (some ⟨W.heap.size + 1, 0, none⟩) 2 2] 38) = W3) := ⟨_, rfl⟩
  have HB3 : Hid (Below W.heap.size W W3) := by rw [← HW3.out]; exact (((Below.refl _ _).alloc (Nat.le_refl _) _).alloc (by simp) _).alloc (by simp; omega) _
  have HV3 : Hid (Vl W3 (pl9 name x) (some ⟨W.heap.size, 0, none⟩) 1 (some ⟨W.heap.size + 1 + 1, 0, none⟩) 1) := by
    have e1 := blk_new W 9 [.string name]
    have e2 := blk_new (W.alloc (Obj.cells #[.string name] 9)) 38 (six ⟨6, 0, 0, x, []⟩ none 0 none 0 0 ++ six ⟨7, 0, 0, x, []⟩ none 0 none 0 0)
    have z1 : (W.alloc (Obj.cells #[.string name] 9)).heap.size = W.heap.size + 1 := by simp
    rw [z1] at e2
    have e3 := blk_new ((W.alloc (Obj.cells #[.string name] 9)).alloc (Obj.cells (six ⟨6, 0, 0, x, []⟩ none 0 none 0 0 ++ six ⟨7, 0, 0, x, []⟩ none 0 none 0 0).toArray 38)) 38 (six ⟨8, 0, 0, em, []⟩ none 0 (some ⟨W.heap.size + 1, 0, none⟩) 2 2)
    have z2 : ((W.alloc (Obj.cells #[.string name] 9)).alloc (Obj.cells (six ⟨6, 0, 0, x, []⟩ none 0 none 0 0 ++ six ⟨7, 0, 0, x, []⟩ none 0 none 0 0).toArray 38)).heap.size = W.heap.size + 1 + 1 := by simp
    rw [z2] at e3
    rw [← HW3.out]
    exact pl9_vl name x ((e1.alloc _).alloc _) (e2.alloc _) e3
  have hz3 : W3.heap.size = W.heap.size + 1 + 1 + 1 := by rw [← HW3.out]; simp
  have HL : Hid (l.length ≤ 500) := by show _ ≤ _; omega
  clear hb h500 h1 h40 hx
  go_enter Tryz.func6, Tryz.ntmps6
  go_wp2_with (refine al_zero rfl 38 rfl zer z25 ?_)
  intro g w4 hg bz4 gr4
  rw [HW3.out] at gr4
  have hg' : W3.heap.size ≤ g := by
    have e := hz3
    have h := hg
    omega
  go_wp2_with (refine st_all rfl 38 (.tmp 5) (.tmp 38) rfl g 38 zer (six ⟨9, 0, 0, em, [name]⟩ (some ⟨W.heap.size, 0, none⟩) 1 (some ⟨W.heap.size + 1 + 1, 0, none⟩) 1 1) rfl rfl bz4 rfl s25 (six_one _ _ _ _ _ _) ?_)
  intro w5 b5 gr5
  have HB5 : Hid (Below W3.heap.size W3 w5) := below_new gr4 hg' gr5
  have HX5 : Hid (Blk w5 g 38 (six ⟨9, 0, 0, em, [name]⟩ (some ⟨W.heap.size, 0, none⟩) 1 (some ⟨W.heap.size + 1 + 1, 0, none⟩) 1 1)) := b5
  have HBW5 : Hid (Below W.heap.size W w5) := HB3.out.trans (HB5.out.mono HB3.out.size)
  have HV5 : Hid (Vl w5 (pl9 name x) (some ⟨W.heap.size, 0, none⟩) 1 (some ⟨W.heap.size + 1 + 1, 0, none⟩) 1) := HV3.out.below HB5.out
  have K := print_any (pl9 name x) HP.out.1 (by have := HP.out.2.1; omega) (some ⟨W.heap.size, 0, none⟩) 1 (some ⟨W.heap.size + 1 + 1, 0, none⟩) 1 w5 HV5.out (ptab_below HTb.out HBW5.out)
  rw [HP.out.2.2] at K
  have HS : Hid (bts (prT (pl9 name x)) = prV (pl9 name x) ∧ Pln (prV (pl9 name x)) ∧ (prV (pl9 name x)).length ≤ 12000) := ⟨prT_yes HP.out.1 HP.out.2.2, prV_pln _ HP.out.1 (encE_chk0 HP.out.2.2), by have := prV_len _ HP.out.1 (encE_chk0 HP.out.2.2); have := HP.out.2.1; omega⟩
  obtain ⟨S, hS⟩ : ∃ S, prT (pl9 name x) = S := ⟨_, rfl⟩
  rw [hS] at K HS
  have d0 : w5.cell? ⟨g, 0, none⟩ = some (.int .i64 9) := HX5.out.cell 0
  have d1 : w5.cell? ⟨g, 1, none⟩ = some (.int .i64 0) := HX5.out.cell 1
  have d2 : w5.cell? ⟨g, 2, none⟩ = some (.int .i64 0) := HX5.out.cell 2
  have d3 : w5.cell? ⟨g, 3, none⟩ = some (.string ⟨#[]⟩) := HX5.out.cell 3
  have d4 : w5.cell? ⟨g, 4, none⟩ = some (.slice (some ⟨W.heap.size, 0, none⟩) 1 1) := HX5.out.cell 4
  have d5 : w5.cell? ⟨g, 5, none⟩ = some (.slice (some ⟨W.heap.size + 1 + 1, 0, none⟩) 1 1) := HX5.out.cell 5
  have K' : Calls Tryz.prog 18 #[.agg #[.int .i64 9, .int .i64 0, .int .i64 0, .string ⟨#[]⟩, .slice (some ⟨W.heap.size, 0, none⟩) 1 1, .slice (some ⟨W.heap.size + 1 + 1, 0, none⟩) 1 1]] w5 fun e w' => e = .returned (.tuple #[.string S, .int .i64 0]) ∧ Below w5.heap.size w5 w' := K
  clear bz4 gr4 b5 gr5 K HB5 hS hcv HW3 HV3 HB3
  go_wp2_with fail
  refine K'.mono ?_
  rintro e w6 ⟨rfl, b6⟩
  have HX6 : Hid (Blk w6 g 38 (six ⟨9, 0, 0, em, [name]⟩ (some ⟨W.heap.size, 0, none⟩) 1 (some ⟨W.heap.size + 1 + 1, 0, none⟩) 1 1)) := HX5.out.below b6 HX5.out.lt
  have HBW6 : Hid (Below W.heap.size W w6) := HBW5.out.trans (b6.mono HBW5.out.size)
  have HV6 : Hid (Vl w6 (pl9 name x) (some ⟨W.heap.size, 0, none⟩) 1 (some ⟨W.heap.size + 1 + 1, 0, none⟩) 1) := HV5.out.below b6
  have hSz : S.size ≤ 12000 := by
    have := HS.out.2.2
    rw [← HS.out.1, bts_len] at this
    exact this
  clear K' b6 HX5 HBW5 HV5 d0 d1 d2 d3 d4 d5
  go_wp2
  go_loop [8] (fun i => ∃ k : Nat, k ≤ S.size ∧ i = .int .i64 (k : Int)) (fun i => S.size - (intOf i).toNat)
  case atStart => exact ⟨0, by omega, rfl⟩
  case round =>
    obtain ⟨k, hk0, rfl⟩ := hrel
    by_cases hlt : k < S.size
    · have hpl : 32 ≤ (S[k]'hlt).toNat ∧ (S[k]'hlt).toNat ≤ 126 := by
        have h1 := bget9 S k hlt
        rw [← h1]
        apply HS.out.2.1
        rw [← HS.out.1, List.getD_eq_getElem?_getD, List.getElem?_eq_getElem (by rw [bts_len]; exact hlt)]
        exact List.getElem_mem _
      have hp1 : ¬ ((S[k]'hlt).toNat : Int) < 32 := by omega
      have hp2 : ¬ (126 : Int) < ((S[k]'hlt).toNat : Int) := by omega
      go_wp2
      go_round
      case rel => exact ⟨k + 1, by omega, by go_num⟩
      case measure => simp [intOf]; omega
    · have K7 := tparse_any S (by omega) w6 (ptab_below HTb.out HBW6.out)
      go_wp2_with fail
      refine K7.mono ?_
      rintro e w7 ⟨p, na, nc, ka, kc, E, rfl, H7⟩
      have HQ : Hid (E = 0 ∧ pl9 name x = p) := by
        rcases H7.out.ok with ⟨u1, _, _, u2⟩ | ⟨_, _, u2⟩
        · exact ⟨u1, u2 _ HP.out.1 HP.out.2.2 HS.out.1.symm⟩
        · exact absurd HS.out.1.symm (u2 (by omega) _ HP.out.1 HP.out.2.2)
      obtain rfl : E = 0 := HQ.out.1
      have HB7 : Hid (Below w6.heap.size w6 w7) := H7.out.bl
      have HV7 : Hid (Vl w7 p na nc ka kc) := H7.out.vl
      have HWp : Hid (WfV p) := H7.out.wf
      clear K7 H7
      go_wp2_with (refine al_zero rfl 38 rfl zer z25 ?_)
      intro g9 w8 hg9 bz8 gr8
      go_wp2_with (refine st_all rfl 38 (.tmp 9) (.tmp 65) rfl g9 38 zer (six p.1 na nc ka p.2.list.length kc) rfl rfl bz8 rfl s25 (six_one _ _ _ _ _ _) ?_)
      intro w9 b9 gr9
      have HB9 : Hid (Below w7.heap.size w7 w9) := below_new gr8 hg9 gr9
      have HY9 : Hid (Blk w9 g9 38 (six p.1 na nc ka p.2.list.length kc)) := b9
      have HB69 : Hid (Below w6.heap.size w6 w9) := HB7.out.trans (HB9.out.mono HB7.out.size)
      have HX9 : Hid (Blk w9 g 38 (six ⟨9, 0, 0, em, [name]⟩ (some ⟨W.heap.size, 0, none⟩) 1 (some ⟨W.heap.size + 1 + 1, 0, none⟩) 1 1)) := HX6.out.below HB69.out HX6.out.lt
      have HBW9 : Hid (Below W.heap.size W w9) := HBW6.out.trans (HB69.out.mono HBW6.out.size)
      have KQ := equal_any _ p (Nat.le_refl _) HWp.out (pl9 name x) HP.out.1 na nc ka kc (some ⟨W.heap.size, 0, none⟩) 1 (some ⟨W.heap.size + 1 + 1, 0, none⟩) 1 w9 (HV7.out.below HB9.out) (HV6.out.below HB69.out)
      have KQ' : Calls Tryz.prog 20 #[.agg #[.int .i64 p.1.k, .int .i64 p.1.n, .int .i64 p.1.s, .string p.1.t, .slice na p.1.ns.length nc, .slice ka p.2.list.length kc], .agg #[.int .i64 9, .int .i64 0, .int .i64 0, .string ⟨#[]⟩, .slice (some ⟨W.heap.size, 0, none⟩) 1 1, .slice (some ⟨W.heap.size + 1 + 1, 0, none⟩) 1 1]] w9 fun e w' => e = .returned (.bool true) ∧ Below w9.heap.size w9 w' := by
        refine KQ.mono ?_
        rintro e w' ⟨t, rfl, H⟩
        exact ⟨by rw [H.out.1.2 HQ.out.2.symm], H.out.2⟩
      have d0 : w9.cell? ⟨g, 0, none⟩ = some (.int .i64 9) := HX9.out.cell 0
      have d1 : w9.cell? ⟨g, 1, none⟩ = some (.int .i64 0) := HX9.out.cell 1
      have d2 : w9.cell? ⟨g, 2, none⟩ = some (.int .i64 0) := HX9.out.cell 2
      have d3 : w9.cell? ⟨g, 3, none⟩ = some (.string ⟨#[]⟩) := HX9.out.cell 3
      have d4 : w9.cell? ⟨g, 4, none⟩ = some (.slice (some ⟨W.heap.size, 0, none⟩) 1 1) := HX9.out.cell 4
      have d5 : w9.cell? ⟨g, 5, none⟩ = some (.slice (some ⟨W.heap.size + 1 + 1, 0, none⟩) 1 1) := HX9.out.cell 5
      have f0 : w9.cell? ⟨g9, 0, none⟩ = some (.int .i64 p.1.k) := HY9.out.cell 0
      have f1 : w9.cell? ⟨g9, 1, none⟩ = some (.int .i64 p.1.n) := HY9.out.cell 1
      have f2 : w9.cell? ⟨g9, 2, none⟩ = some (.int .i64 p.1.s) := HY9.out.cell 2
      have f3 : w9.cell? ⟨g9, 3, none⟩ = some (.string p.1.t) := HY9.out.cell 3
      have f4 : w9.cell? ⟨g9, 4, none⟩ = some (.slice na p.1.ns.length nc) := HY9.out.cell 4
      have f5 : w9.cell? ⟨g9, 5, none⟩ = some (.slice ka p.2.list.length kc) := HY9.out.cell 5
      clear bz8 gr8 b9 gr9 KQ HB9 HB7
      go_wp2_with fail
      refine KQ'.mono ?_
      rintro e wa ⟨rfl, ba⟩
      have HBa : Hid (Below W.heap.size W wa) := HBW9.out.trans (ba.mono HBW9.out.size)
      have KN := known9 wa (ptab_below HTb.out HBa.out)
      clear KQ' ba d0 d1 d2 d3 d4 d5 f0 f1 f2 f3 f4 f5 HX9 HY9 HBW9 HX6 HBW6 HV6 HV7 HB69 HS HP HQ
      go_wp2_with fail
      refine KN.mono ?_
      rintro e wb ⟨rfl, bb⟩
      have HF : Hid (Below W.heap.size W wb) := HBa.out.trans (bb.mono HBa.out.size)
      clear KN bb HBa
      go_wp2
      go_ret
      exact ⟨rfl, HF.out⟩
theorem bytes5 : Tryz.prog.bytesOf 5 = 1 := by kernel_rfl
theorem plain_row (ab : Option Addr) (len cb : Nat) (zs : List Int) (name : ByteArray) (hn : name.size ≤ 4611686018427387904) (W : World) (h : IsRow .u8 W ab len cb zs) (hcm : cb ≤ 140737488351232) (ht : D6.Ptab W) :
    Calls Tryz.prog 6 #[.slice ab len cb, .string name] W fun e w' => e = .returned (.bool true) ∧ Below W.heap.size W w' := by
  obtain ⟨l, rfl, h1, h2, h3, _⟩ := row_byt h
  refine plain_walk ab cb l ?_ hcm h3 h2 name hn W h1 ht
  rcases h with ⟨_, h, _, _⟩ | ⟨_, _, h, _⟩
  · omega
  · exact h
end Go.Proofs.YtmlfhplhiedfjaaGreatDoor
namespace Go.Proofs.YtmlfhplhiedfjaaGreatDoor
open Go.RowKit
set_option linter.unusedVariables false
set_option linter.unusedSimpArgs false
end Go.Proofs.YtmlfhplhiedfjaaGreatDoor
namespace Go.Proofs.YtmlfhplhiedfjaaGreatDoor
open Go.RowKit Math
set_option linter.unusedVariables false
set_option linter.unusedSimpArgs false
end Go.Proofs.YtmlfhplhiedfjaaGreatDoor
namespace Go.Proofs.YtmlfhplhiedfjaaGreatDoor
open Go.RowKit
set_option linter.unusedVariables false
theorem ptab9 {W : World} (h : laidMetH Tryz.prog Rows.textOneRow.laid W) : D6.Ptab W := by
  rw [MakeChecks.laidMetH_plain _ _ _ (by kernel_rfl)] at h
  have h3 : laidMet Tryz.prog [("internal/strconv.uint64pow10", Lib.tabData .u64 Lib.pow10Tab), ("unicode/utf8.acceptRanges", Rows.laid_unicode_utf8_acceptRanges), ("unicode/utf8.first", Rows.laid_unicode_utf8_first)] W := laidMet.tail (laidMet.tail h)
  exact Lib.tabIs_of_head (g := 1) (t := 194) (e := 82) (n := 20) (by kernel_rfl) (by kernel_rfl) (by kernel_rfl) (by kernel_rfl) (by kernel_rfl) (by kernel_rfl) h3
end Go.Proofs.YtmlfhplhiedfjaaGreatDoor
