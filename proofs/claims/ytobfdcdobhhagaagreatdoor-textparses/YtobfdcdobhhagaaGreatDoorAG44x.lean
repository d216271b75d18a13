/-
   · 
-/
import Derived.Test.YtobfdcdobhhagaaGreatDoorAG27x
import Derived.Test.YtobfdcdobhhagaaGreatDoorAD6Pt
import Derived.Test.YtobfdcdobhhagaaGreatDoorATa9
namespace Go.Proofs.YtobfdcdobhhagaaGreatDoor
open Go.RowKit Math
set_option linter.unusedVariables false
set_option linter.unusedSimpArgs false
theorem rparse9 (x : ByteArray) (hx : x.size <= 100000) (W : World) :
 Calls Tryz.prog 78 #[.string x] W fun e w' => ∃ (h : Hd) (E : Int), e = .returned (.tuple #[.agg #[.int .i64 h.k, .int .i64 h.n, .int .i64 h.s, .string ⟨#[]⟩, .slice none 0 0, .slice none 0 0], .int .i64 E]) /\ Hid ((Pz9 x h E /\ (x.size = 0 -> E ≠ 0)) /\ Below W.heap.size W w') := by
 obtain ⟨R, b, hm, hR, CP⟩ := D6.minus_any x
 obtain ⟨A, B, d, hc, CT⟩ := D6.cut_any R (by omega)
 obtain ⟨z1, z2, z3⟩ := cuts_size hc
 have K := D6.rParse_any x R A B b d hm (by omega) hc W
 obtain ⟨f1, f2, f3⟩ := po_fits b d R A B
 have h0 : x.size = 0 -> D6.Po.e (D6.parseV b d R A B) ≠ 0 := fun h => by
  have hA : A = ⟨#[]⟩ := by
   have h1 : A.size = 0 := by omega
   have h2 : A.data = #[] := Array.eq_empty_of_size_eq_zero h1
   cases A
   simp only at h2
   rw [h2]
  have hw : D6.wholeB A = false := by rw [hA]; decide +kernel
  unfold D6.parseV
  rw [if_neg (by rw [hw]; simp)]
  simp [D6.Po.e]
 refine K.mono ?_
 rintro e w' ⟨rfl, g⟩
 refine ⟨⟨D6.Po.k (D6.parseV b d R A B), D6.Po.n (D6.parseV b d R A B), D6.Po.s (D6.parseV b d R A B), em, []⟩, D6.Po.e (D6.parseV b d R A B), rfl, ⟨⟨rfl, rfl, f1, f2, f3, fun y hy e => ?_⟩, h0⟩, g⟩
 have hx2 : x = D6.txt y.n y.s.toNat (dcB y.n.natAbs) := by
  have h1 : bts x = bts (D6.txt y.n y.s.toNat (dcB y.n.natAbs)) := e
  rw [<- ofB_bts x, h1, ofB_bts]
 rw [hx2] at hm
 have hp := D6.parse_txt y.n y.s.toNat hy.nu (dcB y.n.natAbs) (dcB_list _) R A B b d hm hc
 rw [hp]
 refine ⟨rfl, hd9 ?_ rfl ?_ hy.t.symm hy.ns.symm⟩
 . exact hy.k.symm
 . have := hy.s0
   show ((y.s.toNat : Nat) : Int) = y.s
   omega
end Go.Proofs.YtobfdcdobhhagaaGreatDoor
namespace Go.Proofs.YtobfdcdobhhagaaGreatDoor
set_option maxHeartbeats 4000000
set_option maxRecDepth 8000
open Go.RowKit Math
set_option linter.unusedVariables false
set_option linter.unusedSimpArgs false
theorem num_fin {dp : Int} {s x s2 : ByteArray} {c : Nat} {T : List Nat} {h : Hd} {E : Int} (hT : bts s = c :: T) (hc : c ≠ 110 /\ c ≠ 116 /\ c ≠ 102 /\ c ≠ 64 /\ c ≠ 39 /\ c ≠ 35 /\ c ≠ 91 /\ c ≠ 123) (q1 : bts s = bts x ++ bts s2) (q2 : ∀ y ∈ bts x, nsg y = true) (q3 : ∀ c t, bts s2 = c :: t -> nsg c = false)
 (HP : Pz9 x h E) (h0 : x.size = 0 -> E ≠ 0) (bad' : Bool) (e1 : E = 0 -> bad' = false) (e2 : E ≠ 0 -> bad' = true) : Vx dp (bts s) false (bts s2) bad' (h, .nil) := by
 have hpos : bad' = false -> (bts s2).length < (bts s).length := fun hb => by
  have hE : E = 0 := Classical.byContradiction fun hE => by have := e2 hE; rw [hb] at this; cases this
  have hx : ¬ x.size = 0 := fun hx => h0 hx hE
  have := congrArg List.length q1
  rw [List.length_append, bts_len x] at this
  omega
 by_cases hn : c = 45 ∨ (48 <= c /\ c <= 57)
 . rw [hT] at q1 hpos ⊢
   refine vx_num hn ⟨⟨bts x, q1⟩, fun hb => (by cases hb), fun _ y m ⟨hy, hm⟩ e => ?_⟩ ⟨HP.t, HP.ns⟩ hpos
   obtain ⟨c', t, ec, _, en⟩ := pN_first _ _ hy.nu
   rw [q1] at e
   obtain ⟨u1, u2⟩ := run_uni e q2 q3 (by unfold pNh; rw [ec]; exact en) hm
   obtain ⟨v1, v2⟩ := HP.co y hy u1
   exact ⟨e1 v1, v2, u2⟩
 . refine ⟨⟨⟨bts x, q1⟩, fun hb => (by cases hb), fun _ y m ⟨w1, hck, _⟩ e => ?_⟩, fun hb => ?_⟩
   . exfalso
     rw [hT] at e
     have := first_of w1 hck e
     unfold fst9 at this
     omega
   . have := hpos hb
     show wsH h + 0 + _ <= _
     unfold wsH
     rw [HP.t, HP.ns]
     simp only [List.length_nil]
     rw [show em.size = 0 from rfl]
     omega
theorem rv_num (dp : Int) (r : Nat) (s : ByteArray) (W : World) (hs : s.size <= 100000) (hb : Blk W r 79 [.string s, .bool false]) (hdp : dp <= 16) (c : Nat) (T : List Nat) (hT : bts s = c :: T) (hc : c ≠ 110 /\ c ≠ 116 /\ c ≠ 102 /\ c ≠ 64 /\ c ≠ 39 /\ c ≠ 35 /\ c ≠ 91 /\ c ≠ 123) :
 Calls Tryz.prog 36 #[.pointer (some ⟨r, 0, none⟩), .int .i64 dp] W fun e w' => ∃ (p : Vt) (na : Option Addr) (nc : Nat) (ka : Option Addr) (kc : Nat) (s' : ByteArray) (bad' : Bool), e = .returned (.agg #[.int .i64 p.1.k, .int .i64 p.1.n, .int .i64 p.1.s, .string p.1.t, .slice na p.1.ns.length nc, .slice ka p.2.list.length kc]) /\ Hid (Vq9 dp r W w' s s' false bad' p na nc ka kc) := by
 have he : s.toList.isEmpty = false := by
  cases hh : s.toList.isEmpty with
  | true =>
    have := (empty9 s).1 hh
    rw [<- bts_len, hT] at this
    simp at this
  | false => rfl
 have hd : decide ((16 : Int) < dp) = false := decide_eq_false (by omega)
 have hi := idx0 s c T hT
 have HT : Hid (bts s = c :: T) := hT
 have HC : Hid (c ≠ 110 /\ c ≠ 116 /\ c ≠ 102 /\ c ≠ 64 /\ c ≠ 39 /\ c ≠ 35 /\ c ≠ 91 /\ c ≠ 123) := hc
 have e110 : ((c : Int) == 110) = false := by simp; omega
 have e116 : ((c : Int) == 116) = false := by simp; omega
 have e102 : ((c : Int) == 102) = false := by simp; omega
 have e64 : ((c : Int) == 64) = false := by simp; omega
 have e39 : ((c : Int) == 39) = false := by simp; omega
 have e35 : ((c : Int) == 35) = false := by simp; omega
 have e91 : ((c : Int) == 91) = false := by simp; omega
 have e123 : ((c : Int) == 123) = false := by simp; omega
 clear hT hc
 have hrW : r < W.heap.size := hb.lt
 have HB : Hid (Blk W r 79 [.string s, .bool false]) := hb
 clear hb
 go_enter Tryz.func36, Tryz.ntmps36
 go_wp2_with (refine al_zero rfl 38 rfl zer z25 ?_)
 intro g4 w1 hg4 b1 gr1
 have HK1 : Hid (Kq r W w1 s false) := ⟨HB.out.kept gr1 (by simp), ⟨gr1.os, gr1.tape, gr1.output, gr1.size, fun x hx hne => gr1.block x hx (by simp)⟩⟩
 have HZ1 : Hid (Blk w1 g4 38 zer) := b1
 have hg4l : g4 < w1.heap.size := b1.lt
 have hW1 : W.heap.size <= w1.heap.size := gr1.size
 clear b1 gr1 HB
 have c0 : w1.cell? ⟨r, 0, none⟩ = some (.string s) := HK1.out.blk.cell 0
 have c1 : w1.cell? ⟨r, 1, none⟩ = some (.bool false) := HK1.out.blk.cell 1
 have HI0 : Hid (Kq r W w1 s false /\ Blk w1 g4 38 zer /\ ∀ x ∈ (bts s).take 0, nsg x = true) := ⟨HK1.out, HZ1.out, fun x hx => by simp at hx⟩
 clear HK1 HZ1
 go_wp2
 clear c0 c1 hi
 go_loopw [10] (fun i wr => ∃ (j : Nat), j <= s.size /\ i = .int .i64 (j : Int) /\ Hid (Kq r W wr s false /\ Blk wr g4 38 zer /\ ∀ x ∈ (bts s).take j, nsg x = true)) (fun i _ => s.size - (intOf i).toNat)
 case atStart => exact ⟨0, by omega, rfl, HI0.out⟩
 case round =>
  clear HI0
  obtain ⟨j, hj, rfl, HJ⟩ := hrel
  have HK : Hid (Kq r W wr s false) := HJ.out.1
  have HZ : Hid (Blk wr g4 38 zer) := HJ.out.2.1
  have HT2 : Hid (∀ x ∈ (bts s).take j, nsg x = true) := HJ.out.2.2
  have c0 : wr.cell? ⟨r, 0, none⟩ = some (.string s) := HK.out.blk.cell 0
  have hji : (j : Int) <= (s.size : Int) := by omega
  have HFin0 : Hid ((∀ c t, (bts s).drop j = c :: t -> nsg c = false) -> ∀ h E, Pz9 (s.extract 0 j) h E -> ((s.extract 0 j).size = 0 -> E ≠ 0) -> ∀ bad', (E = 0 -> bad' = false) -> (E ≠ 0 -> bad' = true) -> Vx dp (bts s) false (bts (s.extract j s.size)) bad' (h, .nil)) := fun h3 h E hp h0 bad' e1 e2 => by
   have x1 : bts (s.extract 0 j) = (bts s).take j := by rw [bts_ext]; simp
   have x2 : bts (s.extract j s.size) = (bts s).drop j := by rw [bts_ext, List.take_of_length_le (by rw [List.length_drop, bts_len]; omega)]
   exact num_fin HT.out HC.out (by rw [x1, x2, List.take_append_drop]) (by rw [x1]; exact HT2.out) (by rw [x2]; exact h3) hp h0 bad' e1 e2
  clear HJ
  by_cases hj2 : j < s.size
  case neg =>
   have HFin := Lib.hid (HFin0.out fun c t e => by
    rw [List.drop_of_length_le (by rw [bts_len]; omega)] at e
    cases e)
   clear HFin0
   have KP := rparse9 (s.extract 0 j) (by rw [ByteArray.size_extract]; omega) wr
   clear HT2
   go_wp2_with fail
   refine KP.mono ?_
   rintro e w3 ⟨h, E, rfl, H3⟩
   have HVX := Lib.hid (HFin.out h E H3.out.1.1 H3.out.1.2)
   have HPt : Hid (h.t = em /\ h.ns = []) := ⟨H3.out.1.1.t, H3.out.1.1.ns⟩
   have HWF : Hid (WfV (⟨h.k, h.n, h.s, em, []⟩, .nil)) := by
    have q := H3.out.1.1
    have q1 := q.k0
    exact wf_leaf9 h.k h.n h.s em (by omega) q.n0 q.s0 (by decide)
   have HB3 : Hid (Below wr.heap.size wr w3) := H3.out.2
   have HK3 : Hid (Kq r W w3 s false) := HK.out.then HB3.out
   have HG3 : Hid (Blk w3 g4 38 zer) := HZ.out.below HB3.out HZ.out.lt
   have hwW : W.heap.size <= w3.heap.size := HK3.out.gr.size
   have hg3 : g4 < w3.heap.size := HG3.out.lt
   clear KP H3 HB3 HK HZ HFin c0
   go_wp2_with (refine al_zero rfl 38 rfl zer z25 ?_)
   intro g11 w4 hg11 bz4 gr4
   go_wp2_with (refine st_all rfl 38 (.tmp 11) (.tmp 283) rfl g11 38 zer (six ⟨h.k, h.n, h.s, em, []⟩ none 0 none 0 0) rfl rfl bz4 rfl s25 (six_one _ _ _ _ _ _) ?_)
   intro w5 b5 gr5
   have HB5 : Hid (Below w3.heap.size w3 w5) := below_new gr4 hg11 gr5
   have HV5 : Hid (Blk w5 g11 38 (six ⟨h.k, h.n, h.s, em, []⟩ none 0 none 0 0)) := b5
   have HK5 : Hid (Kq r W w5 s false) := HK3.out.then HB5.out
   have HG5 : Hid (Blk w5 g4 38 zer) := HG3.out.below HB5.out HG3.out.lt
   have f1 : w5.cell? ⟨r, 1, none⟩ = some (.bool false) := HK5.out.blk.cell 1
   have hgr : g11 ≠ r := by omega
   clear bz4 gr4 b5 gr5 HB5 HK3 HG3
   obtain ⟨bb, hEb, HVR⟩ : ∃ bb, (E != 0) = bb /\ Hid (Vx dp (bts s) false (bts (s.extract j s.size)) bb (h, .nil)) := by
    by_cases hE : E = 0
    . exact ⟨false, by simpa using hE, HVX.out false (fun _ => rfl) (fun h => absurd hE h)⟩
    . exact ⟨true, by simpa using hE, HVX.out true (fun h => absurd h hE) (fun _ => rfl)⟩
   clear HVX
   go_wp2_with (refine st_one rfl 4 (.tmp 295) (.tmp 293) rfl r 1 79 [.string s, .bool false] (.bool bb) rfl rfl rfl rfl (by simp) HK5.out.blk sz4 ?_)
   intro w6 b6 gr6
   have HK6 : Hid (Kq r W w6 s bb) := HK5.out.trans ⟨b6, gr6⟩
   have HG6 : Hid (Blk w6 g4 38 zer) := HG5.out.kept gr6 (by intro c; injection c with c; omega)
   have HV6 : Hid (Blk w6 g11 38 (six ⟨h.k, h.n, h.s, em, []⟩ none 0 none 0 0)) := HV5.out.kept gr6 (by intro c; injection c with c; omega)
   have f0 : w6.cell? ⟨r, 0, none⟩ = some (.string s) := HK6.out.blk.cell 0
   clear b6 gr6 HK5 HG5 HV5 f1
   go_wp2_with (refine st_one rfl 9 (.tmp 304) (.tmp 302) rfl r 0 79 [.string s, .bool bb] (.string (s.extract j s.size)) rfl rfl rfl rfl (by simp) HK6.out.blk sz9 ?_)
   intro w7 b7 gr7
   have HK7 : Hid (Kq r W w7 (s.extract j s.size) bb) := HK6.out.trans ⟨b7, gr7⟩
   have HG7 : Hid (Blk w7 g4 38 zer) := HG6.out.kept gr7 (by intro c; injection c with c; omega)
   have HV7 : Hid (Blk w7 g11 38 (six ⟨h.k, h.n, h.s, em, []⟩ none 0 none 0 0)) := HV6.out.kept gr7 (by intro c; injection c with c; omega)
   clear b7 gr7 HK6 HG6 HV6 f0
   go_wp2_with (first
    | refine D6.ld_all rfl 38 (.tmp 11) rfl g11 38 _ _ rfl HV7.out Tryz.underlying38 rfl s25 ?_
    | refine st_all rfl 38 (.tmp 4) (.tmp 305) rfl g4 38 zer (six ⟨h.k, h.n, h.s, em, []⟩ none 0 none 0 0) rfl rfl HG7.out rfl s25 (six_one _ _ _ _ _ _) ?_)
   intro w9 b9 g9
   have HB9 : Hid (Blk w9 g4 38 (six ⟨h.k, h.n, h.s, em, []⟩ none 0 none 0 0)) := b9
   have HQ : Hid (Vq9 dp r W w9 s (s.extract j s.size) false bb (⟨h.k, h.n, h.s, em, []⟩, .nil) none 0 none 0) := by
    refine ⟨kq_kept HK7.out g9 hg4 hrW, ⟨[], vl_leaf9 _ _ _ _ _, fun x hx => by cases hx⟩, HWF.out, ?_⟩
    have hv := HVR.out
    have e1 := HPt.out.1
    have e2 := HPt.out.2
    obtain ⟨k0, n0, s0, t0, ns0⟩ := h
    simp only at e1 e2 hv ⊢
    subst e1 e2
    exact hv
   clear b9 g9 HK7 HG7 HV7 HVR HWF HPt
   go_wp2
   exact bodyPost_ret (D6.res_row rfl _ g4 38 _ _ rfl HB9.out Tryz.underlying38 rfl s25) rfl ⟨(⟨h.k, h.n, h.s, em, []⟩, .nil), none, 0, none, 0, s.extract j s.size, bb, rfl, HQ.out⟩
  have hidx := idx9 s j hj2
  have HX : Hid ((bts s).drop j = (bts s).getD j 0 :: (bts s).drop (j + 1) /\ (bts s).take (j + 1) = (bts s).take j ++ [(bts s).getD j 0]) := by
   have hl : j < (bts s).length := by rw [bts_len]; exact hj2
   refine ⟨?_, take_next hl⟩
   rw [List.drop_eq_getElem_cons hl, List.getD_eq_getElem?_getD, List.getElem?_eq_getElem hl]
   rfl
  generalize (bts s).getD j 0 = x at *
  have HG : Hid (nsg x = true -> ∀ y ∈ (bts s).take (j + 1), nsg y = true) := fun h y hy => by
   rw [HX.out.2, List.mem_append] at hy
   rcases hy with hy | hy
   . exact HT2.out y hy
   . simp at hy; rw [hy]; exact h
  by_cases h45 : x = 45
  . have f45 : ((x : Int) == 45) = true := by rw [h45]; rfl
    have HG2 := Lib.hid (HG.out (by unfold nsg; rw [decide_eq_true]; omega))
    clear HG HFin0 HX HT2
    clear h45
    go_wp2
    go_roundw
    case rel => exact ⟨j + 1, by omega, by go_num, HK.out, HZ.out, HG2.out⟩
    case measure => simp [intOf]; omega
  have f45 : ((x : Int) == 45) = false := by simp; omega
  by_cases h46 : x = 46
  . have f46 : ((x : Int) == 46) = true := by rw [h46]; rfl
    have HG2 := Lib.hid (HG.out (by unfold nsg; rw [decide_eq_true]; omega))
    clear HG HFin0 HX HT2
    clear h45 h46
    go_wp2
    go_roundw
    case rel => exact ⟨j + 1, by omega, by go_num, HK.out, HZ.out, HG2.out⟩
    case measure => simp [intOf]; omega
  have f46 : ((x : Int) == 46) = false := by simp; omega
  by_cases h48 : 48 <= x
  case neg =>
   have h48i : ¬ (48 : Int) <= (x : Int) := by omega
   have HFin := Lib.hid (HFin0.out fun c t e => by
    rw [HX.out.1] at e
    injection e with e _
    unfold nsg
    rw [decide_eq_false]
    omega)
   clear HFin0 HX HG h45 h46
   have KP := rparse9 (s.extract 0 j) (by rw [ByteArray.size_extract]; omega) wr
   clear HT2
   go_wp2_with fail
   refine KP.mono ?_
   rintro e w3 ⟨h, E, rfl, H3⟩
   have HVX := Lib.hid (HFin.out h E H3.out.1.1 H3.out.1.2)
   have HPt : Hid (h.t = em /\ h.ns = []) := ⟨H3.out.1.1.t, H3.out.1.1.ns⟩
   have HWF : Hid (WfV (⟨h.k, h.n, h.s, em, []⟩, .nil)) := by
    have q := H3.out.1.1
    have q1 := q.k0
    exact wf_leaf9 h.k h.n h.s em (by omega) q.n0 q.s0 (by decide)
   have HB3 : Hid (Below wr.heap.size wr w3) := H3.out.2
   have HK3 : Hid (Kq r W w3 s false) := HK.out.then HB3.out
   have HG3 : Hid (Blk w3 g4 38 zer) := HZ.out.below HB3.out HZ.out.lt
   have hwW : W.heap.size <= w3.heap.size := HK3.out.gr.size
   have hg3 : g4 < w3.heap.size := HG3.out.lt
   clear hidx KP H3 HB3 HK HZ HFin c0
   go_wp2_with (refine al_zero rfl 38 rfl zer z25 ?_)
   intro g11 w4 hg11 bz4 gr4
   go_wp2_with (refine st_all rfl 38 (.tmp 11) (.tmp 283) rfl g11 38 zer (six ⟨h.k, h.n, h.s, em, []⟩ none 0 none 0 0) rfl rfl bz4 rfl s25 (six_one _ _ _ _ _ _) ?_)
   intro w5 b5 gr5
   have HB5 : Hid (Below w3.heap.size w3 w5) := below_new gr4 hg11 gr5
   have HV5 : Hid (Blk w5 g11 38 (six ⟨h.k, h.n, h.s, em, []⟩ none 0 none 0 0)) := b5
   have HK5 : Hid (Kq r W w5 s false) := HK3.out.then HB5.out
   have HG5 : Hid (Blk w5 g4 38 zer) := HG3.out.below HB5.out HG3.out.lt
   have f1 : w5.cell? ⟨r, 1, none⟩ = some (.bool false) := HK5.out.blk.cell 1
   have hgr : g11 ≠ r := by omega
   clear bz4 gr4 b5 gr5 HB5 HK3 HG3
   obtain ⟨bb, hEb, HVR⟩ : ∃ bb, (E != 0) = bb /\ Hid (Vx dp (bts s) false (bts (s.extract j s.size)) bb (h, .nil)) := by
    by_cases hE : E = 0
    . exact ⟨false, by simpa using hE, HVX.out false (fun _ => rfl) (fun h => absurd hE h)⟩
    . exact ⟨true, by simpa using hE, HVX.out true (fun h => absurd h hE) (fun _ => rfl)⟩
   clear HVX
   go_wp2_with (refine st_one rfl 4 (.tmp 295) (.tmp 293) rfl r 1 79 [.string s, .bool false] (.bool bb) rfl rfl rfl rfl (by simp) HK5.out.blk sz4 ?_)
   intro w6 b6 gr6
   have HK6 : Hid (Kq r W w6 s bb) := HK5.out.trans ⟨b6, gr6⟩
   have HG6 : Hid (Blk w6 g4 38 zer) := HG5.out.kept gr6 (by intro c; injection c with c; omega)
   have HV6 : Hid (Blk w6 g11 38 (six ⟨h.k, h.n, h.s, em, []⟩ none 0 none 0 0)) := HV5.out.kept gr6 (by intro c; injection c with c; omega)
   have f0 : w6.cell? ⟨r, 0, none⟩ = some (.string s) := HK6.out.blk.cell 0
   clear b6 gr6 HK5 HG5 HV5 f1
   go_wp2_with (refine st_one rfl 9 (.tmp 304) (.tmp 302) rfl r 0 79 [.string s, .bool bb] (.string (s.extract j s.size)) rfl rfl rfl rfl (by simp) HK6.out.blk sz9 ?_)
   intro w7 b7 gr7
   have HK7 : Hid (Kq r W w7 (s.extract j s.size) bb) := HK6.out.trans ⟨b7, gr7⟩
   have HG7 : Hid (Blk w7 g4 38 zer) := HG6.out.kept gr7 (by intro c; injection c with c; omega)
   have HV7 : Hid (Blk w7 g11 38 (six ⟨h.k, h.n, h.s, em, []⟩ none 0 none 0 0)) := HV6.out.kept gr7 (by intro c; injection c with c; omega)
   clear b7 gr7 HK6 HG6 HV6 f0
   go_wp2_with (first
    | refine D6.ld_all rfl 38 (.tmp 11) rfl g11 38 _ _ rfl HV7.out Tryz.underlying38 rfl s25 ?_
    | refine st_all rfl 38 (.tmp 4) (.tmp 305) rfl g4 38 zer (six ⟨h.k, h.n, h.s, em, []⟩ none 0 none 0 0) rfl rfl HG7.out rfl s25 (six_one _ _ _ _ _ _) ?_)
   intro w9 b9 g9
   have HB9 : Hid (Blk w9 g4 38 (six ⟨h.k, h.n, h.s, em, []⟩ none 0 none 0 0)) := b9
   have HQ : Hid (Vq9 dp r W w9 s (s.extract j s.size) false bb (⟨h.k, h.n, h.s, em, []⟩, .nil) none 0 none 0) := by
    refine ⟨kq_kept HK7.out g9 hg4 hrW, ⟨[], vl_leaf9 _ _ _ _ _, fun x hx => by cases hx⟩, HWF.out, ?_⟩
    have hv := HVR.out
    have e1 := HPt.out.1
    have e2 := HPt.out.2
    obtain ⟨k0, n0, s0, t0, ns0⟩ := h
    simp only at e1 e2 hv ⊢
    subst e1 e2
    exact hv
   clear b9 g9 HK7 HG7 HV7 HVR HWF HPt
   go_wp2
   exact bodyPost_ret (D6.res_row rfl _ g4 38 _ _ rfl HB9.out Tryz.underlying38 rfl s25) rfl ⟨(⟨h.k, h.n, h.s, em, []⟩, .nil), none, 0, none, 0, s.extract j s.size, bb, rfl, HQ.out⟩
  have h48i : (48 : Int) <= (x : Int) := by omega
  by_cases h57 : x <= 57
  . have h57i : (x : Int) <= 57 := by omega
    have HG2 := Lib.hid (HG.out (by unfold nsg; rw [decide_eq_true]; omega))
    clear HG HFin0 HX HT2
    clear h45 h46
    go_wp2
    go_roundw
    case rel => exact ⟨j + 1, by omega, by go_num, HK.out, HZ.out, HG2.out⟩
    case measure => simp [intOf]; omega
  have h57i : ¬ (x : Int) <= 57 := by omega
  have HFin := Lib.hid (HFin0.out fun c t e => by
   rw [HX.out.1] at e
   injection e with e _
   unfold nsg
   rw [decide_eq_false]
   omega)
  clear HFin0 HX HG h45 h46
  have KP := rparse9 (s.extract 0 j) (by rw [ByteArray.size_extract]; omega) wr
  clear HT2
  go_wp2_with fail
  refine KP.mono ?_
  rintro e w3 ⟨h, E, rfl, H3⟩
  have HVX := Lib.hid (HFin.out h E H3.out.1.1 H3.out.1.2)
  have HPt : Hid (h.t = em /\ h.ns = []) := ⟨H3.out.1.1.t, H3.out.1.1.ns⟩
  have HWF : Hid (WfV (⟨h.k, h.n, h.s, em, []⟩, .nil)) := by
   have q := H3.out.1.1
   have q1 := q.k0
   exact wf_leaf9 h.k h.n h.s em (by omega) q.n0 q.s0 (by decide)
  have HB3 : Hid (Below wr.heap.size wr w3) := H3.out.2
  have HK3 : Hid (Kq r W w3 s false) := HK.out.then HB3.out
  have HG3 : Hid (Blk w3 g4 38 zer) := HZ.out.below HB3.out HZ.out.lt
  have hwW : W.heap.size <= w3.heap.size := HK3.out.gr.size
  have hg3 : g4 < w3.heap.size := HG3.out.lt
  clear hidx KP H3 HB3 HK HZ HFin c0
  go_wp2_with (refine al_zero rfl 38 rfl zer z25 ?_)
  intro g11 w4 hg11 bz4 gr4
  go_wp2_with (refine st_all rfl 38 (.tmp 11) (.tmp 283) rfl g11 38 zer (six ⟨h.k, h.n, h.s, em, []⟩ none 0 none 0 0) rfl rfl bz4 rfl s25 (six_one _ _ _ _ _ _) ?_)
  intro w5 b5 gr5
  have HB5 : Hid (Below w3.heap.size w3 w5) := below_new gr4 hg11 gr5
  have HV5 : Hid (Blk w5 g11 38 (six ⟨h.k, h.n, h.s, em, []⟩ none 0 none 0 0)) := b5
  have HK5 : Hid (Kq r W w5 s false) := HK3.out.then HB5.out
  have HG5 : Hid (Blk w5 g4 38 zer) := HG3.out.below HB5.out HG3.out.lt
  have f1 : w5.cell? ⟨r, 1, none⟩ = some (.bool false) := HK5.out.blk.cell 1
  have hgr : g11 ≠ r := by omega
  clear bz4 gr4 b5 gr5 HB5 HK3 HG3
  obtain ⟨bb, hEb, HVR⟩ : ∃ bb, (E != 0) = bb /\ Hid (Vx dp (bts s) false (bts (s.extract j s.size)) bb (h, .nil)) := by
   by_cases hE : E = 0
   . exact ⟨false, by simpa using hE, HVX.out false (fun _ => rfl) (fun h => absurd hE h)⟩
   . exact ⟨true, by simpa using hE, HVX.out true (fun h => absurd h hE) (fun _ => rfl)⟩
  clear HVX
  go_wp2_with (refine st_one rfl 4 (.tmp 295) (.tmp 293) rfl r 1 79 [.string s, .bool false] (.bool bb) rfl rfl rfl rfl (by simp) HK5.out.blk sz4 ?_)
  intro w6 b6 gr6
  have HK6 : Hid (Kq r W w6 s bb) := HK5.out.trans ⟨b6, gr6⟩
  have HG6 : Hid (Blk w6 g4 38 zer) := HG5.out.kept gr6 (by intro c; injection c with c; omega)
  have HV6 : Hid (Blk w6 g11 38 (six ⟨h.k, h.n, h.s, em, []⟩ none 0 none 0 0)) := HV5.out.kept gr6 (by intro c; injection c with c; omega)
  have f0 : w6.cell? ⟨r, 0, none⟩ = some (.string s) := HK6.out.blk.cell 0
  clear b6 gr6 HK5 HG5 HV5 f1
  go_wp2_with (refine st_one rfl 9 (.tmp 304) (.tmp 302) rfl r 0 79 [.string s, .bool bb] (.string (s.extract j s.size)) rfl rfl rfl rfl (by simp) HK6.out.blk sz9 ?_)
  intro w7 b7 gr7
  have HK7 : Hid (Kq r W w7 (s.extract j s.size) bb) := HK6.out.trans ⟨b7, gr7⟩
  have HG7 : Hid (Blk w7 g4 38 zer) := HG6.out.kept gr7 (by intro c; injection c with c; omega)
  have HV7 : Hid (Blk w7 g11 38 (six ⟨h.k, h.n, h.s, em, []⟩ none 0 none 0 0)) := HV6.out.kept gr7 (by intro c; injection c with c; omega)
  clear b7 gr7 HK6 HG6 HV6 f0
  go_wp2_with (first
   | refine D6.ld_all rfl 38 (.tmp 11) rfl g11 38 _ _ rfl HV7.out Tryz.underlying38 rfl s25 ?_
   | refine st_all rfl 38 (.tmp 4) (.tmp 305) rfl g4 38 zer (six ⟨h.k, h.n, h.s, em, []⟩ none 0 none 0 0) rfl rfl HG7.out rfl s25 (six_one _ _ _ _ _ _) ?_)
  intro w9 b9 g9
  have HB9 : Hid (Blk w9 g4 38 (six ⟨h.k, h.n, h.s, em, []⟩ none 0 none 0 0)) := b9
  have HQ : Hid (Vq9 dp r W w9 s (s.extract j s.size) false bb (⟨h.k, h.n, h.s, em, []⟩, .nil) none 0 none 0) := by
   refine ⟨kq_kept HK7.out g9 hg4 hrW, ⟨[], vl_leaf9 _ _ _ _ _, fun x hx => by cases hx⟩, HWF.out, ?_⟩
   have hv := HVR.out
   have e1 := HPt.out.1
   have e2 := HPt.out.2
   obtain ⟨k0, n0, s0, t0, ns0⟩ := h
   simp only at e1 e2 hv ⊢
   subst e1 e2
   exact hv
  clear b9 g9 HK7 HG7 HV7 HVR HWF HPt
  go_wp2
  exact bodyPost_ret (D6.res_row rfl _ g4 38 _ _ rfl HB9.out Tryz.underlying38 rfl s25) rfl ⟨(⟨h.k, h.n, h.s, em, []⟩, .nil), none, 0, none, 0, s.extract j s.size, bb, rfl, HQ.out⟩
end Go.Proofs.YtobfdcdobhhagaaGreatDoor
