import Derived.Test.YtmbglggodifboaaGreatSG39x
import Derived.Test.YtmbglggodifboaaGreatSQw
set_option maxHeartbeats 4000000
set_option maxRecDepth 8000
set_option linter.unusedSimpArgs false
set_option linter.unusedVariables false
namespace Go.Proofs.YtmbglggodifboaaGreat.Sh
open Go Go.RowKit Math Mt
theorem sq_stay {α : Type} (f : Rdr α) {l : List Nat} {e : Int} (x : α) (h : e ≠ 0) : Sq f l e l e x := .inl ⟨h, rfl, rfl⟩
theorem rraw_1 (w0 W : World) (r : Nat) (l : List Nat) (err : Int) (h : Rc w0 r W l err) :
 Calls Tryz.prog 47 #[.pointer (some ⟨r, 0, none⟩), .int .i64 1] W fun e w' => ∃ (y : Nat) (l' : List Nat) (err' : Int) (b o cx : Nat), e = .returned (.slice (some ⟨b, o, none⟩) 1 cx) /\ y < 256 /\ Hid (Rc w0 r w' l' err' /\ W.grownBy w' (some r) /\ Sq byR l err l' err' y /\ w'.cell? ⟨b, o, none⟩ = some (.int .u8 (y : Int)) /\ (err' ≠ 0 -> y = 0)) := by
 refine (rraw_any 1 (by omega) w0 W r l err h).mono ?_
 rintro e w' ⟨x, l', err', ax, cx, rfl, H⟩
 obtain ⟨h1, h2, h3, h4, h5, h6, h7, h8, h9, h10, _⟩ := H.out
 have hx : x.length = 1 := by
  by_cases e0 : err' = 0
  . exact h10 e0
  . rw [h9 e0]; rfl
 obtain ⟨y, rfl⟩ := List.length_eq_one_iff.1 hx
 obtain ⟨b, o, rfl, hc⟩ : ∃ b o, ax = some ⟨b, o, none⟩ /\ Cells w' b o [y] := by
  rcases h4 with h | h
  . cases h
  . exact h
 refine ⟨y, l', err', b, o, cx, rfl, h8 y (by simp), h1, h2, ?_, ?_, ?_⟩
 . rcases h3 with h | ⟨p, ⟨q1, q2⟩ | ⟨q, q1, q2, q3⟩⟩
   . exact .inl h
   . refine .inr ⟨p, .inl ⟨?_, q2⟩⟩
     obtain ⟨e1, e2⟩ := take_inv q1
     rw [e1]; rfl
   . refine .inr ⟨p, .inr ⟨q, ?_, q2, q3⟩⟩
     unfold takeR at q1
     split at q1
     . next hl =>
       have : l = [] := List.eq_nil_of_length_eq_zero (by omega)
       subst this
       injection q1 with q1
       subst q1
       rfl
     . cases q1
 . have := hc 0 (by simp)
   rw [Nat.add_zero] at this
   exact this
 . intro e0
   have := h9 e0
   simpa using this
theorem rentry_any (w0 W : World) (r : Nat) (l : List Nat) (err : Int) (h : Rc w0 r W l err) :
 Calls Tryz.prog 29 #[.pointer (some ⟨r, 0, none⟩)] W fun e w' => ∃ (x : En) (l' : List Nat) (err' : Int) (na : Option Addr) (nc : Nat) (ka : Option Addr) (kc : Nat), e = .returned (.agg (eC x na nc ka kc).toArray) /\ Hid (Rc w0 r w' l' err' /\ W.grownBy w' (some r) /\ Sq enR l err l' err' x /\ VNew W w' x.v na nc ka kc /\ EnW x) := by
 have hrl := h.rlt
 have h0 := h.bl.size
 have R0 : Rc w0 r W l err := h
 have HG : W.grownBy W (some r) := World.grownBy.refl _ _
 clear h
 go_enter Tryz.func29, Tryz.ntmps29
 go_wp2_with (refine al_zero rfl 52 rfl (eC e0 none 0 none 0) zEn ?_)
 intro g2 w1 l2 B2 G0
 have RR := R0.al G0
 have HG := gr_al HG G0
 have s1 := G0.size
 clear G0 R0
 go_wp2_with (refine al_zero rfl 52 rfl (eC e0 none 0 none 0) zEn ?_)
 intro g3 w2 l3 B3 G0
 have n23 : g2 ≠ g3 := by have := B2.lt; omega
 have hw3 : W.heap.size <= g3 := by omega
 have RR := RR.al G0
 have HG := gr_al HG G0
 have B2 := B2.kept G0 (by simp)
 clear G0
 have K := rraw_1 w0 w2 r l err RR
 clear RR
 go_wp2_with fail
 refine K.mono ?_
 clear K
 rintro e u0 ⟨kx, l10, e10, bb, oo, cx, rfl, hkx, H⟩
 have RR := H.out.1
 have B2 := B2.kept H.out.2.1 (fun e => by have := Option.some.inj e; omega)
 have B3 := B3.kept H.out.2.1 (fun e => by have := Option.some.inj e; omega)
 have HG := HG.trans H.out.2.1
 have S0 : Hid (Sq byR l err l10 e10 kx) := H.out.2.2.1
 have cy := H.out.2.2.2.1
 clear H
 go_wp2_with (refine st_one rfl 3 (.tmp 14) (.tmp 13) rfl g3 0 52 _ (.int .i64 (kx : Int)) rfl rfl rfl rfl (by rw [eC_len zr_len]; decide) B3 s3 ?_)
 intro u0s B3' G0
 have RR := RR.st G0 (by omega) (by omega)
 have B2 := B2.kept G0 (fun e => n23 (Option.some.inj e))
 have HG := gr_st HG G0 hw3
 have B3 : Blk u0s g3 52 (eC ⟨(kx : Int), ⟨#[]⟩, 0, 0, 0, nv, zr, false, 0, 0⟩ none 0 none 0) := B3'
 clear B3' G0
 clear cy
 have K := rnum_any w0 u0s r l10 e10 RR
 clear RR
 go_wp2_with fail
 refine K.mono ?_
 clear K
 rintro e u1 ⟨tbx, l11, e11, rfl, htbx, H⟩
 have RR := H.out.1
 have B2 := B2.kept H.out.2.1 (fun e => by have := Option.some.inj e; omega)
 have B3 := B3.kept H.out.2.1 (fun e => by have := Option.some.inj e; omega)
 have HG := HG.trans H.out.2.1
 have S1 : Hid (Sq nR l10 e10 l11 e11 tbx) := H.out.2.2
 clear H
 go_wp2_with (refine st_one rfl 3 (.tmp 17) (.tmp 16) rfl g3 2 52 _ (.int .i64 (tbx : Int)) rfl rfl rfl rfl (by rw [eC_len zr_len]; decide) B3 s3 ?_)
 intro u1s B3' G0
 have RR := RR.st G0 (by omega) (by omega)
 have B2 := B2.kept G0 (fun e => n23 (Option.some.inj e))
 have HG := gr_st HG G0 hw3
 have B3 : Blk u1s g3 52 (eC ⟨(kx : Int), ⟨#[]⟩, (tbx : Int), 0, 0, nv, zr, false, 0, 0⟩ none 0 none 0) := B3'
 clear B3' G0
 have K := rnum_any w0 u1s r l11 e11 RR
 clear RR
 go_wp2_with fail
 refine K.mono ?_
 clear K
 rintro e u2 ⟨dcx, l12, e12, rfl, hdcx, H⟩
 have RR := H.out.1
 have B2 := B2.kept H.out.2.1 (fun e => by have := Option.some.inj e; omega)
 have B3 := B3.kept H.out.2.1 (fun e => by have := Option.some.inj e; omega)
 have HG := HG.trans H.out.2.1
 have S2 : Hid (Sq nR l11 e11 l12 e12 dcx) := H.out.2.2
 clear H
 go_wp2_with (refine st_one rfl 3 (.tmp 20) (.tmp 19) rfl g3 3 52 _ (.int .i64 (dcx : Int)) rfl rfl rfl rfl (by rw [eC_len zr_len]; decide) B3 s3 ?_)
 intro u2s B3' G0
 have RR := RR.st G0 (by omega) (by omega)
 have B2 := B2.kept G0 (fun e => n23 (Option.some.inj e))
 have HG := gr_st HG G0 hw3
 have B3 : Blk u2s g3 52 (eC ⟨(kx : Int), ⟨#[]⟩, (tbx : Int), (dcx : Int), 0, nv, zr, false, 0, 0⟩ none 0 none 0) := B3'
 clear B3' G0
 have K := rnum_any w0 u2s r l12 e12 RR
 clear RR
 go_wp2_with fail
 refine K.mono ?_
 clear K
 rintro e u3 ⟨vrx, l13, e13, rfl, hvrx, H⟩
 have RR := H.out.1
 have B2 := B2.kept H.out.2.1 (fun e => by have := Option.some.inj e; omega)
 have B3 := B3.kept H.out.2.1 (fun e => by have := Option.some.inj e; omega)
 have HG := HG.trans H.out.2.1
 have S3 : Hid (Sq nR l12 e12 l13 e13 vrx) := H.out.2.2
 clear H
 go_wp2_with (refine st_one rfl 3 (.tmp 23) (.tmp 22) rfl g3 4 52 _ (.int .i64 (vrx : Int)) rfl rfl rfl rfl (by rw [eC_len zr_len]; decide) B3 s3 ?_)
 intro u3s B3' G0
 have RR := RR.st G0 (by omega) (by omega)
 have B2 := B2.kept G0 (fun e => n23 (Option.some.inj e))
 have HG := gr_st HG G0 hw3
 have B3 : Blk u3s g3 52 (eC ⟨(kx : Int), ⟨#[]⟩, (tbx : Int), (dcx : Int), (vrx : Int), nv, zr, false, 0, 0⟩ none 0 none 0) := B3'
 clear B3' G0
 have K := rnum_any w0 u3s r l13 e13 RR
 clear RR
 go_wp2_with fail
 refine K.mono ?_
 clear K
 rintro e u4 ⟨nx, l14, e14, rfl, hnx, H⟩
 have RR := H.out.1
 have B2 := B2.kept H.out.2.1 (fun e => by have := Option.some.inj e; omega)
 have B3 := B3.kept H.out.2.1 (fun e => by have := Option.some.inj e; omega)
 have HG := HG.trans H.out.2.1
 have S4 : Hid (Sq nR l13 e13 l14 e14 nx) := H.out.2.2
 clear H
 obtain ⟨ay, cay, hby, _⟩ := RR.ex
 have ce : u4.cell? ⟨r, 1, none⟩ = some (.int .i64 e14) := hby.cell 1
 clear hby
 by_cases hz1 : e14 = 0
 case neg =>
  have hb : (e14 != 0) = true := bne_iff_ne.2 hz1
  have HSF : Hid (Sq enR l err l14 e14 ⟨(kx : Int), ⟨#[]⟩, (tbx : Int), (dcx : Int), (vrx : Int), nv, zr, false, 0, 0⟩) := sq_no (x := ⟨(kx : Int), ⟨#[]⟩, (tbx : Int), (dcx : Int), (vrx : Int), nv, zr, false, 0, 0⟩) (sq_bind S0.out (sq_bind S1.out (sq_bind S2.out (sq_bind S3.out (sq_bind (sq_bind S4.out (sq_stay _ ⟨#[]⟩ hz1) : Sq tR l13 e13 l14 e14 _) (sq_bind (sq_stay _ 0 hz1) (sq_bind (sq_stay _ 0 hz1) (sq_stay _ _ hz1)))))))) hz1
  go_wp2_with (first | (refine ld_w (by rfl) 52 (.tmp 3) rfl g3 0 rfl (eC ⟨(kx : Int), ⟨#[]⟩, (tbx : Int), (dcx : Int), (vrx : Int), nv, zr, false, 0, 0⟩ none 0 none 0) _ B3.all Tryz.underlying52 rfl (sE zr_len _ _ _ _) ?_) | (refine st_all rfl 52 (.tmp 2) (.tmp 31) rfl g2 52 (eC e0 none 0 none 0) (eC ⟨(kx : Int), ⟨#[]⟩, (tbx : Int), (dcx : Int), (vrx : Int), nv, zr, false, 0, 0⟩ none 0 none 0) rfl rfl B2 (by rw [eC_len zr_len, eC_len zr_len]) (sE zr_len _ _ _ _) (eC_one _ _ _ _ _) ?_))
  intro wz BZ G0
  have HF : Hid (Rc w0 r wz l14 e14 /\ W.grownBy wz (some r)) := ⟨RR.st G0 (by omega) (by omega), gr_st HG G0 l2⟩
  clear G0 RR HG
  go_wp2
  (try simp only [Exit.inBlock, Exit.then])
  refine bodyPost_ret (Sh.res_row rfl _ g2 52 _ _ rfl BZ Tryz.underlying52 rfl (sE zr_len _ _ _ _)) rfl ⟨⟨(kx : Int), ⟨#[]⟩, (tbx : Int), (dcx : Int), (vrx : Int), nv, zr, false, 0, 0⟩, l14, e14, none, 0, none, 0, rfl, HF.out.1, HF.out.2, HSF.out, vnew_nv _ _, ⟨i64n (by omega), (show (0 : Nat) <= _ by omega), i64n (by omega), i64n (by omega), i64n (by omega), wf_lf 0 0 0 em (by omega) (by omega) (by omega) (by decide), ⟨rfl, fun x hx => by have := List.eq_of_mem_replicate hx; omega⟩, i64n (u := 0) (by omega), i64n (u := 0) (by omega)⟩⟩
 subst hz1
 have hl14 := RR.len
 have K := rraw_any nx hnx w0 u4 r l14 0 RR
 clear RR
 go_wp2_with fail
 refine K.mono ?_
 clear K ce
 rintro e u5 ⟨x5, l15, e15, a5, c5, rfl, H⟩
 obtain ⟨RR, hG5, hS5, hB5, hn5, hl5, hc5, hO5, hz5, hz6, _⟩ := H.out
 have B2 := B2.kept hG5 (fun e => by have := Option.some.inj e; omega)
 have B3 := B3.kept hG5 (fun e => by have := Option.some.inj e; omega)
 have HG := HG.trans hG5
 have hx5 : x5.length <= 1000000 := by
  by_cases q : e15 = 0
  . rcases hS5 with ⟨p, _⟩ | ⟨_, ⟨p, _⟩ | ⟨q1, _, q3, q4⟩⟩
    . exact absurd rfl p
    . have := (take_inv p).1; have h9 := RR.len; have h10 := congrArg List.length this; have h11 := hl14; rw [List.length_append] at h10; omega
    . exact absurd (show q1 = 0 by omega) q4
  . rw [hz5 q, List.length_replicate]; omega
 have hcv := conv_byt (c := c5) hB5 hO5 hn5
 have S5 : Hid (Sq tR l13 e13 l15 e15 (ofB x5)) := sq_bind S4.out (sq_bind hS5 (sq_ret _ _ _))
 have htx : (ofB x5).size <= 1000000 := by rw [ofB_size]; exact hx5
 clear H hG5 hS5 hB5 hn5 hO5 hz5 hz6 S4
 obtain ⟨tx, Htx⟩ : ∃ tx, Hid (ofB x5 = tx) := ⟨_, rfl⟩
 rw [Htx.out] at hcv S5 htx
 clear Htx
 go_wp2_with (refine st_one rfl 9 (.tmp 36) (.tmp 35) rfl g3 1 52 _ (.string tx) rfl rfl rfl rfl (by rw [eC_len zr_len]; decide) B3 s9' ?_)
 intro u5s B3' G0
 have RR := RR.st G0 (by omega) (by omega)
 have B2 := B2.kept G0 (fun e => n23 (Option.some.inj e))
 have HG := gr_st HG G0 hw3
 have B3 : Blk u5s g3 52 (eC ⟨(kx : Int), tx, (tbx : Int), (dcx : Int), (vrx : Int), nv, zr, false, 0, 0⟩ none 0 none 0) := B3'
 clear B3' G0
 clear hcv
 have K := rnum_any w0 u5s r l15 e15 RR
 clear RR
 go_wp2_with fail
 refine K.mono ?_
 clear K
 rintro e u6 ⟨abx, l16, e16, rfl, habx, H⟩
 have RR := H.out.1
 have B2 := B2.kept H.out.2.1 (fun e => by have := Option.some.inj e; omega)
 have B3 := B3.kept H.out.2.1 (fun e => by have := Option.some.inj e; omega)
 have HG := HG.trans H.out.2.1
 have S6 : Hid (Sq nR l15 e15 l16 e16 abx) := H.out.2.2
 clear H
 go_wp2_with (refine st_one rfl 3 (.tmp 40) (.tmp 38) rfl g3 44 52 _ (.int .i64 (abx : Int)) rfl rfl rfl rfl (by rw [eC_len zr_len]; decide) B3 s3 ?_)
 intro u6s B3' G0
 have RR := RR.st G0 (by omega) (by omega)
 have B2 := B2.kept G0 (fun e => n23 (Option.some.inj e))
 have HG := gr_st HG G0 hw3
 have B3 : Blk u6s g3 52 (eC ⟨(kx : Int), tx, (tbx : Int), (dcx : Int), (vrx : Int), nv, zr, false, (abx : Int), 0⟩ none 0 none 0) := by rw [eC_end3 (j := 1) zr_len none 0 none 0 _ _ rfl (by decide)] at B3'; exact B3'
 clear B3' G0
 have K := rnum_any w0 u6s r l16 e16 RR
 clear RR
 go_wp2_with fail
 refine K.mono ?_
 clear K
 rintro e u7 ⟨aex, l17, e17, rfl, haex, H⟩
 have RR := H.out.1
 have B2 := B2.kept H.out.2.1 (fun e => by have := Option.some.inj e; omega)
 have B3 := B3.kept H.out.2.1 (fun e => by have := Option.some.inj e; omega)
 have HG := HG.trans H.out.2.1
 have S7 : Hid (Sq nR l16 e16 l17 e17 aex) := H.out.2.2
 clear H
 go_wp2_with (refine st_one rfl 3 (.tmp 44) (.tmp 42) rfl g3 45 52 _ (.int .i64 (aex : Int)) rfl rfl rfl rfl (by rw [eC_len zr_len]; decide) B3 s3 ?_)
 intro u7s B3' G0
 have RR := RR.st G0 (by omega) (by omega)
 have B2 := B2.kept G0 (fun e => n23 (Option.some.inj e))
 have HG := gr_st HG G0 hw3
 have B3 : Blk u7s g3 52 (eC ⟨(kx : Int), tx, (tbx : Int), (dcx : Int), (vrx : Int), nv, zr, false, (abx : Int), (aex : Int)⟩ none 0 none 0) := by rw [eC_end3 (j := 2) zr_len none 0 none 0 _ _ rfl (by decide)] at B3'; exact B3'
 clear B3' G0
 obtain ⟨ay, cay, hby, _⟩ := RR.ex
 have ce : u7s.cell? ⟨r, 1, none⟩ = some (.int .i64 e17) := hby.cell 1
 clear hby
 have ck : u7s.cell? ⟨g3, 0, none⟩ = some (.int .i64 (kx : Int)) := B3.cell 0
 by_cases hz1 : e17 = 0
 case neg =>
  have hb : (e17 != 0) = true := bne_iff_ne.2 hz1
  have HSF : Hid (Sq enR l err l17 e17 ⟨(kx : Int), tx, (tbx : Int), (dcx : Int), (vrx : Int), nv, zr, false, (abx : Int), (aex : Int)⟩) := sq_no (x := ⟨(kx : Int), tx, (tbx : Int), (dcx : Int), (vrx : Int), nv, zr, false, (abx : Int), (aex : Int)⟩) (sq_bind S0.out (sq_bind S1.out (sq_bind S2.out (sq_bind S3.out (sq_bind S5.out (sq_bind S6.out (sq_bind S7.out (sq_stay _ _ hz1)))))))) hz1
  go_wp2_with (first | (refine ld_w (by rfl) 52 (.tmp 3) rfl g3 0 rfl (eC ⟨(kx : Int), tx, (tbx : Int), (dcx : Int), (vrx : Int), nv, zr, false, (abx : Int), (aex : Int)⟩ none 0 none 0) _ B3.all Tryz.underlying52 rfl (sE zr_len _ _ _ _) ?_) | (refine st_all rfl 52 (.tmp 2) (.tmp 55) rfl g2 52 (eC e0 none 0 none 0) (eC ⟨(kx : Int), tx, (tbx : Int), (dcx : Int), (vrx : Int), nv, zr, false, (abx : Int), (aex : Int)⟩ none 0 none 0) rfl rfl B2 (by rw [eC_len zr_len, eC_len zr_len]) (sE zr_len _ _ _ _) (eC_one _ _ _ _ _) ?_))
  intro wz BZ G0
  have HF : Hid (Rc w0 r wz l17 e17 /\ W.grownBy wz (some r)) := ⟨RR.st G0 (by omega) (by omega), gr_st HG G0 l2⟩
  clear G0 RR HG
  go_wp2
  (try simp only [Exit.inBlock, Exit.then])
  refine bodyPost_ret (Sh.res_row rfl _ g2 52 _ _ rfl BZ Tryz.underlying52 rfl (sE zr_len _ _ _ _)) rfl ⟨⟨(kx : Int), tx, (tbx : Int), (dcx : Int), (vrx : Int), nv, zr, false, (abx : Int), (aex : Int)⟩, l17, e17, none, 0, none, 0, rfl, HF.out.1, HF.out.2, HSF.out, vnew_nv _ _, ⟨i64n (by omega), by have := htx; show tx.size <= _; omega, i64n (by omega), i64n (by omega), i64n (by omega), wf_lf 0 0 0 em (by omega) (by omega) (by omega) (by decide), ⟨rfl, fun x hx => by have := List.eq_of_mem_replicate hx; omega⟩, i64n (by omega), i64n (by omega)⟩⟩
 subst hz1
 by_cases hk2 : kx = 2
 case neg =>
  have hkb : ((kx : Int) != 2) = true := bne_iff_ne.2 (by omega)
  have hkb2 : ((kx : Int) == 2) = false := beq_eq_false_iff_ne.2 (by omega)
  have HSF : Hid (Sq enR l err l17 0 ⟨(kx : Int), tx, (tbx : Int), (dcx : Int), (vrx : Int), nv, zr, false, (abx : Int), (aex : Int)⟩) := (sq_bind S0.out (sq_bind S1.out (sq_bind S2.out (sq_bind S3.out (sq_bind S5.out (sq_bind S6.out (sq_bind S7.out (by unfold rvR; rw [if_neg hk2]; exact sq_ret _ _ _))))))))
  go_wp2_with (first | (refine ld_w (by rfl) 52 (.tmp 3) rfl g3 0 rfl (eC ⟨(kx : Int), tx, (tbx : Int), (dcx : Int), (vrx : Int), nv, zr, false, (abx : Int), (aex : Int)⟩ none 0 none 0) _ B3.all Tryz.underlying52 rfl (sE zr_len _ _ _ _) ?_) | (refine st_all rfl 52 (.tmp 2) (.tmp 55) rfl g2 52 (eC e0 none 0 none 0) (eC ⟨(kx : Int), tx, (tbx : Int), (dcx : Int), (vrx : Int), nv, zr, false, (abx : Int), (aex : Int)⟩ none 0 none 0) rfl rfl B2 (by rw [eC_len zr_len, eC_len zr_len]) (sE zr_len _ _ _ _) (eC_one _ _ _ _ _) ?_))
  intro wz BZ G0
  have HF : Hid (Rc w0 r wz l17 0 /\ W.grownBy wz (some r)) := ⟨RR.st G0 (by omega) (by omega), gr_st HG G0 l2⟩
  clear G0 RR HG
  go_wp2
  (try simp only [Exit.inBlock, Exit.then])
  refine bodyPost_ret (Sh.res_row rfl _ g2 52 _ _ rfl BZ Tryz.underlying52 rfl (sE zr_len _ _ _ _)) rfl ⟨⟨(kx : Int), tx, (tbx : Int), (dcx : Int), (vrx : Int), nv, zr, false, (abx : Int), (aex : Int)⟩, l17, 0, none, 0, none, 0, rfl, HF.out.1, HF.out.2, HSF.out, vnew_nv _ _, ⟨i64n (by omega), by have := htx; show tx.size <= _; omega, i64n (by omega), i64n (by omega), i64n (by omega), wf_lf 0 0 0 em (by omega) (by omega) (by omega) (by decide), ⟨rfl, fun x hx => by have := List.eq_of_mem_replicate hx; omega⟩, i64n (by omega), i64n (by omega)⟩⟩
 have HRV : Hid (∀ (l1 l' : List Nat) (e1 e' : Int) (hh : List Nat) (q : Vt × Bool), Sq (takeR 32) l17 0 l1 e1 hh -> Sq dtR l1 e1 l' e' q -> Sq enR l err l' e' ⟨kx, tx, tbx, dcx, vrx, q.1, hh, q.2, abx, aex⟩) := fun l1 l' e1 e' hh q q1 q2 => (sq_bind S0.out (sq_bind S1.out (sq_bind S2.out (sq_bind S3.out (sq_bind S5.out (sq_bind S6.out (sq_bind S7.out (by unfold rvR; rw [if_pos hk2]; exact sq_bind q1 (sq_bind q2 (sq_ret _ _ _))))))))))
 clear S0 S1 S2 S3 S5 S6 S7
 subst hk2
 have K := rhsh_any w0 u7s r l17 0 RR
 clear RR
 go_wp2_with fail
 refine K.mono ?_
 clear K ck ce
 rintro e v1 ⟨hh, l20, e20, rfl, hhh, H⟩
 have RR := H.out.1
 have B2 := B2.kept H.out.2.1 (fun e => by have := Option.some.inj e; omega)
 have B3 := B3.kept H.out.2.1 (fun e => by have := Option.some.inj e; omega)
 have HG := HG.trans H.out.2.1
 have SH : Hid (Sq (takeR 32) l17 0 l20 e20 hh) := H.out.2.2
 have HH : Hid (H32 hh) := hhh
 have HLh : Hid (hh.length = 32) := hhh.1
 clear H hhh
 have B3 : Blk v1 g3 52 (([.int .i64 ((2 : Nat) : Int), .string tx, .int .i64 (tbx : Int), .int .i64 (dcx : Int), .int .i64 (vrx : Int)] ++ six nv.1 none 0 none 0 0) ++ (nums .u8 zr ++ [.bool false, .int .i64 (abx : Int), .int .i64 (aex : Int)])) := by rw [eC_hed] at B3; exact B3
 go_wp2_with (refine st_row rfl 23 (.tmp 58) (.tmp 57) rfl g3 11 52 ([.int .i64 ((2 : Nat) : Int), .string tx, .int .i64 (tbx : Int), .int .i64 (dcx : Int), .int .i64 (vrx : Int)] ++ six nv.1 none 0 none 0 0) (nums .u8 zr) [.bool false, .int .i64 (abx : Int), .int .i64 (aex : Int)] (nums .u8 hh) rfl rfl rfl B3 (by rw [nums_length, nums_length, HLh.out]; rfl) (sH HLh.out) (nums_one _ _) ?_)
 intro v2 B3' G0
 have RR := RR.st G0 (by omega) (by omega)
 have B2 := B2.kept G0 (fun e => n23 (Option.some.inj e))
 have HG := gr_st HG G0 hw3
 have B3 : Blk v2 g3 52 (eC ⟨((2 : Nat) : Int), tx, (tbx : Int), (dcx : Int), (vrx : Int), nv, hh, false, (abx : Int), (aex : Int)⟩ none 0 none 0) := by rw [eC_hed]; exact B3'
 clear B3' G0
 have K := rraw_1 w0 v2 r l20 e20 RR
 clear RR
 go_wp2_with fail
 refine K.mono ?_
 clear K
 rintro e v3 ⟨mx, l21, e21, bm, om, cm, rfl, hmx, H⟩
 have RR := H.out.1
 have B2 := B2.kept H.out.2.1 (fun e => by have := Option.some.inj e; omega)
 have B3 := B3.kept H.out.2.1 (fun e => by have := Option.some.inj e; omega)
 have HG := HG.trans H.out.2.1
 have SM : Hid (Sq byR l20 e20 l21 e21 mx) := H.out.2.2.1
 have cy := H.out.2.2.2.1
 have HM0 : Hid (e21 ≠ 0 -> mx = 0) := H.out.2.2.2.2
 clear H
 by_cases hm0 : mx = 0
 . subst hm0
   go_wp2_with (refine st_one rfl 4 (.tmp 73) (.const (.bool true)) rfl g3 43 52 _ (.bool true) rfl rfl rfl rfl (by rw [eC_len HLh.out]; decide) B3 s4 ?_)
   intro v4 B3' G0
   have RR := RR.st G0 (by omega) (by omega)
   have B2 := B2.kept G0 (fun e => n23 (Option.some.inj e))
   have HG := gr_st HG G0 hw3
   have B3 : Blk v4 g3 52 (eC ⟨((2 : Nat) : Int), tx, (tbx : Int), (dcx : Int), (vrx : Int), nv, hh, true, (abx : Int), (aex : Int)⟩ none 0 none 0) := by rw [eC_end3 (j := 0) HLh.out none 0 none 0 _ _ rfl (by decide)] at B3'; exact B3'
   clear B3' G0
   have HSF : Hid (Sq enR l err l21 e21 ⟨((2 : Nat) : Int), tx, (tbx : Int), (dcx : Int), (vrx : Int), nv, hh, true, (abx : Int), (aex : Int)⟩) := HRV.out _ _ _ _ hh (nv, true) SH.out (by unfold dtR; exact sq_bind SM.out (by rw [if_pos rfl]; exact sq_ret _ _ _))
   go_wp2_with (first | (refine ld_w (by rfl) 52 (.tmp 3) rfl g3 0 rfl (eC ⟨((2 : Nat) : Int), tx, (tbx : Int), (dcx : Int), (vrx : Int), nv, hh, true, (abx : Int), (aex : Int)⟩ none 0 none 0) _ B3.all Tryz.underlying52 rfl (sE HLh.out _ _ _ _) ?_) | (refine st_all rfl 52 (.tmp 2) (.tmp 105) rfl g2 52 (eC e0 none 0 none 0) (eC ⟨((2 : Nat) : Int), tx, (tbx : Int), (dcx : Int), (vrx : Int), nv, hh, true, (abx : Int), (aex : Int)⟩ none 0 none 0) rfl rfl B2 (by rw [eC_len HLh.out, eC_len zr_len]) (sE HLh.out _ _ _ _) (eC_one _ _ _ _ _) ?_))
   intro wz BZ G0
   have HF : Hid (Rc w0 r wz l21 e21 /\ W.grownBy wz (some r)) := ⟨RR.st G0 (by omega) (by omega), gr_st HG G0 l2⟩
   clear G0 RR HG
   go_wp2
   (try simp only [Exit.inBlock, Exit.then])
   refine bodyPost_ret (Sh.res_row rfl _ g2 52 _ _ rfl BZ Tryz.underlying52 rfl (sE HLh.out _ _ _ _)) rfl ⟨⟨((2 : Nat) : Int), tx, (tbx : Int), (dcx : Int), (vrx : Int), nv, hh, true, (abx : Int), (aex : Int)⟩, l21, e21, none, 0, none, 0, rfl, HF.out.1, HF.out.2, HSF.out, vnew_nv _ _, ⟨i64n (by omega), by have := htx; show tx.size <= _; omega, i64n (by omega), i64n (by omega), i64n (by omega), wf_lf 0 0 0 em (by omega) (by omega) (by omega) (by decide), HH.out, i64n (by omega), i64n (by omega)⟩⟩
 have he21 : e21 = 0 := Classical.byContradiction fun q => hm0 (HM0.out q)
 subst he21
 have hmb : ((mx : Int) == 0) = false := beq_eq_false_iff_ne.2 (by omega)
 by_cases hm1 : mx = 1
 case neg =>
  have hmb2 : ((mx : Int) == 1) = false := beq_eq_false_iff_ne.2 (by omega)
  obtain ⟨ay, cay, hby, hq1, hq2, hq3, hq4⟩ := RR.ex
  have ce : v3.cell? ⟨r, 1, none⟩ = some (.int .i64 0) := hby.cell 1
  have HY : Hid (Byt w0 ay l21 /\ (ay = none -> cay = 0)) := ⟨hq1, hq2⟩
  clear hq1 hq2
  go_wp2_with (refine st_one rfl 3 (.tmp 70) (.const (.int .i64 3)) rfl r 1 72 _ (.int .i64 3) rfl rfl rfl rfl (by simp) hby s3 ?_)
  intro v4 b4 G4
  have RR := RR.same b4 G4 HY.out.1 HY.out.2 hq3 hq4 RR.oct RR.len
  have B2 := B2.kept G4 (fun e => by have := Option.some.inj e; omega)
  have B3 := B3.kept G4 (fun e => by have := Option.some.inj e; omega)
  have HG := HG.trans G4
  clear b4 G4 hby ce cy
  have HSF : Hid (Sq enR l err l21 3 ⟨((2 : Nat) : Int), tx, (tbx : Int), (dcx : Int), (vrx : Int), nv, hh, false, (abx : Int), (aex : Int)⟩) := sq_no (HRV.out _ _ _ _ hh (nv, true) SH.out (by unfold dtR; exact sq_bind SM.out (by rw [if_neg hm0, if_neg hm1]; exact sq_bad (q := 3) rfl (by decide)))) (by decide)
  go_wp2_with (first | (refine ld_w (by rfl) 52 (.tmp 3) rfl g3 0 rfl (eC ⟨((2 : Nat) : Int), tx, (tbx : Int), (dcx : Int), (vrx : Int), nv, hh, false, (abx : Int), (aex : Int)⟩ none 0 none 0) _ B3.all Tryz.underlying52 rfl (sE HLh.out _ _ _ _) ?_) | (refine st_all rfl 52 (.tmp 2) (.tmp 105) rfl g2 52 (eC e0 none 0 none 0) (eC ⟨((2 : Nat) : Int), tx, (tbx : Int), (dcx : Int), (vrx : Int), nv, hh, false, (abx : Int), (aex : Int)⟩ none 0 none 0) rfl rfl B2 (by rw [eC_len HLh.out, eC_len zr_len]) (sE HLh.out _ _ _ _) (eC_one _ _ _ _ _) ?_))
  intro wz BZ G0
  have HF : Hid (Rc w0 r wz l21 3 /\ W.grownBy wz (some r)) := ⟨RR.st G0 (by omega) (by omega), gr_st HG G0 l2⟩
  clear G0 RR HG
  go_wp2
  (try simp only [Exit.inBlock, Exit.then])
  refine bodyPost_ret (Sh.res_row rfl _ g2 52 _ _ rfl BZ Tryz.underlying52 rfl (sE HLh.out _ _ _ _)) rfl ⟨⟨((2 : Nat) : Int), tx, (tbx : Int), (dcx : Int), (vrx : Int), nv, hh, false, (abx : Int), (aex : Int)⟩, l21, 3, none, 0, none, 0, rfl, HF.out.1, HF.out.2, HSF.out, vnew_nv _ _, ⟨i64n (by omega), by have := htx; show tx.size <= _; omega, i64n (by omega), i64n (by omega), i64n (by omega), wf_lf 0 0 0 em (by omega) (by omega) (by omega) (by decide), HH.out, i64n (by omega), i64n (by omega)⟩⟩
 subst hm1
 have SM2 : Hid (∀ (l' : List Nat) (e' : Int) (q : Vt × Bool), Sq dvR l21 0 l' e' q -> Sq dtR l20 e20 l' e' q) := fun l' e' q h => by unfold dtR; exact sq_bind SM.out (by rw [if_neg (by decide), if_pos rfl]; exact h)
 clear SM hm0 HM0
 have K := rnum_any w0 v3 r l21 0 RR
 clear RR
 go_wp2_with fail
 refine K.mono ?_
 clear K cy
 rintro e v4 ⟨dn, l22, e22, rfl, hdn, H⟩
 have RR := H.out.1
 have B2 := B2.kept H.out.2.1 (fun e => by have := Option.some.inj e; omega)
 have B3 := B3.kept H.out.2.1 (fun e => by have := Option.some.inj e; omega)
 have HG := HG.trans H.out.2.1
 have SN : Hid (Sq nR l21 0 l22 e22 dn) := H.out.2.2
 clear H
 obtain ⟨ay, cay, hby, _⟩ := RR.ex
 have ce : v4.cell? ⟨r, 1, none⟩ = some (.int .i64 e22) := hby.cell 1
 clear hby
 by_cases hz1 : e22 = 0
 case neg =>
  have hb : (e22 != 0) = true := bne_iff_ne.2 hz1
  have HSF : Hid (Sq enR l err l22 e22 ⟨((2 : Nat) : Int), tx, (tbx : Int), (dcx : Int), (vrx : Int), nv, hh, false, (abx : Int), (aex : Int)⟩) := sq_no (HRV.out _ _ _ _ hh (nv, true) SH.out (SM2.out _ _ _ (sq_bind SN.out (sq_stay _ _ hz1)))) hz1
  go_wp2_with (first | (refine ld_w (by rfl) 52 (.tmp 3) rfl g3 0 rfl (eC ⟨((2 : Nat) : Int), tx, (tbx : Int), (dcx : Int), (vrx : Int), nv, hh, false, (abx : Int), (aex : Int)⟩ none 0 none 0) _ B3.all Tryz.underlying52 rfl (sE HLh.out _ _ _ _) ?_) | (refine st_all rfl 52 (.tmp 2) (.tmp 83) rfl g2 52 (eC e0 none 0 none 0) (eC ⟨((2 : Nat) : Int), tx, (tbx : Int), (dcx : Int), (vrx : Int), nv, hh, false, (abx : Int), (aex : Int)⟩ none 0 none 0) rfl rfl B2 (by rw [eC_len HLh.out, eC_len zr_len]) (sE HLh.out _ _ _ _) (eC_one _ _ _ _ _) ?_))
  intro wz BZ G0
  have HF : Hid (Rc w0 r wz l22 e22 /\ W.grownBy wz (some r)) := ⟨RR.st G0 (by omega) (by omega), gr_st HG G0 l2⟩
  clear G0 RR HG
  go_wp2
  (try simp only [Exit.inBlock, Exit.then])
  refine bodyPost_ret (Sh.res_row rfl _ g2 52 _ _ rfl BZ Tryz.underlying52 rfl (sE HLh.out _ _ _ _)) rfl ⟨⟨((2 : Nat) : Int), tx, (tbx : Int), (dcx : Int), (vrx : Int), nv, hh, false, (abx : Int), (aex : Int)⟩, l22, e22, none, 0, none, 0, rfl, HF.out.1, HF.out.2, HSF.out, vnew_nv _ _, ⟨i64n (by omega), by have := htx; show tx.size <= _; omega, i64n (by omega), i64n (by omega), i64n (by omega), wf_lf 0 0 0 em (by omega) (by omega) (by omega) (by decide), HH.out, i64n (by omega), i64n (by omega)⟩⟩
 subst hz1
 have hl22 := RR.len
 have K := rraw_any dn hdn w0 v4 r l22 0 RR
 clear RR
 go_wp2_with fail
 refine K.mono ?_
 clear K ce
 rintro e v5 ⟨x6, l23, e23, a6, c6, rfl, H⟩
 obtain ⟨RR, hG6, hS6, hB6, hn6, hl6, hc6, hO6, hz5, hz6, _⟩ := H.out
 have B2 := B2.kept hG6 (fun e => by have := Option.some.inj e; omega)
 have B3 := B3.kept hG6 (fun e => by have := Option.some.inj e; omega)
 have HG := HG.trans hG6
 have ST : Hid (Sq (takeR dn) l22 0 l23 e23 x6) := hS6
 obtain ⟨ay, cay, hby, _⟩ := RR.ex
 have ce : v5.cell? ⟨r, 1, none⟩ = some (.int .i64 e23) := hby.cell 1
 clear hby
 by_cases hz1 : e23 = 0
 case neg =>
  have hb : (e23 != 0) = true := bne_iff_ne.2 hz1
  clear H hS6 hB6 hn6 hO6 hz5 hz6 hG6
  have HSF : Hid (Sq enR l err l23 e23 ⟨((2 : Nat) : Int), tx, (tbx : Int), (dcx : Int), (vrx : Int), nv, hh, false, (abx : Int), (aex : Int)⟩) := sq_no (HRV.out _ _ _ _ hh (nv, true) SH.out (SM2.out _ _ _ (sq_bind SN.out (sq_bind ST.out (sq_stay _ _ hz1))))) hz1
  go_wp2_with (first | (refine ld_w (by rfl) 52 (.tmp 3) rfl g3 0 rfl (eC ⟨((2 : Nat) : Int), tx, (tbx : Int), (dcx : Int), (vrx : Int), nv, hh, false, (abx : Int), (aex : Int)⟩ none 0 none 0) _ B3.all Tryz.underlying52 rfl (sE HLh.out _ _ _ _) ?_) | (refine st_all rfl 52 (.tmp 2) (.tmp 92) rfl g2 52 (eC e0 none 0 none 0) (eC ⟨((2 : Nat) : Int), tx, (tbx : Int), (dcx : Int), (vrx : Int), nv, hh, false, (abx : Int), (aex : Int)⟩ none 0 none 0) rfl rfl B2 (by rw [eC_len HLh.out, eC_len zr_len]) (sE HLh.out _ _ _ _) (eC_one _ _ _ _ _) ?_))
  intro wz BZ G0
  have HF : Hid (Rc w0 r wz l23 e23 /\ W.grownBy wz (some r)) := ⟨RR.st G0 (by omega) (by omega), gr_st HG G0 l2⟩
  clear G0 RR HG
  go_wp2
  (try simp only [Exit.inBlock, Exit.then])
  refine bodyPost_ret (Sh.res_row rfl _ g2 52 _ _ rfl BZ Tryz.underlying52 rfl (sE HLh.out _ _ _ _)) rfl ⟨⟨((2 : Nat) : Int), tx, (tbx : Int), (dcx : Int), (vrx : Int), nv, hh, false, (abx : Int), (aex : Int)⟩, l23, e23, none, 0, none, 0, rfl, HF.out.1, HF.out.2, HSF.out, vnew_nv _ _, ⟨i64n (by omega), by have := htx; show tx.size <= _; omega, i64n (by omega), i64n (by omega), i64n (by omega), wf_lf 0 0 0 em (by omega) (by omega) (by omega) (by decide), HH.out, i64n (by omega), i64n (by omega)⟩⟩
 subst hz1
 have hx6 : x6.length <= 1000000 := by
  have hd := hz6 rfl
  rcases hS6 with ⟨p, _⟩ | ⟨_, ⟨p, _⟩ | ⟨q1, _, q3, q4⟩⟩
  . exact absurd rfl p
  . have h10 := congrArg List.length (take_inv p).1; rw [List.length_append] at h10; omega
  . exact absurd (show q1 = 0 by omega) q4
 have K := rdecode_any x6 a6 c6 v5 hB6 hO6 hx6 hl6 hc6 hn6
 have SD : Hid (∀ (x : Int) (q : Vt × Bool), (decE x6 = 0 -> x = 0 /\ q = (decP x6, false)) -> (decE x6 ≠ 0 -> x = 3) -> Sq dvR l21 0 l23 x q) := fun x q h1 h2 => by
  unfold dvR
  refine sq_bind SN.out (sq_bind ST.out ?_)
  by_cases h : decE x6 = 0
  . obtain ⟨rfl, rfl⟩ := h1 h
    rw [if_pos h]; exact sq_ret _ _ _
  . rw [if_neg h, h2 h]; exact sq_bad (q := 3) rfl (by decide)
 clear H hS6 hB6 hn6 hO6 hz5 hz6 hG6 hl6 hc6 SN ST
 obtain ⟨DE, HDE⟩ : ∃ DE, Hid (decE x6 = DE) := ⟨_, rfl⟩
 obtain ⟨q, Hq⟩ : ∃ q, Hid (decP x6 = q) := ⟨_, rfl⟩
 rw [HDE.out, Hq.out] at K SD
 clear HDE Hq
 go_wp2_with fail
 refine K.mono ?_
 clear K ce
 rintro e v6 ⟨na, nc, ka, kc, rfl, H⟩
 have HG3 : Hid (g3 < v5.heap.size /\ g2 < v5.heap.size) := ⟨B3.lt, B2.lt⟩
 have Z6 := H.out.bl
 have HS56 : v5.heap.size <= v6.heap.size := Z6.size
 have RR := RR.be Z6
 have B2 := B2.below Z6 B2.lt
 have B3 := B3.below Z6 B3.lt
 have hs5 : Hid (W.heap.size <= v5.heap.size) := HG.size
 have HG := gr_be HG Z6
 have VV : Hid (VNew W v6 q na nc ka kc) := by
  obtain ⟨LL, q1, q2⟩ := H.out.vl
  exact ⟨LL, q1, fun x hx => ⟨by have := (q2 x hx).1; have := hs5.out; omega, (q2 x hx).2⟩⟩
 have VN5 : Hid (∃ LL, VlL v6 q na nc ka kc LL /\ ∀ x ∈ LL, v5.heap.size <= x /\ x < v6.heap.size) := H.out.vl
 have HWq : Hid (WfV q) := H.out.wf
 clear H Z6
 go_wp2_with (refine al_zero rfl 48 rfl (six nv.1 none 0 none 0 0) zVal ?_)
 intro g7 v7 l7 B7 G7
 have RR := RR.al G7
 have B2 := B2.kept G7 (by simp)
 have B3 := B3.kept G7 (by simp)
 have HG := gr_al HG G7
 have hg7 : W.heap.size <= g7 := by have := hs5.out; have := HS56; omega
 have n37 : g3 ≠ g7 /\ g2 ≠ g7 /\ r ≠ g7 := by have := HG3.out; have := HS56; exact ⟨by omega, by omega, by omega⟩
 have VN7 : Hid (∃ LL, VlL v7 q na nc ka kc LL /\ ∀ x ∈ LL, v5.heap.size <= x /\ x < v6.heap.size) := by
  obtain ⟨LL, q1, q2⟩ := VN5.out
  exact ⟨LL, q1.keep fun x hx => G7.block x (q2 x hx).2 (by simp), q2⟩
 have s67 := G7.size
 clear G7 VN5 VV
 go_wp2_with (refine st_all rfl 48 (.tmp 7) (.tmp 96) rfl g7 48 (six nv.1 none 0 none 0 0) (six q.1 na nc ka q.2.list.length kc) rfl rfl B7 rfl (szV _ _ _ _ _ _) (six_one _ _ _ _ _ _) ?_)
 intro v8 B8 G8
 have RR := RR.st G8 n37.2.2 (by omega)
 have B2 := B2.kept G8 (fun e => n37.2.1 (Option.some.inj e))
 have B3 := B3.kept G8 (fun e => n37.1 (Option.some.inj e))
 have HG := gr_st HG G8 hg7
 have VN8 : Hid (∃ LL, VlL v8 q na nc ka kc LL /\ ∀ x ∈ LL, v5.heap.size <= x /\ x < v6.heap.size) := by
  obtain ⟨LL, q1, q2⟩ := VN7.out
  exact ⟨LL, q1.keep fun x hx => G8.block x (by have := (q2 x hx).2; omega) (fun e => by have := Option.some.inj e; have := (q2 x hx).2; omega), q2⟩
 have s78 := G8.size
 clear G8 B7 VN7
 by_cases hd0 : DE = 0
 . subst hd0
   have B3 : Blk v8 g3 52 ([.int .i64 ((2 : Nat) : Int), .string tx, .int .i64 (tbx : Int), .int .i64 (dcx : Int), .int .i64 (vrx : Int)] ++ (six nv.1 none 0 none 0 0 ++ (nums .u8 hh ++ [.bool false, .int .i64 (abx : Int), .int .i64 (aex : Int)]))) := B3
   go_wp2_with (first | (refine ld_w (by rfl) 48 (.tmp 7) rfl g7 0 rfl (six q.1 na nc ka q.2.list.length kc) _ B8.all Tryz.underlying48 rfl (szV _ _ _ _ _ _) ?_) | (refine st_row rfl 48 (.tmp 104) (.tmp 103) rfl g3 5 52 [.int .i64 ((2 : Nat) : Int), .string tx, .int .i64 (tbx : Int), .int .i64 (dcx : Int), .int .i64 (vrx : Int)] (six nv.1 none 0 none 0 0) (nums .u8 hh ++ [.bool false, .int .i64 (abx : Int), .int .i64 (aex : Int)]) (six q.1 na nc ka q.2.list.length kc) rfl rfl rfl B3 rfl (szV _ _ _ _ _ _) (six_one _ _ _ _ _ _) ?_))
   intro v9 B3' G9
   have RR := RR.st G9 (by omega) (by omega)
   have B2 := B2.kept G9 (fun e => n23 (Option.some.inj e))
   have HG := gr_st HG G9 hw3
   have VNY : Hid (∃ LL, VlL v9 q na nc ka kc LL /\ ∀ x ∈ LL, v5.heap.size <= x /\ x < v9.heap.size) := by
    obtain ⟨LL, q1, q2⟩ := VN8.out
    exact ⟨LL, q1.keep fun x hx => G9.block x (by have := (q2 x hx).2; omega) (fun e => by have := Option.some.inj e; have := (q2 x hx).1; have := HG3.out.1; omega), fun x hx => ⟨(q2 x hx).1, by have := (q2 x hx).2; have := G9.size; omega⟩⟩
   have B3 : Blk v9 g3 52 (eC ⟨((2 : Nat) : Int), tx, (tbx : Int), (dcx : Int), (vrx : Int), q, hh, false, (abx : Int), (aex : Int)⟩ na nc ka kc) := B3'
   have HG9 : Hid (g2 < v9.heap.size) := B2.lt
   clear B3' G9 B8
   have HSF : Hid (Sq enR l err l23 0 ⟨((2 : Nat) : Int), tx, (tbx : Int), (dcx : Int), (vrx : Int), q, hh, false, (abx : Int), (aex : Int)⟩) := HRV.out _ _ _ _ hh (q, false) SH.out (SM2.out _ _ _ (SD.out 0 (q, false) (fun _ => ⟨rfl, rfl⟩) (fun h => absurd rfl h)))
   go_wp2_with (first | (refine ld_w (by rfl) 52 (.tmp 3) rfl g3 0 rfl (eC ⟨((2 : Nat) : Int), tx, (tbx : Int), (dcx : Int), (vrx : Int), q, hh, false, (abx : Int), (aex : Int)⟩ na nc ka kc) _ B3.all Tryz.underlying52 rfl (sE HLh.out _ _ _ _) ?_) | (refine st_all rfl 52 (.tmp 2) (.tmp 105) rfl g2 52 (eC e0 none 0 none 0) (eC ⟨((2 : Nat) : Int), tx, (tbx : Int), (dcx : Int), (vrx : Int), q, hh, false, (abx : Int), (aex : Int)⟩ na nc ka kc) rfl rfl B2 (by rw [eC_len HLh.out, eC_len zr_len]) (sE HLh.out _ _ _ _) (eC_one _ _ _ _ _) ?_))
   intro wz BZ G0
   have HF : Hid (Rc w0 r wz l23 0 /\ W.grownBy wz (some r)) := ⟨RR.st G0 (by omega) (by omega), gr_st HG G0 l2⟩
   have VZ : Hid (VNew W wz q na nc ka kc) := by
    obtain ⟨LL, q1, q2⟩ := VNY.out
    exact ⟨LL, q1.keep fun x hx => G0.block x (q2 x hx).2 (fun e => by have := Option.some.inj e; have := (q2 x hx).1; have := HG3.out.2; omega), fun x hx => ⟨by have := (q2 x hx).1; have := hs5.out; omega, by have := (q2 x hx).2; have := G0.size; omega⟩⟩
   clear G0 RR HG
   go_wp2
   (try simp only [Exit.inBlock, Exit.then])
   refine bodyPost_ret (Sh.res_row rfl _ g2 52 _ _ rfl BZ Tryz.underlying52 rfl (sE HLh.out _ _ _ _)) rfl ⟨⟨((2 : Nat) : Int), tx, (tbx : Int), (dcx : Int), (vrx : Int), q, hh, false, (abx : Int), (aex : Int)⟩, l23, 0, na, nc, ka, kc, rfl, HF.out.1, HF.out.2, HSF.out, VZ.out, ⟨i64n (by omega), by have := htx; show tx.size <= _; omega, i64n (by omega), i64n (by omega), i64n (by omega), HWq.out, HH.out, i64n (by omega), i64n (by omega)⟩⟩
 . have hdb : (DE != 0) = true := bne_iff_ne.2 hd0
   obtain ⟨ay, cay, hby, hq1, hq2, hq3, hq4⟩ := RR.ex
   have HY : Hid (Byt w0 ay l23 /\ (ay = none -> cay = 0)) := ⟨hq1, hq2⟩
   clear hq1 hq2
   go_wp2_with (refine st_one rfl 3 (.tmp 102) (.const (.int .i64 3)) rfl r 1 72 _ (.int .i64 3) rfl rfl rfl rfl (by simp) hby s3 ?_)
   intro v10 b4 G4
   have RR := RR.same b4 G4 HY.out.1 HY.out.2 hq3 hq4 RR.oct RR.len
   have B8 := B8.kept G4 (fun e => n37.2.2 (Option.some.inj e).symm)
   have B2 := B2.kept G4 (fun e => by have := Option.some.inj e; omega)
   have B3 := B3.kept G4 (fun e => by have := Option.some.inj e; omega)
   have HG := HG.trans G4
   have VN10 : Hid (∃ LL, VlL v10 q na nc ka kc LL /\ ∀ x ∈ LL, v5.heap.size <= x /\ x < v6.heap.size) := by
    obtain ⟨LL, q1, q2⟩ := VN8.out
    exact ⟨LL, q1.keep fun x hx => G4.block x (by have := (q2 x hx).2; omega) (fun e => by have := Option.some.inj e; have := (q2 x hx).1; have := hs5.out; omega), q2⟩
   have s810 := G4.size
   clear b4 G4 hby VN8
   have B3 : Blk v10 g3 52 ([.int .i64 ((2 : Nat) : Int), .string tx, .int .i64 (tbx : Int), .int .i64 (dcx : Int), .int .i64 (vrx : Int)] ++ (six nv.1 none 0 none 0 0 ++ (nums .u8 hh ++ [.bool false, .int .i64 (abx : Int), .int .i64 (aex : Int)]))) := B3
   go_wp2_with (first | (refine ld_w (by rfl) 48 (.tmp 7) rfl g7 0 rfl (six q.1 na nc ka q.2.list.length kc) _ B8.all Tryz.underlying48 rfl (szV _ _ _ _ _ _) ?_) | (refine st_row rfl 48 (.tmp 104) (.tmp 103) rfl g3 5 52 [.int .i64 ((2 : Nat) : Int), .string tx, .int .i64 (tbx : Int), .int .i64 (dcx : Int), .int .i64 (vrx : Int)] (six nv.1 none 0 none 0 0) (nums .u8 hh ++ [.bool false, .int .i64 (abx : Int), .int .i64 (aex : Int)]) (six q.1 na nc ka q.2.list.length kc) rfl rfl rfl B3 rfl (szV _ _ _ _ _ _) (six_one _ _ _ _ _ _) ?_))
   intro v9 B3' G9
   have RR := RR.st G9 (by omega) (by omega)
   have B2 := B2.kept G9 (fun e => n23 (Option.some.inj e))
   have HG := gr_st HG G9 hw3
   have VNY : Hid (∃ LL, VlL v9 q na nc ka kc LL /\ ∀ x ∈ LL, v5.heap.size <= x /\ x < v9.heap.size) := by
    obtain ⟨LL, q1, q2⟩ := VN10.out
    exact ⟨LL, q1.keep fun x hx => G9.block x (by have := (q2 x hx).2; omega) (fun e => by have := Option.some.inj e; have := (q2 x hx).1; have := HG3.out.1; omega), fun x hx => ⟨(q2 x hx).1, by have := (q2 x hx).2; have := G9.size; omega⟩⟩
   have B3 : Blk v9 g3 52 (eC ⟨((2 : Nat) : Int), tx, (tbx : Int), (dcx : Int), (vrx : Int), q, hh, false, (abx : Int), (aex : Int)⟩ na nc ka kc) := B3'
   have HG9 : Hid (g2 < v9.heap.size) := B2.lt
   clear B3' G9 B8
   have HSF : Hid (Sq enR l err l23 3 ⟨((2 : Nat) : Int), tx, (tbx : Int), (dcx : Int), (vrx : Int), q, hh, false, (abx : Int), (aex : Int)⟩) := sq_no (HRV.out _ _ _ _ hh (q, false) SH.out (SM2.out _ _ _ (SD.out 3 (q, false) (fun h => absurd h hd0) (fun _ => rfl)))) (by decide)
   go_wp2_with (first | (refine ld_w (by rfl) 52 (.tmp 3) rfl g3 0 rfl (eC ⟨((2 : Nat) : Int), tx, (tbx : Int), (dcx : Int), (vrx : Int), q, hh, false, (abx : Int), (aex : Int)⟩ na nc ka kc) _ B3.all Tryz.underlying52 rfl (sE HLh.out _ _ _ _) ?_) | (refine st_all rfl 52 (.tmp 2) (.tmp 105) rfl g2 52 (eC e0 none 0 none 0) (eC ⟨((2 : Nat) : Int), tx, (tbx : Int), (dcx : Int), (vrx : Int), q, hh, false, (abx : Int), (aex : Int)⟩ na nc ka kc) rfl rfl B2 (by rw [eC_len HLh.out, eC_len zr_len]) (sE HLh.out _ _ _ _) (eC_one _ _ _ _ _) ?_))
   intro wz BZ G0
   have HF : Hid (Rc w0 r wz l23 3 /\ W.grownBy wz (some r)) := ⟨RR.st G0 (by omega) (by omega), gr_st HG G0 l2⟩
   have VZ : Hid (VNew W wz q na nc ka kc) := by
    obtain ⟨LL, q1, q2⟩ := VNY.out
    exact ⟨LL, q1.keep fun x hx => G0.block x (q2 x hx).2 (fun e => by have := Option.some.inj e; have := (q2 x hx).1; have := HG3.out.2; omega), fun x hx => ⟨by have := (q2 x hx).1; have := hs5.out; omega, by have := (q2 x hx).2; have := G0.size; omega⟩⟩
   clear G0 RR HG
   go_wp2
   (try simp only [Exit.inBlock, Exit.then])
   refine bodyPost_ret (Sh.res_row rfl _ g2 52 _ _ rfl BZ Tryz.underlying52 rfl (sE HLh.out _ _ _ _)) rfl ⟨⟨((2 : Nat) : Int), tx, (tbx : Int), (dcx : Int), (vrx : Int), q, hh, false, (abx : Int), (aex : Int)⟩, l23, 3, na, nc, ka, kc, rfl, HF.out.1, HF.out.2, HSF.out, VZ.out, ⟨i64n (by omega), by have := htx; show tx.size <= _; omega, i64n (by omega), i64n (by omega), i64n (by omega), HWq.out, HH.out, i64n (by omega), i64n (by omega)⟩⟩
end Go.Proofs.YtmbglggodifboaaGreat.Sh
