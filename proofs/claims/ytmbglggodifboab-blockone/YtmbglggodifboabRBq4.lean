/-
  block's reader: entry.
-/
import Derived.Test.YtmbglggodifboabRBq3
namespace Go.Proofs.Ytmbglggodifboab.Sh
open Go Go.RowKit Math Mt
set_option linter.unusedVariables false
set_option linter.unusedSimpArgs false
def preR : Rdr Unit := byR.bind fun k => nR.bind fun _ => nR.bind fun _ => nR.bind fun _ => tR.bind fun _ => nR.bind fun _ => nR.bind fun _ => if k = 2 then (takeR 32).bind fun _ => .ret () else .no 3
/-- What an entry's Data are is not too long. -/
def eSf (l : List Nat) : Prop := ∀ r, preR l = .ok ((), r) → dSf r
theorem eC_end3 {e : En} (hl : e.h.length = 32) (na : Option Addr) (nc : Nat) (ka : Option Addr) (kc : Nat) (j : Nat) (u : Value) (L : List Value) (hL : [Value.bool e.g, .int .i64 e.ab, .int .i64 e.ae].set j u = L) (hj : j < 3) : (eC e na nc ka kc).set (43 + j) u = [.int .i64 e.k, .string e.t, .int .i64 e.tb, .int .i64 e.dc, .int .i64 e.vr] ++ (six e.v.1 na nc ka e.v.2.list.length kc ++ (nums .u8 e.h ++ L)) := by
  unfold eC
  rw [List.set_append_right _ _ (by simp; omega), List.set_append_right _ _ (by simp [six]; omega), List.set_append_right _ _ (by simp [six, nums_length, hl]; omega), ← hL]
  rw [show 43 + j - [Value.int .i64 e.k, .string e.t, .int .i64 e.tb, .int .i64 e.dc, .int .i64 e.vr].length - (six e.v.1 na nc ka e.v.2.list.length kc).length - (nums .u8 e.h).length = j by simp [six, nums_length, hl]; omega]
theorem s4 : (Try.prog.info? 4).map (·.size) = some 1 := by kernel_rfl
theorem s9' : (Try.prog.info? 9).map (·.size) = some 1 := by kernel_rfl
theorem zr_len : zr.length = 32 := rfl
theorem i64n {u : Nat} (h : u ≤ 9007199254740992) : I64 (u : Int) := ⟨by omega, by omega⟩
set_option maxHeartbeats 4000000 in
set_option maxRecDepth 8000 in
theorem bentry_any (w0 W : World) (r : Nat) (l : List Nat) (err : Int) (h : Rb w0 r W l err) (hd : err = 0 → eSf l) :
    Calls Try.prog 27 #[.pointer (some ⟨r, 0, none⟩)] W fun e w' => ∃ (x : En) (l' : List Nat) (err' : Int) (na : Option Addr) (nc : Nat) (ka : Option Addr) (kc : Nat), e = .returned (.agg (eC x na nc ka kc).toArray) ∧ Hid (Rb w0 r w' l' err' ∧ W.grownBy w' (some r) ∧ Sq enR l err l' err' x ∧ VNew W w' x.v na nc ka kc ∧ EnW x) := by
  have hrl := h.rlt
  have h0 := h.bl.size
  have HD : Hid (err = 0 → eSf l) := hd
  have R0 : Rb w0 r W l err := h
  have HG : W.grownBy W (some r) := World.grownBy.refl _ _
  clear h hd
  go_enter Try.func27, Try.ntmps27
  go_wp2_with (refine al_zero rfl 45 rfl (eC e0 none 0 none 0) zEn ?_)
  intro g2 w1 l2 B2 G0
  have RR := R0.al G0
  have HG := gr_al HG G0
  have s1 := G0.size
  clear G0 R0
  go_wp2_with (refine al_zero rfl 45 rfl (eC e0 none 0 none 0) zEn ?_)
  intro g3 w2 l3 B3 G0
  have n23 : g2 ≠ g3 := by have := B2.lt; omega
  have hw3 : W.heap.size ≤ g3 := by omega
  have RR := RR.al G0
  have HG := gr_al HG G0
  have B2 := B2.kept G0 (by simp)
  clear G0
  have K := bnext_any w0 w2 r l err RR
  clear RR
  go_wp2_with fail
  refine K.mono ?_
  clear K
  rintro e u0 ⟨kx, l10, e10, rfl, hkx, H⟩
  have RR := H.out.1
  have B2 := B2.kept H.out.2.1 (fun e => by have := Option.some.inj e; omega)
  have B3 := B3.kept H.out.2.1 (fun e => by have := Option.some.inj e; omega)
  have HG := HG.trans H.out.2.1
  have S0 : Hid (Sq byR l err l10 e10 kx) := H.out.2.2
  clear H
  go_wp2_with (refine st_one rfl 3 (.tmp 6) (.tmp 5) rfl g3 0 45 _ (.int .i64 (kx : Int)) rfl rfl rfl rfl (by rw [eC_len zr_len]; decide) B3 s3 ?_)
  intro u0s B3' G0
  have RR := RR.st G0 (by omega) (by omega)
  have B2 := B2.kept G0 (fun e => n23 (Option.some.inj e))
  have HG := gr_st HG G0 hw3
  have B3 : Blk u0s g3 45 (eC ⟨(kx : Int), ⟨#[]⟩, 0, 0, 0, nv, zr, false, 0, 0⟩ none 0 none 0) := B3'
  clear B3' G0
  have K := bnum_any w0 u0s r l10 e10 RR
  clear RR
  go_wp2_with fail
  refine K.mono ?_
  clear K
  rintro e u1 ⟨tbx, l11, e11, rfl, htbx, H⟩
  have RR := H.out.1
  have B2 := B2.kept H.out.2.1 (fun e => by have := Option.some.inj e; omega)
  have B3 := B3.kept H.out.2.1 (fun e => by have := Option.some.inj e; omega)
  have HG := HG.trans H.out.2.1
  have S1 : Hid (Sq nR l10 e10 l11 e11 tbx) := H.out.2.2
  clear H
  go_wp2_with (refine st_one rfl 3 (.tmp 9) (.tmp 8) rfl g3 2 45 _ (.int .i64 (tbx : Int)) rfl rfl rfl rfl (by rw [eC_len zr_len]; decide) B3 s3 ?_)
  intro u1s B3' G0
  have RR := RR.st G0 (by omega) (by omega)
  have B2 := B2.kept G0 (fun e => n23 (Option.some.inj e))
  have HG := gr_st HG G0 hw3
  have B3 : Blk u1s g3 45 (eC ⟨(kx : Int), ⟨#[]⟩, (tbx : Int), 0, 0, nv, zr, false, 0, 0⟩ none 0 none 0) := B3'
  clear B3' G0
  have K := bnum_any w0 u1s r l11 e11 RR
  clear RR
  go_wp2_with fail
  refine K.mono ?_
  clear K
  rintro e u2 ⟨dcx, l12, e12, rfl, hdcx, H⟩
  have RR := H.out.1
  have B2 := B2.kept H.out.2.1 (fun e => by have := Option.some.inj e; omega)
  have B3 := B3.kept H.out.2.1 (fun e => by have := Option.some.inj e; omega)
  have HG := HG.trans H.out.2.1
  have S2 : Hid (Sq nR l11 e11 l12 e12 dcx) := H.out.2.2
  clear H
  go_wp2_with (refine st_one rfl 3 (.tmp 12) (.tmp 11) rfl g3 3 45 _ (.int .i64 (dcx : Int)) rfl rfl rfl rfl (by rw [eC_len zr_len]; decide) B3 s3 ?_)
  intro u2s B3' G0
  have RR := RR.st G0 (by omega) (by omega)
  have B2 := B2.kept G0 (fun e => n23 (Option.some.inj e))
  have HG := gr_st HG G0 hw3
  have B3 : Blk u2s g3 45 (eC ⟨(kx : Int), ⟨#[]⟩, (tbx : Int), (dcx : Int), 0, nv, zr, false, 0, 0⟩ none 0 none 0) := B3'
  clear B3' G0
  have K := bnum_any w0 u2s r l12 e12 RR
  clear RR
  go_wp2_with fail
  refine K.mono ?_
  clear K
  rintro e u3 ⟨vrx, l13, e13, rfl, hvrx, H⟩
  have RR := H.out.1
  have B2 := B2.kept H.out.2.1 (fun e => by have := Option.some.inj e; omega)
  have B3 := B3.kept H.out.2.1 (fun e => by have := Option.some.inj e; omega)
  have HG := HG.trans H.out.2.1
  have S3 : Hid (Sq nR l12 e12 l13 e13 vrx) := H.out.2.2
  clear H
  go_wp2_with (refine st_one rfl 3 (.tmp 15) (.tmp 14) rfl g3 4 45 _ (.int .i64 (vrx : Int)) rfl rfl rfl rfl (by rw [eC_len zr_len]; decide) B3 s3 ?_)
  intro u3s B3' G0
  have RR := RR.st G0 (by omega) (by omega)
  have B2 := B2.kept G0 (fun e => n23 (Option.some.inj e))
  have HG := gr_st HG G0 hw3
  have B3 : Blk u3s g3 45 (eC ⟨(kx : Int), ⟨#[]⟩, (tbx : Int), (dcx : Int), (vrx : Int), nv, zr, false, 0, 0⟩ none 0 none 0) := B3'
  clear B3' G0
  have K := btext_any w0 u3s r l13 e13 RR
  clear RR
  go_wp2_with fail
  refine K.mono ?_
  clear K
  rintro e u4 ⟨tx, l14, e14, rfl, htx, H⟩
  have RR := H.out.1
  have B2 := B2.kept H.out.2.1 (fun e => by have := Option.some.inj e; omega)
  have B3 := B3.kept H.out.2.1 (fun e => by have := Option.some.inj e; omega)
  have HG := HG.trans H.out.2.1
  have S4 : Hid (Sq tR l13 e13 l14 e14 tx) := H.out.2.2
  clear H
  go_wp2_with (refine st_one rfl 9 (.tmp 18) (.tmp 17) rfl g3 1 45 _ (.string tx) rfl rfl rfl rfl (by rw [eC_len zr_len]; decide) B3 s9' ?_)
  intro u4s B3' G0
  have RR := RR.st G0 (by omega) (by omega)
  have B2 := B2.kept G0 (fun e => n23 (Option.some.inj e))
  have HG := gr_st HG G0 hw3
  have B3 : Blk u4s g3 45 (eC ⟨(kx : Int), tx, (tbx : Int), (dcx : Int), (vrx : Int), nv, zr, false, 0, 0⟩ none 0 none 0) := B3'
  clear B3' G0
  have K := bnum_any w0 u4s r l14 e14 RR
  clear RR
  go_wp2_with fail
  refine K.mono ?_
  clear K
  rintro e u5 ⟨abx, l15, e15, rfl, habx, H⟩
  have RR := H.out.1
  have B2 := B2.kept H.out.2.1 (fun e => by have := Option.some.inj e; omega)
  have B3 := B3.kept H.out.2.1 (fun e => by have := Option.some.inj e; omega)
  have HG := HG.trans H.out.2.1
  have S5 : Hid (Sq nR l14 e14 l15 e15 abx) := H.out.2.2
  clear H
  go_wp2_with (refine st_one rfl 3 (.tmp 22) (.tmp 20) rfl g3 44 45 _ (.int .i64 (abx : Int)) rfl rfl rfl rfl (by rw [eC_len zr_len]; decide) B3 s3 ?_)
  intro u5s B3' G0
  have RR := RR.st G0 (by omega) (by omega)
  have B2 := B2.kept G0 (fun e => n23 (Option.some.inj e))
  have HG := gr_st HG G0 hw3
  have B3 : Blk u5s g3 45 (eC ⟨(kx : Int), tx, (tbx : Int), (dcx : Int), (vrx : Int), nv, zr, false, (abx : Int), 0⟩ none 0 none 0) := by rw [eC_end3 (j := 1) zr_len none 0 none 0 _ _ rfl (by decide)] at B3'; exact B3'
  clear B3' G0
  have K := bnum_any w0 u5s r l15 e15 RR
  clear RR
  go_wp2_with fail
  refine K.mono ?_
  clear K
  rintro e u6 ⟨aex, l16, e16, rfl, haex, H⟩
  have RR := H.out.1
  have B2 := B2.kept H.out.2.1 (fun e => by have := Option.some.inj e; omega)
  have B3 := B3.kept H.out.2.1 (fun e => by have := Option.some.inj e; omega)
  have HG := HG.trans H.out.2.1
  have S6 : Hid (Sq nR l15 e15 l16 e16 aex) := H.out.2.2
  clear H
  go_wp2_with (refine st_one rfl 3 (.tmp 26) (.tmp 24) rfl g3 45 45 _ (.int .i64 (aex : Int)) rfl rfl rfl rfl (by rw [eC_len zr_len]; decide) B3 s3 ?_)
  intro u6s B3' G0
  have RR := RR.st G0 (by omega) (by omega)
  have B2 := B2.kept G0 (fun e => n23 (Option.some.inj e))
  have HG := gr_st HG G0 hw3
  have B3 : Blk u6s g3 45 (eC ⟨(kx : Int), tx, (tbx : Int), (dcx : Int), (vrx : Int), nv, zr, false, (abx : Int), (aex : Int)⟩ none 0 none 0) := by rw [eC_end3 (j := 2) zr_len none 0 none 0 _ _ rfl (by decide)] at B3'; exact B3'
  clear B3' G0
  have ck : u6s.cell? ⟨g3, 0, none⟩ = some (.int .i64 (kx : Int)) := B3.cell 0
  by_cases hk2 : kx = 2
  · have hkb : ((kx : Int) == 2) = true := by rw [hk2]; rfl
    have HSX : Hid (∀ (l' : List Nat) (e' : Int) (X : En), Sq (rvR kx tbx dcx vrx tx abx aex) l16 e16 l' e' X → Sq enR l err l' e' X) := fun l' e' X q => (sq_bind S0.out (sq_bind S1.out (sq_bind S2.out (sq_bind S3.out (sq_bind S4.out (sq_bind S5.out (sq_bind S6.out q)))))))
    have HSP : Hid (∀ (l' : List Nat) (e' : Int) (hh : List Nat), Sq (takeR 32) l16 e16 l' e' hh → Sq preR l err l' e' ()) := fun l' e' hh q => (sq_bind S0.out (sq_bind S1.out (sq_bind S2.out (sq_bind S3.out (sq_bind S4.out (sq_bind S5.out (sq_bind S6.out (by rw [if_pos hk2]; exact sq_bind q (sq_ret _ _ _)))))))))
    have HRV : Hid (∀ (l1 l' : List Nat) (e1 e' : Int) (hh : List Nat) (q : Vt × Bool), Sq (takeR 32) l16 e16 l1 e1 hh → Sq dtR l1 e1 l' e' q → Sq (rvR kx tbx dcx vrx tx abx aex) l16 e16 l' e' ⟨kx, tx, tbx, dcx, vrx, q.1, hh, q.2, abx, aex⟩) := fun l1 l' e1 e' hh q q1 q2 => by unfold rvR; rw [if_pos hk2]; exact sq_bind q1 (sq_bind q2 (sq_ret _ _ _))
    clear S0 S1 S2 S3 S4 S5 S6 hk2
    have K := bhash_any w0 u6s r l16 e16 RR
    clear RR
    go_wp2_with fail
    refine K.mono ?_
    clear K
    rintro e v1 ⟨hh, l20, e20, rfl, hhh, H⟩
    have RR := H.out.1
    have B2 := B2.kept H.out.2.1 (fun e => by have := Option.some.inj e; omega)
    have B3 := B3.kept H.out.2.1 (fun e => by have := Option.some.inj e; omega)
    have HG := HG.trans H.out.2.1
    have SH : Hid (Sq (takeR 32) l16 e16 l20 e20 hh) := H.out.2.2
    have HH : Hid (H32 hh) := hhh
    clear H ck hhh
    have B3 : Blk v1 g3 45 (([.int .i64 (kx : Int), .string tx, .int .i64 (tbx : Int), .int .i64 (dcx : Int), .int .i64 (vrx : Int)] ++ six nv.1 none 0 none 0 0) ++ (nums .u8 zr ++ [.bool false, .int .i64 (abx : Int), .int .i64 (aex : Int)])) := B3
    go_wp2_with (refine st_row rfl 23 (.tmp 32) (.tmp 31) rfl g3 11 45 ([.int .i64 (kx : Int), .string tx, .int .i64 (tbx : Int), .int .i64 (dcx : Int), .int .i64 (vrx : Int)] ++ six nv.1 none 0 none 0 0) (nums .u8 zr) [.bool false, .int .i64 (abx : Int), .int .i64 (aex : Int)] (nums .u8 hh) rfl rfl rfl B3 (by rw [nums_length, nums_length, HH.out.1]; rfl) (sH HH.out.1) (nums_one _ _) ?_)
    intro v2 B3' G0
    have RR := RR.st G0 (by omega) (by omega)
    have B2 := B2.kept G0 (fun e => n23 (Option.some.inj e))
    have HG := gr_st HG G0 hw3
    have B3 : Blk v2 g3 45 (eC ⟨(kx : Int), tx, (tbx : Int), (dcx : Int), (vrx : Int), nv, hh, false, (abx : Int), (aex : Int)⟩ none 0 none 0) := B3'
    clear B3' G0
    have K := bdata_any w0 v2 r l20 e20 RR (fun z => by
      have q := HSP.out _ _ _ SH.out
      rw [z] at q
      obtain ⟨z1, z2⟩ := sq_ok q
      exact HD.out z1 _ z2)
    clear RR
    have sv2 := HG.size
    have g3v : g3 < v2.heap.size := B3.lt
    have g2v : g2 < v2.heap.size := B2.lt
    go_wp2_with fail
    refine K.mono ?_
    clear K
    rintro e v3 ⟨q, l21, e21, na, nc, ka, kc, rfl, H⟩
    obtain ⟨RR, hG3, SD, VV, HWf⟩ := H.out
    have B2 := B2.kept hG3 (fun e => by have := Option.some.inj e; omega)
    have B3 := B3.kept hG3 (fun e => by have := Option.some.inj e; omega)
    have HG := HG.trans hG3
    have HSF : Hid (Sq enR l err l21 e21 ⟨kx, tx, tbx, dcx, vrx, q.1, hh, q.2, abx, aex⟩) := HSX.out _ _ _ (HRV.out _ _ _ _ _ _ SH.out SD)
    clear H SD hG3 HSX HSP HRV
    have B3 : Blk v3 g3 45 ([.int .i64 (kx : Int), .string tx, .int .i64 (tbx : Int), .int .i64 (dcx : Int), .int .i64 (vrx : Int)] ++ (six nv.1 none 0 none 0 0 ++ (nums .u8 hh ++ [.bool false, .int .i64 (abx : Int), .int .i64 (aex : Int)]))) := B3
    go_wp2_with (refine st_row rfl 41 (.tmp 38) (.tmp 36) rfl g3 5 45 [.int .i64 (kx : Int), .string tx, .int .i64 (tbx : Int), .int .i64 (dcx : Int), .int .i64 (vrx : Int)] (six nv.1 none 0 none 0 0) (nums .u8 hh ++ [.bool false, .int .i64 (abx : Int), .int .i64 (aex : Int)]) (six q.1.1 na nc ka q.1.2.list.length kc) rfl rfl rfl B3 rfl (szV _ _ _ _ _ _) (six_one _ _ _ _ _ _) ?_)
    intro v4 B3' G0
    have RR := RR.st G0 (by omega) (by omega)
    have B2 := B2.kept G0 (fun e => n23 (Option.some.inj e))
    have HG := gr_st HG G0 hw3
    have VV := VV.st G0 (fun x e => by have := Option.some.inj e; omega)
    have B3 : Blk v4 g3 45 (eC ⟨(kx : Int), tx, (tbx : Int), (dcx : Int), (vrx : Int), q.1, hh, false, (abx : Int), (aex : Int)⟩ na nc ka kc) := B3'
    clear B3' G0
    go_wp2_with (refine st_one rfl 4 (.tmp 39) (.tmp 37) rfl g3 43 45 _ (.bool q.2) rfl rfl rfl rfl (by rw [eC_len HH.out.1]; decide) B3 s4 ?_)
    intro v5 B3' G0
    have RR := RR.st G0 (by omega) (by omega)
    have B2 := B2.kept G0 (fun e => n23 (Option.some.inj e))
    have HG := gr_st HG G0 hw3
    have VV := VV.st G0 (fun x e => by have := Option.some.inj e; omega)
    have B3 : Blk v5 g3 45 (eC ⟨(kx : Int), tx, (tbx : Int), (dcx : Int), (vrx : Int), q.1, hh, q.2, (abx : Int), (aex : Int)⟩ na nc ka kc) := by rw [eC_end3 (j := 0) HH.out.1 na nc ka kc _ _ rfl (by decide)] at B3'; exact B3'
    clear B3' G0
    go_wp2_with (first | (refine ld_w (by rfl) 45 (.tmp 3) rfl g3 0 rfl (eC ⟨(kx : Int), tx, (tbx : Int), (dcx : Int), (vrx : Int), q.1, hh, q.2, (abx : Int), (aex : Int)⟩ na nc ka kc) _ B3.all Try.underlying45 rfl (sE HH.out.1 _ _ _ _) ?_) | (refine st_all rfl 45 (.tmp 2) (.tmp 40) rfl g2 45 (eC e0 none 0 none 0) (eC ⟨(kx : Int), tx, (tbx : Int), (dcx : Int), (vrx : Int), q.1, hh, q.2, (abx : Int), (aex : Int)⟩ na nc ka kc) rfl rfl B2 (by rw [eC_len HH.out.1, eC_len zr_len]) (sE HH.out.1 _ _ _ _) (eC_one _ _ _ _ _) ?_))
    intro wz BZ G0
    have HF : Hid (Rb w0 r wz l21 e21 ∧ W.grownBy wz (some r) ∧ VNew W wz q.1 na nc ka kc) := ⟨RR.st G0 (by omega) (by omega), gr_st HG G0 l2, (VV.st G0 (fun x e => by have := Option.some.inj e; omega)).mono sv2⟩
    have HEW : Hid (EnW ⟨(kx : Int), tx, (tbx : Int), (dcx : Int), (vrx : Int), q.1, hh, q.2, (abx : Int), (aex : Int)⟩) := ⟨i64n (by omega), by have := htx; show tx.size ≤ _; omega, i64n (by omega), i64n (by omega), i64n (by omega), HWf, HH.out, i64n (by omega), i64n (by omega)⟩
    clear G0 RR HG VV
    go_wp2
    (try simp only [Exit.inBlock, Exit.then])
    refine bodyPost_ret (Sh.res_row rfl _ g2 45 _ _ rfl BZ Try.underlying45 rfl (sE HH.out.1 _ _ _ _)) rfl ⟨⟨(kx : Int), tx, (tbx : Int), (dcx : Int), (vrx : Int), q.1, hh, q.2, (abx : Int), (aex : Int)⟩, l21, e21, na, nc, ka, kc, rfl, HF.out.1, HF.out.2.1, HSF.out, HF.out.2.2, HEW.out⟩
  · have hkb : ((kx : Int) == 2) = false := beq_eq_false_iff_ne.2 (by omega)
    have HSF : Hid (Sq enR l err l16 e16 ⟨(kx : Int), tx, (tbx : Int), (dcx : Int), (vrx : Int), nv, zr, false, (abx : Int), (aex : Int)⟩) := (sq_bind S0.out (sq_bind S1.out (sq_bind S2.out (sq_bind S3.out (sq_bind S4.out (sq_bind S5.out (sq_bind S6.out (by unfold rvR; rw [if_neg hk2]; exact sq_ret _ _ _))))))))
    clear hk2
    go_wp2_with (first | (refine ld_w (by rfl) 45 (.tmp 3) rfl g3 0 rfl (eC ⟨(kx : Int), tx, (tbx : Int), (dcx : Int), (vrx : Int), nv, zr, false, (abx : Int), (aex : Int)⟩ none 0 none 0) _ B3.all Try.underlying45 rfl (sE zr_len _ _ _ _) ?_) | (refine st_all rfl 45 (.tmp 2) (.tmp 40) rfl g2 45 (eC e0 none 0 none 0) (eC ⟨(kx : Int), tx, (tbx : Int), (dcx : Int), (vrx : Int), nv, zr, false, (abx : Int), (aex : Int)⟩ none 0 none 0) rfl rfl B2 (by rw [eC_len zr_len, eC_len zr_len]) (sE zr_len _ _ _ _) (eC_one _ _ _ _ _) ?_))
    intro wz BZ G0
    have HF : Hid (Rb w0 r wz l16 e16 ∧ W.grownBy wz (some r)) := ⟨RR.st G0 (by omega) (by omega), gr_st HG G0 l2⟩
    clear G0 RR HG
    go_wp2
    (try simp only [Exit.inBlock, Exit.then])
    refine bodyPost_ret (Sh.res_row rfl _ g2 45 _ _ rfl BZ Try.underlying45 rfl (sE zr_len _ _ _ _)) rfl ⟨⟨(kx : Int), tx, (tbx : Int), (dcx : Int), (vrx : Int), nv, zr, false, (abx : Int), (aex : Int)⟩, l16, e16, none, 0, none, 0, rfl, HF.out.1, HF.out.2, HSF.out, vnew_nv _ _, ⟨i64n (by omega), by have := htx; show tx.size ≤ _; omega, i64n (by omega), i64n (by omega), i64n (by omega), wf_lf 0 0 0 em (by omega) (by omega) (by omega) (by decide), ⟨rfl, fun x hx => by have := List.eq_of_mem_replicate hx; omega⟩, i64n (by omega), i64n (by omega)⟩⟩
end Go.Proofs.Ytmbglggodifboab.Sh
