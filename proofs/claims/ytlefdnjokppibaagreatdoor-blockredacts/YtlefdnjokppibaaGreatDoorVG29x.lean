/-
  block's reader: data. · block's reader: entry. · What is read of a block's bytes is written so: over lists, no program is named. · Rows of entries that grow; what is read of a block, over lists.
-/
import Derived.Test.YtlefdnjokppibaaGreatDoorVBq2
import Derived.Test.YtlefdnjokppibaaGreatDoorVG27x
namespace Go.Proofs.YtlefdnjokppibaaGreatDoor.Sh
open Go Go.RowKit Math Mt
set_option linter.unusedVariables false
set_option linter.unusedSimpArgs false
theorem gr_st {W w1 w2 : World} {r g : Nat} (h : W.grownBy w1 (some r)) (k : w1.grownBy w2 (some g)) (hg : W.heap.size ≤ g) : W.grownBy w2 (some r) :=
  ⟨k.os.trans h.os, k.tape.trans h.tape, k.output.trans h.output, Nat.le_trans h.size k.size, fun i hi hne => (k.block i (Nat.lt_of_lt_of_le hi h.size) (fun e => by have := Option.some.inj e; omega)).trans (h.block i hi hne)⟩
theorem gr_al {W w1 w2 : World} {r : Nat} (h : W.grownBy w1 (some r)) (k : w1.grownBy w2 none) : W.grownBy w2 (some r) :=
  ⟨k.os.trans h.os, k.tape.trans h.tape, k.output.trans h.output, Nat.le_trans h.size k.size, fun i hi hne => (k.block i (Nat.lt_of_lt_of_le hi h.size) (by simp)).trans (h.block i hi hne)⟩
theorem gr_be {W w1 w2 : World} {r : Nat} (h : W.grownBy w1 (some r)) (k : Below w1.heap.size w1 w2) : W.grownBy w2 (some r) :=
  ⟨k.os.trans h.os, k.tape.trans h.tape, k.output.trans h.output, Nat.le_trans h.size k.size, fun i hi hne => (k.block i (Nat.lt_of_lt_of_le hi h.size)).trans (h.block i hi hne)⟩
theorem Rb.st {w0 : World} {r : Nat} {w w' : World} {l : List Nat} {e : Int} (h : Rb w0 r w l e) {g : Nat} (hg : w.grownBy w' (some g)) (hne : r ≠ g) (hl : w0.heap.size ≤ g) : Rb w0 r w' l e :=
  h.keep hg (fun x => hne (Option.some.inj x)) (h.bl.grown hg h.bl.size (fun x e => by have := Option.some.inj e; omega))
theorem Rb.al {w0 : World} {r : Nat} {w w' : World} {l : List Nat} {e : Int} (h : Rb w0 r w l e) (hg : w.grownBy w' none) : Rb w0 r w' l e :=
  h.keep hg (by simp) (h.bl.grown hg h.bl.size (fun x e => by cases e))
theorem Rb.be {w0 : World} {r : Nat} {w w' : World} {l : List Nat} {e : Int} (h : Rb w0 r w l e) (hg : Below w.heap.size w w') : Rb w0 r w' l e :=
  h.keep (row := none) ⟨hg.os, hg.tape, hg.output, hg.size, fun x hx _ => hg.block x hx⟩ (by simp) (h.bl.trans (hg.mono h.bl.size))
theorem Rb.rlt {w0 : World} {r : Nat} {w : World} {l : List Nat} {e : Int} (h : Rb w0 r w l e) : r < w.heap.size := by
  obtain ⟨_, _, hb, _⟩ := h.ex
  exact hb.lt
theorem sq_ok {α : Type} {f : Rdr α} {l l' : List Nat} {err : Int} {x : α} (h : Sq f l err l' 0 x) : err = 0 ∧ f l = .ok (x, l') := by
  rcases h with ⟨h1, _, h2⟩ | ⟨h1, ⟨h2, _⟩ | ⟨q, _, h3, h4⟩⟩
  · exact absurd h2.symm h1
  · exact ⟨h1, h2⟩
  · exact absurd (show q = 0 by omega) h4
/-- A value that was read, in memory. -/
def VNew (W w' : World) (p : Vt) (na : Option Addr) (nc : Nat) (ka : Option Addr) (kc : Nat) : Prop := ∃ L, VlL w' p na nc ka kc L ∧ ∀ x ∈ L, W.heap.size ≤ x ∧ x < w'.heap.size
theorem VNew.st {W w w' : World} {p : Vt} {na : Option Addr} {nc : Nat} {ka : Option Addr} {kc : Nat} (h : VNew W w p na nc ka kc) {row : Option Nat} (hg : w.grownBy w' row) (hne : ∀ x, row = some x → x < W.heap.size ∨ w.heap.size ≤ x) : VNew W w' p na nc ka kc := by
  obtain ⟨L, h1, h2⟩ := h
  refine ⟨L, h1.keep fun x hx => hg.block x (h2 x hx).2 (fun e => ?_), fun x hx => ⟨(h2 x hx).1, by have := (h2 x hx).2; have := hg.size; omega⟩⟩
  have := hne x e.symm
  have := h2 x hx
  omega
theorem VNew.be {W w w' : World} {p : Vt} {na : Option Addr} {nc : Nat} {ka : Option Addr} {kc : Nat} (h : VNew W w p na nc ka kc) (hg : Below w.heap.size w w') : VNew W w' p na nc ka kc := h.st (row := none) ⟨hg.os, hg.tape, hg.output, hg.size, fun x hx _ => hg.block x hx⟩ (by intro x e; cases e)
theorem vnew_nv (W w : World) : VNew W w nv none 0 none 0 := ⟨[], vl_lf w 0 0 0 em, by simp⟩
end Go.Proofs.YtlefdnjokppibaaGreatDoor.Sh
namespace Go.Proofs.YtlefdnjokppibaaGreatDoor.Sh
open Go Go.RowKit Math Mt
set_option linter.unusedVariables false
set_option linter.unusedSimpArgs false
/-- No revision is read. -/
def eSf (l : List Nat) : Prop := ∀ k l1, byR l = .ok (k, l1) → k ≠ 2
theorem eC_end3 {e : En} (hl : e.h.length = 32) (na : Option Addr) (nc : Nat) (ka : Option Addr) (kc : Nat) (j : Nat) (u : Value) (L : List Value) (hL : [Value.bool e.g, .int .i64 e.ab, .int .i64 e.ae].set j u = L) (hj : j < 3) : (eC e na nc ka kc).set (43 + j) u = [.int .i64 e.k, .string e.t, .int .i64 e.tb, .int .i64 e.dc, .int .i64 e.vr] ++ (six e.v.1 na nc ka e.v.2.list.length kc ++ (nums .u8 e.h ++ L)) := by
  unfold eC
  rw [List.set_append_right _ _ (by simp; omega), List.set_append_right _ _ (by simp [six]; omega), List.set_append_right _ _ (by simp [six, nums_length, hl]; omega), ← hL]
  rw [show 43 + j - [Value.int .i64 e.k, .string e.t, .int .i64 e.tb, .int .i64 e.dc, .int .i64 e.vr].length - (six e.v.1 na nc ka e.v.2.list.length kc).length - (nums .u8 e.h).length = j by simp [six, nums_length, hl]; omega]
theorem s9' : (Tryz.prog.info? 9).map (·.size) = some 1 := by kernel_rfl
theorem zr_len : zr.length = 32 := rfl
theorem i64n {u : Nat} (h : u ≤ 9007199254740992) : I64 (u : Int) := ⟨by omega, by omega⟩
set_option maxHeartbeats 4000000 in
set_option maxRecDepth 8000 in
theorem bentry_any (w0 W : World) (r : Nat) (l : List Nat) (err : Int) (h : Rb w0 r W l err) (hd : err = 0 → eSf l) :
    Calls Tryz.prog 96 #[.pointer (some ⟨r, 0, none⟩)] W fun e w' => ∃ (x : En) (l' : List Nat) (err' : Int) (na : Option Addr) (nc : Nat) (ka : Option Addr) (kc : Nat), e = .returned (.agg (eC x na nc ka kc).toArray) ∧ Hid (Rb w0 r w' l' err' ∧ W.grownBy w' (some r) ∧ Sq enR l err l' err' x ∧ VNew W w' x.v na nc ka kc ∧ EnW x) := by
  have hrl := h.rlt
  have h0 := h.bl.size
  have HD : Hid (err = 0 → eSf l) := hd
  have R0 : Rb w0 r W l err := h
  have HG : W.grownBy W (some r) := World.grownBy.refl _ _
  clear h hd
  go_enter Tryz.func96, Tryz.ntmps96
  go_wp2_with (refine al_zero rfl 45 rfl (eC e0 none 0 none 0) zEn ?_)
  intro g2 w1 l2 B2 G0
  have RR := R0.al G0
  have HG := gr_al HG G0
  have s1 := G0.size
  clear G0 R0
  go_wp2_with (refine al_zero rfl 45 rfl (eC e0 none 0 none 0) zEn ?_)
  intro g3 w2 l3 B3 G0
  have n23 : g2 ≠ g3 := by have := B2.lt; omega
  have hw3 : W.heap.size ≤ g3 := by omega
  have RR := RR.al G0
  have HG := gr_al HG G0
  have B2 := B2.kept G0 (by simp)
  clear G0
  have K := bnext_z w0 w2 r l err RR
  clear RR
  go_wp2_with fail
  refine K.mono ?_
  clear K
  rintro e u0 ⟨kx, l10, e10, rfl, hkx, H⟩
  have RR := H.out.1
  have B2 := B2.kept H.out.2.1 (fun e => by have := Option.some.inj e; omega)
  have B3 := B3.kept H.out.2.1 (fun e => by have := Option.some.inj e; omega)
  have HG := HG.trans H.out.2.1
  have S0 : Hid (Sq byR l err l10 e10 kx) := H.out.2.2.1
  have hk2 : ¬ kx = 2 := fun h2 => by
    have e0 : e10 = 0 := Classical.byContradiction fun q => by have := H.out.2.2.2 q; omega
    rw [e0] at S0
    obtain ⟨z1, z2⟩ := sq_ok S0.out
    exact HD.out z1 _ _ z2 h2
  have HK2 : Hid (¬ kx = 2) := hk2
  clear hk2
  clear H
  go_wp2_with (refine st_one rfl 3 (.tmp 6) (.tmp 5) rfl g3 0 45 _ (.int .i64 (kx : Int)) rfl rfl rfl rfl (by rw [eC_len zr_len]; decide) B3 s3 ?_)
  intro u0s B3' G0
  have RR := RR.st G0 (by omega) (by omega)
  have B2 := B2.kept G0 (fun e => n23 (Option.some.inj e))
  have HG := gr_st HG G0 hw3
  have B3 : Blk u0s g3 45 (eC ⟨(kx : Int), ⟨#[]⟩, 0, 0, 0, nv, zr, false, 0, 0⟩ none 0 none 0) := B3'
  clear B3' G0
  have K := bnum_any w0 u0s r l10 e10 RR
  clear RR
  go_wp2_with fail
  refine K.mono ?_
  clear K
  rintro e u1 ⟨tbx, l11, e11, rfl, htbx, H⟩
  have RR := H.out.1
  have B2 := B2.kept H.out.2.1 (fun e => by have := Option.some.inj e; omega)
  have B3 := B3.kept H.out.2.1 (fun e => by have := Option.some.inj e; omega)
  have HG := HG.trans H.out.2.1
  have S1 : Hid (Sq nR l10 e10 l11 e11 tbx) := H.out.2.2
  clear H
  go_wp2_with (refine st_one rfl 3 (.tmp 9) (.tmp 8) rfl g3 2 45 _ (.int .i64 (tbx : Int)) rfl rfl rfl rfl (by rw [eC_len zr_len]; decide) B3 s3 ?_)
  intro u1s B3' G0
  have RR := RR.st G0 (by omega) (by omega)
  have B2 := B2.kept G0 (fun e => n23 (Option.some.inj e))
  have HG := gr_st HG G0 hw3
  have B3 : Blk u1s g3 45 (eC ⟨(kx : Int), ⟨#[]⟩, (tbx : Int), 0, 0, nv, zr, false, 0, 0⟩ none 0 none 0) := B3'
  clear B3' G0
  have K := bnum_any w0 u1s r l11 e11 RR
  clear RR
  go_wp2_with fail
  refine K.mono ?_
  clear K
  rintro e u2 ⟨dcx, l12, e12, rfl, hdcx, H⟩
  have RR := H.out.1
  have B2 := B2.kept H.out.2.1 (fun e => by have := Option.some.inj e; omega)
  have B3 := B3.kept H.out.2.1 (fun e => by have := Option.some.inj e; omega)
  have HG := HG.trans H.out.2.1
  have S2 : Hid (Sq nR l11 e11 l12 e12 dcx) := H.out.2.2
  clear H
  go_wp2_with (refine st_one rfl 3 (.tmp 12) (.tmp 11) rfl g3 3 45 _ (.int .i64 (dcx : Int)) rfl rfl rfl rfl (by rw [eC_len zr_len]; decide) B3 s3 ?_)
  intro u2s B3' G0
  have RR := RR.st G0 (by omega) (by omega)
  have B2 := B2.kept G0 (fun e => n23 (Option.some.inj e))
  have HG := gr_st HG G0 hw3
  have B3 : Blk u2s g3 45 (eC ⟨(kx : Int), ⟨#[]⟩, (tbx : Int), (dcx : Int), 0, nv, zr, false, 0, 0⟩ none 0 none 0) := B3'
  clear B3' G0
  have K := bnum_any w0 u2s r l12 e12 RR
  clear RR
  go_wp2_with fail
  refine K.mono ?_
  clear K
  rintro e u3 ⟨vrx, l13, e13, rfl, hvrx, H⟩
  have RR := H.out.1
  have B2 := B2.kept H.out.2.1 (fun e => by have := Option.some.inj e; omega)
  have B3 := B3.kept H.out.2.1 (fun e => by have := Option.some.inj e; omega)
  have HG := HG.trans H.out.2.1
  have S3 : Hid (Sq nR l12 e12 l13 e13 vrx) := H.out.2.2
  clear H
  go_wp2_with (refine st_one rfl 3 (.tmp 15) (.tmp 14) rfl g3 4 45 _ (.int .i64 (vrx : Int)) rfl rfl rfl rfl (by rw [eC_len zr_len]; decide) B3 s3 ?_)
  intro u3s B3' G0
  have RR := RR.st G0 (by omega) (by omega)
  have B2 := B2.kept G0 (fun e => n23 (Option.some.inj e))
  have HG := gr_st HG G0 hw3
  have B3 : Blk u3s g3 45 (eC ⟨(kx : Int), ⟨#[]⟩, (tbx : Int), (dcx : Int), (vrx : Int), nv, zr, false, 0, 0⟩ none 0 none 0) := B3'
  clear B3' G0
  have K := btext_any w0 u3s r l13 e13 RR
  clear RR
  go_wp2_with fail
  refine K.mono ?_
  clear K
  rintro e u4 ⟨tx, l14, e14, rfl, htx, H⟩
  have RR := H.out.1
  have B2 := B2.kept H.out.2.1 (fun e => by have := Option.some.inj e; omega)
  have B3 := B3.kept H.out.2.1 (fun e => by have := Option.some.inj e; omega)
  have HG := HG.trans H.out.2.1
  have S4 : Hid (Sq tR l13 e13 l14 e14 tx) := H.out.2.2
  clear H
  go_wp2_with (refine st_one rfl 9 (.tmp 18) (.tmp 17) rfl g3 1 45 _ (.string tx) rfl rfl rfl rfl (by rw [eC_len zr_len]; decide) B3 s9' ?_)
  intro u4s B3' G0
  have RR := RR.st G0 (by omega) (by omega)
  have B2 := B2.kept G0 (fun e => n23 (Option.some.inj e))
  have HG := gr_st HG G0 hw3
  have B3 : Blk u4s g3 45 (eC ⟨(kx : Int), tx, (tbx : Int), (dcx : Int), (vrx : Int), nv, zr, false, 0, 0⟩ none 0 none 0) := B3'
  clear B3' G0
  have K := bnum_any w0 u4s r l14 e14 RR
  clear RR
  go_wp2_with fail
  refine K.mono ?_
  clear K
  rintro e u5 ⟨abx, l15, e15, rfl, habx, H⟩
  have RR := H.out.1
  have B2 := B2.kept H.out.2.1 (fun e => by have := Option.some.inj e; omega)
  have B3 := B3.kept H.out.2.1 (fun e => by have := Option.some.inj e; omega)
  have HG := HG.trans H.out.2.1
  have S5 : Hid (Sq nR l14 e14 l15 e15 abx) := H.out.2.2
  clear H
  go_wp2_with (refine st_one rfl 3 (.tmp 22) (.tmp 20) rfl g3 44 45 _ (.int .i64 (abx : Int)) rfl rfl rfl rfl (by rw [eC_len zr_len]; decide) B3 s3 ?_)
  intro u5s B3' G0
  have RR := RR.st G0 (by omega) (by omega)
  have B2 := B2.kept G0 (fun e => n23 (Option.some.inj e))
  have HG := gr_st HG G0 hw3
  have B3 : Blk u5s g3 45 (eC ⟨(kx : Int), tx, (tbx : Int), (dcx : Int), (vrx : Int), nv, zr, false, (abx : Int), 0⟩ none 0 none 0) := by rw [eC_end3 (j := 1) zr_len none 0 none 0 _ _ rfl (by decide)] at B3'; exact B3'
  clear B3' G0
  have K := bnum_any w0 u5s r l15 e15 RR
  clear RR
  go_wp2_with fail
  refine K.mono ?_
  clear K
  rintro e u6 ⟨aex, l16, e16, rfl, haex, H⟩
  have RR := H.out.1
  have B2 := B2.kept H.out.2.1 (fun e => by have := Option.some.inj e; omega)
  have B3 := B3.kept H.out.2.1 (fun e => by have := Option.some.inj e; omega)
  have HG := HG.trans H.out.2.1
  have S6 : Hid (Sq nR l15 e15 l16 e16 aex) := H.out.2.2
  clear H
  go_wp2_with (refine st_one rfl 3 (.tmp 26) (.tmp 24) rfl g3 45 45 _ (.int .i64 (aex : Int)) rfl rfl rfl rfl (by rw [eC_len zr_len]; decide) B3 s3 ?_)
  intro u6s B3' G0
  have RR := RR.st G0 (by omega) (by omega)
  have B2 := B2.kept G0 (fun e => n23 (Option.some.inj e))
  have HG := gr_st HG G0 hw3
  have B3 : Blk u6s g3 45 (eC ⟨(kx : Int), tx, (tbx : Int), (dcx : Int), (vrx : Int), nv, zr, false, (abx : Int), (aex : Int)⟩ none 0 none 0) := by rw [eC_end3 (j := 2) zr_len none 0 none 0 _ _ rfl (by decide)] at B3'; exact B3'
  clear B3' G0
  have ck : u6s.cell? ⟨g3, 0, none⟩ = some (.int .i64 (kx : Int)) := B3.cell 0
  have hk2 : ¬ kx = 2 := HK2.out
  clear HK2
  · have hkb : ((kx : Int) == 2) = false := beq_eq_false_iff_ne.2 (by omega)
    have HSF : Hid (Sq enR l err l16 e16 ⟨(kx : Int), tx, (tbx : Int), (dcx : Int), (vrx : Int), nv, zr, false, (abx : Int), (aex : Int)⟩) := (sq_bind S0.out (sq_bind S1.out (sq_bind S2.out (sq_bind S3.out (sq_bind S4.out (sq_bind S5.out (sq_bind S6.out (by unfold rvR; rw [if_neg hk2]; exact sq_ret _ _ _))))))))
    clear hk2
    go_wp2_with (first | (refine ld_w (by rfl) 45 (.tmp 3) rfl g3 0 rfl (eC ⟨(kx : Int), tx, (tbx : Int), (dcx : Int), (vrx : Int), nv, zr, false, (abx : Int), (aex : Int)⟩ none 0 none 0) _ B3.all Tryz.underlying45 rfl (sE zr_len _ _ _ _) ?_) | (refine st_all rfl 45 (.tmp 2) (.tmp 40) rfl g2 45 (eC e0 none 0 none 0) (eC ⟨(kx : Int), tx, (tbx : Int), (dcx : Int), (vrx : Int), nv, zr, false, (abx : Int), (aex : Int)⟩ none 0 none 0) rfl rfl B2 (by rw [eC_len zr_len, eC_len zr_len]) (sE zr_len _ _ _ _) (eC_one _ _ _ _ _) ?_))
    intro wz BZ G0
    have HF : Hid (Rb w0 r wz l16 e16 ∧ W.grownBy wz (some r)) := ⟨RR.st G0 (by omega) (by omega), gr_st HG G0 l2⟩
    clear G0 RR HG
    go_wp2
    (try simp only [Exit.inBlock, Exit.then])
    refine bodyPost_ret (Sh.res_row rfl _ g2 45 _ _ rfl BZ Tryz.underlying45 rfl (sE zr_len _ _ _ _)) rfl ⟨⟨(kx : Int), tx, (tbx : Int), (dcx : Int), (vrx : Int), nv, zr, false, (abx : Int), (aex : Int)⟩, l16, e16, none, 0, none, 0, rfl, HF.out.1, HF.out.2, HSF.out, vnew_nv _ _, ⟨i64n (by omega), by have := htx; show tx.size ≤ _; omega, i64n (by omega), i64n (by omega), i64n (by omega), wf_lf 0 0 0 em (by omega) (by omega) (by omega) (by decide), ⟨rfl, fun x hx => by have := List.eq_of_mem_replicate hx; omega⟩, i64n (by omega), i64n (by omega)⟩⟩
end Go.Proofs.YtlefdnjokppibaaGreatDoor.Sh
namespace Go.Proofs.YtlefdnjokppibaaGreatDoor.Sh
open Go.RowKit Math Mt
set_option linter.unusedVariables false
theorem n_inv {l r : List Nat} {u : Nat} (ho : Oct l) (h : nR l = .ok (u, r)) : l = uv u ++ r ∧ u ≤ 9007199254740992 := by
  obtain ⟨x, m, h1, h2⟩ := bind_inv h
  obtain ⟨e, hx⟩ := uv_inv ho h1
  by_cases c : 9007199254740992 < x
  · rw [if_pos c] at h2; cases h2
  · rw [if_neg c] at h2
    injection h2 with h2
    injection h2 with e1 e2
    subst e1 e2
    exact ⟨e, by omega⟩
theorem take_inv {n : Nat} {l r c : List Nat} (h : takeR n l = .ok (c, r)) : l = c ++ r ∧ c.length = n := by
  unfold takeR at h
  by_cases hc : l.length < n
  · rw [if_pos hc] at h; cases h
  · rw [if_neg hc] at h
    injection h with h
    injection h with e1 e2
    subst e1 e2
    exact ⟨(List.take_append_drop n l).symm, by rw [List.length_take]; omega⟩
theorem ret_inv {α : Type} {x y : α} {l r : List Nat} (h : Rdr.ret x l = .ok (y, r)) : y = x ∧ r = l := by
  injection h with h
  injection h with e1 e2
  exact ⟨e1.symm, e2.symm⟩
theorem t_inv' {l r : List Nat} {s : ByteArray} (ho : Oct l) (h : tR l = .ok (s, r)) : l = (uv s.size ++ bts s) ++ r ∧ s.size ≤ l.length := by
  obtain ⟨n, m, h1, h2⟩ := bind_inv h
  obtain ⟨b, m2, h3, h4⟩ := bind_inv h2
  obtain ⟨e1, hn⟩ := n_inv ho h1
  obtain ⟨e2, hb⟩ := take_inv h3
  obtain ⟨e3, e4⟩ := ret_inv h4
  subst e3 e4
  have hob : Oct b := by rw [e1, e2] at ho; exact ho.right.left
  have hs : (ofB b).size = n := by rw [ofB_size, hb]
  rw [hs, bts_ofB b hob, e1, e2, List.append_assoc]
  refine ⟨rfl, ?_⟩
  simp only [List.length_append]
  omega
theorem decE_len {d : List Nat} (h : decE d = 0) : d.length ≤ 65536 := by
  unfold decE at h
  cases e : rdV 16 d with
  | error x =>
    rw [e] at h
    exact absurd e (by rw [show x = 0 by simpa using h]; exact rd_nz 16 d)
  | ok v =>
    obtain ⟨q, rest⟩ := v
    rw [e] at h
    simp only at h
    by_cases hc : chk0V q = 0
    case neg => rw [if_pos hc] at h; exact absurd h hc
    rw [if_neg (by simpa using hc)] at h
    by_cases hr : rest = []
    case neg => rw [if_pos hr] at h; simp at h
    rw [if_neg (by simpa using hr)] at h
    by_cases hl : 65536 < d.length
    · rw [if_pos hl] at h; cases h
    · omega
theorem dv_inv {l r : List Nat} {q : Vt × Bool} (ho : Oct l) (h : dvR l = .ok (q, r)) : q.2 = false ∧ WfV q.1 ∧ encE q.1 = 0 ∧ l = uv (encB q.1).length ++ encB q.1 ++ r := by
  obtain ⟨n, m, h1, h2⟩ := bind_inv h
  obtain ⟨d, m2, h3, h4⟩ := bind_inv h2
  obtain ⟨e1, hn⟩ := n_inv ho h1
  obtain ⟨e2, hb⟩ := take_inv h3
  have hod : Oct d := by rw [e1, e2] at ho; exact ho.right.left
  by_cases hc : decE d = 0
  · rw [if_pos hc] at h4
    obtain ⟨e3, e4⟩ := ret_inv h4
    subst e3 e4
    obtain ⟨w1, w2, w3⟩ := dec_inv hod (decE_len hc) hc
    refine ⟨rfl, w1, w2, ?_⟩
    show l = uv (encB (decP d)).length ++ encB (decP d) ++ _
    rw [w3, hb, e1, e2, List.append_assoc]
  · rw [if_neg hc] at h4; cases h4
theorem wf_nv : WfV nv := wf_lf 0 0 0 em (by omega) (by omega) (by omega) (by decide)
theorem dt_inv {l r : List Nat} {q : Vt × Bool} (ho : Oct l) (h : dtR l = .ok (q, r)) : WfV q.1 ∧ ((q = (nv, true) ∧ l = 0 :: r) ∨ (q.2 = false ∧ encE q.1 = 0 ∧ l = [1] ++ uv (encB q.1).length ++ encB q.1 ++ r)) := by
  obtain ⟨x, m, h1, h2⟩ := bind_inv h
  have e1 := by_inv h1
  by_cases c0 : x = 0
  · rw [if_pos c0] at h2
    obtain ⟨e3, e4⟩ := ret_inv h2
    subst e3 e4 c0
    exact ⟨wf_nv, .inl ⟨rfl, e1⟩⟩
  · rw [if_neg c0] at h2
    by_cases c1 : x = 1
    · rw [if_pos c1] at h2
      subst c1
      obtain ⟨w0, w1, w2, w3⟩ := dv_inv (fun y hy => ho y (by rw [e1]; simp [hy])) h2
      refine ⟨w1, .inr ⟨w0, w2, ?_⟩⟩
      rw [e1, w3]
      simp only [List.append_assoc, List.cons_append, List.nil_append]
    · rw [if_neg c1] at h2; cases h2
theorem uvI_nat (u : Nat) : uvI (u : Int) = uv u := rfl
theorem i64_nat {u : Nat} (h : u ≤ 9007199254740992) : I64 (u : Int) := ⟨by omega, by omega⟩
theorem h32_zr : H32 zr := ⟨rfl, fun x hx => by have := List.eq_of_mem_replicate hx; omega⟩
theorem rv_inv {k tb dc vr : Nat} {t : ByteArray} {ab ae : Nat} {l r : List Nat} {e : En} (hk : k < 256) (h1 : tb ≤ 9007199254740992) (h2 : dc ≤ 9007199254740992) (h3 : vr ≤ 9007199254740992) (h4 : t.size ≤ 140737488355328) (h5 : ab ≤ 9007199254740992) (h6 : ae ≤ 9007199254740992) (ho : Oct l) (h : rvR k tb dc vr t ab ae l = .ok (e, r)) :
    EnW e ∧ e.k = k ∧ e.t = t ∧ e.tb = tb ∧ e.dc = dc ∧ e.vr = vr ∧ e.ab = ab ∧ e.ae = ae ∧ l = (if e.k = 2 then e.h else []) ++ tail e.k (datL e) true ++ r := by
  unfold rvR at h
  by_cases c : k = 2
  · rw [if_pos c] at h
    obtain ⟨hh, m, g1, g2⟩ := bind_inv h
    obtain ⟨q, m2, g3, g4⟩ := bind_inv g2
    obtain ⟨e1, hl⟩ := take_inv g1
    have hoh : Oct hh := by rw [e1] at ho; exact ho.left
    have hom : Oct m := by rw [e1] at ho; exact ho.right
    obtain ⟨w1, w2⟩ := dt_inv hom g3
    obtain ⟨e3, e4⟩ := ret_inv g4
    subst e3 e4 c
    refine ⟨⟨i64_nat (by omega), h4, i64_nat h1, i64_nat h2, i64_nat h3, w1, ⟨hl, hoh⟩, i64_nat h5, i64_nat h6⟩, rfl, rfl, rfl, rfl, rfl, rfl, rfl, ?_⟩
    rw [e1, List.append_assoc]
    show hh ++ m = (if ((2 : Nat) : Int) = 2 then hh else []) ++ _
    rw [if_pos (show ((2 : Nat) : Int) = 2 from rfl)]
    congr 1
    rcases w2 with ⟨rfl, e5⟩ | ⟨e5, e6, e7⟩
    · rw [e5]; rfl
    · obtain ⟨qv, qb⟩ := q
      simp only at e5 e6 e7
      subst e5
      have ed : datL (⟨((2 : Nat) : Int), t, tb, dc, vr, qv, hh, false, ab, ae⟩ : En) = encB qv := by unfold datL; rw [if_pos ⟨rfl, rfl⟩]
      have en : encB qv ≠ [] := by rw [(encOk e6).2.1]; unfold encV headB; simp
      show m = tail ((2 : Nat) : Int) (datL ⟨((2 : Nat) : Int), t, tb, dc, vr, qv, hh, false, ab, ae⟩) true ++ _
      rw [ed]
      unfold tail
      rw [if_pos (show ((2 : Nat) : Int) = 2 from rfl), if_neg (by simp [en]), e7]
  · rw [if_neg c] at h
    obtain ⟨e3, e4⟩ := ret_inv h
    subst e3 e4
    refine ⟨⟨i64_nat (by omega), h4, i64_nat h1, i64_nat h2, i64_nat h3, wf_nv, h32_zr, i64_nat h5, i64_nat h6⟩, rfl, rfl, rfl, rfl, rfl, rfl, rfl, ?_⟩
    have ck : ¬ (k : Int) = 2 := by omega
    show r = (if (k : Int) = 2 then zr else []) ++ tail (k : Int) _ true ++ r
    rw [if_neg ck]
    unfold tail
    rw [if_neg ck]
    rfl
theorem en_inv {l r : List Nat} {e : En} (ho : Oct l) (hlen : l.length ≤ 140737488355328) (h : enR l = .ok (e, r)) : EnW e ∧ l = itmB true e ++ r := by
  obtain ⟨k, m0, g0, h⟩ := bind_inv h
  have e0 := by_inv g0
  have hk : k < 256 := ho k (by rw [e0]; simp)
  have o0 : Oct m0 := fun y hy => ho y (by rw [e0]; simp [hy])
  obtain ⟨tb, m1, g1, h⟩ := bind_inv h
  obtain ⟨e1, b1⟩ := n_inv o0 g1
  have o1 : Oct m1 := by rw [e1] at o0; exact o0.right
  obtain ⟨dc, m2, g2, h⟩ := bind_inv h
  obtain ⟨e2, b2⟩ := n_inv o1 g2
  have o2 : Oct m2 := by rw [e2] at o1; exact o1.right
  obtain ⟨vr, m3, g3, h⟩ := bind_inv h
  obtain ⟨e3, b3⟩ := n_inv o2 g3
  have o3 : Oct m3 := by rw [e3] at o2; exact o2.right
  obtain ⟨t, m4, g4, h⟩ := bind_inv h
  obtain ⟨e4, b4⟩ := t_inv' o3 g4
  have o4 : Oct m4 := by rw [e4] at o3; exact o3.right
  obtain ⟨ab, m5, g5, h⟩ := bind_inv h
  obtain ⟨e5, b5⟩ := n_inv o4 g5
  have o5 : Oct m5 := by rw [e5] at o4; exact o4.right
  obtain ⟨ae, m6, g6, h⟩ := bind_inv h
  obtain ⟨e6, b6⟩ := n_inv o5 g6
  have o6 : Oct m6 := by rw [e6] at o5; exact o5.right
  have hm3 : m3.length ≤ l.length := by rw [e0, e1, e2, e3]; simp only [List.length_cons, List.length_append]; omega
  obtain ⟨w, q1, q2, q3, q4, q5, q6, q7, q8⟩ := rv_inv hk b1 b2 b3 (by omega) b5 b6 o6 h
  refine ⟨w, ?_⟩
  unfold itmB entB
  rw [e0, e1, e2, e3, e4, e5, e6, q8, q1, q2, q3, q4, q5, q6, q7]
  simp only [uvI_nat, Int.toNat_natCast, List.append_assoc, List.cons_append, List.nil_append]
theorem es_inv : ∀ (n : Nat) {l r : List Nat} {es : List En}, Oct l → l.length ≤ 140737488355328 → esR n l = .ok (es, r) → (∀ e ∈ es, EnW e) ∧ es.length = n ∧ l = es.flatMap (itmB true) ++ r
  | 0, l, r, es, ho, hl, h => by
    obtain ⟨e1, e2⟩ := ret_inv h
    subst e1 e2
    exact ⟨(fun e he => by cases he), rfl, rfl⟩
  | n + 1, l, r, es, ho, hl, h => by
    obtain ⟨es0, m, g1, h⟩ := bind_inv h
    obtain ⟨e, m2, g2, h⟩ := bind_inv h
    obtain ⟨i1, i2, i3⟩ := es_inv n ho hl g1
    have om : Oct m := by rw [i3] at ho; exact ho.right
    have lm : m.length ≤ 140737488355328 := by rw [i3, List.length_append] at hl; omega
    obtain ⟨j1, j2⟩ := en_inv om lm g2
    obtain ⟨e1, e2⟩ := ret_inv h
    subst e1 e2
    refine ⟨fun x hx => ?_, by simp [i2], ?_⟩
    · rcases List.mem_append.1 hx with hx | hx
      · exact i1 x hx
      · rw [List.mem_singleton.1 hx]; exact j1
    · rw [i3, j2, List.flatMap_append]
      simp
theorem bk_inv {l r : List Nat} {b : Bk} (ho : Oct l) (hl : l.length ≤ 140737488355328) (h : bkR l = .ok (b, r)) : BkW b ∧ l = blkB b true ++ r := by
  obtain ⟨ix, m1, g1, h⟩ := bind_inv h
  obtain ⟨e1, b1⟩ := n_inv ho g1
  have o1 : Oct m1 := by rw [e1] at ho; exact ho.right
  obtain ⟨tm, m2, g2, h⟩ := bind_inv h
  obtain ⟨e2, b2⟩ := n_inv o1 g2
  have o2 : Oct m2 := by rw [e2] at o1; exact o1.right
  obtain ⟨tx, m3, g3, h⟩ := bind_inv h
  obtain ⟨e3, b3⟩ := n_inv o2 g3
  have o3 : Oct m3 := by rw [e3] at o2; exact o2.right
  obtain ⟨pv, m4, g4, h⟩ := bind_inv h
  obtain ⟨e4, b4⟩ := take_inv g4
  have o4 : Oct m4 := by rw [e4] at o3; exact o3.right
  have op : Oct pv := by rw [e4] at o3; exact o3.left
  obtain ⟨n, m5, g5, h⟩ := bind_inv h
  obtain ⟨e5, b5⟩ := n_inv o4 g5
  have o5 : Oct m5 := by rw [e5] at o4; exact o4.right
  obtain ⟨es, m6, g6, h⟩ := bind_inv h
  have hm5 : m5.length ≤ l.length := by rw [e1, e2, e3, e4, e5]; simp only [List.length_append]; omega
  obtain ⟨w, q1, q2⟩ := es_inv n o5 (by omega) g6
  obtain ⟨r1, r2⟩ := ret_inv h
  subst r1 r2
  have hn : es.length ≤ m5.length := by
    rw [q2, List.length_append]
    have : ∀ l : List En, l.length ≤ (l.flatMap (itmB true)).length := by
      intro l
      induction l with
      | nil => simp
      | cons x y ih =>
        have : 1 ≤ (itmB true x).length := by unfold itmB entB; simp only [List.length_append, List.length_cons, List.length_nil]; omega
        simp only [List.flatMap_cons, List.length_append, List.length_cons]
        omega
    have := this es
    omega
  refine ⟨⟨i64_nat b1, i64_nat b2, i64_nat b3, ⟨b4, op⟩, w, by show es.length ≤ _; omega⟩, ?_⟩
  unfold blkB hedB
  simp only [uvI_nat]
  rw [e1, e2, e3, e4, e5, q2, q1]
  simp only [List.append_assoc]
end Go.Proofs.YtlefdnjokppibaaGreatDoor.Sh
namespace Go.Proofs.YtlefdnjokppibaaGreatDoor.Sh
open Go Go.RowKit Math Mt
set_option linter.unusedVariables false
set_option linter.unusedSimpArgs false
theorem Tryz.infoEn : (Tryz.prog.info? 45).map (fun i => (i.zero.map (·.cells.size), i.size, decide (i.bytes ≤ 1000))) = some (some 46, 46, true) := by kernel_rfl
theorem app_en {ops : Array Oper} {rest : List Oper} {o : Oper} {a : Act} {Q : Exit → Act → World → Prop} {w : World} (hgd : o.guard = none) (s x : Operand)
    (ho : o.op = .call { callee := .builtin .append, args := #[s, x], argTypes := #[24, 24] })
    (base : Nat) (v : Value) (n : Nat) (xs : List Value) (hs : a.eval s = v) (hown : w.ownsRow base 45 46 v n xs) (b : Nat) (m c : Nat) (news : List Value) (hx : a.eval x = .slice (some ⟨b, 0, none⟩) m c) (hl : news.length = m * 46) (hc : ∀ j u, news[j]? = some u → w.cell? ⟨b, j, none⟩ = some u) (h1 : ∀ u ∈ news, u.oneCell' = true)
    (hb : n + m ≤ 1000001) (hbase : base ≤ w.heap.size)
    (h : ∀ v' w', w'.ownsRow base 45 46 v' (n + m) (xs ++ news) → w.grownBy w' v.ownBlock → (v'.ownBlock = v.ownBlock ∨ v'.ownBlock = some w.heap.size) → wpList Tryz.prog ops Q rest (a.put o.dst v') w') : wpList Tryz.prog ops Q (o :: rest) a w := by
  have hI := Tryz.infoEn
  cases hq : Tryz.prog.info? 45 with
  | none => rw [hq] at hI; cases hI
  | some i =>
    rw [hq] at hI
    simp only [Option.map_some, Option.some.injEq, Prod.mk.injEq] at hI
    obtain ⟨h0, hz1, hz2⟩ := hI
    obtain ⟨z, hz, hzs⟩ : ∃ z, i.zero = some z ∧ z.cells.size = 46 := by
      cases hzz : i.zero with
      | none => rw [hzz] at h0; cases h0
      | some z => rw [hzz] at h0; exact ⟨z, rfl, by simpa using h0⟩
    have hby : i.bytes ≤ 1000 := of_decide_eq_true hz2
    refine wpList_append_own_at _ hgd s x 24 ho base 45 i z 46 i.bytes Tryz.underlying24 hq hz hz1 rfl hzs (by decide) v _ _ hs hown ⟨b, 0, none⟩ m c news hx hl (fun j u hj => by rw [Addr.add_lit, Nat.zero_add]; exact hc j u hj) h1 (by unfold maxLen; omega) (by
      have : (n + m) * i.bytes ≤ 1000001 * 1000 := Nat.mul_le_mul hb hby
      omega) hbase ?_
    intro v' w' h1 h2 _ h4
    exact h v' w' h1 h2 h4
theorem fold_set : ∀ (cs : List Value) (k : Nat) (Z : List Value), k + cs.length ≤ Z.length → (cs.zipIdx k).foldl (fun (c : Array Value) (p : Value × Nat) => c.setIfInBounds (0 + p.2) p.1) Z.toArray = (Z.take k ++ (cs ++ Z.drop (k + cs.length))).toArray
  | [], k, Z, h => by simp
  | x :: r, k, Z, h => by
    simp only [List.length_cons] at h
    rw [List.zipIdx_cons, List.foldl_cons]
    simp only [Nat.zero_add, List.setIfInBounds_toArray]
    have := fold_set r (k + 1) (Z.set k x) (by rw [List.length_set]; omega)
    simp only [Nat.zero_add] at this
    rw [this]
    congr 1
    have e1 : (Z.set k x).take (k + 1) = Z.take k ++ [x] := by
      rw [List.take_succ_eq_append_getElem (by rw [List.length_set]; omega), List.take_set, List.getElem_set_self]
      rw [List.set_eq_of_length_le (by rw [List.length_take]; omega)]
    have e2 : (Z.set k x).drop (k + 1 + r.length) = Z.drop (k + (r.length + 1)) := by
      rw [List.drop_set_of_lt (by omega)]; congr 1; omega
    rw [e1, e2, List.length_cons]
    simp
theorem fill_one (cs Z : List Value) (n : Nat) (h1 : cs.length = n) (h2 : Z.length = n) : Instr.fill (fun i => some (i * n, n)) Z.toArray [(0, .agg cs.toArray)] = some cs.toArray := by
  have := fold_set cs 0 Z (by omega)
  unfold Instr.fill
  simp only [Value.cells, List.size_toArray, h1, h2, Nat.zero_mul, Nat.zero_add, ne_eq, not_true_eq_false, decide_false, Bool.false_or, gt_iff_lt, Nat.lt_irrefl, Bool.false_eq_true, if_false]
  rw [Instr.fill]
  rw [h1, List.drop_of_length_le (by omega)] at this
  simp only [Nat.zero_add, List.take_zero, List.nil_append, List.append_nil] at this
  congr 1
  simpa using this
/-- a slice of one entry. -/
theorem bs_en {ops : Array Oper} {rest : List Oper} {o : Oper} {a : Act} {w : World} {Q : Exit → Act → World → Prop} (hgd : o.guard = none) (x : Operand) (ho : o.op = .buildSlice 24 1 #[(0, x)]) (cs : List Value) (hc : cs.length = 46)
    (hx : a.eval x = .agg cs.toArray) (h : wpList Tryz.prog ops Q rest (a.put o.dst (.slice (some ⟨w.heap.size, 0, none⟩) 1 1)) (w.alloc (.cells cs.toArray 45))) : wpList Tryz.prog ops Q (o :: rest) a w := by
  refine wpList_plain hgd fun K hK => ?_
  have hs : ∀ w, (Go.sizeOf 45).run Tryz.prog w = .ok 46 w := fun w => by kernel_rfl
  have hz : ∀ w, (zeroValue 45).run Tryz.prog w = .ok (.agg (eC e0 none 0 none 0).toArray) w := fun w => by kernel_rfl
  unfold Oper.wp execOp
  have hf := fill_one cs ((Array.range (1 * 46)).map (fun i => ((eC e0 none 0 none 0).toArray[i % (eC e0 none 0 none 0).toArray.size]!))).toList 46 hc (by simp)
  simp only [Array.toArray_toList] at hf
  have h0 : ¬ (1 * 46 = 0) := by omega
  have h1 : ¬ (1 * 46 > 2 ^ 24) := by omega
  simp only [ho, Instr.buildSlice, Sem.run_bind, run_underlying Tryz.underlying24, Result.andThen_ok, hs, hz, h0, h1, if_false, Sem.run_pure, List.map_toArray, List.map_cons, List.map_nil, hx, Value.cells]
  erw [hf]
  simp only [newRow, Sem.run_bind, Sem.run_pure]
  exact hK _ _ h
structure It where
  e : En
  na : Option Addr
  nc : Nat
  ka : Option Addr
  kc : Nat
def itC (i : It) : List Value := eC i.e i.na i.nc i.ka i.kc
/-- A list of entries of its own. -/
structure RowE (M : Nat) (w : World) (v : Value) (is : List It) : Prop where
  row : w.ownsRow M 45 46 v is.length (is.flatMap itC)
  vl : ∀ i ∈ is, ∃ L, VlL w i.e.v i.na i.nc i.ka i.kc L ∧ ∀ x ∈ L, M ≤ x ∧ x < w.heap.size ∧ v.ownBlock ≠ some x
  ew : ∀ i ∈ is, EnW i.e
theorem RowE.nil (M : Nat) (w : World) : RowE M w (.slice none 0 0) [] := ⟨World.ownsRow_nil _ _ _ _, by simp, by simp⟩
theorem RowE.kept {M : Nat} {w w' : World} {v : Value} {is : List It} (h : RowE M w v is) {row : Option Nat} (hg : w.grownBy w' row) (hne : ∀ x, row = some x → x < M ∨ w.heap.size ≤ x) : RowE M w' v is := by
  refine ⟨World.ownsRow.kept h.row hg ?_, fun i hi => ?_, h.ew⟩
  · cases hv : v.ownBlock with
    | none => exact .inl rfl
    | some x =>
      refine .inr fun e => ?_
      have h1 := World.ownsRow.lt h.row x hv
      have h2 := hne x e.symm
      omega
  · obtain ⟨L, h1, h2⟩ := h.vl i hi
    refine ⟨L, h1.keep fun x hx => hg.block x (h2 x hx).2.1 (fun e => ?_), fun x hx => ⟨(h2 x hx).1, by have := (h2 x hx).2.1; have := hg.size; omega, (h2 x hx).2.2⟩⟩
    have h3 := hne x e.symm
    have h4 := h2 x hx
    omega
theorem RowE.snoc {M : Nat} {w w' : World} {v v' : Value} {is : List It} {i : It} (h : RowE M w v is) (hw : EnW i.e) {L : List Nat} (hL : VlL w i.e.v i.na i.nc i.ka i.kc L) (hx : ∀ x ∈ L, M ≤ x ∧ x < w.heap.size ∧ v.ownBlock ≠ some x)
    (hr : w'.ownsRow M 45 46 v' (is.length + 1) (is.flatMap itC ++ itC i)) (hg : w.grownBy w' v.ownBlock) (ho : v'.ownBlock = v.ownBlock ∨ v'.ownBlock = some w.heap.size) : RowE M w' v' (is ++ [i]) := by
  have key : ∀ (L : List Nat) (j : It), VlL w j.e.v j.na j.nc j.ka j.kc L → (∀ x ∈ L, M ≤ x ∧ x < w.heap.size ∧ v.ownBlock ≠ some x) → ∃ L, VlL w' j.e.v j.na j.nc j.ka j.kc L ∧ ∀ x ∈ L, M ≤ x ∧ x < w'.heap.size ∧ v'.ownBlock ≠ some x := fun L j hL hx => by
    refine ⟨L, hL.keep fun x h1 => hg.block x (hx x h1).2.1 (fun e => (hx x h1).2.2 e.symm), fun x h1 => ⟨(hx x h1).1, by have := (hx x h1).2.1; have := hg.size; omega, ?_⟩⟩
    rcases ho with ho | ho
    · rw [ho]; exact (hx x h1).2.2
    · rw [ho]; intro e; have := Option.some.inj e; have := (hx x h1).2.1; omega
  refine ⟨by rw [List.length_append, List.length_singleton, List.flatMap_append]; simpa using hr, fun j hj => ?_, fun j hj => ?_⟩
  · rcases List.mem_append.1 hj with hj | hj
    · obtain ⟨L', h1, h2⟩ := h.vl j hj
      exact key L' j h1 h2
    · rw [List.mem_singleton.1 hj]; exact key L i hL hx
  · rcases List.mem_append.1 hj with hj | hj
    · exact h.ew j hj
    · rw [List.mem_singleton.1 hj]; exact hw
theorem RowE.mono {M M' : Nat} {w : World} {v : Value} {is : List It} (h : RowE M w v is) (hm : M' ≤ M) : RowE M' w v is :=
  ⟨⟨h.row.1, h.row.2.imp id fun ⟨g, cap, cur, e, hb, q⟩ => ⟨g, cap, cur, e, Nat.le_trans hm hb, q⟩⟩, fun i hi => by
    obtain ⟨L, h1, h2⟩ := h.vl i hi
    exact ⟨L, h1, fun x hx => ⟨Nat.le_trans hm (h2 x hx).1, (h2 x hx).2⟩⟩, h.ew⟩
theorem flat_it : ∀ (is : List It) (i : Nat) (p : It) (j : Nat) (u : Value), (∀ q ∈ is, EnW q.e) → is[i]? = some p → (itC p)[j]? = some u → (is.flatMap itC)[i * 46 + j]? = some u
  | [], i, p, j, u, _, hp, _ => by simp at hp
  | x :: r, 0, p, j, u, hw, hp, hj => by
    obtain rfl : x = p := by simpa using hp
    have hj3 : j < (itC x).length := (List.getElem?_eq_some_iff.1 hj).1
    rw [List.flatMap_cons, List.getElem?_append_left (by omega)]
    simpa using hj
  | x :: r, i + 1, p, j, u, hw, hp, hj => by
    have ih := flat_it r i p j u (fun q hq => hw q (List.mem_cons_of_mem _ hq)) (by simpa using hp) hj
    have h3 : (itC x).length = 46 := eC_len (hw x (by simp)).h.1 _ _ _ _
    rw [List.flatMap_cons, List.getElem?_append_right (by omega), ← ih]
    congr 1
    omega
theorem RowE.esm {M : Nat} {w : World} {v : Value} {is : List It} (h : RowE M w v is) : ∃ a c, v = .slice a is.length c ∧ EsM w a (is.map (·.e)) := by
  have h' := h.row
  rcases h.row with ⟨_, ⟨rfl, h0⟩ | ⟨g, cap, cur, rfl, _, hh, _⟩⟩
  · have : is = [] := List.eq_nil_of_length_eq_zero h0
    subst this
    exact ⟨none, 0, rfl, .inl rfl⟩
  · refine ⟨_, cap, rfl, .inr ⟨g, 0, rfl, fun i e he => ?_⟩⟩
    rw [List.getElem?_map] at he
    cases hp : is[i]? with
    | none => rw [hp] at he; cases he
    | some p =>
      rw [hp] at he
      obtain rfl : p.e = e := by simpa using he
      obtain ⟨L, h1, _⟩ := h.vl p (List.mem_of_getElem? hp)
      refine ⟨p.na, p.nc, p.ka, p.kc, fun j u hj => ?_, h1.vl⟩
      have e := flat_it is i p j u h.ew hp hj
      rw [Nat.zero_add]
      have hc := World.ownsRow.cells h' (g := g) rfl (i * 46 + j) u e
      rw [Addr.add_lit, Nat.zero_add] at hc
      exact hc
/-! ### over lists -/
theorem en_lk {l r : List Nat} {e : En} (ho : Oct l) (h : enR l = .ok (e, r)) : Lk e.v := by
  obtain ⟨k, m0, g0, h⟩ := bind_inv h
  have e0 := by_inv g0
  have o0 : Oct m0 := fun y hy => ho y (by rw [e0]; simp [hy])
  obtain ⟨tb, m1, g1, h⟩ := bind_inv h
  have o1 : Oct m1 := by rw [(n_inv o0 g1).1] at o0; exact o0.right
  obtain ⟨dc, m2, g2, h⟩ := bind_inv h
  have o2 : Oct m2 := by rw [(n_inv o1 g2).1] at o1; exact o1.right
  obtain ⟨vr, m3, g3, h⟩ := bind_inv h
  have o3 : Oct m3 := by rw [(n_inv o2 g3).1] at o2; exact o2.right
  obtain ⟨t, m4, g4, h⟩ := bind_inv h
  have o4 : Oct m4 := by rw [(t_inv' o3 g4).1] at o3; exact o3.right
  obtain ⟨ab, m5, g5, h⟩ := bind_inv h
  have o5 : Oct m5 := by rw [(n_inv o4 g5).1] at o4; exact o4.right
  obtain ⟨ae, m6, g6, h⟩ := bind_inv h
  have o6 : Oct m6 := by rw [(n_inv o5 g6).1] at o5; exact o5.right
  unfold rvR at h
  by_cases c : k = 2
  · rw [if_pos c] at h
    obtain ⟨hh, m, g7, h⟩ := bind_inv h
    obtain ⟨q, m2, g8, h⟩ := bind_inv h
    have o7 : Oct m := by rw [(take_inv g7).1] at o6; exact o6.right
    obtain ⟨e3, _⟩ := ret_inv h
    subst e3
    rcases (dt_inv o7 g8).2 with ⟨rfl, _⟩ | ⟨_, e6, _⟩
    · exact lk_nv
    · exact lk_enc e6
  · rw [if_neg c] at h
    obtain ⟨e3, _⟩ := ret_inv h
    subst e3
    exact lk_nv
theorem en_less {l r : List Nat} {e : En} (ho : Oct l) (hl : l.length ≤ 1000000) (h : enR l = .ok (e, r)) : r.length < l.length := by
  have h2 := (en_inv ho (by omega) h).2
  have h3 : 0 < (itmB true e).length := by unfold itmB entB; simp
  rw [h2, List.length_append]
  omega
theorem es_err {k : Nat} {l : List Nat} {q : Nat} (h : esR k l = .error q) : ∀ d, esR (k + d) l = .error q
  | 0 => h
  | d + 1 => by
    show ((esR (k + d)).bind _) l = _
    unfold Rdr.bind
    rw [es_err h d]
theorem es_snoc {k : Nat} {l l1 l2 : List Nat} {err e1 e2 : Int} {es : List En} {x : En} (h : Sq (esR k) l err l1 e1 es) (h2 : Sq enR l1 e1 l2 e2 x) : Sq (esR (k + 1)) l err l2 e2 (es ++ [x]) := sq_bind h (sq_bind h2 (sq_ret _ _ _))
theorem es_stop {k n : Nat} (hk : k ≤ n) {l l2 : List Nat} {err e2 : Int} {es es' : List En} (h : Sq (esR k) l err l2 e2 es) (he : e2 ≠ 0) : Sq (esR n) l err l2 e2 es' := by
  obtain ⟨d, rfl⟩ := Nat.exists_eq_add_of_le hk
  rcases h with h | ⟨h1, ⟨_, h2⟩ | ⟨q, h2, h3, h4⟩⟩
  · exact .inl h
  · exact absurd h2 he
  · exact .inr ⟨h1, .inr ⟨q, es_err h2 d, h3, h4⟩⟩
/-- What is not too long. -/
def bSf (l : List Nat) : Prop := ∀ ix tm tx n pv k es l1 l2 l3 l4 l5 r, nR l = .ok (ix, l1) → nR l1 = .ok (tm, l2) → nR l2 = .ok (tx, l3) → takeR 32 l3 = .ok (pv, l4) → nR l4 = .ok (n, l5) → k < n → esR k l5 = .ok (es, r) → eSf r
def hC (hd : Bk) (v : Value) : List Value := [.int .i64 hd.ix, .int .i64 hd.tm, .int .i64 hd.tx] ++ (nums .u8 hd.pv ++ [v])
theorem hC_len {hd : Bk} (h : hd.pv.length = 32) (v : Value) : (hC hd v).length = 36 := by unfold hC; simp [nums_length, h]
theorem hC_last {hd : Bk} (h : hd.pv.length = 32) (v : Value) : (hC hd v)[35]? = some v := by
  unfold hC
  rw [List.getElem?_append_right (by simp), List.getElem?_append_right (by simp [nums_length, h])]
  simp [nums_length, h]
theorem hC_set {hd : Bk} (h : hd.pv.length = 32) (v u : Value) : (hC hd v).set 35 u = hC hd u := by
  unfold hC
  rw [List.set_append_right _ _ (by simp), List.set_append_right _ _ (by simp [nums_length, h])]
  simp [nums_length, h]
theorem zBl : (Tryz.prog.info? 26).map (fun i => i.zero.map (·.cells)) = some (some (bC noB none 0).toArray) := by kernel_rfl
theorem bd_blk (a : Act) : Tryz.prog.built 26 ((#[] : Array (Nat × Operand)).map fun p => (p.1, a.eval p.2)).toList = some (bC noB none 0).toArray := by kernel_rfl
/-- While the entries are read. -/
structure KInv (w0 W : World) (r g4 g6 M : Nat) (keep : Bool) (hd : Bk) (lh : List Nat) (eh : Int) (RF : List En → Int) (wr : World) (k : Nat) (rf : Int) (es : List En) (is : List It) (v : Value) (lk : List Nat) (ek : Int) : Prop where
  rb : Rb w0 r wr lk ek
  gr : W.grownBy wr (some r)
  b4 : Blk wr g4 26 (bC noB none 0)
  b6 : Blk wr g6 26 (hC hd v)
  row : RowE M wr v is
  ise : is.map (·.e) = if keep then es else []
  sq : Sq (esR k) lh eh lk ek es
  rf : rf = RF es
  ok : k ≠ 0 → ek = 0
  len : k + lk.length ≤ 1000000
  m : M ≤ wr.heap.size
  isl : is.length ≤ k
/-- What is read of a block. -/
structure BlR (w0 W w' : World) (r : Nat) (l : List Nat) (keep : Bool) (bb : Bk) (a : Option Addr) (c : Nat) (rf : Int) (l' : List Nat) (err' : Int) (B : Bk) : Prop where
  rb : Rb w0 r w' l' err'
  gr : W.grownBy w' (some r)
  sq : Sq bkR l 0 l' err' B
  w : BkW bb
  row : ∃ is : List It, RowE W.heap.size w' (.slice a is.length c) is ∧ is.map (·.e) = bb.es
  ok : err' = 0 → rf = (if HeadP B (B.es.length : Int) then fstE B.es else 1) ∧ (keep = true → bb = B)
end Go.Proofs.YtlefdnjokppibaaGreatDoor.Sh
