/-
  block's reader: data. · block's reader: entry.
-/
import Derived.Test.YtmbglggodifboaaGreatDoorSBq2
import Derived.Test.YtmbglggodifboaaGreatDoorSG30x
namespace Go.Proofs.YtmbglggodifboaaGreatDoor.Sh
open Go Go.RowKit Math Mt
set_option linter.unusedVariables false
set_option linter.unusedSimpArgs false
theorem gr_st {W w1 w2 : World} {r g : Nat} (h : W.grownBy w1 (some r)) (k : w1.grownBy w2 (some g)) (hg : W.heap.size ≤ g) : W.grownBy w2 (some r) :=
  ⟨k.os.trans h.os, k.tape.trans h.tape, k.output.trans h.output, Nat.le_trans h.size k.size, fun i hi hne => (k.block i (Nat.lt_of_lt_of_le hi h.size) (fun e => by have := Option.some.inj e; omega)).trans (h.block i hi hne)⟩
theorem gr_al {W w1 w2 : World} {r : Nat} (h : W.grownBy w1 (some r)) (k : w1.grownBy w2 none) : W.grownBy w2 (some r) :=
  ⟨k.os.trans h.os, k.tape.trans h.tape, k.output.trans h.output, Nat.le_trans h.size k.size, fun i hi hne => (k.block i (Nat.lt_of_lt_of_le hi h.size) (by simp)).trans (h.block i hi hne)⟩
theorem gr_be {W w1 w2 : World} {r : Nat} (h : W.grownBy w1 (some r)) (k : Below w1.heap.size w1 w2) : W.grownBy w2 (some r) :=
  ⟨k.os.trans h.os, k.tape.trans h.tape, k.output.trans h.output, Nat.le_trans h.size k.size, fun i hi hne => (k.block i (Nat.lt_of_lt_of_le hi h.size)).trans (h.block i hi hne)⟩
theorem Rb.st {w0 : World} {r : Nat} {w w' : World} {l : List Nat} {e : Int} (h : Rb w0 r w l e) {g : Nat} (hg : w.grownBy w' (some g)) (hne : r ≠ g) (hl : w0.heap.size ≤ g) : Rb w0 r w' l e :=
  h.keep hg (fun x => hne (Option.some.inj x)) (h.bl.grown hg h.bl.size (fun x e => by have := Option.some.inj e; omega))
theorem Rb.al {w0 : World} {r : Nat} {w w' : World} {l : List Nat} {e : Int} (h : Rb w0 r w l e) (hg : w.grownBy w' none) : Rb w0 r w' l e :=
  h.keep hg (by simp) (h.bl.grown hg h.bl.size (fun x e => by cases e))
theorem Rb.be {w0 : World} {r : Nat} {w w' : World} {l : List Nat} {e : Int} (h : Rb w0 r w l e) (hg : Below w.heap.size w w') : Rb w0 r w' l e :=
  h.keep (row := none) ⟨hg.os, hg.tape, hg.output, hg.size, fun x hx _ => hg.block x hx⟩ (by simp) (h.bl.trans (hg.mono h.bl.size))
theorem Rb.rlt {w0 : World} {r : Nat} {w : World} {l : List Nat} {e : Int} (h : Rb w0 r w l e) : r < w.heap.size := by
  obtain ⟨_, _, hb, _⟩ := h.ex
  exact hb.lt
/-- What is read as Data is not too long. -/
def dSf (l : List Nat) : Prop := ∀ l1 n r, byR l = .ok (1, l1) → nR l1 = .ok (n, r) → n ≤ r.length → n ≤ 65536
theorem sq_ok {α : Type} {f : Rdr α} {l l' : List Nat} {err : Int} {x : α} (h : Sq f l err l' 0 x) : err = 0 ∧ f l = .ok (x, l') := by
  rcases h with ⟨h1, _, h2⟩ | ⟨h1, ⟨h2, _⟩ | ⟨q, _, h3, h4⟩⟩
  · exact absurd h2.symm h1
  · exact ⟨h1, h2⟩
  · exact absurd (show q = 0 by omega) h4
/-- A value that was read, in memory. -/
def VNew (W w' : World) (p : Vt) (na : Option Addr) (nc : Nat) (ka : Option Addr) (kc : Nat) : Prop := ∃ L, VlL w' p na nc ka kc L ∧ ∀ x ∈ L, W.heap.size ≤ x ∧ x < w'.heap.size
theorem VNew.st {W w w' : World} {p : Vt} {na : Option Addr} {nc : Nat} {ka : Option Addr} {kc : Nat} (h : VNew W w p na nc ka kc) {row : Option Nat} (hg : w.grownBy w' row) (hne : ∀ x, row = some x → x < W.heap.size ∨ w.heap.size ≤ x) : VNew W w' p na nc ka kc := by
  obtain ⟨L, h1, h2⟩ := h
  refine ⟨L, h1.keep fun x hx => hg.block x (h2 x hx).2 (fun e => ?_), fun x hx => ⟨(h2 x hx).1, by have := (h2 x hx).2; have := hg.size; omega⟩⟩
  have := hne x e.symm
  have := h2 x hx
  omega
theorem VNew.mono {W W' w : World} {p : Vt} {na : Option Addr} {nc : Nat} {ka : Option Addr} {kc : Nat} (h : VNew W w p na nc ka kc) (hs : W'.heap.size ≤ W.heap.size) : VNew W' w p na nc ka kc := by
  obtain ⟨L, h1, h2⟩ := h
  exact ⟨L, h1, fun x hx => ⟨by have := (h2 x hx).1; omega, (h2 x hx).2⟩⟩
theorem VNew.be {W w w' : World} {p : Vt} {na : Option Addr} {nc : Nat} {ka : Option Addr} {kc : Nat} (h : VNew W w p na nc ka kc) (hg : Below w.heap.size w w') : VNew W w' p na nc ka kc := h.st (row := none) ⟨hg.os, hg.tape, hg.output, hg.size, fun x hx _ => hg.block x hx⟩ (by intro x e; cases e)
theorem vnew_nv (W w : World) : VNew W w nv none 0 none 0 := ⟨[], vl_lf w 0 0 0 em, by simp⟩
theorem zVal : (Tryz.prog.info? 41).map (fun i => i.zero.map (·.cells)) = some (some (six nv.1 none 0 none 0 0).toArray) := by kernel_rfl
theorem bd_val (a : Act) : Tryz.prog.built 41 ((#[] : Array (Nat × Operand)).map fun p => (p.1, a.eval p.2)).toList = some (six nv.1 none 0 none 0 0).toArray := by kernel_rfl
set_option maxHeartbeats 2000000 in
set_option maxRecDepth 8000 in
theorem bdata_any (w0 W : World) (r : Nat) (l : List Nat) (err : Int) (h : Rb w0 r W l err) (hd : err = 0 → dSf l) :
    Calls Tryz.prog 116 #[.pointer (some ⟨r, 0, none⟩)] W fun e w' => ∃ (q : Vt × Bool) (l' : List Nat) (err' : Int) (na : Option Addr) (nc : Nat) (ka : Option Addr) (kc : Nat), e = .returned (.tuple #[.agg (six q.1.1 na nc ka q.1.2.list.length kc).toArray, .bool q.2]) ∧ Hid (Rb w0 r w' l' err' ∧ W.grownBy w' (some r) ∧ Sq dtR l err l' err' q ∧ VNew W w' q.1 na nc ka kc ∧ WfV q.1) := by
  have HR : Hid (Rb w0 r W l err) := h
  have hrl := h.rlt
  have h0 := h.bl.size
  have HD : Hid (err = 0 → dSf l) := hd
  clear h hd
  go_enter Tryz.func116, Tryz.ntmps116
  go_wp2_with (refine al_zero rfl 41 rfl (six nv.1 none 0 none 0 0) zVal ?_)
  intro g2 w1 l2 B2 G2
  have R1 := HR.out.al G2
  have HG1 : W.grownBy w1 (some r) := gr_al (World.grownBy.refl _ _) G2
  clear G2
  have K := bnext_any w0 w1 r l err R1
  go_wp2_with fail
  refine K.mono ?_
  clear K
  rintro e w2 ⟨x, l1, e1, rfl, hx, H1⟩
  have HG2 : W.grownBy w2 (some r) := HG1.trans H1.out.2.1
  have B2 := B2.kept H1.out.2.1 (fun e => by have := Option.some.inj e; omega)
  have HR2 : Hid (Rb w0 r w2 l1 e1) := H1.out.1
  have HS1 : Hid (Sq byR l err l1 e1 x) := H1.out.2.2
  have s2 := HG2.size
  clear H1 R1 HG1
  by_cases h0x : x = 0
  · have HS : Hid (Sq dtR l err l1 e1 (nv, true)) := sq_bind HS1.out (by rw [if_pos h0x]; exact sq_ret _ _ _)
    subst h0x
    go_wp2_with (first | (refine bd_row rfl 41 #[] rfl (six nv.1 none 0 none 0 0) (bd_val _) ?_) | (refine st_all rfl 41 (.tmp 2) (.tmp 10) rfl g2 41 (six nv.1 none 0 none 0 0) (six nv.1 none 0 none 0 0) rfl rfl B2 rfl (szV _ _ _ _ _ _) (six_one _ _ _ _ _ _) ?_))
    intro w3 B3 G3
    have HF : Hid (Rb w0 r w3 l1 e1 ∧ W.grownBy w3 (some r)) := ⟨HR2.out.st G3 (by omega) (by omega), gr_st HG2 G3 l2⟩
    clear G3 HG2 HR2
    go_wp2
    refine bodyPost_ret (Go.Proofs.YtmbglggodifboaaGreatDoor.res_two rfl _ g2 41 _ _ rfl B3 Tryz.underlying41 rfl (szV _ _ _ _ _ _)) rfl ⟨(nv, true), l1, e1, none, 0, none, 0, rfl, HF.out.1, HF.out.2, HS.out, vnew_nv _ _, wf_lf 0 0 0 em (by omega) (by omega) (by omega) (by decide)⟩
  by_cases h1x : x = 1
  · have HS2 : Hid (∀ (l' : List Nat) (e' : Int) (q : Vt × Bool), Sq dvR l1 e1 l' e' q → Sq dtR l err l' e' q) := fun l' e' q hq => sq_bind HS1.out (by rw [if_neg h0x, if_pos h1x]; exact hq)
    have HD1 : Hid (e1 = 0 → ∀ n r, nR l1 = .ok (n, r) → n ≤ r.length → n ≤ 65536) := fun z n r q1 q2 => by
      have hs := HS1.out
      rw [z] at hs
      obtain ⟨z1, z2⟩ := sq_ok hs
      rw [h1x] at z2
      exact HD.out z1 l1 n r z2 q1 q2
    subst h1x
    clear HS1 HD
    have K := bnum_any w0 w2 r l1 e1 HR2.out
    go_wp2_with fail
    refine K.mono ?_
    clear K
    rintro e w3 ⟨n, l3, e3, rfl, hn, H3⟩
    have HG3 : W.grownBy w3 (some r) := HG2.trans H3.out.2.1
    have B2 := B2.kept H3.out.2.1 (fun e => by have := Option.some.inj e; omega)
    have K := btake_any n hn w0 w3 r l3 e3 H3.out.1
    have HS3 : Hid (Sq nR l1 e1 l3 e3 n) := H3.out.2.2
    clear H3 HG2
    go_wp2_with fail
    refine K.mono ?_
    clear K
    rintro e w4 ⟨d, l4, e4, ad, cd, rfl, H4⟩
    obtain ⟨hR4, hG4, hS4, hB4, hnil4, hdc, hcm, hO4, hL4, hz4⟩ := H4.out
    have HG4 : W.grownBy w4 (some r) := HG3.trans hG4
    have B2 := B2.kept hG4 (fun e => by have := Option.some.inj e; omega)
    have HS4 : Hid (Sq (takeR n) l3 e3 l4 e4 d) := hS4
    have s4 := HG4.size
    have hd6 : d.length ≤ 65536 := by
      by_cases z : e4 = 0
      · have q4 := HS4.out
        rw [z] at q4
        obtain ⟨z3, t4⟩ := sq_ok q4
        have q3 := HS3.out
        rw [z3] at q3
        obtain ⟨z1, t3⟩ := sq_ok q3
        unfold takeR at t4
        split at t4
        · cases t4
        · next hnn =>
          injection t4 with t4
          injection t4 with t4 _
          rw [← t4, List.length_take]
          have := HD1.out z1 n l3 t3 (by omega)
          omega
      · rw [hz4 z]; simp
    have KD := decode_any d (valL_any (sm_short hd6)) ad cd w4 (hB4.below hR4.bl) hO4 hL4 hdc hcm hnil4
    have HR4 : Hid (Rb w0 r w4 l4 e4) := hR4
    obtain ⟨DE, hDE⟩ : ∃ x, Hid (decE d = x) := ⟨_, rfl⟩
    obtain ⟨DP, hDP⟩ : ∃ x, Hid (decP d = x) := ⟨_, rfl⟩
    rw [hDE.out, hDP.out] at KD
    have HSd : Hid (∀ E5, (DE = 0 → E5 = e4) → (DE ≠ 0 → E5 = if e4 ≠ 0 then e4 else 3) → Sq dvR l1 e1 l4 E5 (DP, false)) := fun E5 q1 q2 => by
      refine sq_bind HS3.out (sq_bind HS4.out ?_)
      by_cases z : DE = 0
      · rw [hDE.out, if_pos z, hDP.out, q1 z]; exact sq_ret _ _ _
      · rw [hDE.out, if_neg z, q2 z]
        by_cases y : e4 = 0
        · rw [if_neg (by simpa using y)]; exact .inr ⟨y, .inr ⟨3, rfl, rfl, by decide⟩⟩
        · rw [if_pos y]; exact .inl ⟨y, rfl, rfl⟩
    clear H4 hR4 hG4 hS4 hB4 hnil4 hO4 hz4 HG3 hDE hDP
    go_wp2_with fail
    refine KD.mono ?_
    clear KD
    rintro e w5 ⟨na, nc, ka, kc, rfl, HN⟩
    have V5 : VNew w4 w5 DP na nc ka kc := HN.out.vl
    have hV2 : g2 < w4.heap.size := B2.lt
    have hV0 : W.heap.size ≤ w4.heap.size := s4
    have hrw : r < w4.heap.size := HR4.out.rlt
    have R5 := HR4.out.be HN.out.bl
    have HG5 := gr_be HG4 HN.out.bl
    have B2 := B2.below HN.out.bl B2.lt
    have HWf : Hid (WfV DP) := HN.out.wf
    clear HN HG4 HR4
    have s5' := HG5.size
    have b2l := B2.lt
    go_wp2_with (refine al_zero rfl 41 rfl (six nv.1 none 0 none 0 0) zVal ?_)
    intro g4 w6 l6 B4 G6
    have n24 : g2 ≠ g4 := by omega
    have Z6 := (Below.refl w5.heap.size w5).grown G6 (Nat.le_refl _) (by simp)
    clear G6
    go_wp2_with (refine st_all rfl 41 (.tmp 4) (.tmp 19) rfl g4 41 (six nv.1 none 0 none 0 0) (six DP.1 na nc ka DP.2.list.length kc) rfl rfl B4 rfl (szV _ _ _ _ _ _) (six_one _ _ _ _ _ _) ?_)
    intro w7 B7 G7
    have Z7 := Sh.grown_below Z6 G7 Z6.size l6
    have V7 := V5.be Z7
    have R7 := R5.be Z7
    have HG7 := gr_be HG5 Z7
    have B2 := B2.below Z7 B2.lt
    have hg4 : g4 < w7.heap.size := B7.lt
    have sW4 : W.heap.size ≤ g4 := by omega
    clear G7 Z6 Z7 V5 R5 HG5 B4
    by_cases hz : DE = 0
    · have HSF : Hid (Sq dtR l err l4 e4 (DP, false)) := HS2.out _ _ _ (HSd.out e4 (fun _ => rfl) (fun x => absurd hz x))
      have hzb : (DE != 0) = false := by rw [hz]; rfl
      clear HS2 HSd HS3 HS4 hz
      go_wp2_with (first | (refine ld_w (by rfl) 41 (.tmp 4) rfl g4 0 rfl (six DP.1 na nc ka DP.2.list.length kc) _ B7.all Tryz.underlying41 rfl (szV _ _ _ _ _ _) ?_) | (refine st_all rfl 41 (.tmp 2) (.tmp 25) rfl g2 41 (six nv.1 none 0 none 0 0) (six DP.1 na nc ka DP.2.list.length kc) rfl rfl B2 rfl (szV _ _ _ _ _ _) (six_one _ _ _ _ _ _) ?_))
      intro w9 B9 G9
      have HF : Hid (Rb w0 r w9 l4 e4 ∧ W.grownBy w9 (some r) ∧ Sq dtR l err l4 e4 (DP, false) ∧ VNew W w9 DP na nc ka kc ∧ WfV DP) := ⟨R7.st G9 (by omega) (by omega), gr_st HG7 G9 l2, HSF.out, (V7.st G9 (fun x e => by have := Option.some.inj e; omega)).mono hV0, HWf.out⟩
      clear G9 R7 HG7 V7
      go_wp2
      refine bodyPost_ret (Go.Proofs.YtmbglggodifboaaGreatDoor.res_two rfl _ g2 41 _ _ rfl B9 Tryz.underlying41 rfl (szV _ _ _ _ _ _)) rfl ⟨(DP, false), l4, e4, na, nc, ka, kc, rfl, HF.out⟩
    · have hzb : (DE != 0) = true := by simpa using hz
      have K := bfail_any w0 w7 r l4 e4 3 R7
      obtain ⟨E5, hE5⟩ : ∃ x, Hid ((if e4 ≠ 0 then e4 else 3) = x) := ⟨_, rfl⟩
      rw [hE5.out] at K
      have HSF : Hid (Sq dtR l err l4 E5 (DP, false)) := HS2.out _ _ _ (HSd.out E5 (fun x => absurd x hz) (fun _ => hE5.out.symm))
      clear HS2 HSd HS3 HS4 hz hE5
      go_wp2_with fail
      refine K.mono ?_
      clear K
      rintro e w8 ⟨rfl, H8⟩
      have R8 := H8.out.1
      have V8 := V7.st H8.out.2 (fun x e => by have := Option.some.inj e; omega)
      have HG8 := HG7.trans H8.out.2
      have B2 := B2.kept H8.out.2 (fun e => by have := Option.some.inj e; omega)
      have B7 := B7.kept H8.out.2 (fun e => by have := Option.some.inj e; omega)
      clear H8 R7 V7 HG7
      go_wp2_with (first | (refine ld_w (by rfl) 41 (.tmp 4) rfl g4 0 rfl (six DP.1 na nc ka DP.2.list.length kc) _ B7.all Tryz.underlying41 rfl (szV _ _ _ _ _ _) ?_) | (refine st_all rfl 41 (.tmp 2) (.tmp 25) rfl g2 41 (six nv.1 none 0 none 0 0) (six DP.1 na nc ka DP.2.list.length kc) rfl rfl B2 rfl (szV _ _ _ _ _ _) (six_one _ _ _ _ _ _) ?_))
      intro w9 B9 G9
      have HF : Hid (Rb w0 r w9 l4 E5 ∧ W.grownBy w9 (some r) ∧ Sq dtR l err l4 E5 (DP, false) ∧ VNew W w9 DP na nc ka kc ∧ WfV DP) := ⟨R8.st G9 (by omega) (by omega), gr_st HG8 G9 l2, HSF.out, (V8.st G9 (fun x e => by have := Option.some.inj e; omega)).mono hV0, HWf.out⟩
      clear G9 R8 HG8 V8
      go_wp2
      refine bodyPost_ret (Go.Proofs.YtmbglggodifboaaGreatDoor.res_two rfl _ g2 41 _ _ rfl B9 Tryz.underlying41 rfl (szV _ _ _ _ _ _)) rfl ⟨(DP, false), l4, E5, na, nc, ka, kc, rfl, HF.out⟩
  · have K := bfail_any w0 w2 r l1 e1 3 HR2.out
    obtain ⟨E5, hE5⟩ : ∃ x, Hid ((if e1 ≠ 0 then e1 else 3) = x) := ⟨_, rfl⟩
    rw [hE5.out] at K
    have HSF : Hid (Sq dtR l err l1 E5 (nv, false)) := sq_bind HS1.out (by
      rw [if_neg h0x, if_neg h1x, ← hE5.out]
      by_cases y : e1 = 0
      · rw [if_neg (by simpa using y)]; exact .inr ⟨y, .inr ⟨3, rfl, rfl, by decide⟩⟩
      · rw [if_pos y]; exact .inl ⟨y, rfl, rfl⟩)
    have hx0 : ((x : Int) == 0) = false := beq_eq_false_iff_ne.2 (by omega)
    have hx1 : ((x : Int) == 1) = false := beq_eq_false_iff_ne.2 (by omega)
    clear HS1 h0x h1x hE5 HD
    go_wp2_with fail
    refine K.mono ?_
    clear K
    rintro e w3 ⟨rfl, H3⟩
    have R3 := H3.out.1
    have HG3 := HG2.trans H3.out.2
    have B2 := B2.kept H3.out.2 (fun e => by have := Option.some.inj e; omega)
    clear H3 HG2 HR2
    go_wp2_with (first | (refine bd_row rfl 41 #[] rfl (six nv.1 none 0 none 0 0) (bd_val _) ?_) | (refine st_all rfl 41 (.tmp 2) (.tmp 28) rfl g2 41 (six nv.1 none 0 none 0 0) (six nv.1 none 0 none 0 0) rfl rfl B2 rfl (szV _ _ _ _ _ _) (six_one _ _ _ _ _ _) ?_))
    intro w4 B4 G4
    have HF : Hid (Rb w0 r w4 l1 E5 ∧ W.grownBy w4 (some r)) := ⟨R3.st G4 (by omega) (by omega), gr_st HG3 G4 l2⟩
    clear G4 R3 HG3
    go_wp2
    refine bodyPost_ret (Go.Proofs.YtmbglggodifboaaGreatDoor.res_two rfl _ g2 41 _ _ rfl B4 Tryz.underlying41 rfl (szV _ _ _ _ _ _)) rfl ⟨(nv, false), l1, E5, none, 0, none, 0, rfl, HF.out.1, HF.out.2, HSF.out, vnew_nv _ _, wf_lf 0 0 0 em (by omega) (by omega) (by omega) (by decide)⟩
end Go.Proofs.YtmbglggodifboaaGreatDoor.Sh
namespace Go.Proofs.YtmbglggodifboaaGreatDoor.Sh
open Go Go.RowKit Math Mt
set_option linter.unusedVariables false
set_option linter.unusedSimpArgs false
def preR : Rdr Unit := byR.bind fun k => nR.bind fun _ => nR.bind fun _ => nR.bind fun _ => tR.bind fun _ => nR.bind fun _ => nR.bind fun _ => if k = 2 then (takeR 32).bind fun _ => .ret () else .no 3
/-- What an entry's Data are is not too long. -/
def eSf (l : List Nat) : Prop := ∀ r, preR l = .ok ((), r) → dSf r
theorem eC_end3 {e : En} (hl : e.h.length = 32) (na : Option Addr) (nc : Nat) (ka : Option Addr) (kc : Nat) (j : Nat) (u : Value) (L : List Value) (hL : [Value.bool e.g, .int .i64 e.ab, .int .i64 e.ae].set j u = L) (hj : j < 3) : (eC e na nc ka kc).set (43 + j) u = [.int .i64 e.k, .string e.t, .int .i64 e.tb, .int .i64 e.dc, .int .i64 e.vr] ++ (six e.v.1 na nc ka e.v.2.list.length kc ++ (nums .u8 e.h ++ L)) := by
  unfold eC
  rw [List.set_append_right _ _ (by simp; omega), List.set_append_right _ _ (by simp [six]; omega), List.set_append_right _ _ (by simp [six, nums_length, hl]; omega), ← hL]
  rw [show 43 + j - [Value.int .i64 e.k, .string e.t, .int .i64 e.tb, .int .i64 e.dc, .int .i64 e.vr].length - (six e.v.1 na nc ka e.v.2.list.length kc).length - (nums .u8 e.h).length = j by simp [six, nums_length, hl]; omega]
theorem s4 : (Tryz.prog.info? 4).map (·.size) = some 1 := by kernel_rfl
theorem s9' : (Tryz.prog.info? 9).map (·.size) = some 1 := by kernel_rfl
theorem zr_len : zr.length = 32 := rfl
theorem i64n {u : Nat} (h : u ≤ 9007199254740992) : I64 (u : Int) := ⟨by omega, by omega⟩
set_option maxHeartbeats 4000000 in
set_option maxRecDepth 8000 in
theorem bentry_any (w0 W : World) (r : Nat) (l : List Nat) (err : Int) (h : Rb w0 r W l err) (hd : err = 0 → eSf l) :
    Calls Tryz.prog 96 #[.pointer (some ⟨r, 0, none⟩)] W fun e w' => ∃ (x : En) (l' : List Nat) (err' : Int) (na : Option Addr) (nc : Nat) (ka : Option Addr) (kc : Nat), e = .returned (.agg (eC x na nc ka kc).toArray) ∧ Hid (Rb w0 r w' l' err' ∧ W.grownBy w' (some r) ∧ Sq enR l err l' err' x ∧ VNew W w' x.v na nc ka kc ∧ EnW x) := by
  have hrl := h.rlt
  have h0 := h.bl.size
  have HD : Hid (err = 0 → eSf l) := hd
  have R0 : Rb w0 r W l err := h
  have HG : W.grownBy W (some r) := World.grownBy.refl _ _
  clear h hd
  go_enter Tryz.func96, Tryz.ntmps96
  go_wp2_with (refine al_zero rfl 45 rfl (eC e0 none 0 none 0) zEn ?_)
  intro g2 w1 l2 B2 G0
  have RR := R0.al G0
  have HG := gr_al HG G0
  have s1 := G0.size
  clear G0 R0
  go_wp2_with (refine al_zero rfl 45 rfl (eC e0 none 0 none 0) zEn ?_)
  intro g3 w2 l3 B3 G0
  have n23 : g2 ≠ g3 := by have := B2.lt; omega
  have hw3 : W.heap.size ≤ g3 := by omega
  have RR := RR.al G0
  have HG := gr_al HG G0
  have B2 := B2.kept G0 (by simp)
  clear G0
  have K := bnext_any w0 w2 r l err RR
  clear RR
  go_wp2_with fail
  refine K.mono ?_
  clear K
  rintro e u0 ⟨kx, l10, e10, rfl, hkx, H⟩
  have RR := H.out.1
  have B2 := B2.kept H.out.2.1 (fun e => by have := Option.some.inj e; omega)
  have B3 := B3.kept H.out.2.1 (fun e => by have := Option.some.inj e; omega)
  have HG := HG.trans H.out.2.1
  have S0 : Hid (Sq byR l err l10 e10 kx) := H.out.2.2
  clear H
  go_wp2_with (refine st_one rfl 3 (.tmp 6) (.tmp 5) rfl g3 0 45 _ (.int .i64 (kx : Int)) rfl rfl rfl rfl (by rw [eC_len zr_len]; decide) B3 s3 ?_)
  intro u0s B3' G0
  have RR := RR.st G0 (by omega) (by omega)
  have B2 := B2.kept G0 (fun e => n23 (Option.some.inj e))
  have HG := gr_st HG G0 hw3
  have B3 : Blk u0s g3 45 (eC ⟨(kx : Int), ⟨#[]⟩, 0, 0, 0, nv, zr, false, 0, 0⟩ none 0 none 0) := B3'
  clear B3' G0
  have K := bnum_any w0 u0s r l10 e10 RR
  clear RR
  go_wp2_with fail
  refine K.mono ?_
  clear K
  rintro e u1 ⟨tbx, l11, e11, rfl, htbx, H⟩
  have RR := H.out.1
  have B2 := B2.kept H.out.2.1 (fun e => by have := Option.some.inj e; omega)
  have B3 := B3.kept H.out.2.1 (fun e => by have := Option.some.inj e; omega)
  have HG := HG.trans H.out.2.1
  have S1 : Hid (Sq nR l10 e10 l11 e11 tbx) := H.out.2.2
  clear H
  go_wp2_with (refine st_one rfl 3 (.tmp 9) (.tmp 8) rfl g3 2 45 _ (.int .i64 (tbx : Int)) rfl rfl rfl rfl (by rw [eC_len zr_len]; decide) B3 s3 ?_)
  intro u1s B3' G0
  have RR := RR.st G0 (by omega) (by omega)
  have B2 := B2.kept G0 (fun e => n23 (Option.some.inj e))
  have HG := gr_st HG G0 hw3
  have B3 : Blk u1s g3 45 (eC ⟨(kx : Int), ⟨#[]⟩, (tbx : Int), 0, 0, nv, zr, false, 0, 0⟩ none 0 none 0) := B3'
  clear B3' G0
  have K := bnum_any w0 u1s r l11 e11 RR
  clear RR
  go_wp2_with fail
  refine K.mono ?_
  clear K
  rintro e u2 ⟨dcx, l12, e12, rfl, hdcx, H⟩
  have RR := H.out.1
  have B2 := B2.kept H.out.2.1 (fun e => by have := Option.some.inj e; omega)
  have B3 := B3.kept H.out.2.1 (fun e => by have := Option.some.inj e; omega)
  have HG := HG.trans H.out.2.1
  have S2 : Hid (Sq nR l11 e11 l12 e12 dcx) := H.out.2.2
  clear H
  go_wp2_with (refine st_one rfl 3 (.tmp 12) (.tmp 11) rfl g3 3 45 _ (.int .i64 (dcx : Int)) rfl rfl rfl rfl (by rw [eC_len zr_len]; decide) B3 s3 ?_)
  intro u2s B3' G0
  have RR := RR.st G0 (by omega) (by omega)
  have B2 := B2.kept G0 (fun e => n23 (Option.some.inj e))
  have HG := gr_st HG G0 hw3
  have B3 : Blk u2s g3 45 (eC ⟨(kx : Int), ⟨#[]⟩, (tbx : Int), (dcx : Int), 0, nv, zr, false, 0, 0⟩ none 0 none 0) := B3'
  clear B3' G0
  have K := bnum_any w0 u2s r l12 e12 RR
  clear RR
  go_wp2_with fail
  refine K.mono ?_
  clear K
  rintro e u3 ⟨vrx, l13, e13, rfl, hvrx, H⟩
  have RR := H.out.1
  have B2 := B2.kept H.out.2.1 (fun e => by have := Option.some.inj e; omega)
  have B3 := B3.kept H.out.2.1 (fun e => by have := Option.some.inj e; omega)
  have HG := HG.trans H.out.2.1
  have S3 : Hid (Sq nR l12 e12 l13 e13 vrx) := H.out.2.2
  clear H
  go_wp2_with (refine st_one rfl 3 (.tmp 15) (.tmp 14) rfl g3 4 45 _ (.int .i64 (vrx : Int)) rfl rfl rfl rfl (by rw [eC_len zr_len]; decide) B3 s3 ?_)
  intro u3s B3' G0
  have RR := RR.st G0 (by omega) (by omega)
  have B2 := B2.kept G0 (fun e => n23 (Option.some.inj e))
  have HG := gr_st HG G0 hw3
  have B3 : Blk u3s g3 45 (eC ⟨(kx : Int), ⟨#[]⟩, (tbx : Int), (dcx : Int), (vrx : Int), nv, zr, false, 0, 0⟩ none 0 none 0) := B3'
  clear B3' G0
  have K := btext_any w0 u3s r l13 e13 RR
  clear RR
  go_wp2_with fail
  refine K.mono ?_
  clear K
  rintro e u4 ⟨tx, l14, e14, rfl, htx, H⟩
  have RR := H.out.1
  have B2 := B2.kept H.out.2.1 (fun e => by have := Option.some.inj e; omega)
  have B3 := B3.kept H.out.2.1 (fun e => by have := Option.some.inj e; omega)
  have HG := HG.trans H.out.2.1
  have S4 : Hid (Sq tR l13 e13 l14 e14 tx) := H.out.2.2
  clear H
  go_wp2_with (refine st_one rfl 9 (.tmp 18) (.tmp 17) rfl g3 1 45 _ (.string tx) rfl rfl rfl rfl (by rw [eC_len zr_len]; decide) B3 s9' ?_)
  intro u4s B3' G0
  have RR := RR.st G0 (by omega) (by omega)
  have B2 := B2.kept G0 (fun e => n23 (Option.some.inj e))
  have HG := gr_st HG G0 hw3
  have B3 : Blk u4s g3 45 (eC ⟨(kx : Int), tx, (tbx : Int), (dcx : Int), (vrx : Int), nv, zr, false, 0, 0⟩ none 0 none 0) := B3'
  clear B3' G0
  have K := bnum_any w0 u4s r l14 e14 RR
  clear RR
  go_wp2_with fail
  refine K.mono ?_
  clear K
  rintro e u5 ⟨abx, l15, e15, rfl, habx, H⟩
  have RR := H.out.1
  have B2 := B2.kept H.out.2.1 (fun e => by have := Option.some.inj e; omega)
  have B3 := B3.kept H.out.2.1 (fun e => by have := Option.some.inj e; omega)
  have HG := HG.trans H.out.2.1
  have S5 : Hid (Sq nR l14 e14 l15 e15 abx) := H.out.2.2
  clear H
  go_wp2_with (refine st_one rfl 3 (.tmp 22) (.tmp 20) rfl g3 44 45 _ (.int .i64 (abx : Int)) rfl rfl rfl rfl (by rw [eC_len zr_len]; decide) B3 s3 ?_)
  intro u5s B3' G0
  have RR := RR.st G0 (by omega) (by omega)
  have B2 := B2.kept G0 (fun e => n23 (Option.some.inj e))
  have HG := gr_st HG G0 hw3
  have B3 : Blk u5s g3 45 (eC ⟨(kx : Int), tx, (tbx : Int), (dcx : Int), (vrx : Int), nv, zr, false, (abx : Int), 0⟩ none 0 none 0) := by rw [eC_end3 (j := 1) zr_len none 0 none 0 _ _ rfl (by decide)] at B3'; exact B3'
  clear B3' G0
  have K := bnum_any w0 u5s r l15 e15 RR
  clear RR
  go_wp2_with fail
  refine K.mono ?_
  clear K
  rintro e u6 ⟨aex, l16, e16, rfl, haex, H⟩
  have RR := H.out.1
  have B2 := B2.kept H.out.2.1 (fun e => by have := Option.some.inj e; omega)
  have B3 := B3.kept H.out.2.1 (fun e => by have := Option.some.inj e; omega)
  have HG := HG.trans H.out.2.1
  have S6 : Hid (Sq nR l15 e15 l16 e16 aex) := H.out.2.2
  clear H
  go_wp2_with (refine st_one rfl 3 (.tmp 26) (.tmp 24) rfl g3 45 45 _ (.int .i64 (aex : Int)) rfl rfl rfl rfl (by rw [eC_len zr_len]; decide) B3 s3 ?_)
  intro u6s B3' G0
  have RR := RR.st G0 (by omega) (by omega)
  have B2 := B2.kept G0 (fun e => n23 (Option.some.inj e))
  have HG := gr_st HG G0 hw3
  have B3 : Blk u6s g3 45 (eC ⟨(kx : Int), tx, (tbx : Int), (dcx : Int), (vrx : Int), nv, zr, false, (abx : Int), (aex : Int)⟩ none 0 none 0) := by rw [eC_end3 (j := 2) zr_len none 0 none 0 _ _ rfl (by decide)] at B3'; exact B3'
  clear B3' G0
  have ck : u6s.cell? ⟨g3, 0, none⟩ = some (.int .i64 (kx : Int)) := B3.cell 0
  by_cases hk2 : kx = 2
  · have hkb : ((kx : Int) == 2) = true := by rw [hk2]; rfl
    have HSX : Hid (∀ (l' : List Nat) (e' : Int) (X : En), Sq (rvR kx tbx dcx vrx tx abx aex) l16 e16 l' e' X → Sq enR l err l' e' X) := fun l' e' X q => (sq_bind S0.out (sq_bind S1.out (sq_bind S2.out (sq_bind S3.out (sq_bind S4.out (sq_bind S5.out (sq_bind S6.out q)))))))
    have HSP : Hid (∀ (l' : List Nat) (e' : Int) (hh : List Nat), Sq (takeR 32) l16 e16 l' e' hh → Sq preR l err l' e' ()) := fun l' e' hh q => (sq_bind S0.out (sq_bind S1.out (sq_bind S2.out (sq_bind S3.out (sq_bind S4.out (sq_bind S5.out (sq_bind S6.out (by rw [if_pos hk2]; exact sq_bind q (sq_ret _ _ _)))))))))
    have HRV : Hid (∀ (l1 l' : List Nat) (e1 e' : Int) (hh : List Nat) (q : Vt × Bool), Sq (takeR 32) l16 e16 l1 e1 hh → Sq dtR l1 e1 l' e' q → Sq (rvR kx tbx dcx vrx tx abx aex) l16 e16 l' e' ⟨kx, tx, tbx, dcx, vrx, q.1, hh, q.2, abx, aex⟩) := fun l1 l' e1 e' hh q q1 q2 => by unfold rvR; rw [if_pos hk2]; exact sq_bind q1 (sq_bind q2 (sq_ret _ _ _))
    clear S0 S1 S2 S3 S4 S5 S6 hk2
    have K := bhash_any w0 u6s r l16 e16 RR
    clear RR
    go_wp2_with fail
    refine K.mono ?_
    clear K
    rintro e v1 ⟨hh, l20, e20, rfl, hhh, H⟩
    have RR := H.out.1
    have B2 := B2.kept H.out.2.1 (fun e => by have := Option.some.inj e; omega)
    have B3 := B3.kept H.out.2.1 (fun e => by have := Option.some.inj e; omega)
    have HG := HG.trans H.out.2.1
    have SH : Hid (Sq (takeR 32) l16 e16 l20 e20 hh) := H.out.2.2
    have HH : Hid (H32 hh) := hhh
    clear H ck hhh
    have B3 : Blk v1 g3 45 (([.int .i64 (kx : Int), .string tx, .int .i64 (tbx : Int), .int .i64 (dcx : Int), .int .i64 (vrx : Int)] ++ six nv.1 none 0 none 0 0) ++ (nums .u8 zr ++ [.bool false, .int .i64 (abx : Int), .int .i64 (aex : Int)])) := B3
    go_wp2_with (refine st_row rfl 23 (.tmp 32) (.tmp 31) rfl g3 11 45 ([.int .i64 (kx : Int), .string tx, .int .i64 (tbx : Int), .int .i64 (dcx : Int), .int .i64 (vrx : Int)] ++ six nv.1 none 0 none 0 0) (nums .u8 zr) [.bool false, .int .i64 (abx : Int), .int .i64 (aex : Int)] (nums .u8 hh) rfl rfl rfl B3 (by rw [nums_length, nums_length, HH.out.1]; rfl) (sH HH.out.1) (nums_one _ _) ?_)
    intro v2 B3' G0
    have RR := RR.st G0 (by omega) (by omega)
    have B2 := B2.kept G0 (fun e => n23 (Option.some.inj e))
    have HG := gr_st HG G0 hw3
    have B3 : Blk v2 g3 45 (eC ⟨(kx : Int), tx, (tbx : Int), (dcx : Int), (vrx : Int), nv, hh, false, (abx : Int), (aex : Int)⟩ none 0 none 0) := B3'
    clear B3' G0
    have K := bdata_any w0 v2 r l20 e20 RR (fun z => by
      have q := HSP.out _ _ _ SH.out
      rw [z] at q
      obtain ⟨z1, z2⟩ := sq_ok q
      exact HD.out z1 _ z2)
    clear RR
    have sv2 := HG.size
    have g3v : g3 < v2.heap.size := B3.lt
    have g2v : g2 < v2.heap.size := B2.lt
    go_wp2_with fail
    refine K.mono ?_
    clear K
    rintro e v3 ⟨q, l21, e21, na, nc, ka, kc, rfl, H⟩
    obtain ⟨RR, hG3, SD, VV, HWf⟩ := H.out
    have B2 := B2.kept hG3 (fun e => by have := Option.some.inj e; omega)
    have B3 := B3.kept hG3 (fun e => by have := Option.some.inj e; omega)
    have HG := HG.trans hG3
    have HSF : Hid (Sq enR l err l21 e21 ⟨kx, tx, tbx, dcx, vrx, q.1, hh, q.2, abx, aex⟩) := HSX.out _ _ _ (HRV.out _ _ _ _ _ _ SH.out SD)
    clear H SD hG3 HSX HSP HRV
    have B3 : Blk v3 g3 45 ([.int .i64 (kx : Int), .string tx, .int .i64 (tbx : Int), .int .i64 (dcx : Int), .int .i64 (vrx : Int)] ++ (six nv.1 none 0 none 0 0 ++ (nums .u8 hh ++ [.bool false, .int .i64 (abx : Int), .int .i64 (aex : Int)]))) := B3
    go_wp2_with (refine st_row rfl 41 (.tmp 38) (.tmp 36) rfl g3 5 45 [.int .i64 (kx : Int), .string tx, .int .i64 (tbx : Int), .int .i64 (dcx : Int), .int .i64 (vrx : Int)] (six nv.1 none 0 none 0 0) (nums .u8 hh ++ [.bool false, .int .i64 (abx : Int), .int .i64 (aex : Int)]) (six q.1.1 na nc ka q.1.2.list.length kc) rfl rfl rfl B3 rfl (szV _ _ _ _ _ _) (six_one _ _ _ _ _ _) ?_)
    intro v4 B3' G0
    have RR := RR.st G0 (by omega) (by omega)
    have B2 := B2.kept G0 (fun e => n23 (Option.some.inj e))
    have HG := gr_st HG G0 hw3
    have VV := VV.st G0 (fun x e => by have := Option.some.inj e; omega)
    have B3 : Blk v4 g3 45 (eC ⟨(kx : Int), tx, (tbx : Int), (dcx : Int), (vrx : Int), q.1, hh, false, (abx : Int), (aex : Int)⟩ na nc ka kc) := B3'
    clear B3' G0
    go_wp2_with (refine st_one rfl 4 (.tmp 39) (.tmp 37) rfl g3 43 45 _ (.bool q.2) rfl rfl rfl rfl (by rw [eC_len HH.out.1]; decide) B3 s4 ?_)
    intro v5 B3' G0
    have RR := RR.st G0 (by omega) (by omega)
    have B2 := B2.kept G0 (fun e => n23 (Option.some.inj e))
    have HG := gr_st HG G0 hw3
    have VV := VV.st G0 (fun x e => by have := Option.some.inj e; omega)
    have B3 : Blk v5 g3 45 (eC ⟨(kx : Int), tx, (tbx : Int), (dcx : Int), (vrx : Int), q.1, hh, q.2, (abx : Int), (aex : Int)⟩ na nc ka kc) := by rw [eC_end3 (j := 0) HH.out.1 na nc ka kc _ _ rfl (by decide)] at B3'; exact B3'
    clear B3' G0
    go_wp2_with (first | (refine ld_w (by rfl) 45 (.tmp 3) rfl g3 0 rfl (eC ⟨(kx : Int), tx, (tbx : Int), (dcx : Int), (vrx : Int), q.1, hh, q.2, (abx : Int), (aex : Int)⟩ na nc ka kc) _ B3.all Tryz.underlying45 rfl (sE HH.out.1 _ _ _ _) ?_) | (refine st_all rfl 45 (.tmp 2) (.tmp 40) rfl g2 45 (eC e0 none 0 none 0) (eC ⟨(kx : Int), tx, (tbx : Int), (dcx : Int), (vrx : Int), q.1, hh, q.2, (abx : Int), (aex : Int)⟩ na nc ka kc) rfl rfl B2 (by rw [eC_len HH.out.1, eC_len zr_len]) (sE HH.out.1 _ _ _ _) (eC_one _ _ _ _ _) ?_))
    intro wz BZ G0
    have HF : Hid (Rb w0 r wz l21 e21 ∧ W.grownBy wz (some r) ∧ VNew W wz q.1 na nc ka kc) := ⟨RR.st G0 (by omega) (by omega), gr_st HG G0 l2, (VV.st G0 (fun x e => by have := Option.some.inj e; omega)).mono sv2⟩
    have HEW : Hid (EnW ⟨(kx : Int), tx, (tbx : Int), (dcx : Int), (vrx : Int), q.1, hh, q.2, (abx : Int), (aex : Int)⟩) := ⟨i64n (by omega), by have := htx; show tx.size ≤ _; omega, i64n (by omega), i64n (by omega), i64n (by omega), HWf, HH.out, i64n (by omega), i64n (by omega)⟩
    clear G0 RR HG VV
    go_wp2
    (try simp only [Exit.inBlock, Exit.then])
    refine bodyPost_ret (Sh.res_row rfl _ g2 45 _ _ rfl BZ Tryz.underlying45 rfl (sE HH.out.1 _ _ _ _)) rfl ⟨⟨(kx : Int), tx, (tbx : Int), (dcx : Int), (vrx : Int), q.1, hh, q.2, (abx : Int), (aex : Int)⟩, l21, e21, na, nc, ka, kc, rfl, HF.out.1, HF.out.2.1, HSF.out, HF.out.2.2, HEW.out⟩
  · have hkb : ((kx : Int) == 2) = false := beq_eq_false_iff_ne.2 (by omega)
    have HSF : Hid (Sq enR l err l16 e16 ⟨(kx : Int), tx, (tbx : Int), (dcx : Int), (vrx : Int), nv, zr, false, (abx : Int), (aex : Int)⟩) := (sq_bind S0.out (sq_bind S1.out (sq_bind S2.out (sq_bind S3.out (sq_bind S4.out (sq_bind S5.out (sq_bind S6.out (by unfold rvR; rw [if_neg hk2]; exact sq_ret _ _ _))))))))
    clear hk2
    go_wp2_with (first | (refine ld_w (by rfl) 45 (.tmp 3) rfl g3 0 rfl (eC ⟨(kx : Int), tx, (tbx : Int), (dcx : Int), (vrx : Int), nv, zr, false, (abx : Int), (aex : Int)⟩ none 0 none 0) _ B3.all Tryz.underlying45 rfl (sE zr_len _ _ _ _) ?_) | (refine st_all rfl 45 (.tmp 2) (.tmp 40) rfl g2 45 (eC e0 none 0 none 0) (eC ⟨(kx : Int), tx, (tbx : Int), (dcx : Int), (vrx : Int), nv, zr, false, (abx : Int), (aex : Int)⟩ none 0 none 0) rfl rfl B2 (by rw [eC_len zr_len, eC_len zr_len]) (sE zr_len _ _ _ _) (eC_one _ _ _ _ _) ?_))
    intro wz BZ G0
    have HF : Hid (Rb w0 r wz l16 e16 ∧ W.grownBy wz (some r)) := ⟨RR.st G0 (by omega) (by omega), gr_st HG G0 l2⟩
    clear G0 RR HG
    go_wp2
    (try simp only [Exit.inBlock, Exit.then])
    refine bodyPost_ret (Sh.res_row rfl _ g2 45 _ _ rfl BZ Tryz.underlying45 rfl (sE zr_len _ _ _ _)) rfl ⟨⟨(kx : Int), tx, (tbx : Int), (dcx : Int), (vrx : Int), nv, zr, false, (abx : Int), (aex : Int)⟩, l16, e16, none, 0, none, 0, rfl, HF.out.1, HF.out.2, HSF.out, vnew_nv _ _, ⟨i64n (by omega), by have := htx; show tx.size ≤ _; omega, i64n (by omega), i64n (by omega), i64n (by omega), wf_lf 0 0 0 em (by omega) (by omega) (by omega) (by decide), ⟨rfl, fun x hx => by have := List.eq_of_mem_replicate hx; omega⟩, i64n (by omega), i64n (by omega)⟩⟩
end Go.Proofs.YtmbglggodifboaaGreatDoor.Sh
