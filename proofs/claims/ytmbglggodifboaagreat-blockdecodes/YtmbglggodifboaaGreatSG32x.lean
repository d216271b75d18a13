import Derived.Test.YtmbglggodifboaaGreatSG24x
import Derived.Test.YtmbglggodifboaaGreatSG31x
set_option maxHeartbeats 400000
set_option maxRecDepth 8000
set_option linter.unusedSimpArgs false
set_option linter.unusedVariables false
namespace Go.Proofs.YtmbglggodifboaaGreat.Sh
open Go Go.RowKit Math Mt
structure Rb (w0 : World) (r : Nat) (w : World) (l : List Nat) (e : Int) : Prop where
 ex : ∃ a c, Blk w r 67 [.slice a l.length c, .int .i64 e] /\ Byt w0 a l /\ (a = none -> c = 0) /\ l.length <= c /\ c <= 9223372036854775807
 bl : Below w0.heap.size w0 w
 lt : w0.heap.size <= r
 oct : Oct l
 len : l.length <= 1000000
def RbC {α : Type} (F : Nat) (f : Rdr α) (val : α -> Value) (P : α -> Prop) : Prop := ∀ (w0 W : World) (r : Nat) (l : List Nat) (err : Int), Rb w0 r W l err ->
 Calls Tryz.prog F #[.pointer (some ⟨r, 0, none⟩)] W fun e w' => ∃ x l' err', e = .returned (val x) /\ P x /\ Hid (Rb w0 r w' l' err' /\ W.grownBy w' (some r) /\ Sq f l err l' err' x)
theorem Rb.same {w0 : World} {r : Nat} {w w' : World} {l : List Nat} {e : Int} (h : Rb w0 r w l e) {a : Option Addr} {c : Nat} {l' : List Nat} {e' : Int} (hb : Blk w' r 67 [.slice a l'.length c, .int .i64 e']) (hg : w.grownBy w' (some r)) (h1 : Byt w0 a l') (h2 : a = none -> c = 0) (h3 : l'.length <= c) (h4 : c <= 9223372036854775807) (h5 : Oct l') (h6 : l'.length <= 1000000) : Rb w0 r w' l' e' :=
 ⟨⟨a, c, hb, h1, h2, h3, h4⟩, h.bl.grown hg h.bl.size (fun x e => by injection e with e; have := h.lt; omega), h.lt, h5, h6⟩
theorem Rb.keep {w0 : World} {r : Nat} {w w' : World} {l : List Nat} {e : Int} (h : Rb w0 r w l e) {row : Option Nat} (hg : w.grownBy w' row) (hne : some r ≠ row) (hb : Below w0.heap.size w0 w') : Rb w0 r w' l e := by
 obtain ⟨a, c, h1, h2⟩ := h.ex
 exact ⟨⟨a, c, Blk.kept h1 hg hne, h2⟩, hb, h.lt, h.oct, h.len⟩
theorem byt_take {w : World} {a : Option Addr} {l : List Nat} (h : Byt w a l) (n : Nat) : Byt w a (l.take n) := by
 rcases h with rfl | ⟨b, off, rfl, hc⟩
 . left; simp
 . right
   refine ⟨b, off, rfl, ?_⟩
   have : Cells w b off (l.take n ++ l.drop n) := by rw [List.take_append_drop]; exact hc
   exact Cells.left this
theorem bfail_any (w0 W : World) (r : Nat) (l : List Nat) (err e : Int) (h : Rb w0 r W l err) :
 Calls Tryz.prog 26 #[.pointer (some ⟨r, 0, none⟩), .int .i64 e] W fun e' w' => e' = .returned (.tuple #[]) /\ Hid (Rb w0 r w' l (if err ≠ 0 then err else e) /\ W.grownBy w' (some r)) := by
 obtain ⟨a, c, hb, hB, hnil, hlc, hcm⟩ := h.ex
 have HR : Hid (Rb w0 r W l err) := h
 have c1 : W.cell? ⟨r, 1, none⟩ = some (.int .i64 err) := hb.cell 1
 have HBk : Hid (Blk (W.alloc (.cells #[.int .i64 err, .int .i64 e] 30)) r 67 [.slice a l.length c, .int .i64 err]) := hb.alloc _
 have HG : Hid (W.grownBy (W.alloc (.cells #[.int .i64 err, .int .i64 e] 30)) (some r)) := World.grownBy_alloc W _ _
 have HY : Hid (Byt w0 a l /\ (a = none -> c = 0)) := ⟨hB, hnil⟩
 have K := or_lit err e W
 generalize (if err ≠ 0 then err else e) = E at *
 clear hb h hB hnil
 go_enter Tryz.func26, Tryz.ntmps26
 go_wp2_with fail
 refine K.mono ?_
 clear K
 generalize W.alloc (.cells #[.int .i64 err, .int .i64 e] 30) = W1 at *
 rintro e w1 ⟨rfl, hw⟩
 have hw' := hw.symm
 subst hw'
 clear hw
 go_wp2_with (refine st_one rfl 30 (.tmp 13) (.tmp 11) rfl r 1 67 _ _ rfl rfl rfl rfl (by simp) HBk.out s30 ?_)
 intro w2 b2 g2
 have HF : Hid (Rb w0 r w2 l E /\ W.grownBy w2 (some r)) := ⟨HR.out.same b2 (HG.out.trans g2) HY.out.1 HY.out.2 hlc hcm HR.out.oct HR.out.len, HG.out.trans g2⟩
 clear b2 g2 HBk HG
 go_wp2
 go_end0
 exact ⟨rfl, HF.out⟩
theorem btake_any (n : Nat) (hn : n <= 9007199254740992) (w0 W : World) (r : Nat) (l : List Nat) (err : Int) (h : Rb w0 r W l err) :
 Calls Tryz.prog 63 #[.pointer (some ⟨r, 0, none⟩), .int .i64 (n : Int)] W fun e w' => ∃ (x l' : List Nat) (err' : Int) (ax : Option Addr) (cx : Nat), e = .returned (.slice ax x.length cx) /\ Hid (Rb w0 r w' l' err' /\ W.grownBy w' (some r) /\ Sq (takeR n) l err l' err' x /\ Byt w0 ax x /\ (ax = none -> cx = 0) /\ x.length <= cx /\ cx <= 9223372036854775807 /\ Oct x /\ x.length <= 1000000 /\ (err' ≠ 0 -> x = [])) := by
 obtain ⟨a, c, hb, hB, hnil, hlc, hcm⟩ := h.ex
 have HR : Hid (Rb w0 r W l err) := h
 have HBk : Hid (Blk W r 67 [.slice a l.length c, .int .i64 err]) := hb
 have c0 : W.cell? ⟨r, 0, none⟩ = some (.slice a l.length c) := hb.cell 0
 have c1 : W.cell? ⟨r, 1, none⟩ = some (.int .i64 err) := hb.cell 1
 have HY : Hid (Byt w0 a l /\ (a = none -> c = 0)) := ⟨hB, hnil⟩
 have hlen := h.len
 clear hb hB hnil
 by_cases hl : l.length < n
 . have g1 : (l.length : Int) < (n : Int) := by omega
   have KF := bfail_any w0 W r l err 2 h
   obtain ⟨E, HE⟩ : ∃ E, Hid ((if err ≠ 0 then err else 2) = E) := ⟨_, rfl⟩
   rw [HE.out] at KF
   have hE : E ≠ 0 := by
    rw [<- HE.out]
    by_cases e0 : err = 0
    . rw [if_neg (by simpa using e0)]; decide
    . rw [if_pos e0]; exact e0
   have HS : Hid (Sq (takeR n) l err l E []) := by
    by_cases e0 : err = 0
    . refine .inr ⟨e0, .inr ⟨2, by unfold takeR; rw [if_pos hl], by rw [<- HE.out, if_neg (by simpa using e0)]; rfl, by decide⟩⟩
    . exact .inl ⟨e0, rfl, by rw [<- HE.out, if_pos e0]⟩
   clear h hl HE
   go_enter Tryz.func63, Tryz.ntmps63
   go_wp2_with fail
   refine KF.mono ?_
   rintro e w1 ⟨rfl, H1⟩
   obtain ⟨a1, c1', hb1, _⟩ := H1.out.1.ex
   have ce : w1.cell? ⟨r, 1, none⟩ = some (.int .i64 E) := hb1.cell 1
   have hEb : (E != 0) = true := by simpa using hE
   have HE0 : Hid (E ≠ 0) := hE
   clear KF hb1 c0 c1 hE
   go_wp2
   go_ret
   exact ⟨[], l, E, none, 0, rfl, H1.out.1, H1.out.2, HS.out, .inl rfl, fun _ => rfl, by simp, by omega, (fun x hx => by cases hx), by simp, fun _ => rfl⟩
 . have g1 : ¬ (l.length : Int) < (n : Int) := by omega
   by_cases he : err = 0
   case neg =>
    have hEb : (err != 0) = true := by simpa using he
    have HE0 : Hid (err ≠ 0) := he
    clear h hl he
    go_enter Tryz.func63, Tryz.ntmps63
    go_wp2
    go_ret
    exact ⟨[], l, err, none, 0, rfl, HR.out, World.grownBy.refl _ _, .inl ⟨HE0.out, rfl, rfl⟩, .inl rfl, fun _ => rfl, by simp, by omega, (fun x hx => by cases hx), by simp, fun _ => rfl⟩
   subst he
   have hnc : (n : Int) <= (c : Int) := by omega
   have HLT : Hid ((l.take n).length = n) := by show _ = _; rw [List.length_take]; omega
   have HS : Hid (Sq (takeR n) l 0 (l.drop n) 0 (l.take n)) := .inr ⟨rfl, .inl ⟨by unfold takeR; rw [if_neg hl], rfl⟩⟩
   have hnl : n <= l.length := by omega
   clear h hl
   go_enter Tryz.func63, Tryz.ntmps63
   go_wp2_with (refine sl_byt rfl (.tmp 30) (.tmp 31) rfl a c n l w0 _ rfl rfl rfl hnl hlc HY.out.1 HY.out.2 ?_)
   intro A' hA hAn
   have HA : Hid (Byt w0 A' (l.drop n) /\ (A' = none -> c - n = 0)) := ⟨hA, hAn⟩
   clear hA hAn
   go_wp2_with (refine st_one rfl 29 (.tmp 34) (.tmp 32) rfl r 0 67 _ (.slice A' (l.length - n) (c - n)) rfl rfl rfl rfl (by simp) HBk.out s29 ?_)
   intro w1 b1 g1'
   have HF : Hid (Rb w0 r w1 (l.drop n) 0 /\ W.grownBy w1 (some r)) := by
    refine ⟨HR.out.same (a := A') (c := c - n) ?_ g1' HA.out.1 HA.out.2 (by rw [List.length_drop]; omega) (by omega) (oct_drop HR.out.oct n) (by rw [List.length_drop]; omega), g1'⟩
    rw [List.length_drop]
    exact b1
   clear b1 g1'
   go_wp2
   go_ret
   exact ⟨l.take n, l.drop n, 0, a, c, by rw [HLT.out]; rfl, HF.out.1, HF.out.2, HS.out, byt_take HY.out.1 n, HY.out.2, by rw [HLT.out]; omega, hcm, fun x hx => HR.out.oct x (List.mem_of_mem_take hx), by rw [HLT.out]; omega, fun h => absurd rfl h⟩
theorem bnext_any : RbC 64 byR (fun x => .int .i64 (x : Int)) (· < 256) := by
 intro w0 W r l err h
 have K := btake_any 1 (by omega) w0 W r l err h
 clear h
 go_enter Tryz.func64, Tryz.ntmps64
 go_wp2_with fail
 refine K.mono ?_
 clear K
 rintro e w1 ⟨x, l', err', ax, cx, rfl, H⟩
 obtain ⟨hR, hG, hS, hB, hnil, hxc, _, hO, hL, hz⟩ := H.out
 have HF : Hid (Rb w0 r w1 l' err' /\ W.grownBy w1 (some r)) := ⟨hR, hG⟩
 cases x with
 | nil =>
   have HS : Hid (Sq byR l err l' err' 0) := by
    rcases hS with h1 | ⟨h1, h2 | ⟨q, h2, h3⟩⟩
    . exact .inl h1
    . exfalso
      have := h2.1
      unfold takeR at this
      split at this
      . cases this
      . injection this with this
        injection this with this _
        have := congrArg List.length this
        simp only [List.length_take, List.length_nil] at this
        omega
    . refine .inr ⟨h1, .inr ⟨q, ?_, h3⟩⟩
      unfold takeR at h2
      split at h2
      . have : l = [] := List.eq_nil_of_length_eq_zero (by omega)
        subst this
        injection h2 with h2
        subst h2
        rfl
      . cases h2
   clear hR hG hS hB H
   go_wp2
   go_ret
   exact ⟨0, l', err', rfl, by decide, HF.out.1, HF.out.2, HS.out⟩
 | cons y t =>
   obtain rfl : err' = 0 := Classical.byContradiction fun h0 => by have := hz h0; cases this
   have ht : t = [] /\ l = y :: l' := by
    rcases hS with ⟨h1, _, h2⟩ | ⟨h1, h2 | ⟨q, h2, h3, h4⟩⟩
    . exact absurd h2.symm h1
    . have h3 := h2.1
      unfold takeR at h3
      split at h3
      . cases h3
      . injection h3 with h3
        injection h3 with e1 e2
        cases l with
        | nil => cases e1
        | cons p q => simp at e1 e2; exact ⟨e1.2, by rw [e1.1, e2]⟩
    . exact absurd (show q = 0 by omega) h4
   obtain ⟨rfl, hl⟩ := ht
   have he0 : err = 0 := sq_err0 hS rfl
   obtain ⟨bb, ob, rfl, hcl⟩ : ∃ b o, ax = some ⟨b, o, none⟩ /\ Cells w0 b o [y] := by
    rcases hB with h | h
    . cases h
    . exact h
   have hy : y < 256 := hO y (by simp)
   have hcy : w1.cell? ⟨bb, ob, none⟩ = some (.int .u8 (y : Int)) := by
    have := hcl 0 (by simp)
    rw [Nat.add_zero] at this
    exact (hR.bl.cell (p := ⟨bb, ob, none⟩) (cell_lt this)).trans this
   have HS : Hid (Sq byR l err l' 0 y) := .inr ⟨he0, .inl ⟨by rw [hl]; rfl, rfl⟩⟩
   have hne : (([y].length : Int) == 0) = false := rfl
   clear hR hG hS hB H hcl hl he0 hz hO
   go_wp2
   go_ret
   exact ⟨y, l', 0, by simp, hy, HF.out.1, HF.out.2, HS.out⟩
theorem sq_no {α : Type} {f : Rdr α} {l l' : List Nat} {err err' : Int} {x y : α} (h : Sq f l err l' err' x) (he : err' ≠ 0) : Sq f l err l' err' y := by
 rcases h with h | ⟨h1, ⟨_, h2⟩ | h2⟩
 . exact .inl h
 . exact absurd h2 he
 . exact .inr ⟨h1, .inr h2⟩
theorem bnum_any : RbC 42 nR (fun x => .int .i64 (x : Int)) (· <= 9007199254740992) := by
 intro w0 W r l err h
 obtain ⟨a, c, hb, hB, hnil, hlc, hcm⟩ := h.ex
 have HR : Hid (Rb w0 r W l err) := h
 have c0 : W.cell? ⟨r, 0, none⟩ = some (.slice a l.length c) := hb.cell 0
 obtain ⟨u, n, e, ht⟩ : ∃ u n e, ruv l 0 0 = (u, n, e) := ⟨_, _, _, rfl⟩
 have KU := ruv_any a c l h.len W (hB.below h.bl) h.oct
 rw [ht] at KU
 replace KU : Calls Tryz.prog 62 #[.slice a l.length c] W fun e' w' => e' = .returned (.tuple #[.int .u64 (u : Int), .int .i64 (n : Int), .int .i64 (e : Int)]) /\ w' = W := KU
 have KF := bfail_any w0 W r l err (e : Int) h
 obtain ⟨E, HE⟩ : ∃ E, Hid ((if err ≠ 0 then err else (e : Int)) = E) := ⟨_, rfl⟩
 rw [HE.out] at KF
 have HU : Hid ((e = 0 -> u < 18446744073709551616 /\ n <= l.length /\ uvR l = .ok (u, l.drop n)) /\ (e ≠ 0 -> u = 0 /\ uvR l = .error e)) := by
  refine ⟨fun h0 => ?_, fun h0 => ?_⟩
  . subst h0
    obtain ⟨hu, hnl, _, _⟩ := ruv_good HR.out.oct (by rw [ht])
    rw [ht] at hu hnl
    exact ⟨hu, hnl, by unfold uvR; rw [ht]; rfl⟩
  . obtain ⟨hu, hn⟩ := ruv_bad l 0 0 (by rw [ht]; exact h0)
    rw [ht] at hu
    exact ⟨hu, by unfold uvR; rw [ht]; simp [h0]⟩
 have HBN : Hid (Byt w0 a l /\ (a = none -> c = 0)) := ⟨hB, hnil⟩
 have hlen := h.len
 clear hb hB hnil h ht
 go_enter Tryz.func42, Tryz.ntmps42
 go_wp2_with fail
 refine KU.mono ?_
 clear KU
 rintro e' w' ⟨rfl, hw⟩
 have hw' := hw.symm
 subst hw'
 clear hw
 go_wp2_with fail
 refine KF.mono ?_
 rintro e' w1 ⟨rfl, H1⟩
 obtain ⟨a1, c1, hb1, hB1, hnil1, hlc1, hcm1⟩ := H1.out.1.ex
 clear KF c0
 by_cases hbig : 9007199254740992 < u
 . have he0 : e = 0 := Classical.byContradiction fun h0 => by have := (HU.out.2 h0).1; omega
   have hb2 : decide ((9007199254740992 : Int) < (u : Int)) = true := decide_eq_true (by omega)
   have KG := bfail_any w0 w1 r l E 3 H1.out.1
   obtain ⟨E2, HE2⟩ : ∃ E2, Hid ((if E ≠ 0 then E else 3) = E2) := ⟨_, rfl⟩
   rw [HE2.out] at KG
   have HS : Hid (Sq nR l err l E2 0 /\ E2 ≠ 0) := by
    have hu := (HU.out.1 he0).2.2
    have hE : E = err := by
     rw [<- HE.out]
     by_cases z : err = 0
     . rw [if_neg (by simpa using z), he0, z]; rfl
     . rw [if_pos z]
    by_cases z : err = 0
    . have e2 : E2 = 3 := by rw [<- HE2.out, hE, if_neg (by simpa using z)]
      refine ⟨.inr ⟨z, .inr ⟨3, ?_, e2, by decide⟩⟩, by rw [e2]; decide⟩
      unfold nR
      rw [bind_ok hu, if_pos hbig]; rfl
    . have e2 : E2 = err := by rw [<- HE2.out, hE, if_pos z]
      exact ⟨.inl ⟨z, rfl, e2⟩, by rw [e2]; exact z⟩
   clear hb1 hB1 hnil1 hbig he0
   go_wp2_with fail
   refine KG.mono ?_
   rintro e' w2 ⟨rfl, H2⟩
   obtain ⟨a2, c2, hb2', _⟩ := H2.out.1.ex
   have ce : w2.cell? ⟨r, 1, none⟩ = some (.int .i64 E2) := hb2'.cell 1
   have hEb : (E2 != 0) = true := by simpa using HS.out.2
   have HF : Hid (Rb w0 r w2 l E2 /\ W.grownBy w2 (some r)) := ⟨H2.out.1, H1.out.2.trans H2.out.2⟩
   clear KG hb2' H1 H2
   go_wp2
   go_ret
   exact ⟨0, l, E2, rfl, by omega, HF.out.1, HF.out.2, HS.out.1⟩
 . have hb2 : decide ((9007199254740992 : Int) < (u : Int)) = false := decide_eq_false (by omega)
   have ce : w1.cell? ⟨r, 1, none⟩ = some (.int .i64 E) := hb1.cell 1
   by_cases hE0 : E = 0
   case neg =>
    have hEb : (E != 0) = true := by simpa using hE0
    have HS : Hid (Sq nR l err l E 0) := by
     by_cases z : err = 0
     . have e1 : E = (e : Int) := by rw [<- HE.out, if_neg (by simpa using z)]
       have he : e ≠ 0 := fun h => hE0 (by rw [e1, h]; rfl)
       refine .inr ⟨z, .inr ⟨e, ?_, e1, he⟩⟩
       unfold nR
       exact bind_no (HU.out.2 he).2
     . exact .inl ⟨z, rfl, by rw [<- HE.out, if_pos z]⟩
    have HF : Hid (Rb w0 r w1 l E /\ W.grownBy w1 (some r)) := H1.out
    clear hb1 hB1 hnil1 hE0 hbig
    go_wp2
    go_ret
    exact ⟨0, l, E, rfl, by omega, HF.out.1, HF.out.2, HS.out⟩
   subst hE0
   have z : err = 0 := Classical.byContradiction fun z => by have := HE.out; rw [if_pos z] at this; exact z this
   have he : e = 0 := by have := HE.out; rw [if_neg (by simpa using z)] at this; omega
   obtain ⟨hu, hnl, hru⟩ := HU.out.1 he
   have HS : Hid (Sq nR l err (l.drop n) 0 u) := by
    refine .inr ⟨z, .inl ⟨?_, rfl⟩⟩
    unfold nR
    rw [bind_ok hru, if_neg hbig]; rfl
   have c0' : w1.cell? ⟨r, 0, none⟩ = some (.slice a1 l.length c1) := hb1.cell 0
   have HBk : Hid (Blk w1 r 67 [.slice a1 l.length c1, .int .i64 0]) := hb1
   have HY1 : Hid (Byt w0 a1 l /\ (a1 = none -> c1 = 0)) := ⟨hB1, hnil1⟩
   have hub : u <= 9007199254740992 := by omega
   clear hb1 hB1 hnil1 hru z he HU HE
   go_wp2_with (refine sl_byt rfl (.tmp 31) (.tmp 32) rfl a1 c1 n l w0 _ rfl rfl rfl hnl hlc1 HY1.out.1 HY1.out.2 ?_)
   intro A' hA hAn
   have HA : Hid (Byt w0 A' (l.drop n) /\ (A' = none -> c1 - n = 0)) := ⟨hA, hAn⟩
   clear hA hAn
   go_wp2_with (refine st_one rfl 29 (.tmp 35) (.tmp 33) rfl r 0 67 _ (.slice A' (l.length - n) (c1 - n)) rfl rfl rfl rfl (by simp) HBk.out s29 ?_)
   intro w2 b2 g2
   have HF : Hid (Rb w0 r w2 (l.drop n) 0 /\ W.grownBy w2 (some r)) := by
    refine ⟨H1.out.1.same (a := A') (c := c1 - n) ?_ g2 HA.out.1 HA.out.2 (by rw [List.length_drop]; omega) (by omega) (oct_drop HR.out.oct n) (by rw [List.length_drop]; omega), H1.out.2.trans g2⟩
    rw [List.length_drop]
    exact b2
   clear b2 g2 H1 HBk HR
   go_wp2
   go_ret
   exact ⟨u, l.drop n, 0, rfl, hub, HF.out.1, HF.out.2, HS.out⟩
end Go.Proofs.YtmbglggodifboaaGreat.Sh
namespace Go.Proofs.YtmbglggodifboaaGreat
open Go.RowKit Math
theorem byt_tk {w : World} {a : Option Addr} {l : List Nat} (h : Byt w a l) (k : Nat) : Byt w a (l.take k) := by
 rcases h with rfl | ⟨b, o, rfl, hc⟩
 . exact .inl (by simp)
 . refine .inr ⟨b, o, rfl, ?_⟩
   have : Cells w b o (l.take k ++ l.drop k) := by rw [List.take_append_drop]; exact hc
   exact this.left
theorem conv_byt {w : World} {a : Option Addr} {l : List Nat} {c : Nat} (h : Byt w a l) (ho : Oct l) (hnil : a = none -> c = 0) : (convert 29 9 (.slice a l.length c)).run Tryz.prog w = .ok (.string (ofB l)) w := by
 cases a with
 | none =>
   have hl : l = [] := by
    rcases h with h | ⟨_, _, h, _⟩
    . exact h
    . cases h
   subst hl
   exact run_convert_bytes_nil w 29 5 Tryz.underlying29 Tryz.underlying5 0 c 9 Tryz.underlying9
 | some ad =>
   rw [<- strOf _ ho]
   by_cases hl : l = []
   . subst hl
     rw [run_convert_bytes_string w 29 9 5 (some ad) ([] : List Nat).length c Tryz.underlying29 Tryz.underlying5 Tryz.underlying9]
     have hl : (loadCells ad 0).run Tryz.prog w = .ok #[] w := by simpa using run_loadCells_list (P := Tryz.prog) w ad [] (by simp)
     simp [Conv.bytesToString, hl, strOfNums]
     try rfl
   . rcases h with h | ⟨b, o, h, hc⟩
     . exact absurd h hl
     . obtain rfl := Option.some.inj h
       refine run_convert_bytes_arg w 29 5 Tryz.underlying29 Tryz.underlying5 b o l.length c _ (by rw [List.length_map]) (fun k hk => ?_) 9 Tryz.underlying9
       have := hc k hk
       rw [this]
       simp [List.getD_eq_getElem?_getD, hk]
theorem qtxt_any : QdC 87 txR (fun s => .string s) (fun s => s.size <= 65536) (fun s => s = em) := by
 intro w0 W r l err hR
 have K := qcnt_any w0 W r l err hR
 clear hR
 go_enter Tryz.func87, Tryz.ntmps87
 go_wp2_with fail
 refine K.mono ?_
 clear K
 rintro e w1 ⟨n, l1, e1, rfl, hn, hz, H⟩
 obtain ⟨a, c, hb, hB, hnil, hlc, hcm⟩ := H.out.1.ex
 have HBk : Hid (Blk w1 r 117 [.slice a l1.length c, .int .i64 e1]) := hb
 have HB : Hid (Byt w0 a l1 /\ (a = none -> c = 0)) := ⟨hB, hnil⟩
 have c0 : w1.cell? ⟨r, 0, none⟩ = some (.slice a l1.length c) := hb.cell 0
 have c1 : w1.cell? ⟨r, 1, none⟩ = some (.int .i64 e1) := hb.cell 1
 clear hb hB hnil
 by_cases he : e1 = 0
 case neg =>
  have h1 : (e1 == 0) = false := by simpa using he
  have h2 : (e1 != 0) = true := by simpa using he
  have HF : Hid (Rq w0 r w1 l1 e1 /\ W.grownBy w1 (some r) /\ Sq txR l err l1 e1 em) := ⟨H.out.1, H.out.2.1, sq_bind H.out.2.2 (.inl ⟨he, rfl, rfl⟩)⟩
  clear H
  go_wp2
  go_ret
  exact ⟨em, l1, e1, rfl, by decide, fun _ => rfl, HF.out⟩
 subst he
 by_cases hsh : l1.length < n
 . have hb2 : decide ((l1.length : Int) < (n : Int)) = true := decide_eq_true (by omega)
   go_wp2_with (refine st_one rfl 3 (.tmp 23) (.const (.int .i64 2)) rfl r 1 117 _ (.int .i64 2) rfl rfl rfl rfl (by simp) HBk.out s3 ?_)
   intro w2 b2 g2
   have c1' : w2.cell? ⟨r, 1, none⟩ = some (.int .i64 2) := b2.cell 1
   have HF : Hid (Rq w0 r w2 l1 2 /\ W.grownBy w2 (some r) /\ Sq txR l err l1 2 em) := by
    refine ⟨H.out.1.same (a := a) (c := c) b2 g2 HB.out.1 HB.out.2 hlc hcm H.out.1.oct H.out.1.len, H.out.2.1.trans g2, sq_bind H.out.2.2 ?_⟩
    refine .inr ⟨rfl, .inr ⟨2, bind_err ?_, rfl, by decide⟩⟩
    unfold takeR
    rw [if_pos hsh]
   clear b2 g2 H c0 c1
   go_wp2
   go_ret
   exact ⟨em, l1, 2, rfl, by decide, fun _ => rfl, HF.out⟩
 . have hb2 : decide ((l1.length : Int) < (n : Int)) = false := decide_eq_false (by omega)
   have hnc : n <= c := by omega
   have hT : (l1.take n).length = n := by rw [List.length_take]; omega
   have HBt : Hid (Byt w1 a (l1.take n)) := byt_tk (HB.out.1.below H.out.1.bl) n
   have HOt : Hid (Oct (l1.take n)) := fun x hx => H.out.1.oct x (List.mem_of_mem_take hx)
   have hcv := conv_byt (c := c) HBt.out HOt.out HB.out.2
   rw [hT] at hcv
   have hsz : (ofB (l1.take n)).size <= 65536 := by rw [ofB_size, hT]; exact hn
   have HS : Hid (Sq txR l err (l1.drop n) 0 (ofB (l1.take n))) := by
    refine sq_bind H.out.2.2 (.inr ⟨rfl, .inl ⟨?_, rfl⟩⟩)
    have : takeR n l1 = .ok (l1.take n, l1.drop n) := by
     unfold takeR
     rw [if_neg hsh]
    rw [bind_ok this]
    rfl
   generalize ofB (l1.take n) = s at *
   clear HBt HOt hT
   go_wp2_with (first | (refine sl_to rfl 29 (.tmp 32) (.tmp 33) rfl 5 Tryz.underlying29 1 sz5 a l1.length c n _ rfl rfl rfl hnc ?_) | (refine sl_byt rfl (.tmp 40) (.tmp 41) rfl a c n l1 w0 _ rfl rfl rfl (by omega) hlc HB.out.1 HB.out.2 ?_))
   intro A' hA hAn
   have HA : Hid (Byt w0 A' (l1.drop n) /\ (A' = none -> c - n = 0)) := ⟨hA, hAn⟩
   clear hA hAn
   go_wp2_with (refine st_one rfl 29 (.tmp 44) (.tmp 42) rfl r 0 117 _ (.slice A' (l1.length - n) (c - n)) rfl rfl rfl rfl (by simp) HBk.out s29 ?_)
   intro w2 b2 g2
   have HF : Hid (Rq w0 r w2 (l1.drop n) 0 /\ W.grownBy w2 (some r) /\ Sq txR l err (l1.drop n) 0 s) := by
    refine ⟨H.out.1.same (a := A') (c := c - n) ?_ g2 HA.out.1 HA.out.2 (by rw [List.length_drop]; omega) (by omega) (oct_drop H.out.1.oct n) (by rw [List.length_drop]; have := H.out.1.len; omega), H.out.2.1.trans g2, HS.out⟩
    rw [List.length_drop]
    exact b2
   clear b2 g2 H
   go_wp2
   go_ret
   exact ⟨s, l1.drop n, 0, rfl, hsz, fun h => absurd rfl h, HF.out⟩
end Go.Proofs.YtmbglggodifboaaGreat
