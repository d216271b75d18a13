import Derived.Test.YtmbglggodifboaaGreatSQv
import Derived.Test.YtmbglggodifboaaGreatSG4x
set_option maxHeartbeats 2000000
set_option maxRecDepth 8000
set_option linter.unusedSimpArgs false
set_option linter.unusedVariables false
namespace Go.Proofs.YtmbglggodifboaaGreat
open Go.RowKit Math
theorem qval_any : ∀ (d : Nat), d <= 16 -> ∀ dp : Int, dp = 17 - (d : Int) -> QvC d dp
 | 0, _, dp, h => by
   obtain rfl : dp = 17 := by omega
   exact qval_deep
 | d + 1, hd, dp, h => qval_step d dp (by omega) (by omega) (qval_any d (by omega) (dp + 1) (by omega))
theorem q_fl2 {C : World -> Prop} {a : Act} {o : Oper} {K : Act -> Prop} (x : Operand) (ho : o.op = .fieldAddr 117 x 1) (b : Nat) (hx : a.eval x = .pointer (some ⟨b, 0, none⟩))
 (hk : K (a.put o.dst (.pointer (some ⟨b, 1, none⟩)))) : o.quiet Tryz.prog a C K :=
 ⟨_, fun w hw => by
   unfold Oper.quietAt execOp
   simp only [ho, hx]
   go_simp, hk⟩
theorem fst_sq {L l' : List Nat} {p : Vt} {e : Int} (ho : Oct L) (h : Sq (rdV 16) L 0 l' e p) : (e ≠ 0 -> ∀ q j, Fst L q j e) /\ (e = 0 -> ∃ j, l' = L.drop j /\ j <= L.length /\ l'.length = L.length - j /\ Fst L p j (chkV p 1)) := by
 rcases h with ⟨a, _⟩ | ⟨_, ⟨b, c⟩ | ⟨x, b, c, d⟩⟩
 . exact absurd rfl a
 . refine ⟨fun h => absurd c h, fun _ => ?_⟩
   obtain ⟨s, hs, _, _⟩ := good_V 16 L p l' ho b
   have F := find_V 16 L p l' ho b
   have hd := F.dp
   refine ⟨s.length, by rw [hs]; simp, by rw [hs]; simp, by rw [hs]; simp, .inr ⟨?_, by rw [hs]; simp, ?_⟩⟩
   . rw [b]
     congr 2
     rw [hs]
     simp
   . rw [chkV_flat p 1 (by omega)]
 . exact ⟨fun _ q j => .inl ⟨x, b, c, d⟩, fun h => by omega⟩
theorem rdecode_any (L : List Nat) (ab : Option Addr) (cb : Nat) (W : World) (hB : Byt W ab L) (hO : Oct L) (hlen : L.length <= 1000000) (hcap : L.length <= cb) (hcm : cb <= 9223372036854775807) (hnil : ab = none -> cb = 0) :
 Calls Tryz.prog 48 #[.slice ab L.length cb] W fun e w' => ∃ na nc ka kc, e = .returned (.tuple #[.agg #[.int .i64 (decP L).1.k, .int .i64 (decP L).1.n, .int .i64 (decP L).1.s, .string (decP L).1.t, .slice na (decP L).1.ns.length nc, .slice ka (decP L).2.list.length kc], .int .i64 (decE L)]) /\ Hid (New1 W w' (decP L) na nc ka kc) := by
 have HA : Hid (Byt W ab L /\ Oct L /\ (ab = none -> cb = 0)) := ⟨hB, hO, hnil⟩
 clear hB hO hnil
 go_enter Tryz.func48, Tryz.ntmps48
 go_wp2_with (refine al_zero rfl 48 rfl zer z25 ?_)
 intro g2 w1 hg2 B2 gr2
 have G1 : Hid (Below W.heap.size W w1) := (Below.refl _ _).grown gr2 (Nat.le_refl _) (fun k e => by cases e)
 have HB2a : Hid (Blk w1 g2 48 zer) := B2
 obtain ⟨w2, HW2⟩ : ∃ w2, Hid (w1.alloc (.cells #[.slice ab L.length cb, .int .i64 0] 117) = w2) := ⟨_, rfl⟩
 have HBra : Hid (Blk w2 w1.heap.size 117 [.slice ab L.length cb, .int .i64 0]) := by rw [<- HW2.out]; exact blk_new w1 117 [.slice ab L.length cb, .int .i64 0]
 have G2 : Hid (Below w1.heap.size w1 w2) := by rw [<- HW2.out]; exact (Below.refl _ _).alloc (Nat.le_refl _) _
 have hr2 : g2 < w1.heap.size := B2.lt
 have GW2a : Hid (Below W.heap.size W w2) := G1.out.trans (G2.out.mono G1.out.size)
 have KV := qval_any 16 (Nat.le_refl _) 1 (by omega) W w2 w1.heap.size L 0 ⟨⟨ab, cb, HBra.out, HA.out.1, HA.out.2.2, hcap, hcm⟩, GW2a.out, G1.out.size, HA.out.2.1, hlen⟩ GW2a.out.size
 clear B2 gr2
 go_wp2_with fail
 generalize hWW : World.alloc w1 _ = W9
 obtain rfl : w2 = W9 := by rw [<- hWW, <- HW2.out]
 clear hWW HW2
 refine KV.mono ?_
 clear KV
 rintro e w3 ⟨p, na, nc, ka, kc, l', e1, rfl, H3⟩
 go_wp2_with (refine al_zero rfl 48 rfl zer z25 ?_)
 intro gv w4 hgv Bv grv
 go_wp2_with (refine st_all rfl 48 (.tmp 5) (.tmp 10) rfl gv 48 zer (six p.1 na nc ka p.2.list.length kc) rfl rfl Bv rfl s25 (six_one _ _ _ _ _ _) ?_)
 intro w5 Bv' grv'
 have G5 : Hid (Below w3.heap.size w3 w5) := below_new grv hgv grv'
 obtain ⟨a', c', hb', hx'⟩ := H3.out.ro.rq.ex
 obtain ⟨sv, HSV⟩ : ∃ sv, Hid (sv = Value.slice a' l'.length c') := ⟨_, rfl⟩
 have hs1 : w1.heap.size < w2.heap.size := HBra.out.lt
 have hs3 : w2.heap.size <= w3.heap.size := H3.out.ro.gr.size
 have HBr : Hid (Blk w5 w1.heap.size 117 [sv, .int .i64 e1]) := by rw [HSV.out]; exact hb'.below G5.out hb'.lt
 have HB2 : Hid (Blk w5 g2 48 zer) := by
  have b2 : Blk w2 g2 48 zer := HB2a.out.below G2.out HB2a.out.lt
  have b3 : Blk w3 g2 48 zer := b2.kept H3.out.ro.gr (by intro c; injection c with c; omega)
  exact b3.below G5.out b3.lt
 have HBv : Hid (Blk w5 gv 48 (six p.1 na nc ka p.2.list.length kc)) := Bv'
 have GW : Hid (Below W.heap.size W w5) := by
  have h3 : Below W.heap.size W w3 := GW2a.out.grown H3.out.ro.gr GW2a.out.size (fun x e => by injection e with e; have := G1.out.size; omega)
  exact h3.trans (G5.out.mono h3.size)
 have HVl : Hid (∃ Lp, VlL w5 p na nc ka kc Lp /\ ∀ x ∈ Lp, W.heap.size <= x /\ x < w5.heap.size /\ x ≠ g2 /\ x ≠ w1.heap.size) := by
  obtain ⟨Lp, h1, h2⟩ := H3.out.vl
  refine ⟨Lp, h1.keep fun x hx => G5.out.block x (h2 x hx).2, fun x hx => ?_⟩
  have := h2 x hx
  have := G5.out.size
  have := G1.out.size
  omega
 have HWf : Hid (WfV p) := H3.out.wf
 have HFs : Hid ((e1 ≠ 0 -> ∀ q j, Fst L q j e1) /\ (e1 = 0 -> ∃ j, l' = L.drop j /\ j <= L.length /\ l'.length = L.length - j /\ Fst L p j (chkV p 1))) := fst_sq HA.out.2.1 H3.out.sq
 have hll : l'.length <= 1000000 := H3.out.ro.rq.len
 have hg2v : g2 ≠ gv := by omega
 have hg2r : g2 ≠ w1.heap.size := by omega
 have hgvr : gv ≠ w1.heap.size := by omega
 have hrl : W.heap.size <= w1.heap.size := G1.out.size
 clear Bv Bv' grv grv' G5 H3 HB2a HBra G1 G2 GW2a HA hs1 hs3 hb' hx' hr2
 generalize w1.heap.size = r at *
 have cs0 : w5.cell? ⟨r, 0, none⟩ = some (.slice a' l'.length c') := by rw [<- HSV.out]; exact HBr.out.cell 0
 by_cases he1 : e1 = 0
 case neg =>
  have heb : (e1 == 0) = false := by simpa using he1
  have hen : (e1 != 0) = true := by simpa using he1
  have HD := dec_no (HFs.out.1 he1 p 0) he1
  obtain ⟨C, hC⟩ : ∃ C : World -> Prop, C = fun w' => w'.cell? ⟨r, 1, none⟩ = some (.int .i64 e1) := ⟨_, rfl⟩
  have CN : Hid (∀ w', C w' -> w'.cell? ⟨r, 1, none⟩ = some (.int .i64 e1)) := fun w' h => by rw [hC] at h; exact h
  have CI : Hid (∀ w', w'.cell? ⟨r, 1, none⟩ = some (.int .i64 e1) -> C w') := fun w' h => by rw [hC]; exact h
  have D0 : Hid (Below w5.heap.size w5 { w5 with drawn := w5.drawn + 1 }) := Below.drew (Below.refl _ _)
  have C0 : Hid (C { w5 with drawn := w5.drawn + 1 }) := CI.out _ ((HBr.out.below D0.out HBr.out.lt).cell 1)
  have HB2v : Hid (Blk { w5 with drawn := w5.drawn + 1 } g2 48 zer) := HB2.out.below D0.out HB2.out.lt
  have HBrv : Hid (Blk { w5 with drawn := w5.drawn + 1 } r 117 [sv, .int .i64 e1]) := HBr.out.below D0.out HBr.out.lt
  have GWv : Hid (Below W.heap.size W { w5 with drawn := w5.drawn + 1 }) := GW.out.trans (D0.out.mono GW.out.size)
  have cr1 : w5.cell? ⟨r, 1, none⟩ = some (.int .i64 e1) := HBr.out.cell 1
  clear hC D0
  go_wp2
  clear cr1
  refine region_calm C 6 (by kernel_rfl) ?_
  have hCp := cpo C0.out
  generalize ({ w5 with drawn := w5.drawn + 1 } : World) = v0 at *
  refine seg 2 [0, 1, 2, 3, 4] rfl (by kernel_rfl) whole_blind C0.out (by kernel_rfl) ?_
  change wpQuiet _ _ _ _ (_ :: _ :: _ :: _ :: _ :: []) _
  repeat (first
   | go_big_quiet_skip
   | (go_big_quiet_want
      first
      | (refine q_nil (.tmp 56) rfl r 0 rfl ?_
         simp only [Act.put, pu]
         go_big_quiet_on)
      | (refine q_fl2 (.tmp 57) rfl r rfl ?_
         simp only [Act.put, pu]
         go_big_quiet_on)
      | (refine q_one 3 (.inl rfl) (.tmp 58) rfl r 1 rfl _ CN.out ?_
         simp only [Act.put, pu]
         go_big_quiet_on)
      | (go_big_quiet_op
         go_big_quiet_on)))
  refine wpQuiet_nil ?_
  refine lone_do (i := 5) 1 rfl (by kernel_rfl) rfl (by rfl) ?_
  intro K hK
  refine oper_sta 48 (.tmp 2) (.tmp 55) rfl rfl g2 48 zer zer rfl rfl HB2v.out rfl s25 (by simp [zer, Value.oneCell']) ?_
  intro v3 b3 gr3
  have HB3 : Hid (Blk v3 g2 48 zer) := b3
  have HN : Hid (New1 W v3 noV none 0 none 0) := .none (GWv.out.grown gr3 GWv.out.size (fun x e => by injection e with e; omega))
  have c3 : C v3 := CI.out _ ((HBrv.out.kept gr3 (by intro c; injection c with c; omega)).cell 1)
  clear b3 gr3 HB2v HBrv GWv C0
  refine hK _ _ c3 ?_
  simp only [Act.put, pu]
  have hCq := cpo c3
  refine lone_calm (i := 6) 0 rfl (by kernel_rfl) rfl rfl c3 ?_
  go_big_quiet_want
  go_big_quiet_op
  go_big_quiet_on
  refine wpQuiet_nil ?_
  refine anyC_done (by kernel_rfl) ⟨rfl, ?_⟩
  clear c3 hCq CN CI hCp
  go_wp2
  refine bodyPost_ret (res_two rfl _ g2 48 _ _ rfl HB3.out Tryz.underlying48 rfl s25) rfl ?_
  rw [HD.1, HD.2]
  exact ⟨none, 0, none, 0, rfl, HN.out⟩
 subst he1
 obtain ⟨j, hj1, hj2, hj3, hF⟩ := HFs.out.2 rfl
 have HF : Hid (Fst L p j (chkV p 1)) := hF
 have HJ : Hid (l'.length = L.length - j) := hj3
 clear hj1 hF HFs hj3
 have KC := rCheck_any p HWf.out na nc ka kc w5 (by obtain ⟨Lp, a1, _⟩ := HVl.out; exact a1.vl)
 generalize chkV p 1 = E at *
 have t0 : w5.cell? ⟨gv, 0, none⟩ = some (.int .i64 p.1.k) := HBv.out.cell 0
 have t1 : w5.cell? ⟨gv, 1, none⟩ = some (.int .i64 p.1.n) := HBv.out.cell 1
 have t2 : w5.cell? ⟨gv, 2, none⟩ = some (.int .i64 p.1.s) := HBv.out.cell 2
 have t3 : w5.cell? ⟨gv, 3, none⟩ = some (.string p.1.t) := HBv.out.cell 3
 have t4 : w5.cell? ⟨gv, 4, none⟩ = some (.slice na p.1.ns.length nc) := HBv.out.cell 4
 have t5 : w5.cell? ⟨gv, 5, none⟩ = some (.slice ka p.2.list.length kc) := HBv.out.cell 5
 have cr1 : w5.cell? ⟨r, 1, none⟩ = some (.int .i64 0) := HBr.out.cell 1
 go_wp2_with fail
 refine KC.mono ?_
 clear KC t0 t1 t2 t3 t4 t5 cr1 cs0
 rintro e w6 ⟨rfl, b6⟩
 have HBrn : Hid (Blk w6 r 117 [sv, .int .i64 0]) := HBr.out.below b6 HBr.out.lt
 have HB2n : Hid (Blk w6 g2 48 zer) := HB2.out.below b6 HB2.out.lt
 have HBvn : Hid (Blk w6 gv 48 (six p.1 na nc ka p.2.list.length kc)) := HBv.out.below b6 HBv.out.lt
 have GWn : Hid (Below W.heap.size W w6) := GW.out.trans (b6.mono GW.out.size)
 have HVln : Hid (∃ Lp, VlL w6 p na nc ka kc Lp /\ ∀ x ∈ Lp, W.heap.size <= x /\ x < w6.heap.size /\ x ≠ g2 /\ x ≠ r) := by
  obtain ⟨Lp, a1, a2⟩ := HVl.out
  refine ⟨Lp, a1.keep fun x hx => b6.block x (a2 x hx).2.1, fun x hx => ?_⟩
  have := a2 x hx
  have := b6.size
  omega
 clear b6 HBr HB2 HBv GW HVl
 have HBr : Hid (Blk w6 r 117 [sv, .int .i64 0]) := HBrn.out
 have HB2 : Hid (Blk w6 g2 48 zer) := HB2n.out
 have HBv : Hid (Blk w6 gv 48 (six p.1 na nc ka p.2.list.length kc)) := HBvn.out
 have GW : Hid (Below W.heap.size W w6) := GWn.out
 have HVl : Hid (∃ Lp, VlL w6 p na nc ka kc Lp /\ ∀ x ∈ Lp, W.heap.size <= x /\ x < w6.heap.size /\ x ≠ g2 /\ x ≠ r) := HVln.out
 clear HBrn HB2n HBvn GWn HVln
 go_wp2_with (refine st_one rfl 3 (.tmp 20) (.tmp 18) rfl r 1 117 _ (.int .i64 E) rfl rfl rfl rfl (by simp) HBr.out s3 ?_)
 intro w7 br gr
 have HBr2 : Hid (Blk w7 r 117 [sv, .int .i64 E]) := br
 have HB22 : Hid (Blk w7 g2 48 zer) := HB2.out.kept gr (by intro c; injection c with c; omega)
 have HBv2 : Hid (Blk w7 gv 48 (six p.1 na nc ka p.2.list.length kc)) := HBv.out.kept gr (by intro c; injection c with c; omega)
 have GW2 : Hid (Below W.heap.size W w7) := GW.out.grown gr GW.out.size (fun x e => by injection e with e; omega)
 have HVl2 : Hid (∃ Lp, VlL w7 p na nc ka kc Lp /\ ∀ x ∈ Lp, W.heap.size <= x /\ x < w7.heap.size /\ x ≠ g2 /\ x ≠ r) := by
  obtain ⟨Lp, a1, a2⟩ := HVl.out
  refine ⟨Lp, a1.keep fun x hx => ?_, fun x hx => ?_⟩
  . have := a2 x hx
    exact gr.block x this.2.1 (by intro c; injection c with c; omega)
  . have := a2 x hx
    have := gr.size
    omega
 clear br gr HBr HB2 HBv GW HVl
 have HBr : Hid (Blk w7 r 117 [sv, .int .i64 E]) := HBr2.out
 have HB2 : Hid (Blk w7 g2 48 zer) := HB22.out
 have HBv : Hid (Blk w7 gv 48 (six p.1 na nc ka p.2.list.length kc)) := HBv2.out
 have GW : Hid (Below W.heap.size W w7) := GW2.out
 have HVl : Hid (∃ Lp, VlL w7 p na nc ka kc Lp /\ ∀ x ∈ Lp, W.heap.size <= x /\ x < w7.heap.size /\ x ≠ g2 /\ x ≠ r) := HVl2.out
 clear HBr2 HB22 HBv2 GW2 HVl2
 have cs0 : w7.cell? ⟨r, 0, none⟩ = some (.slice a' l'.length c') := by rw [<- HSV.out]; exact HBr.out.cell 0
 by_cases hE : E = 0
 case neg =>
  have heb : (E == 0) = false := by simpa using hE
  have hen : (E != 0) = true := by simpa using hE
  have HD := dec_no HF.out hE
  obtain ⟨C, hC⟩ : ∃ C : World -> Prop, C = fun w' => w'.cell? ⟨r, 1, none⟩ = some (.int .i64 E) := ⟨_, rfl⟩
  have CN : Hid (∀ w', C w' -> w'.cell? ⟨r, 1, none⟩ = some (.int .i64 E)) := fun w' h => by rw [hC] at h; exact h
  have CI : Hid (∀ w', w'.cell? ⟨r, 1, none⟩ = some (.int .i64 E) -> C w') := fun w' h => by rw [hC]; exact h
  have D0 : Hid (Below w7.heap.size w7 { w7 with drawn := w7.drawn + 1 }) := Below.drew (Below.refl _ _)
  have C0 : Hid (C { w7 with drawn := w7.drawn + 1 }) := CI.out _ ((HBr.out.below D0.out HBr.out.lt).cell 1)
  have HB2v : Hid (Blk { w7 with drawn := w7.drawn + 1 } g2 48 zer) := HB2.out.below D0.out HB2.out.lt
  have HBrv : Hid (Blk { w7 with drawn := w7.drawn + 1 } r 117 [sv, .int .i64 E]) := HBr.out.below D0.out HBr.out.lt
  have GWv : Hid (Below W.heap.size W { w7 with drawn := w7.drawn + 1 }) := GW.out.trans (D0.out.mono GW.out.size)
  have cr1 : w7.cell? ⟨r, 1, none⟩ = some (.int .i64 E) := HBr.out.cell 1
  clear hC D0
  go_wp2
  clear cr1
  refine region_calm C 6 (by kernel_rfl) ?_
  have hCp := cpo C0.out
  generalize ({ w7 with drawn := w7.drawn + 1 } : World) = v0 at *
  refine seg 2 [0, 1, 2, 3, 4] rfl (by kernel_rfl) whole_blind C0.out (by kernel_rfl) ?_
  change wpQuiet _ _ _ _ (_ :: _ :: _ :: _ :: _ :: []) _
  repeat (first
   | go_big_quiet_skip
   | (go_big_quiet_want
      first
      | (refine q_nil (.tmp 56) rfl r 0 rfl ?_
         simp only [Act.put, pu]
         go_big_quiet_on)
      | (refine q_fl2 (.tmp 57) rfl r rfl ?_
         simp only [Act.put, pu]
         go_big_quiet_on)
      | (refine q_one 3 (.inl rfl) (.tmp 58) rfl r 1 rfl _ CN.out ?_
         simp only [Act.put, pu]
         go_big_quiet_on)
      | (go_big_quiet_op
         go_big_quiet_on)))
  refine wpQuiet_nil ?_
  refine lone_do (i := 5) 1 rfl (by kernel_rfl) rfl (by rfl) ?_
  intro K hK
  refine oper_sta 48 (.tmp 2) (.tmp 55) rfl rfl g2 48 zer zer rfl rfl HB2v.out rfl s25 (by simp [zer, Value.oneCell']) ?_
  intro v3 b3 gr3
  have HB3 : Hid (Blk v3 g2 48 zer) := b3
  have HN : Hid (New1 W v3 noV none 0 none 0) := .none (GWv.out.grown gr3 GWv.out.size (fun x e => by injection e with e; omega))
  have c3 : C v3 := CI.out _ ((HBrv.out.kept gr3 (by intro c; injection c with c; omega)).cell 1)
  clear b3 gr3 HB2v HBrv GWv C0
  refine hK _ _ c3 ?_
  simp only [Act.put, pu]
  have hCq := cpo c3
  refine lone_calm (i := 6) 0 rfl (by kernel_rfl) rfl rfl c3 ?_
  go_big_quiet_want
  go_big_quiet_op
  go_big_quiet_on
  refine wpQuiet_nil ?_
  refine anyC_done (by kernel_rfl) ⟨rfl, ?_⟩
  clear c3 hCq CN CI hCp
  go_wp2
  refine bodyPost_ret (res_two rfl _ g2 48 _ _ rfl HB3.out Tryz.underlying48 rfl s25) rfl ?_
  rw [HD.1, HD.2]
  exact ⟨none, 0, none, 0, rfl, HN.out⟩
 subst hE
 have cr1 : w7.cell? ⟨r, 1, none⟩ = some (.int .i64 0) := HBr.out.cell 1
 by_cases hjl : j < L.length
 . have hp0 : 0 < l'.length := by have := HJ.out; omega
   go_wp2_with (refine st_one rfl 3 (.tmp 36) (.const (.int .i64 3)) rfl r 1 117 _ (.int .i64 3) rfl rfl rfl rfl (by simp) HBr.out s3 ?_)
   intro w8 br gr
   have HBr2 : Hid (Blk w8 r 117 [sv, .int .i64 3]) := br
   have HB22 : Hid (Blk w8 g2 48 zer) := HB2.out.kept gr (by intro c; injection c with c; omega)
   have HBv2 : Hid (Blk w8 gv 48 (six p.1 na nc ka p.2.list.length kc)) := HBv.out.kept gr (by intro c; injection c with c; omega)
   have GW2 : Hid (Below W.heap.size W w8) := GW.out.grown gr GW.out.size (fun x e => by injection e with e; omega)
   have HVl2 : Hid (∃ Lp, VlL w8 p na nc ka kc Lp /\ ∀ x ∈ Lp, W.heap.size <= x /\ x < w8.heap.size /\ x ≠ g2 /\ x ≠ r) := by
    obtain ⟨Lp, a1, a2⟩ := HVl.out
    refine ⟨Lp, a1.keep fun x hx => ?_, fun x hx => ?_⟩
    . have := a2 x hx
      exact gr.block x this.2.1 (by intro c; injection c with c; omega)
    . have := a2 x hx
      have := gr.size
      omega
   clear cr1 cs0 br gr HBr HB2 HBv GW HVl
   have HBr : Hid (Blk w8 r 117 [sv, .int .i64 3]) := HBr2.out
   have HB2 : Hid (Blk w8 g2 48 zer) := HB22.out
   have HBv : Hid (Blk w8 gv 48 (six p.1 na nc ka p.2.list.length kc)) := HBv2.out
   have GW : Hid (Below W.heap.size W w8) := GW2.out
   have HVl : Hid (∃ Lp, VlL w8 p na nc ka kc Lp /\ ∀ x ∈ Lp, W.heap.size <= x /\ x < w8.heap.size /\ x ≠ g2 /\ x ≠ r) := HVl2.out
   clear HBr2 HB22 HBv2 GW2 HVl2
   have HD := dec_more HF.out hjl
   obtain ⟨C, hC⟩ : ∃ C : World -> Prop, C = fun w' => w'.cell? ⟨r, 1, none⟩ = some (.int .i64 3) := ⟨_, rfl⟩
   have CN : Hid (∀ w', C w' -> w'.cell? ⟨r, 1, none⟩ = some (.int .i64 3)) := fun w' h => by rw [hC] at h; exact h
   have CI : Hid (∀ w', w'.cell? ⟨r, 1, none⟩ = some (.int .i64 3) -> C w') := fun w' h => by rw [hC]; exact h
   have D0 : Hid (Below w8.heap.size w8 { w8 with drawn := w8.drawn + 1 }) := Below.drew (Below.refl _ _)
   have C0 : Hid (C { w8 with drawn := w8.drawn + 1 }) := CI.out _ ((HBr.out.below D0.out HBr.out.lt).cell 1)
   have HB2v : Hid (Blk { w8 with drawn := w8.drawn + 1 } g2 48 zer) := HB2.out.below D0.out HB2.out.lt
   have HBrv : Hid (Blk { w8 with drawn := w8.drawn + 1 } r 117 [sv, .int .i64 3]) := HBr.out.below D0.out HBr.out.lt
   have GWv : Hid (Below W.heap.size W { w8 with drawn := w8.drawn + 1 }) := GW.out.trans (D0.out.mono GW.out.size)
   have cr1 : w8.cell? ⟨r, 1, none⟩ = some (.int .i64 3) := HBr.out.cell 1
   clear hC D0
   go_wp2
   clear cr1
   refine region_calm C 6 (by kernel_rfl) ?_
   have hCp := cpo C0.out
   generalize ({ w8 with drawn := w8.drawn + 1 } : World) = v0 at *
   refine seg 2 [0, 1, 2, 3, 4] rfl (by kernel_rfl) whole_blind C0.out (by kernel_rfl) ?_
   change wpQuiet _ _ _ _ (_ :: _ :: _ :: _ :: _ :: []) _
   repeat (first
    | go_big_quiet_skip
    | (go_big_quiet_want
       first
       | (refine q_nil (.tmp 56) rfl r 0 rfl ?_
          simp only [Act.put, pu]
          go_big_quiet_on)
       | (refine q_fl2 (.tmp 57) rfl r rfl ?_
          simp only [Act.put, pu]
          go_big_quiet_on)
       | (refine q_one 3 (.inl rfl) (.tmp 58) rfl r 1 rfl _ CN.out ?_
          simp only [Act.put, pu]
          go_big_quiet_on)
       | (go_big_quiet_op
          go_big_quiet_on)))
   refine wpQuiet_nil ?_
   refine lone_do (i := 5) 1 rfl (by kernel_rfl) rfl (by rfl) ?_
   intro K hK
   refine oper_sta 48 (.tmp 2) (.tmp 55) rfl rfl g2 48 zer zer rfl rfl HB2v.out rfl s25 (by simp [zer, Value.oneCell']) ?_
   intro v3 b3 gr3
   have HB3 : Hid (Blk v3 g2 48 zer) := b3
   have HN : Hid (New1 W v3 noV none 0 none 0) := .none (GWv.out.grown gr3 GWv.out.size (fun x e => by injection e with e; omega))
   have c3 : C v3 := CI.out _ ((HBrv.out.kept gr3 (by intro c; injection c with c; omega)).cell 1)
   clear b3 gr3 HB2v HBrv GWv C0
   refine hK _ _ c3 ?_
   simp only [Act.put, pu]
   have hCq := cpo c3
   refine lone_calm (i := 6) 0 rfl (by kernel_rfl) rfl rfl c3 ?_
   go_big_quiet_want
   go_big_quiet_op
   go_big_quiet_on
   refine wpQuiet_nil ?_
   refine anyC_done (by kernel_rfl) ⟨rfl, ?_⟩
   clear c3 hCq CN CI hCp
   go_wp2
   refine bodyPost_ret (res_two rfl _ g2 48 _ _ rfl HB3.out Tryz.underlying48 rfl s25) rfl ?_
   rw [HD.1, HD.2]
   exact ⟨none, 0, none, 0, rfl, HN.out⟩
 have hp0 : ¬ 0 < l'.length := by have := HJ.out; omega
 by_cases hl : 65536 < L.length
 . have hl5 : decide ((65536 : Int) < (L.length : Int)) = true := decide_eq_true (by omega)
   go_wp2_with (refine st_one rfl 3 (.tmp 49) (.const (.int .i64 5)) rfl r 1 117 _ (.int .i64 5) rfl rfl rfl rfl (by simp) HBr.out s3 ?_)
   intro w8 br gr
   have HBr2 : Hid (Blk w8 r 117 [sv, .int .i64 5]) := br
   have HB22 : Hid (Blk w8 g2 48 zer) := HB2.out.kept gr (by intro c; injection c with c; omega)
   have HBv2 : Hid (Blk w8 gv 48 (six p.1 na nc ka p.2.list.length kc)) := HBv.out.kept gr (by intro c; injection c with c; omega)
   have GW2 : Hid (Below W.heap.size W w8) := GW.out.grown gr GW.out.size (fun x e => by injection e with e; omega)
   have HVl2 : Hid (∃ Lp, VlL w8 p na nc ka kc Lp /\ ∀ x ∈ Lp, W.heap.size <= x /\ x < w8.heap.size /\ x ≠ g2 /\ x ≠ r) := by
    obtain ⟨Lp, a1, a2⟩ := HVl.out
    refine ⟨Lp, a1.keep fun x hx => ?_, fun x hx => ?_⟩
    . have := a2 x hx
      exact gr.block x this.2.1 (by intro c; injection c with c; omega)
    . have := a2 x hx
      have := gr.size
      omega
   clear cr1 cs0 br gr HBr HB2 HBv GW HVl
   have HBr : Hid (Blk w8 r 117 [sv, .int .i64 5]) := HBr2.out
   have HB2 : Hid (Blk w8 g2 48 zer) := HB22.out
   have HBv : Hid (Blk w8 gv 48 (six p.1 na nc ka p.2.list.length kc)) := HBv2.out
   have GW : Hid (Below W.heap.size W w8) := GW2.out
   have HVl : Hid (∃ Lp, VlL w8 p na nc ka kc Lp /\ ∀ x ∈ Lp, W.heap.size <= x /\ x < w8.heap.size /\ x ≠ g2 /\ x ≠ r) := HVl2.out
   clear HBr2 HB22 HBv2 GW2 HVl2
   have HD := dec_long HF.out (by omega) hl
   obtain ⟨C, hC⟩ : ∃ C : World -> Prop, C = fun w' => w'.cell? ⟨r, 1, none⟩ = some (.int .i64 5) := ⟨_, rfl⟩
   have CN : Hid (∀ w', C w' -> w'.cell? ⟨r, 1, none⟩ = some (.int .i64 5)) := fun w' h => by rw [hC] at h; exact h
   have CI : Hid (∀ w', w'.cell? ⟨r, 1, none⟩ = some (.int .i64 5) -> C w') := fun w' h => by rw [hC]; exact h
   have D0 : Hid (Below w8.heap.size w8 { w8 with drawn := w8.drawn + 1 }) := Below.drew (Below.refl _ _)
   have C0 : Hid (C { w8 with drawn := w8.drawn + 1 }) := CI.out _ ((HBr.out.below D0.out HBr.out.lt).cell 1)
   have HB2v : Hid (Blk { w8 with drawn := w8.drawn + 1 } g2 48 zer) := HB2.out.below D0.out HB2.out.lt
   have HBrv : Hid (Blk { w8 with drawn := w8.drawn + 1 } r 117 [sv, .int .i64 5]) := HBr.out.below D0.out HBr.out.lt
   have GWv : Hid (Below W.heap.size W { w8 with drawn := w8.drawn + 1 }) := GW.out.trans (D0.out.mono GW.out.size)
   have cr1 : w8.cell? ⟨r, 1, none⟩ = some (.int .i64 5) := HBr.out.cell 1
   clear hC D0
   go_wp2
   clear cr1
   refine region_calm C 6 (by kernel_rfl) ?_
   have hCp := cpo C0.out
   generalize ({ w8 with drawn := w8.drawn + 1 } : World) = v0 at *
   refine seg 2 [0, 1, 2, 3, 4] rfl (by kernel_rfl) whole_blind C0.out (by kernel_rfl) ?_
   change wpQuiet _ _ _ _ (_ :: _ :: _ :: _ :: _ :: []) _
   repeat (first
    | go_big_quiet_skip
    | (go_big_quiet_want
       first
       | (refine q_nil (.tmp 56) rfl r 0 rfl ?_
          simp only [Act.put, pu]
          go_big_quiet_on)
       | (refine q_fl2 (.tmp 57) rfl r rfl ?_
          simp only [Act.put, pu]
          go_big_quiet_on)
       | (refine q_one 3 (.inl rfl) (.tmp 58) rfl r 1 rfl _ CN.out ?_
          simp only [Act.put, pu]
          go_big_quiet_on)
       | (go_big_quiet_op
          go_big_quiet_on)))
   refine wpQuiet_nil ?_
   refine lone_do (i := 5) 1 rfl (by kernel_rfl) rfl (by rfl) ?_
   intro K hK
   refine oper_sta 48 (.tmp 2) (.tmp 55) rfl rfl g2 48 zer zer rfl rfl HB2v.out rfl s25 (by simp [zer, Value.oneCell']) ?_
   intro v3 b3 gr3
   have HB3 : Hid (Blk v3 g2 48 zer) := b3
   have HN : Hid (New1 W v3 noV none 0 none 0) := .none (GWv.out.grown gr3 GWv.out.size (fun x e => by injection e with e; omega))
   have c3 : C v3 := CI.out _ ((HBrv.out.kept gr3 (by intro c; injection c with c; omega)).cell 1)
   clear b3 gr3 HB2v HBrv GWv C0
   refine hK _ _ c3 ?_
   simp only [Act.put, pu]
   have hCq := cpo c3
   refine lone_calm (i := 6) 0 rfl (by kernel_rfl) rfl rfl c3 ?_
   go_big_quiet_want
   go_big_quiet_op
   go_big_quiet_on
   refine wpQuiet_nil ?_
   refine anyC_done (by kernel_rfl) ⟨rfl, ?_⟩
   clear c3 hCq CN CI hCp
   go_wp2
   refine bodyPost_ret (res_two rfl _ g2 48 _ _ rfl HB3.out Tryz.underlying48 rfl s25) rfl ?_
   rw [HD.1, HD.2]
   exact ⟨none, 0, none, 0, rfl, HN.out⟩
 have hl5 : decide ((65536 : Int) < (L.length : Int)) = false := decide_eq_false (by omega)
 have t0 : w7.cell? ⟨gv, 0, none⟩ = some (.int .i64 p.1.k) := HBv.out.cell 0
 have t1 : w7.cell? ⟨gv, 1, none⟩ = some (.int .i64 p.1.n) := HBv.out.cell 1
 have t2 : w7.cell? ⟨gv, 2, none⟩ = some (.int .i64 p.1.s) := HBv.out.cell 2
 have t3 : w7.cell? ⟨gv, 3, none⟩ = some (.string p.1.t) := HBv.out.cell 3
 have t4 : w7.cell? ⟨gv, 4, none⟩ = some (.slice na p.1.ns.length nc) := HBv.out.cell 4
 have t5 : w7.cell? ⟨gv, 5, none⟩ = some (.slice ka p.2.list.length kc) := HBv.out.cell 5
 go_wp2_with (refine st_all rfl 48 (.tmp 2) (.tmp 60) rfl g2 48 zer (six p.1 na nc ka p.2.list.length kc) rfl rfl HB2.out rfl s25 (six_one _ _ _ _ _ _) ?_)
 intro w9 B9 gr9
 have HN : Hid (New1 W w9 p na nc ka kc) := by
  obtain ⟨Lp, a1, a2⟩ := HVl.out
  refine ⟨⟨Lp, a1.keep fun x hx => ?_, fun x hx => ?_⟩, HWf.out, GW.out.grown gr9 GW.out.size (fun x e => by injection e with e; omega)⟩
  . have := a2 x hx
    exact gr9.block x this.2.1 (by intro c; injection c with c; omega)
  . have := a2 x hx
    have := gr9.size
    omega
 have HB9 : Hid (Blk w9 g2 48 (six p.1 na nc ka p.2.list.length kc)) := B9
 clear B9 gr9 t0 t1 t2 t3 t4 t5
 have HD := dec_yes HF.out (by omega) hl
 go_wp2
 refine bodyPost_ret (res_two rfl _ g2 48 _ _ rfl HB9.out Tryz.underlying48 rfl s25) rfl ?_
 rw [HD.1, HD.2]
 exact ⟨na, nc, ka, kc, rfl, HN.out⟩
end Go.Proofs.YtmbglggodifboaaGreat
