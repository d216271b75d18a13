/-
  The document's own Decode and Read. · The law CodecDecodes, walked.
-/
import Derived.Test.YtimddoaejldgaaaQv
import Derived.Test.YtimddoaejldgaaaRck
import Derived.Test.YtimddoaejldgaaaEql
namespace Go.Proofs.Ytimddoaejldgaaa
open Go.RowKit Math
set_option linter.unusedVariables false
set_option linter.unusedSimpArgs false
theorem qval_any : ∀ (d : Nat), d ≤ 16 → ∀ dp : Int, dp = 17 - (d : Int) → QvC d dp
  | 0, _, dp, h => by
    obtain rfl : dp = 17 := by omega
    exact qval_deep
  | d + 1, hd, dp, h => qval_step d dp (by omega) (by omega) (qval_any d (by omega) (dp + 1) (by omega))
theorem q_fl2 {C : World → Prop} {a : Act} {o : Oper} {K : Act → Prop} (x : Operand) (ho : o.op = .fieldAddr 63 x 1) (b : Nat) (hx : a.eval x = .pointer (some ⟨b, 0, none⟩))
    (hk : K (a.put o.dst (.pointer (some ⟨b, 1, none⟩)))) : o.quiet Try.prog a C K :=
  ⟨_, fun w hw => by
    unfold Oper.quietAt execOp
    simp only [ho, hx]
    go_simp, hk⟩
/-- What the document's value answers, as Fst says it of the program's. -/
theorem fst_sq {L l' : List Nat} {p : Vt} {e : Int} (ho : Oct L) (h : Sq (rdV 16) L 0 l' e p) : (e ≠ 0 → ∀ q j, Fst L q j e) ∧ (e = 0 → ∃ j, l' = L.drop j ∧ j ≤ L.length ∧ l'.length = L.length - j ∧ Fst L p j (chkV p 1)) := by
  rcases h with ⟨a, _⟩ | ⟨_, ⟨b, c⟩ | ⟨x, b, c, d⟩⟩
  · exact absurd rfl a
  · refine ⟨fun h => absurd c h, fun _ => ?_⟩
    obtain ⟨s, hs, _, _⟩ := good_V 16 L p l' ho b
    have F := find_V 16 L p l' ho b
    have hd := F.dp
    refine ⟨s.length, by rw [hs]; simp, by rw [hs]; simp, by rw [hs]; simp, .inr ⟨?_, by rw [hs]; simp, ?_⟩⟩
    · rw [b]
      congr 2
      rw [hs]
      simp
    · rw [chkV_flat p 1 (by omega)]
  · exact ⟨fun _ q j => .inl ⟨x, b, c, d⟩, fun h => by omega⟩
set_option maxRecDepth 8000 in
set_option maxHeartbeats 2000000 in
theorem rdecode_any (L : List Nat) (ab : Option Addr) (cb : Nat) (W : World) (hB : Byt W ab L) (hO : Oct L) (hlen : L.length ≤ 1000000) (hcap : L.length ≤ cb) (hcm : cb ≤ 9223372036854775807) (hnil : ab = none → cb = 0) :
    Calls Try.prog 19 #[.slice ab L.length cb] W fun e w' => ∃ na nc ka kc, e = .returned (.tuple #[.agg #[.int .i64 (decP L).1.k, .int .i64 (decP L).1.n, .int .i64 (decP L).1.s, .string (decP L).1.t, .slice na (decP L).1.ns.length nc, .slice ka (decP L).2.list.length kc], .int .i64 (decE L)]) ∧ Hid (New1 W w' (decP L) na nc ka kc) := by
  have HA : Hid (Byt W ab L ∧ Oct L ∧ (ab = none → cb = 0)) := ⟨hB, hO, hnil⟩
  clear hB hO hnil
  go_enter Try.func19, Try.ntmps19
  go_wp2_with (refine al_zero rfl 25 rfl zer z25 ?_)
  intro g2 w1 hg2 B2 gr2
  have G1 : Hid (Below W.heap.size W w1) := (Below.refl _ _).grown gr2 (Nat.le_refl _) (fun k e => by cases e)
  have HB2a : Hid (Blk w1 g2 25 zer) := B2
  obtain ⟨w2, HW2⟩ : ∃ w2, Hid (w1.alloc (.cells #[.slice ab L.length cb, .int .i64 0] 63) = w2) := ⟨_, rfl⟩
  have HBra : Hid (Blk w2 w1.heap.size 63 [.slice ab L.length cb, .int .i64 0]) := by rw [← HW2.out]; exact blk_new w1 63 [.slice ab L.length cb, .int .i64 0]
  have G2 : Hid (Below w1.heap.size w1 w2) := by rw [← HW2.out]; exact (Below.refl _ _).alloc (Nat.le_refl _) _
  have hr2 : g2 < w1.heap.size := B2.lt
  have GW2a : Hid (Below W.heap.size W w2) := G1.out.trans (G2.out.mono G1.out.size)
  have KV := qval_any 16 (Nat.le_refl _) 1 (by omega) W w2 w1.heap.size L 0 ⟨⟨ab, cb, HBra.out, HA.out.1, HA.out.2.2, hcap, hcm⟩, GW2a.out, G1.out.size, HA.out.2.1, hlen⟩ GW2a.out.size
  clear B2 gr2
  go_wp2_with fail
  generalize hWW : World.alloc w1 _ = W9
  obtain rfl : w2 = W9 := by rw [← hWW, ← HW2.out]
  clear hWW HW2
  refine KV.mono ?_
  clear KV
  rintro e w3 ⟨p, na, nc, ka, kc, l', e1, rfl, H3⟩
  go_wp2_with (refine al_zero rfl 25 rfl zer z25 ?_)
  intro gv w4 hgv Bv grv
  go_wp2_with (refine st_all rfl 25 (.tmp 5) (.tmp 10) rfl gv 25 zer (six p.1 na nc ka p.2.list.length kc) rfl rfl Bv rfl s25 (six_one _ _ _ _ _ _) ?_)
  intro w5 Bv' grv'
  have G5 : Hid (Below w3.heap.size w3 w5) := below_new grv hgv grv'
  obtain ⟨a', c', hb', hx'⟩ := H3.out.ro.rq.ex
  obtain ⟨sv, HSV⟩ : ∃ sv, Hid (sv = Value.slice a' l'.length c') := ⟨_, rfl⟩
  have hs1 : w1.heap.size < w2.heap.size := HBra.out.lt
  have hs3 : w2.heap.size ≤ w3.heap.size := H3.out.ro.gr.size
  have HBr : Hid (Blk w5 w1.heap.size 63 [sv, .int .i64 e1]) := by rw [HSV.out]; exact hb'.below G5.out hb'.lt
  have HB2 : Hid (Blk w5 g2 25 zer) := by
    have b2 : Blk w2 g2 25 zer := HB2a.out.below G2.out HB2a.out.lt
    have b3 : Blk w3 g2 25 zer := b2.kept H3.out.ro.gr (by intro c; injection c with c; omega)
    exact b3.below G5.out b3.lt
  have HBv : Hid (Blk w5 gv 25 (six p.1 na nc ka p.2.list.length kc)) := Bv'
  have GW : Hid (Below W.heap.size W w5) := by
    have h3 : Below W.heap.size W w3 := GW2a.out.grown H3.out.ro.gr GW2a.out.size (fun x e => by injection e with e; have := G1.out.size; omega)
    exact h3.trans (G5.out.mono h3.size)
  have HVl : Hid (∃ Lp, VlL w5 p na nc ka kc Lp ∧ ∀ x ∈ Lp, W.heap.size ≤ x ∧ x < w5.heap.size ∧ x ≠ g2 ∧ x ≠ w1.heap.size) := by
    obtain ⟨Lp, h1, h2⟩ := H3.out.vl
    refine ⟨Lp, h1.keep fun x hx => G5.out.block x (h2 x hx).2, fun x hx => ?_⟩
    have := h2 x hx
    have := G5.out.size
    have := G1.out.size
    omega
  have HWf : Hid (WfV p) := H3.out.wf
  have HFs : Hid ((e1 ≠ 0 → ∀ q j, Fst L q j e1) ∧ (e1 = 0 → ∃ j, l' = L.drop j ∧ j ≤ L.length ∧ l'.length = L.length - j ∧ Fst L p j (chkV p 1))) := fst_sq HA.out.2.1 H3.out.sq
  have hll : l'.length ≤ 1000000 := H3.out.ro.rq.len
  have hg2v : g2 ≠ gv := by omega
  have hg2r : g2 ≠ w1.heap.size := by omega
  have hgvr : gv ≠ w1.heap.size := by omega
  have hrl : W.heap.size ≤ w1.heap.size := G1.out.size
  clear Bv Bv' grv grv' G5 H3 HB2a HBra G1 G2 GW2a HA hs1 hs3 hb' hx' hr2
  generalize w1.heap.size = r at *
  have cs0 : w5.cell? ⟨r, 0, none⟩ = some (.slice a' l'.length c') := by rw [← HSV.out]; exact HBr.out.cell 0
  by_cases he1 : e1 = 0
  case neg =>
    have heb : (e1 == 0) = false := by simpa using he1
    have hen : (e1 != 0) = true := by simpa using he1
    have HD := dec_no (HFs.out.1 he1 p 0) he1
    obtain ⟨C, hC⟩ : ∃ C : World → Prop, C = fun w' => w'.cell? ⟨r, 1, none⟩ = some (.int .i64 e1) := ⟨_, rfl⟩
    have CN : Hid (∀ w', C w' → w'.cell? ⟨r, 1, none⟩ = some (.int .i64 e1)) := fun w' h => by rw [hC] at h; exact h
    have CI : Hid (∀ w', w'.cell? ⟨r, 1, none⟩ = some (.int .i64 e1) → C w') := fun w' h => by rw [hC]; exact h
    have D0 : Hid (Below w5.heap.size w5 { w5 with drawn := w5.drawn + 1 }) := Below.drew (Below.refl _ _)
    have C0 : Hid (C { w5 with drawn := w5.drawn + 1 }) := CI.out _ ((HBr.out.below D0.out HBr.out.lt).cell 1)
    have HB2v : Hid (Blk { w5 with drawn := w5.drawn + 1 } g2 25 zer) := HB2.out.below D0.out HB2.out.lt
    have HBrv : Hid (Blk { w5 with drawn := w5.drawn + 1 } r 63 [sv, .int .i64 e1]) := HBr.out.below D0.out HBr.out.lt
    have GWv : Hid (Below W.heap.size W { w5 with drawn := w5.drawn + 1 }) := GW.out.trans (D0.out.mono GW.out.size)
    have cr1 : w5.cell? ⟨r, 1, none⟩ = some (.int .i64 e1) := HBr.out.cell 1
    clear hC D0
    go_wp2
    clear cr1
    refine region_calm C 6 (by kernel_rfl) ?_
    have hCp : ∀ p : Prop, (∀ W, C W → p) ↔ p := fun p => ⟨fun h => h _ C0.out, fun h _ _ => h⟩
    generalize ({ w5 with drawn := w5.drawn + 1 } : World) = v0 at *
    refine seg 2 [0, 1, 2, 3, 4] rfl (by kernel_rfl) whole_blind C0.out (by kernel_rfl) ?_
    change wpQuiet _ _ _ _ (_ :: _ :: _ :: _ :: _ :: []) _
    repeat (first
      | go_big_quiet_skip
      | (go_big_quiet_want
         first
         | (refine q_nil (.tmp 56) rfl r 0 rfl ?_
            simp only [Act.put, List.setIfInBounds_toArray, List.set_cons_zero, List.set_cons_succ]
            go_big_quiet_on)
         | (refine q_fl2 (.tmp 57) rfl r rfl ?_
            simp only [Act.put, List.setIfInBounds_toArray, List.set_cons_zero, List.set_cons_succ]
            go_big_quiet_on)
         | (refine q_one 3 (.inl rfl) (.tmp 58) rfl r 1 rfl _ CN.out ?_
            simp only [Act.put, List.setIfInBounds_toArray, List.set_cons_zero, List.set_cons_succ]
            go_big_quiet_on)
         | (go_big_quiet_op
            go_big_quiet_on)))
    refine wpQuiet_nil ?_
    refine lone_do (i := 5) 1 rfl (by kernel_rfl) rfl (by rfl) ?_
    intro K hK
    refine oper_sta 25 (.tmp 2) (.tmp 55) rfl rfl g2 25 zer zer rfl rfl HB2v.out rfl s25 (by simp [zer, Value.oneCell']) ?_
    intro v3 b3 gr3
    have HB3 : Hid (Blk v3 g2 25 zer) := b3
    have HN : Hid (New1 W v3 noV none 0 none 0) := .none (GWv.out.grown gr3 GWv.out.size (fun x e => by injection e with e; omega))
    have c3 : C v3 := CI.out _ ((HBrv.out.kept gr3 (by intro c; injection c with c; omega)).cell 1)
    clear b3 gr3 HB2v HBrv GWv C0
    refine hK _ _ c3 ?_
    simp only [Act.put, List.setIfInBounds_toArray, List.set_cons_zero, List.set_cons_succ]
    have hCq : ∀ p : Prop, (∀ W, C W → p) ↔ p := fun p => ⟨fun h => h _ c3, fun h _ _ => h⟩
    refine lone_calm (i := 6) 0 rfl (by kernel_rfl) rfl rfl c3 ?_
    go_big_quiet_want
    go_big_quiet_op
    go_big_quiet_on
    refine wpQuiet_nil ?_
    refine anyC_done (by kernel_rfl) ⟨rfl, ?_⟩
    clear c3 hCq CN CI hCp
    go_wp2
    refine bodyPost_ret (res_two rfl _ g2 25 _ _ rfl HB3.out Try.underlying25 rfl s25) rfl ?_
    rw [HD.1, HD.2]
    exact ⟨none, 0, none, 0, rfl, HN.out⟩
  subst he1
  obtain ⟨j, hj1, hj2, hj3, hF⟩ := HFs.out.2 rfl
  have HF : Hid (Fst L p j (chkV p 1)) := hF
  have HJ : Hid (l'.length = L.length - j) := hj3
  clear hj1 hF HFs hj3
  have KC := rCheck_any p HWf.out na nc ka kc w5 (by obtain ⟨Lp, a1, _⟩ := HVl.out; exact a1.vl)
  generalize chkV p 1 = E at *
  have t0 : w5.cell? ⟨gv, 0, none⟩ = some (.int .i64 p.1.k) := HBv.out.cell 0
  have t1 : w5.cell? ⟨gv, 1, none⟩ = some (.int .i64 p.1.n) := HBv.out.cell 1
  have t2 : w5.cell? ⟨gv, 2, none⟩ = some (.int .i64 p.1.s) := HBv.out.cell 2
  have t3 : w5.cell? ⟨gv, 3, none⟩ = some (.string p.1.t) := HBv.out.cell 3
  have t4 : w5.cell? ⟨gv, 4, none⟩ = some (.slice na p.1.ns.length nc) := HBv.out.cell 4
  have t5 : w5.cell? ⟨gv, 5, none⟩ = some (.slice ka p.2.list.length kc) := HBv.out.cell 5
  have cr1 : w5.cell? ⟨r, 1, none⟩ = some (.int .i64 0) := HBr.out.cell 1
  go_wp2_with fail
  refine KC.mono ?_
  clear KC t0 t1 t2 t3 t4 t5 cr1 cs0
  rintro e w6 ⟨rfl, b6⟩
  have HBrn : Hid (Blk w6 r 63 [sv, .int .i64 0]) := HBr.out.below b6 HBr.out.lt
  have HB2n : Hid (Blk w6 g2 25 zer) := HB2.out.below b6 HB2.out.lt
  have HBvn : Hid (Blk w6 gv 25 (six p.1 na nc ka p.2.list.length kc)) := HBv.out.below b6 HBv.out.lt
  have GWn : Hid (Below W.heap.size W w6) := GW.out.trans (b6.mono GW.out.size)
  have HVln : Hid (∃ Lp, VlL w6 p na nc ka kc Lp ∧ ∀ x ∈ Lp, W.heap.size ≤ x ∧ x < w6.heap.size ∧ x ≠ g2 ∧ x ≠ r) := by
    obtain ⟨Lp, a1, a2⟩ := HVl.out
    refine ⟨Lp, a1.keep fun x hx => b6.block x (a2 x hx).2.1, fun x hx => ?_⟩
    have := a2 x hx
    have := b6.size
    omega
  clear b6 HBr HB2 HBv GW HVl
  have HBr : Hid (Blk w6 r 63 [sv, .int .i64 0]) := HBrn.out
  have HB2 : Hid (Blk w6 g2 25 zer) := HB2n.out
  have HBv : Hid (Blk w6 gv 25 (six p.1 na nc ka p.2.list.length kc)) := HBvn.out
  have GW : Hid (Below W.heap.size W w6) := GWn.out
  have HVl : Hid (∃ Lp, VlL w6 p na nc ka kc Lp ∧ ∀ x ∈ Lp, W.heap.size ≤ x ∧ x < w6.heap.size ∧ x ≠ g2 ∧ x ≠ r) := HVln.out
  clear HBrn HB2n HBvn GWn HVln
  go_wp2_with (refine st_one rfl 3 (.tmp 20) (.tmp 18) rfl r 1 63 _ (.int .i64 E) rfl rfl rfl rfl (by simp) HBr.out s3 ?_)
  intro w7 br gr
  have HBr2 : Hid (Blk w7 r 63 [sv, .int .i64 E]) := br
  have HB22 : Hid (Blk w7 g2 25 zer) := HB2.out.kept gr (by intro c; injection c with c; omega)
  have HBv2 : Hid (Blk w7 gv 25 (six p.1 na nc ka p.2.list.length kc)) := HBv.out.kept gr (by intro c; injection c with c; omega)
  have GW2 : Hid (Below W.heap.size W w7) := GW.out.grown gr GW.out.size (fun x e => by injection e with e; omega)
  have HVl2 : Hid (∃ Lp, VlL w7 p na nc ka kc Lp ∧ ∀ x ∈ Lp, W.heap.size ≤ x ∧ x < w7.heap.size ∧ x ≠ g2 ∧ x ≠ r) := by
    obtain ⟨Lp, a1, a2⟩ := HVl.out
    refine ⟨Lp, a1.keep fun x hx => ?_, fun x hx => ?_⟩
    · have := a2 x hx
      exact gr.block x this.2.1 (by intro c; injection c with c; omega)
    · have := a2 x hx
      have := gr.size
      omega
  clear br gr HBr HB2 HBv GW HVl
  have HBr : Hid (Blk w7 r 63 [sv, .int .i64 E]) := HBr2.out
  have HB2 : Hid (Blk w7 g2 25 zer) := HB22.out
  have HBv : Hid (Blk w7 gv 25 (six p.1 na nc ka p.2.list.length kc)) := HBv2.out
  have GW : Hid (Below W.heap.size W w7) := GW2.out
  have HVl : Hid (∃ Lp, VlL w7 p na nc ka kc Lp ∧ ∀ x ∈ Lp, W.heap.size ≤ x ∧ x < w7.heap.size ∧ x ≠ g2 ∧ x ≠ r) := HVl2.out
  clear HBr2 HB22 HBv2 GW2 HVl2
  have cs0 : w7.cell? ⟨r, 0, none⟩ = some (.slice a' l'.length c') := by rw [← HSV.out]; exact HBr.out.cell 0
  by_cases hE : E = 0
  case neg =>
    have heb : (E == 0) = false := by simpa using hE
    have hen : (E != 0) = true := by simpa using hE
    have HD := dec_no HF.out hE
    obtain ⟨C, hC⟩ : ∃ C : World → Prop, C = fun w' => w'.cell? ⟨r, 1, none⟩ = some (.int .i64 E) := ⟨_, rfl⟩
    have CN : Hid (∀ w', C w' → w'.cell? ⟨r, 1, none⟩ = some (.int .i64 E)) := fun w' h => by rw [hC] at h; exact h
    have CI : Hid (∀ w', w'.cell? ⟨r, 1, none⟩ = some (.int .i64 E) → C w') := fun w' h => by rw [hC]; exact h
    have D0 : Hid (Below w7.heap.size w7 { w7 with drawn := w7.drawn + 1 }) := Below.drew (Below.refl _ _)
    have C0 : Hid (C { w7 with drawn := w7.drawn + 1 }) := CI.out _ ((HBr.out.below D0.out HBr.out.lt).cell 1)
    have HB2v : Hid (Blk { w7 with drawn := w7.drawn + 1 } g2 25 zer) := HB2.out.below D0.out HB2.out.lt
    have HBrv : Hid (Blk { w7 with drawn := w7.drawn + 1 } r 63 [sv, .int .i64 E]) := HBr.out.below D0.out HBr.out.lt
    have GWv : Hid (Below W.heap.size W { w7 with drawn := w7.drawn + 1 }) := GW.out.trans (D0.out.mono GW.out.size)
    have cr1 : w7.cell? ⟨r, 1, none⟩ = some (.int .i64 E) := HBr.out.cell 1
    clear hC D0
    go_wp2
    clear cr1
    refine region_calm C 6 (by kernel_rfl) ?_
    have hCp : ∀ p : Prop, (∀ W, C W → p) ↔ p := fun p => ⟨fun h => h _ C0.out, fun h _ _ => h⟩
    generalize ({ w7 with drawn := w7.drawn + 1 } : World) = v0 at *
    refine seg 2 [0, 1, 2, 3, 4] rfl (by kernel_rfl) whole_blind C0.out (by kernel_rfl) ?_
    change wpQuiet _ _ _ _ (_ :: _ :: _ :: _ :: _ :: []) _
    repeat (first
      | go_big_quiet_skip
      | (go_big_quiet_want
         first
         | (refine q_nil (.tmp 56) rfl r 0 rfl ?_
            simp only [Act.put, List.setIfInBounds_toArray, List.set_cons_zero, List.set_cons_succ]
            go_big_quiet_on)
         | (refine q_fl2 (.tmp 57) rfl r rfl ?_
            simp only [Act.put, List.setIfInBounds_toArray, List.set_cons_zero, List.set_cons_succ]
            go_big_quiet_on)
         | (refine q_one 3 (.inl rfl) (.tmp 58) rfl r 1 rfl _ CN.out ?_
            simp only [Act.put, List.setIfInBounds_toArray, List.set_cons_zero, List.set_cons_succ]
            go_big_quiet_on)
         | (go_big_quiet_op
            go_big_quiet_on)))
    refine wpQuiet_nil ?_
    refine lone_do (i := 5) 1 rfl (by kernel_rfl) rfl (by rfl) ?_
    intro K hK
    refine oper_sta 25 (.tmp 2) (.tmp 55) rfl rfl g2 25 zer zer rfl rfl HB2v.out rfl s25 (by simp [zer, Value.oneCell']) ?_
    intro v3 b3 gr3
    have HB3 : Hid (Blk v3 g2 25 zer) := b3
    have HN : Hid (New1 W v3 noV none 0 none 0) := .none (GWv.out.grown gr3 GWv.out.size (fun x e => by injection e with e; omega))
    have c3 : C v3 := CI.out _ ((HBrv.out.kept gr3 (by intro c; injection c with c; omega)).cell 1)
    clear b3 gr3 HB2v HBrv GWv C0
    refine hK _ _ c3 ?_
    simp only [Act.put, List.setIfInBounds_toArray, List.set_cons_zero, List.set_cons_succ]
    have hCq : ∀ p : Prop, (∀ W, C W → p) ↔ p := fun p => ⟨fun h => h _ c3, fun h _ _ => h⟩
    refine lone_calm (i := 6) 0 rfl (by kernel_rfl) rfl rfl c3 ?_
    go_big_quiet_want
    go_big_quiet_op
    go_big_quiet_on
    refine wpQuiet_nil ?_
    refine anyC_done (by kernel_rfl) ⟨rfl, ?_⟩
    clear c3 hCq CN CI hCp
    go_wp2
    refine bodyPost_ret (res_two rfl _ g2 25 _ _ rfl HB3.out Try.underlying25 rfl s25) rfl ?_
    rw [HD.1, HD.2]
    exact ⟨none, 0, none, 0, rfl, HN.out⟩
  subst hE
  have cr1 : w7.cell? ⟨r, 1, none⟩ = some (.int .i64 0) := HBr.out.cell 1
  by_cases hjl : j < L.length
  · have hp0 : 0 < l'.length := by have := HJ.out; omega
    go_wp2_with (refine st_one rfl 3 (.tmp 36) (.const (.int .i64 3)) rfl r 1 63 _ (.int .i64 3) rfl rfl rfl rfl (by simp) HBr.out s3 ?_)
    intro w8 br gr
    have HBr2 : Hid (Blk w8 r 63 [sv, .int .i64 3]) := br
    have HB22 : Hid (Blk w8 g2 25 zer) := HB2.out.kept gr (by intro c; injection c with c; omega)
    have HBv2 : Hid (Blk w8 gv 25 (six p.1 na nc ka p.2.list.length kc)) := HBv.out.kept gr (by intro c; injection c with c; omega)
    have GW2 : Hid (Below W.heap.size W w8) := GW.out.grown gr GW.out.size (fun x e => by injection e with e; omega)
    have HVl2 : Hid (∃ Lp, VlL w8 p na nc ka kc Lp ∧ ∀ x ∈ Lp, W.heap.size ≤ x ∧ x < w8.heap.size ∧ x ≠ g2 ∧ x ≠ r) := by
      obtain ⟨Lp, a1, a2⟩ := HVl.out
      refine ⟨Lp, a1.keep fun x hx => ?_, fun x hx => ?_⟩
      · have := a2 x hx
        exact gr.block x this.2.1 (by intro c; injection c with c; omega)
      · have := a2 x hx
        have := gr.size
        omega
    clear cr1 cs0 br gr HBr HB2 HBv GW HVl
    have HBr : Hid (Blk w8 r 63 [sv, .int .i64 3]) := HBr2.out
    have HB2 : Hid (Blk w8 g2 25 zer) := HB22.out
    have HBv : Hid (Blk w8 gv 25 (six p.1 na nc ka p.2.list.length kc)) := HBv2.out
    have GW : Hid (Below W.heap.size W w8) := GW2.out
    have HVl : Hid (∃ Lp, VlL w8 p na nc ka kc Lp ∧ ∀ x ∈ Lp, W.heap.size ≤ x ∧ x < w8.heap.size ∧ x ≠ g2 ∧ x ≠ r) := HVl2.out
    clear HBr2 HB22 HBv2 GW2 HVl2
    have HD := dec_more HF.out hjl
    obtain ⟨C, hC⟩ : ∃ C : World → Prop, C = fun w' => w'.cell? ⟨r, 1, none⟩ = some (.int .i64 3) := ⟨_, rfl⟩
    have CN : Hid (∀ w', C w' → w'.cell? ⟨r, 1, none⟩ = some (.int .i64 3)) := fun w' h => by rw [hC] at h; exact h
    have CI : Hid (∀ w', w'.cell? ⟨r, 1, none⟩ = some (.int .i64 3) → C w') := fun w' h => by rw [hC]; exact h
    have D0 : Hid (Below w8.heap.size w8 { w8 with drawn := w8.drawn + 1 }) := Below.drew (Below.refl _ _)
    have C0 : Hid (C { w8 with drawn := w8.drawn + 1 }) := CI.out _ ((HBr.out.below D0.out HBr.out.lt).cell 1)
    have HB2v : Hid (Blk { w8 with drawn := w8.drawn + 1 } g2 25 zer) := HB2.out.below D0.out HB2.out.lt
    have HBrv : Hid (Blk { w8 with drawn := w8.drawn + 1 } r 63 [sv, .int .i64 3]) := HBr.out.below D0.out HBr.out.lt
    have GWv : Hid (Below W.heap.size W { w8 with drawn := w8.drawn + 1 }) := GW.out.trans (D0.out.mono GW.out.size)
    have cr1 : w8.cell? ⟨r, 1, none⟩ = some (.int .i64 3) := HBr.out.cell 1
    clear hC D0
    go_wp2
    clear cr1
    refine region_calm C 6 (by kernel_rfl) ?_
    have hCp : ∀ p : Prop, (∀ W, C W → p) ↔ p := fun p => ⟨fun h => h _ C0.out, fun h _ _ => h⟩
    generalize ({ w8 with drawn := w8.drawn + 1 } : World) = v0 at *
    refine seg 2 [0, 1, 2, 3, 4] rfl (by kernel_rfl) whole_blind C0.out (by kernel_rfl) ?_
    change wpQuiet _ _ _ _ (_ :: _ :: _ :: _ :: _ :: []) _
    repeat (first
      | go_big_quiet_skip
      | (go_big_quiet_want
         first
         | (refine q_nil (.tmp 56) rfl r 0 rfl ?_
            simp only [Act.put, List.setIfInBounds_toArray, List.set_cons_zero, List.set_cons_succ]
            go_big_quiet_on)
         | (refine q_fl2 (.tmp 57) rfl r rfl ?_
            simp only [Act.put, List.setIfInBounds_toArray, List.set_cons_zero, List.set_cons_succ]
            go_big_quiet_on)
         | (refine q_one 3 (.inl rfl) (.tmp 58) rfl r 1 rfl _ CN.out ?_
            simp only [Act.put, List.setIfInBounds_toArray, List.set_cons_zero, List.set_cons_succ]
            go_big_quiet_on)
         | (go_big_quiet_op
            go_big_quiet_on)))
    refine wpQuiet_nil ?_
    refine lone_do (i := 5) 1 rfl (by kernel_rfl) rfl (by rfl) ?_
    intro K hK
    refine oper_sta 25 (.tmp 2) (.tmp 55) rfl rfl g2 25 zer zer rfl rfl HB2v.out rfl s25 (by simp [zer, Value.oneCell']) ?_
    intro v3 b3 gr3
    have HB3 : Hid (Blk v3 g2 25 zer) := b3
    have HN : Hid (New1 W v3 noV none 0 none 0) := .none (GWv.out.grown gr3 GWv.out.size (fun x e => by injection e with e; omega))
    have c3 : C v3 := CI.out _ ((HBrv.out.kept gr3 (by intro c; injection c with c; omega)).cell 1)
    clear b3 gr3 HB2v HBrv GWv C0
    refine hK _ _ c3 ?_
    simp only [Act.put, List.setIfInBounds_toArray, List.set_cons_zero, List.set_cons_succ]
    have hCq : ∀ p : Prop, (∀ W, C W → p) ↔ p := fun p => ⟨fun h => h _ c3, fun h _ _ => h⟩
    refine lone_calm (i := 6) 0 rfl (by kernel_rfl) rfl rfl c3 ?_
    go_big_quiet_want
    go_big_quiet_op
    go_big_quiet_on
    refine wpQuiet_nil ?_
    refine anyC_done (by kernel_rfl) ⟨rfl, ?_⟩
    clear c3 hCq CN CI hCp
    go_wp2
    refine bodyPost_ret (res_two rfl _ g2 25 _ _ rfl HB3.out Try.underlying25 rfl s25) rfl ?_
    rw [HD.1, HD.2]
    exact ⟨none, 0, none, 0, rfl, HN.out⟩
  have hp0 : ¬ 0 < l'.length := by have := HJ.out; omega
  by_cases hl : 65536 < L.length
  · have hl5 : decide ((65536 : Int) < (L.length : Int)) = true := decide_eq_true (by omega)
    go_wp2_with (refine st_one rfl 3 (.tmp 49) (.const (.int .i64 5)) rfl r 1 63 _ (.int .i64 5) rfl rfl rfl rfl (by simp) HBr.out s3 ?_)
    intro w8 br gr
    have HBr2 : Hid (Blk w8 r 63 [sv, .int .i64 5]) := br
    have HB22 : Hid (Blk w8 g2 25 zer) := HB2.out.kept gr (by intro c; injection c with c; omega)
    have HBv2 : Hid (Blk w8 gv 25 (six p.1 na nc ka p.2.list.length kc)) := HBv.out.kept gr (by intro c; injection c with c; omega)
    have GW2 : Hid (Below W.heap.size W w8) := GW.out.grown gr GW.out.size (fun x e => by injection e with e; omega)
    have HVl2 : Hid (∃ Lp, VlL w8 p na nc ka kc Lp ∧ ∀ x ∈ Lp, W.heap.size ≤ x ∧ x < w8.heap.size ∧ x ≠ g2 ∧ x ≠ r) := by
      obtain ⟨Lp, a1, a2⟩ := HVl.out
      refine ⟨Lp, a1.keep fun x hx => ?_, fun x hx => ?_⟩
      · have := a2 x hx
        exact gr.block x this.2.1 (by intro c; injection c with c; omega)
      · have := a2 x hx
        have := gr.size
        omega
    clear cr1 cs0 br gr HBr HB2 HBv GW HVl
    have HBr : Hid (Blk w8 r 63 [sv, .int .i64 5]) := HBr2.out
    have HB2 : Hid (Blk w8 g2 25 zer) := HB22.out
    have HBv : Hid (Blk w8 gv 25 (six p.1 na nc ka p.2.list.length kc)) := HBv2.out
    have GW : Hid (Below W.heap.size W w8) := GW2.out
    have HVl : Hid (∃ Lp, VlL w8 p na nc ka kc Lp ∧ ∀ x ∈ Lp, W.heap.size ≤ x ∧ x < w8.heap.size ∧ x ≠ g2 ∧ x ≠ r) := HVl2.out
    clear HBr2 HB22 HBv2 GW2 HVl2
    have HD := dec_long HF.out (by omega) hl
    obtain ⟨C, hC⟩ : ∃ C : World → Prop, C = fun w' => w'.cell? ⟨r, 1, none⟩ = some (.int .i64 5) := ⟨_, rfl⟩
    have CN : Hid (∀ w', C w' → w'.cell? ⟨r, 1, none⟩ = some (.int .i64 5)) := fun w' h => by rw [hC] at h; exact h
    have CI : Hid (∀ w', w'.cell? ⟨r, 1, none⟩ = some (.int .i64 5) → C w') := fun w' h => by rw [hC]; exact h
    have D0 : Hid (Below w8.heap.size w8 { w8 with drawn := w8.drawn + 1 }) := Below.drew (Below.refl _ _)
    have C0 : Hid (C { w8 with drawn := w8.drawn + 1 }) := CI.out _ ((HBr.out.below D0.out HBr.out.lt).cell 1)
    have HB2v : Hid (Blk { w8 with drawn := w8.drawn + 1 } g2 25 zer) := HB2.out.below D0.out HB2.out.lt
    have HBrv : Hid (Blk { w8 with drawn := w8.drawn + 1 } r 63 [sv, .int .i64 5]) := HBr.out.below D0.out HBr.out.lt
    have GWv : Hid (Below W.heap.size W { w8 with drawn := w8.drawn + 1 }) := GW.out.trans (D0.out.mono GW.out.size)
    have cr1 : w8.cell? ⟨r, 1, none⟩ = some (.int .i64 5) := HBr.out.cell 1
    clear hC D0
    go_wp2
    clear cr1
    refine region_calm C 6 (by kernel_rfl) ?_
    have hCp : ∀ p : Prop, (∀ W, C W → p) ↔ p := fun p => ⟨fun h => h _ C0.out, fun h _ _ => h⟩
    generalize ({ w8 with drawn := w8.drawn + 1 } : World) = v0 at *
    refine seg 2 [0, 1, 2, 3, 4] rfl (by kernel_rfl) whole_blind C0.out (by kernel_rfl) ?_
    change wpQuiet _ _ _ _ (_ :: _ :: _ :: _ :: _ :: []) _
    repeat (first
      | go_big_quiet_skip
      | (go_big_quiet_want
         first
         | (refine q_nil (.tmp 56) rfl r 0 rfl ?_
            simp only [Act.put, List.setIfInBounds_toArray, List.set_cons_zero, List.set_cons_succ]
            go_big_quiet_on)
         | (refine q_fl2 (.tmp 57) rfl r rfl ?_
            simp only [Act.put, List.setIfInBounds_toArray, List.set_cons_zero, List.set_cons_succ]
            go_big_quiet_on)
         | (refine q_one 3 (.inl rfl) (.tmp 58) rfl r 1 rfl _ CN.out ?_
            simp only [Act.put, List.setIfInBounds_toArray, List.set_cons_zero, List.set_cons_succ]
            go_big_quiet_on)
         | (go_big_quiet_op
            go_big_quiet_on)))
    refine wpQuiet_nil ?_
    refine lone_do (i := 5) 1 rfl (by kernel_rfl) rfl (by rfl) ?_
    intro K hK
    refine oper_sta 25 (.tmp 2) (.tmp 55) rfl rfl g2 25 zer zer rfl rfl HB2v.out rfl s25 (by simp [zer, Value.oneCell']) ?_
    intro v3 b3 gr3
    have HB3 : Hid (Blk v3 g2 25 zer) := b3
    have HN : Hid (New1 W v3 noV none 0 none 0) := .none (GWv.out.grown gr3 GWv.out.size (fun x e => by injection e with e; omega))
    have c3 : C v3 := CI.out _ ((HBrv.out.kept gr3 (by intro c; injection c with c; omega)).cell 1)
    clear b3 gr3 HB2v HBrv GWv C0
    refine hK _ _ c3 ?_
    simp only [Act.put, List.setIfInBounds_toArray, List.set_cons_zero, List.set_cons_succ]
    have hCq : ∀ p : Prop, (∀ W, C W → p) ↔ p := fun p => ⟨fun h => h _ c3, fun h _ _ => h⟩
    refine lone_calm (i := 6) 0 rfl (by kernel_rfl) rfl rfl c3 ?_
    go_big_quiet_want
    go_big_quiet_op
    go_big_quiet_on
    refine wpQuiet_nil ?_
    refine anyC_done (by kernel_rfl) ⟨rfl, ?_⟩
    clear c3 hCq CN CI hCp
    go_wp2
    refine bodyPost_ret (res_two rfl _ g2 25 _ _ rfl HB3.out Try.underlying25 rfl s25) rfl ?_
    rw [HD.1, HD.2]
    exact ⟨none, 0, none, 0, rfl, HN.out⟩
  have hl5 : decide ((65536 : Int) < (L.length : Int)) = false := decide_eq_false (by omega)
  have t0 : w7.cell? ⟨gv, 0, none⟩ = some (.int .i64 p.1.k) := HBv.out.cell 0
  have t1 : w7.cell? ⟨gv, 1, none⟩ = some (.int .i64 p.1.n) := HBv.out.cell 1
  have t2 : w7.cell? ⟨gv, 2, none⟩ = some (.int .i64 p.1.s) := HBv.out.cell 2
  have t3 : w7.cell? ⟨gv, 3, none⟩ = some (.string p.1.t) := HBv.out.cell 3
  have t4 : w7.cell? ⟨gv, 4, none⟩ = some (.slice na p.1.ns.length nc) := HBv.out.cell 4
  have t5 : w7.cell? ⟨gv, 5, none⟩ = some (.slice ka p.2.list.length kc) := HBv.out.cell 5
  go_wp2_with (refine st_all rfl 25 (.tmp 2) (.tmp 60) rfl g2 25 zer (six p.1 na nc ka p.2.list.length kc) rfl rfl HB2.out rfl s25 (six_one _ _ _ _ _ _) ?_)
  intro w9 B9 gr9
  have HN : Hid (New1 W w9 p na nc ka kc) := by
    obtain ⟨Lp, a1, a2⟩ := HVl.out
    refine ⟨⟨Lp, a1.keep fun x hx => ?_, fun x hx => ?_⟩, HWf.out, GW.out.grown gr9 GW.out.size (fun x e => by injection e with e; omega)⟩
    · have := a2 x hx
      exact gr9.block x this.2.1 (by intro c; injection c with c; omega)
    · have := a2 x hx
      have := gr9.size
      omega
  have HB9 : Hid (Blk w9 g2 25 (six p.1 na nc ka p.2.list.length kc)) := B9
  clear B9 gr9 t0 t1 t2 t3 t4 t5
  have HD := dec_yes HF.out (by omega) hl
  go_wp2
  refine bodyPost_ret (res_two rfl _ g2 25 _ _ rfl HB9.out Try.underlying25 rfl s25) rfl ?_
  rw [HD.1, HD.2]
  exact ⟨na, nc, ka, kc, rfl, HN.out⟩
set_option maxRecDepth 8000 in
set_option maxHeartbeats 2000000 in
theorem rread_any (L : List Nat) (ab : Option Addr) (cb : Nat) (W : World) (hB : Byt W ab L) (hO : Oct L) (hlen : L.length ≤ 1000000) (hcap : L.length ≤ cb) (hcm : cb ≤ 9223372036854775807) (hnil : ab = none → cb = 0) :
    Calls Try.prog 21 #[.slice ab L.length cb] W fun e w' => ∃ na nc ka kc, e = .returned (.tuple #[.agg #[.int .i64 (reaP L).1.k, .int .i64 (reaP L).1.n, .int .i64 (reaP L).1.s, .string (reaP L).1.t, .slice na (reaP L).1.ns.length nc, .slice ka (reaP L).2.list.length kc], .int .i64 ((reaN L : Nat) : Int), .int .i64 (reaE L)]) ∧ Hid (New1 W w' (reaP L) na nc ka kc) := by
  have HA : Hid (Byt W ab L ∧ Oct L ∧ (ab = none → cb = 0)) := ⟨hB, hO, hnil⟩
  clear hB hO hnil
  go_enter Try.func21, Try.ntmps21
  go_wp2_with (refine al_zero rfl 25 rfl zer z25 ?_)
  intro g2 w1 hg2 B2 gr2
  have G1 : Hid (Below W.heap.size W w1) := (Below.refl _ _).grown gr2 (Nat.le_refl _) (fun k e => by cases e)
  have HB2a : Hid (Blk w1 g2 25 zer) := B2
  obtain ⟨w2, HW2⟩ : ∃ w2, Hid (w1.alloc (.cells #[.slice ab L.length cb, .int .i64 0] 63) = w2) := ⟨_, rfl⟩
  have HBra : Hid (Blk w2 w1.heap.size 63 [.slice ab L.length cb, .int .i64 0]) := by rw [← HW2.out]; exact blk_new w1 63 [.slice ab L.length cb, .int .i64 0]
  have G2 : Hid (Below w1.heap.size w1 w2) := by rw [← HW2.out]; exact (Below.refl _ _).alloc (Nat.le_refl _) _
  have hr2 : g2 < w1.heap.size := B2.lt
  have GW2a : Hid (Below W.heap.size W w2) := G1.out.trans (G2.out.mono G1.out.size)
  have KV := qval_any 16 (Nat.le_refl _) 1 (by omega) W w2 w1.heap.size L 0 ⟨⟨ab, cb, HBra.out, HA.out.1, HA.out.2.2, hcap, hcm⟩, GW2a.out, G1.out.size, HA.out.2.1, hlen⟩ GW2a.out.size
  clear B2 gr2
  go_wp2_with fail
  generalize hWW : World.alloc w1 _ = W9
  obtain rfl : w2 = W9 := by rw [← hWW, ← HW2.out]
  clear hWW HW2
  refine KV.mono ?_
  clear KV
  rintro e w3 ⟨p, na, nc, ka, kc, l', e1, rfl, H3⟩
  go_wp2_with (refine al_zero rfl 25 rfl zer z25 ?_)
  intro gv w4 hgv Bv grv
  go_wp2_with (refine st_all rfl 25 (.tmp 6) (.tmp 12) rfl gv 25 zer (six p.1 na nc ka p.2.list.length kc) rfl rfl Bv rfl s25 (six_one _ _ _ _ _ _) ?_)
  intro w5 Bv' grv'
  have G5 : Hid (Below w3.heap.size w3 w5) := below_new grv hgv grv'
  obtain ⟨a', c', hb', hx'⟩ := H3.out.ro.rq.ex
  obtain ⟨sv, HSV⟩ : ∃ sv, Hid (sv = Value.slice a' l'.length c') := ⟨_, rfl⟩
  have hs1 : w1.heap.size < w2.heap.size := HBra.out.lt
  have hs3 : w2.heap.size ≤ w3.heap.size := H3.out.ro.gr.size
  have HBr : Hid (Blk w5 w1.heap.size 63 [sv, .int .i64 e1]) := by rw [HSV.out]; exact hb'.below G5.out hb'.lt
  have HB2 : Hid (Blk w5 g2 25 zer) := by
    have b2 : Blk w2 g2 25 zer := HB2a.out.below G2.out HB2a.out.lt
    have b3 : Blk w3 g2 25 zer := b2.kept H3.out.ro.gr (by intro c; injection c with c; omega)
    exact b3.below G5.out b3.lt
  have HBv : Hid (Blk w5 gv 25 (six p.1 na nc ka p.2.list.length kc)) := Bv'
  have GW : Hid (Below W.heap.size W w5) := by
    have h3 : Below W.heap.size W w3 := GW2a.out.grown H3.out.ro.gr GW2a.out.size (fun x e => by injection e with e; have := G1.out.size; omega)
    exact h3.trans (G5.out.mono h3.size)
  have HVl : Hid (∃ Lp, VlL w5 p na nc ka kc Lp ∧ ∀ x ∈ Lp, W.heap.size ≤ x ∧ x < w5.heap.size ∧ x ≠ g2 ∧ x ≠ w1.heap.size) := by
    obtain ⟨Lp, h1, h2⟩ := H3.out.vl
    refine ⟨Lp, h1.keep fun x hx => G5.out.block x (h2 x hx).2, fun x hx => ?_⟩
    have := h2 x hx
    have := G5.out.size
    have := G1.out.size
    omega
  have HWf : Hid (WfV p) := H3.out.wf
  have HFs : Hid ((e1 ≠ 0 → ∀ q j, Fst L q j e1) ∧ (e1 = 0 → ∃ j, l' = L.drop j ∧ j ≤ L.length ∧ l'.length = L.length - j ∧ Fst L p j (chkV p 1))) := fst_sq HA.out.2.1 H3.out.sq
  have hll : l'.length ≤ 1000000 := H3.out.ro.rq.len
  have hg2v : g2 ≠ gv := by omega
  have hg2r : g2 ≠ w1.heap.size := by omega
  have hgvr : gv ≠ w1.heap.size := by omega
  have hrl : W.heap.size ≤ w1.heap.size := G1.out.size
  clear Bv Bv' grv grv' G5 H3 HB2a HBra G1 G2 GW2a HA hs1 hs3 hb' hx' hr2
  generalize w1.heap.size = r at *
  have cs0 : w5.cell? ⟨r, 0, none⟩ = some (.slice a' l'.length c') := by rw [← HSV.out]; exact HBr.out.cell 0
  by_cases he1 : e1 = 0
  case neg =>
    have heb : (e1 == 0) = false := by simpa using he1
    have hen : (e1 != 0) = true := by simpa using he1
    have HD := rea_no (HFs.out.1 he1 p 0) he1
    obtain ⟨C, hC⟩ : ∃ C : World → Prop, C = fun w' => w'.cell? ⟨r, 1, none⟩ = some (.int .i64 e1) := ⟨_, rfl⟩
    have CN : Hid (∀ w', C w' → w'.cell? ⟨r, 1, none⟩ = some (.int .i64 e1)) := fun w' h => by rw [hC] at h; exact h
    have CI : Hid (∀ w', w'.cell? ⟨r, 1, none⟩ = some (.int .i64 e1) → C w') := fun w' h => by rw [hC]; exact h
    have D0 : Hid (Below w5.heap.size w5 { w5 with drawn := w5.drawn + 1 }) := Below.drew (Below.refl _ _)
    have C0 : Hid (C { w5 with drawn := w5.drawn + 1 }) := CI.out _ ((HBr.out.below D0.out HBr.out.lt).cell 1)
    have HB2v : Hid (Blk { w5 with drawn := w5.drawn + 1 } g2 25 zer) := HB2.out.below D0.out HB2.out.lt
    have HBrv : Hid (Blk { w5 with drawn := w5.drawn + 1 } r 63 [sv, .int .i64 e1]) := HBr.out.below D0.out HBr.out.lt
    have GWv : Hid (Below W.heap.size W { w5 with drawn := w5.drawn + 1 }) := GW.out.trans (D0.out.mono GW.out.size)
    have cr1 : w5.cell? ⟨r, 1, none⟩ = some (.int .i64 e1) := HBr.out.cell 1
    clear hC D0
    go_wp2
    clear cr1
    refine region_calm C 7 (by kernel_rfl) ?_
    have hCp : ∀ p : Prop, (∀ W, C W → p) ↔ p := fun p => ⟨fun h => h _ C0.out, fun h _ _ => h⟩
    generalize ({ w5 with drawn := w5.drawn + 1 } : World) = v0 at *
    refine seg 3 [0, 1, 2, 3, 4] rfl (by kernel_rfl) whole_blind C0.out (by kernel_rfl) ?_
    change wpQuiet _ _ _ _ (_ :: _ :: _ :: _ :: _ :: []) _
    repeat (first
      | go_big_quiet_skip
      | (go_big_quiet_want
         first
         | (refine q_nil (.tmp 49) rfl r 0 rfl ?_
            simp only [Act.put, List.setIfInBounds_toArray, List.set_cons_zero, List.set_cons_succ]
            go_big_quiet_on)
         | (refine q_fl2 (.tmp 50) rfl r rfl ?_
            simp only [Act.put, List.setIfInBounds_toArray, List.set_cons_zero, List.set_cons_succ]
            go_big_quiet_on)
         | (refine q_one 3 (.inl rfl) (.tmp 51) rfl r 1 rfl _ CN.out ?_
            simp only [Act.put, List.setIfInBounds_toArray, List.set_cons_zero, List.set_cons_succ]
            go_big_quiet_on)
         | (go_big_quiet_op
            go_big_quiet_on)))
    refine wpQuiet_nil ?_
    refine lone_do (i := 5) 2 rfl (by kernel_rfl) rfl (by rfl) ?_
    intro K hK
    refine oper_sta 25 (.tmp 2) (.tmp 48) rfl rfl g2 25 zer zer rfl rfl HB2v.out rfl s25 (by simp [zer, Value.oneCell']) ?_
    intro v3 b3 gr3
    have HB3 : Hid (Blk v3 g2 25 zer) := b3
    have HN : Hid (New1 W v3 noV none 0 none 0) := .none (GWv.out.grown gr3 GWv.out.size (fun x e => by injection e with e; omega))
    have c3 : C v3 := CI.out _ ((HBrv.out.kept gr3 (by intro c; injection c with c; omega)).cell 1)
    clear b3 gr3 HB2v HBrv GWv C0
    refine hK _ _ c3 ?_
    simp only [Act.put, List.setIfInBounds_toArray, List.set_cons_zero, List.set_cons_succ]
    have hCq : ∀ p : Prop, (∀ W, C W → p) ↔ p := fun p => ⟨fun h => h _ c3, fun h _ _ => h⟩
    refine lone_calm (i := 6) 1 rfl (by kernel_rfl) rfl rfl c3 ?_
    go_big_quiet_want
    go_big_quiet_op
    go_big_quiet_on
    refine wpQuiet_nil ?_
    refine lone_calm (i := 7) 0 rfl (by kernel_rfl) rfl rfl c3 ?_
    go_big_quiet_want
    go_big_quiet_op
    go_big_quiet_on
    refine wpQuiet_nil ?_
    refine anyC_done (by kernel_rfl) ⟨rfl, ?_⟩
    clear c3 hCq CN CI hCp
    go_wp2
    refine bodyPost_ret (res_three rfl _ g2 25 _ _ rfl HB3.out Try.underlying25 rfl s25) rfl ?_
    rw [HD.1, HD.2.1, HD.2.2]
    exact ⟨none, 0, none, 0, rfl, HN.out⟩
  subst he1
  obtain ⟨j, hj1, hj2, hj3, hF⟩ := HFs.out.2 rfl
  have HF : Hid (Fst L p j (chkV p 1)) := hF
  have HJ : Hid (l'.length = L.length - j) := hj3
  clear hj1 hF HFs hj3
  have KC := rCheck_any p HWf.out na nc ka kc w5 (by obtain ⟨Lp, a1, _⟩ := HVl.out; exact a1.vl)
  generalize chkV p 1 = E at *
  have t0 : w5.cell? ⟨gv, 0, none⟩ = some (.int .i64 p.1.k) := HBv.out.cell 0
  have t1 : w5.cell? ⟨gv, 1, none⟩ = some (.int .i64 p.1.n) := HBv.out.cell 1
  have t2 : w5.cell? ⟨gv, 2, none⟩ = some (.int .i64 p.1.s) := HBv.out.cell 2
  have t3 : w5.cell? ⟨gv, 3, none⟩ = some (.string p.1.t) := HBv.out.cell 3
  have t4 : w5.cell? ⟨gv, 4, none⟩ = some (.slice na p.1.ns.length nc) := HBv.out.cell 4
  have t5 : w5.cell? ⟨gv, 5, none⟩ = some (.slice ka p.2.list.length kc) := HBv.out.cell 5
  have cr1 : w5.cell? ⟨r, 1, none⟩ = some (.int .i64 0) := HBr.out.cell 1
  go_wp2_with fail
  refine KC.mono ?_
  clear KC t0 t1 t2 t3 t4 t5 cr1 cs0
  rintro e w6 ⟨rfl, b6⟩
  have HBrn : Hid (Blk w6 r 63 [sv, .int .i64 0]) := HBr.out.below b6 HBr.out.lt
  have HB2n : Hid (Blk w6 g2 25 zer) := HB2.out.below b6 HB2.out.lt
  have HBvn : Hid (Blk w6 gv 25 (six p.1 na nc ka p.2.list.length kc)) := HBv.out.below b6 HBv.out.lt
  have GWn : Hid (Below W.heap.size W w6) := GW.out.trans (b6.mono GW.out.size)
  have HVln : Hid (∃ Lp, VlL w6 p na nc ka kc Lp ∧ ∀ x ∈ Lp, W.heap.size ≤ x ∧ x < w6.heap.size ∧ x ≠ g2 ∧ x ≠ r) := by
    obtain ⟨Lp, a1, a2⟩ := HVl.out
    refine ⟨Lp, a1.keep fun x hx => b6.block x (a2 x hx).2.1, fun x hx => ?_⟩
    have := a2 x hx
    have := b6.size
    omega
  clear b6 HBr HB2 HBv GW HVl
  have HBr : Hid (Blk w6 r 63 [sv, .int .i64 0]) := HBrn.out
  have HB2 : Hid (Blk w6 g2 25 zer) := HB2n.out
  have HBv : Hid (Blk w6 gv 25 (six p.1 na nc ka p.2.list.length kc)) := HBvn.out
  have GW : Hid (Below W.heap.size W w6) := GWn.out
  have HVl : Hid (∃ Lp, VlL w6 p na nc ka kc Lp ∧ ∀ x ∈ Lp, W.heap.size ≤ x ∧ x < w6.heap.size ∧ x ≠ g2 ∧ x ≠ r) := HVln.out
  clear HBrn HB2n HBvn GWn HVln
  go_wp2_with (refine st_one rfl 3 (.tmp 22) (.tmp 20) rfl r 1 63 _ (.int .i64 E) rfl rfl rfl rfl (by simp) HBr.out s3 ?_)
  intro w7 br gr
  have HBr2 : Hid (Blk w7 r 63 [sv, .int .i64 E]) := br
  have HB22 : Hid (Blk w7 g2 25 zer) := HB2.out.kept gr (by intro c; injection c with c; omega)
  have HBv2 : Hid (Blk w7 gv 25 (six p.1 na nc ka p.2.list.length kc)) := HBv.out.kept gr (by intro c; injection c with c; omega)
  have GW2 : Hid (Below W.heap.size W w7) := GW.out.grown gr GW.out.size (fun x e => by injection e with e; omega)
  have HVl2 : Hid (∃ Lp, VlL w7 p na nc ka kc Lp ∧ ∀ x ∈ Lp, W.heap.size ≤ x ∧ x < w7.heap.size ∧ x ≠ g2 ∧ x ≠ r) := by
    obtain ⟨Lp, a1, a2⟩ := HVl.out
    refine ⟨Lp, a1.keep fun x hx => ?_, fun x hx => ?_⟩
    · have := a2 x hx
      exact gr.block x this.2.1 (by intro c; injection c with c; omega)
    · have := a2 x hx
      have := gr.size
      omega
  clear br gr HBr HB2 HBv GW HVl
  have HBr : Hid (Blk w7 r 63 [sv, .int .i64 E]) := HBr2.out
  have HB2 : Hid (Blk w7 g2 25 zer) := HB22.out
  have HBv : Hid (Blk w7 gv 25 (six p.1 na nc ka p.2.list.length kc)) := HBv2.out
  have GW : Hid (Below W.heap.size W w7) := GW2.out
  have HVl : Hid (∃ Lp, VlL w7 p na nc ka kc Lp ∧ ∀ x ∈ Lp, W.heap.size ≤ x ∧ x < w7.heap.size ∧ x ≠ g2 ∧ x ≠ r) := HVl2.out
  clear HBr2 HB22 HBv2 GW2 HVl2
  have cs0 : w7.cell? ⟨r, 0, none⟩ = some (.slice a' l'.length c') := by rw [← HSV.out]; exact HBr.out.cell 0
  by_cases hE : E = 0
  case neg =>
    have heb : (E == 0) = false := by simpa using hE
    have hen : (E != 0) = true := by simpa using hE
    have HD := rea_no HF.out hE
    obtain ⟨C, hC⟩ : ∃ C : World → Prop, C = fun w' => w'.cell? ⟨r, 1, none⟩ = some (.int .i64 E) := ⟨_, rfl⟩
    have CN : Hid (∀ w', C w' → w'.cell? ⟨r, 1, none⟩ = some (.int .i64 E)) := fun w' h => by rw [hC] at h; exact h
    have CI : Hid (∀ w', w'.cell? ⟨r, 1, none⟩ = some (.int .i64 E) → C w') := fun w' h => by rw [hC]; exact h
    have D0 : Hid (Below w7.heap.size w7 { w7 with drawn := w7.drawn + 1 }) := Below.drew (Below.refl _ _)
    have C0 : Hid (C { w7 with drawn := w7.drawn + 1 }) := CI.out _ ((HBr.out.below D0.out HBr.out.lt).cell 1)
    have HB2v : Hid (Blk { w7 with drawn := w7.drawn + 1 } g2 25 zer) := HB2.out.below D0.out HB2.out.lt
    have HBrv : Hid (Blk { w7 with drawn := w7.drawn + 1 } r 63 [sv, .int .i64 E]) := HBr.out.below D0.out HBr.out.lt
    have GWv : Hid (Below W.heap.size W { w7 with drawn := w7.drawn + 1 }) := GW.out.trans (D0.out.mono GW.out.size)
    have cr1 : w7.cell? ⟨r, 1, none⟩ = some (.int .i64 E) := HBr.out.cell 1
    clear hC D0
    go_wp2
    clear cr1
    refine region_calm C 7 (by kernel_rfl) ?_
    have hCp : ∀ p : Prop, (∀ W, C W → p) ↔ p := fun p => ⟨fun h => h _ C0.out, fun h _ _ => h⟩
    generalize ({ w7 with drawn := w7.drawn + 1 } : World) = v0 at *
    refine seg 3 [0, 1, 2, 3, 4] rfl (by kernel_rfl) whole_blind C0.out (by kernel_rfl) ?_
    change wpQuiet _ _ _ _ (_ :: _ :: _ :: _ :: _ :: []) _
    repeat (first
      | go_big_quiet_skip
      | (go_big_quiet_want
         first
         | (refine q_nil (.tmp 49) rfl r 0 rfl ?_
            simp only [Act.put, List.setIfInBounds_toArray, List.set_cons_zero, List.set_cons_succ]
            go_big_quiet_on)
         | (refine q_fl2 (.tmp 50) rfl r rfl ?_
            simp only [Act.put, List.setIfInBounds_toArray, List.set_cons_zero, List.set_cons_succ]
            go_big_quiet_on)
         | (refine q_one 3 (.inl rfl) (.tmp 51) rfl r 1 rfl _ CN.out ?_
            simp only [Act.put, List.setIfInBounds_toArray, List.set_cons_zero, List.set_cons_succ]
            go_big_quiet_on)
         | (go_big_quiet_op
            go_big_quiet_on)))
    refine wpQuiet_nil ?_
    refine lone_do (i := 5) 2 rfl (by kernel_rfl) rfl (by rfl) ?_
    intro K hK
    refine oper_sta 25 (.tmp 2) (.tmp 48) rfl rfl g2 25 zer zer rfl rfl HB2v.out rfl s25 (by simp [zer, Value.oneCell']) ?_
    intro v3 b3 gr3
    have HB3 : Hid (Blk v3 g2 25 zer) := b3
    have HN : Hid (New1 W v3 noV none 0 none 0) := .none (GWv.out.grown gr3 GWv.out.size (fun x e => by injection e with e; omega))
    have c3 : C v3 := CI.out _ ((HBrv.out.kept gr3 (by intro c; injection c with c; omega)).cell 1)
    clear b3 gr3 HB2v HBrv GWv C0
    refine hK _ _ c3 ?_
    simp only [Act.put, List.setIfInBounds_toArray, List.set_cons_zero, List.set_cons_succ]
    have hCq : ∀ p : Prop, (∀ W, C W → p) ↔ p := fun p => ⟨fun h => h _ c3, fun h _ _ => h⟩
    refine lone_calm (i := 6) 1 rfl (by kernel_rfl) rfl rfl c3 ?_
    go_big_quiet_want
    go_big_quiet_op
    go_big_quiet_on
    refine wpQuiet_nil ?_
    refine lone_calm (i := 7) 0 rfl (by kernel_rfl) rfl rfl c3 ?_
    go_big_quiet_want
    go_big_quiet_op
    go_big_quiet_on
    refine wpQuiet_nil ?_
    refine anyC_done (by kernel_rfl) ⟨rfl, ?_⟩
    clear c3 hCq CN CI hCp
    go_wp2
    refine bodyPost_ret (res_three rfl _ g2 25 _ _ rfl HB3.out Try.underlying25 rfl s25) rfl ?_
    rw [HD.1, HD.2.1, HD.2.2]
    exact ⟨none, 0, none, 0, rfl, HN.out⟩
  subst hE
  have cr1 : w7.cell? ⟨r, 1, none⟩ = some (.int .i64 0) := HBr.out.cell 1
  have hsub : (L.length : Int) - (l'.length : Int) = (j : Int) := by have := HJ.out; omega
  by_cases hl : 65536 < j
  · have hlb : decide ((65536 : Int) < (j : Int)) = true := decide_eq_true (by omega)
    go_wp2_with (refine st_one rfl 3 (.tmp 42) (.const (.int .i64 5)) rfl r 1 63 _ (.int .i64 5) rfl rfl rfl rfl (by simp) HBr.out s3 ?_)
    intro w8 br gr
    have HBr2 : Hid (Blk w8 r 63 [sv, .int .i64 5]) := br
    have HB22 : Hid (Blk w8 g2 25 zer) := HB2.out.kept gr (by intro c; injection c with c; omega)
    have HBv2 : Hid (Blk w8 gv 25 (six p.1 na nc ka p.2.list.length kc)) := HBv.out.kept gr (by intro c; injection c with c; omega)
    have GW2 : Hid (Below W.heap.size W w8) := GW.out.grown gr GW.out.size (fun x e => by injection e with e; omega)
    have HVl2 : Hid (∃ Lp, VlL w8 p na nc ka kc Lp ∧ ∀ x ∈ Lp, W.heap.size ≤ x ∧ x < w8.heap.size ∧ x ≠ g2 ∧ x ≠ r) := by
      obtain ⟨Lp, a1, a2⟩ := HVl.out
      refine ⟨Lp, a1.keep fun x hx => ?_, fun x hx => ?_⟩
      · have := a2 x hx
        exact gr.block x this.2.1 (by intro c; injection c with c; omega)
      · have := a2 x hx
        have := gr.size
        omega
    clear cr1 cs0 br gr HBr HB2 HBv GW HVl
    have HBr : Hid (Blk w8 r 63 [sv, .int .i64 5]) := HBr2.out
    have HB2 : Hid (Blk w8 g2 25 zer) := HB22.out
    have HBv : Hid (Blk w8 gv 25 (six p.1 na nc ka p.2.list.length kc)) := HBv2.out
    have GW : Hid (Below W.heap.size W w8) := GW2.out
    have HVl : Hid (∃ Lp, VlL w8 p na nc ka kc Lp ∧ ∀ x ∈ Lp, W.heap.size ≤ x ∧ x < w8.heap.size ∧ x ≠ g2 ∧ x ≠ r) := HVl2.out
    clear HBr2 HB22 HBv2 GW2 HVl2
    have HD := rea_long HF.out hj2 hl
    obtain ⟨C, hC⟩ : ∃ C : World → Prop, C = fun w' => w'.cell? ⟨r, 1, none⟩ = some (.int .i64 5) := ⟨_, rfl⟩
    have CN : Hid (∀ w', C w' → w'.cell? ⟨r, 1, none⟩ = some (.int .i64 5)) := fun w' h => by rw [hC] at h; exact h
    have CI : Hid (∀ w', w'.cell? ⟨r, 1, none⟩ = some (.int .i64 5) → C w') := fun w' h => by rw [hC]; exact h
    have D0 : Hid (Below w8.heap.size w8 { w8 with drawn := w8.drawn + 1 }) := Below.drew (Below.refl _ _)
    have C0 : Hid (C { w8 with drawn := w8.drawn + 1 }) := CI.out _ ((HBr.out.below D0.out HBr.out.lt).cell 1)
    have HB2v : Hid (Blk { w8 with drawn := w8.drawn + 1 } g2 25 zer) := HB2.out.below D0.out HB2.out.lt
    have HBrv : Hid (Blk { w8 with drawn := w8.drawn + 1 } r 63 [sv, .int .i64 5]) := HBr.out.below D0.out HBr.out.lt
    have GWv : Hid (Below W.heap.size W { w8 with drawn := w8.drawn + 1 }) := GW.out.trans (D0.out.mono GW.out.size)
    have cr1 : w8.cell? ⟨r, 1, none⟩ = some (.int .i64 5) := HBr.out.cell 1
    clear hC D0
    go_wp2
    clear cr1
    refine region_calm C 7 (by kernel_rfl) ?_
    have hCp : ∀ p : Prop, (∀ W, C W → p) ↔ p := fun p => ⟨fun h => h _ C0.out, fun h _ _ => h⟩
    generalize ({ w8 with drawn := w8.drawn + 1 } : World) = v0 at *
    refine seg 3 [0, 1, 2, 3, 4] rfl (by kernel_rfl) whole_blind C0.out (by kernel_rfl) ?_
    change wpQuiet _ _ _ _ (_ :: _ :: _ :: _ :: _ :: []) _
    repeat (first
      | go_big_quiet_skip
      | (go_big_quiet_want
         first
         | (refine q_nil (.tmp 49) rfl r 0 rfl ?_
            simp only [Act.put, List.setIfInBounds_toArray, List.set_cons_zero, List.set_cons_succ]
            go_big_quiet_on)
         | (refine q_fl2 (.tmp 50) rfl r rfl ?_
            simp only [Act.put, List.setIfInBounds_toArray, List.set_cons_zero, List.set_cons_succ]
            go_big_quiet_on)
         | (refine q_one 3 (.inl rfl) (.tmp 51) rfl r 1 rfl _ CN.out ?_
            simp only [Act.put, List.setIfInBounds_toArray, List.set_cons_zero, List.set_cons_succ]
            go_big_quiet_on)
         | (go_big_quiet_op
            go_big_quiet_on)))
    refine wpQuiet_nil ?_
    refine lone_do (i := 5) 2 rfl (by kernel_rfl) rfl (by rfl) ?_
    intro K hK
    refine oper_sta 25 (.tmp 2) (.tmp 48) rfl rfl g2 25 zer zer rfl rfl HB2v.out rfl s25 (by simp [zer, Value.oneCell']) ?_
    intro v3 b3 gr3
    have HB3 : Hid (Blk v3 g2 25 zer) := b3
    have HN : Hid (New1 W v3 noV none 0 none 0) := .none (GWv.out.grown gr3 GWv.out.size (fun x e => by injection e with e; omega))
    have c3 : C v3 := CI.out _ ((HBrv.out.kept gr3 (by intro c; injection c with c; omega)).cell 1)
    clear b3 gr3 HB2v HBrv GWv C0
    refine hK _ _ c3 ?_
    simp only [Act.put, List.setIfInBounds_toArray, List.set_cons_zero, List.set_cons_succ]
    have hCq : ∀ p : Prop, (∀ W, C W → p) ↔ p := fun p => ⟨fun h => h _ c3, fun h _ _ => h⟩
    refine lone_calm (i := 6) 1 rfl (by kernel_rfl) rfl rfl c3 ?_
    go_big_quiet_want
    go_big_quiet_op
    go_big_quiet_on
    refine wpQuiet_nil ?_
    refine lone_calm (i := 7) 0 rfl (by kernel_rfl) rfl rfl c3 ?_
    go_big_quiet_want
    go_big_quiet_op
    go_big_quiet_on
    refine wpQuiet_nil ?_
    refine anyC_done (by kernel_rfl) ⟨rfl, ?_⟩
    clear c3 hCq CN CI hCp
    go_wp2
    refine bodyPost_ret (res_three rfl _ g2 25 _ _ rfl HB3.out Try.underlying25 rfl s25) rfl ?_
    rw [HD.1, HD.2.1, HD.2.2]
    exact ⟨none, 0, none, 0, rfl, HN.out⟩
  have hlb : decide ((65536 : Int) < (j : Int)) = false := decide_eq_false (by omega)
  have t0 : w7.cell? ⟨gv, 0, none⟩ = some (.int .i64 p.1.k) := HBv.out.cell 0
  have t1 : w7.cell? ⟨gv, 1, none⟩ = some (.int .i64 p.1.n) := HBv.out.cell 1
  have t2 : w7.cell? ⟨gv, 2, none⟩ = some (.int .i64 p.1.s) := HBv.out.cell 2
  have t3 : w7.cell? ⟨gv, 3, none⟩ = some (.string p.1.t) := HBv.out.cell 3
  have t4 : w7.cell? ⟨gv, 4, none⟩ = some (.slice na p.1.ns.length nc) := HBv.out.cell 4
  have t5 : w7.cell? ⟨gv, 5, none⟩ = some (.slice ka p.2.list.length kc) := HBv.out.cell 5
  go_wp2_with (refine st_all rfl 25 (.tmp 2) (.tmp 53) rfl g2 25 zer (six p.1 na nc ka p.2.list.length kc) rfl rfl HB2.out rfl s25 (six_one _ _ _ _ _ _) ?_)
  intro w9 B9 gr9
  have HN : Hid (New1 W w9 p na nc ka kc) := by
    obtain ⟨Lp, a1, a2⟩ := HVl.out
    refine ⟨⟨Lp, a1.keep fun x hx => ?_, fun x hx => ?_⟩, HWf.out, GW.out.grown gr9 GW.out.size (fun x e => by injection e with e; omega)⟩
    · have := a2 x hx
      exact gr9.block x this.2.1 (by intro c; injection c with c; omega)
    · have := a2 x hx
      have := gr9.size
      omega
  have HB9 : Hid (Blk w9 g2 25 (six p.1 na nc ka p.2.list.length kc)) := B9
  clear B9 gr9 t0 t1 t2 t3 t4 t5
  have HD := rea_yes HF.out hj2 hl
  go_wp2
  refine bodyPost_ret (res_three rfl _ g2 25 _ _ rfl HB9.out Try.underlying25 rfl s25) rfl ?_
  rw [HD.1, HD.2.1, HD.2.2]
  exact ⟨na, nc, ka, kc, rfl, HN.out⟩
end Go.Proofs.Ytimddoaejldgaaa
namespace Go.Proofs.Ytimddoaejldgaaa
open Go.RowKit Go.ChangeShapes Go.WideShapes Math
set_option linter.unusedVariables false
set_option linter.unusedSimpArgs false
theorem roomy_cap (a0 : Option Addr) (cap : Nat) (l : List Nat) (hn : l.length ≤ 3000) (w : World) (hc : Byt w a0 l) (hnil : a0 = none → cap = 0) :
    Calls Try.prog 17 #[.slice a0 l.length cap] w fun e w' => ∃ g c, e = .returned (.slice (some ⟨g, 0, none⟩) (l.length + 1) c) ∧ w.heap.size ≤ g ∧ l.length + 1 ≤ c ∧ c ≤ 9223372036854775807 ∧ Hid (Cells w' g 0 (l ++ [171]) ∧ Below w.heap.size w w') := by
  have b0 : Below w.heap.size w (w.alloc (.cells #[] 5)) := (Below.refl _ _).alloc (Nat.le_refl _) _
  have hc0 := hc.below b0
  have oe := own_empty w _ (Nat.le_refl _)
  clear hc
  go_enter Try.func17, Try.ntmps17
  go_wp2_with (at_builtin; go_must (refine app_bytes rfl (.tmp 3) (.tmp 4) rfl w.heap.size _ [] rfl oe a0 _ cap l rfl rfl hc0 hnil (by simp; omega) (by simp) ?_))
  intro v1 w1 o1 g1
  have b1 := below_app b0 (by simp) oe g1
  have s1 := b1.size
  clear g1 b0 oe hc0
  go_wp2_with (at_builtin; go_must (refine app_bytes rfl (.tmp 5) (.tmp 6) rfl w.heap.size _ l rfl (o1.alloc _) _ _ _ [171] rfl rfl (byt_lit w1 [171]) (by simp) (by simp; omega) (by simp; omega) ?_))
  intro v2 w2 o2 g2
  have b2 := below_app (b1.alloc s1 _) (by simp; omega) (o1.alloc _) g2
  have s2 := b2.size
  clear g2 b1 s1 o1
  go_wp2_with (at_builtin; go_must (refine app_bytes rfl (.tmp 7) (.tmp 8) rfl w.heap.size _ (l ++ [171]) rfl (o2.alloc _) _ _ _ [171] rfl rfl (byt_lit w2 [171]) (by simp) (by simp; omega) (by simp; omega) ?_))
  intro v3 w3 o3 g3
  have b3 := below_app (b2.alloc s2 _) (by simp; omega) (o2.alloc _) g3
  clear g3 b2 s2 o2
  obtain ⟨g, c, rfl, hg, _, hlc, hcm, hcell⟩ := o3.form (by simp)
  have hle : l.length + 1 ≤ c := by simp at hlc; omega
  have hle' : (l.length : Int) + 1 ≤ (c : Int) := by omega
  unfold maxLen at hcm
  have HC : Hid (Cells w3 g 0 (l ++ [171])) := Cells.left (m := [171]) (by simpa using hcell)
  clear hcell o3 hlc
  go_wp2
  go_ret
  exact ⟨g, c, rfl, hg, hle, by omega, HC.out, b3⟩
set_option maxRecDepth 8000 in
set_option maxHeartbeats 3000000 in
theorem decodes_walk (ab : Option Addr) (cb : Nat) (l : List Nat) (hcap : l.length ≤ cb) (hcm : cb ≤ 9223372036854775807) (hnil : ab = none → cb = 0) (hO : Oct l) (W : World) (hB : Byt W ab l) :
    Calls Try.prog 4 #[.slice ab l.length cb] W fun e w' => e = .returned (.bool true) ∧ Below W.heap.size W w' := by
  have HB : Hid (Byt W ab l) := hB
  have HO : Hid (Oct l) := hO
  have HNl : Hid (ab = none → cb = 0) := hnil
  clear hB hO hnil
  by_cases hbig : 3000 < l.length
  · have hbb : decide ((3000 : Int) < (l.length : Int)) = true := decide_eq_true (by omega)
    go_enter Try.func4, Try.ntmps4
    go_wp2
    go_ret
    exact ⟨rfl, Below.refl _ _⟩
  have hbb : decide ((3000 : Int) < (l.length : Int)) = false := decide_eq_false (by omega)
  have KR := roomy_cap ab cb l (by omega) W HB.out HNl.out
  go_enter Try.func4, Try.ntmps4
  go_wp2_with fail
  refine KR.mono ?_
  clear KR
  rintro e w1 ⟨g, c, rfl, hg, hle, hcc, H1⟩
  have HC : Hid (Cells w1 g 0 (l ++ [171])) := H1.out.1
  have T1 : Hid (Below W.heap.size W w1) := H1.out.2
  have HBw : Hid (Byt w1 (some ⟨g, 0, none⟩) l) := .inr ⟨g, 0, rfl, HC.out.left⟩
  have hlc : l.length ≤ c := by omega
  clear H1
  have VL : Hid (ValL l) := valL_any (sm_short (by omega))
  have KD := decode_any l VL.out (some ⟨g, 0, none⟩) c w1 HBw.out HO.out (by omega) hlc hcc (by intro h; cases h)
  have KD2 := fun w (h : Byt w ab l) => rdecode_any l ab cb w h HO.out (by omega) hcap hcm HNl.out
  have KE := fun w (h : Byt w (some ⟨g, 0, none⟩) l) => read_any l VL.out (some ⟨g, 0, none⟩) c w h HO.out (by omega) hlc hcc (by intro h; cases h)
  have KE2 := fun w (h : Byt w ab l) => rread_any l ab cb w h HO.out (by omega) hcap hcm HNl.out
  have HK2 : Hid (∀ w (h : Byt w ab l), _) := KD2
  have HK3 : Hid (∀ w (h : Byt w (some ⟨g, 0, none⟩) l), _) := KE
  have HK4 : Hid (∀ w (h : Byt w ab l), _) := KE2
  clear KD2 KE KE2
  generalize decE l = E at *
  generalize decP l = p at *
  generalize reaE l = F at *
  generalize reaN l = n at *
  generalize reaP l = q at *
  go_wp2_with (first | (refine sl_to rfl 29 (.tmp 20) (.tmp 22) rfl 5 Try.underlying29 1 sz5 (some ⟨g, 0, none⟩) (l.length + 1) c l.length _ rfl rfl rfl hlc ?_) | fail)
  refine KD.mono ?_
  clear KD
  rintro e w2 ⟨na4, nc4, ka4, kc4, rfl, H4⟩
  go_wp2_with (refine al_zero rfl 25 rfl zer z25 ?_)
  intro g4 x4 hg4 B4 gr4
  go_wp2_with (refine st_all rfl 25 (.tmp 4) (.tmp 25) rfl g4 25 zer (six p.1 na4 nc4 ka4 p.2.list.length kc4) rfl rfl B4 rfl s25 (six_one _ _ _ _ _ _) ?_)
  intro y4 C4 gs4
  have G4 : Hid (Below w2.heap.size w2 y4) := below_new gr4 hg4 gs4
  have T4 : Hid (Below w1.heap.size w1 y4) := H4.out.bl.trans (G4.out.mono H4.out.bl.size)
  have HV4 : Hid (Vl y4 p na4 nc4 ka4 kc4) := by
    obtain ⟨Lp, a1, _⟩ := H4.out.vl
    exact a1.vl.below G4.out
  have HB4 : Hid (Blk y4 g4 25 (six p.1 na4 nc4 ka4 p.2.list.length kc4)) := C4
  have HW4 : Hid (WfV p) := H4.out.wf
  clear B4 gr4 C4 gs4 G4 H4
  have T14 : Hid (Below W.heap.size W y4) := T1.out.trans (T4.out.mono T1.out.size)
  have KD2 := HK2.out y4 (HB.out.below T14.out)
  clear HK2
  go_wp2_with fail
  refine KD2.mono ?_
  clear KD2
  rintro e w3 ⟨na6, nc6, ka6, kc6, rfl, H6⟩
  go_wp2_with (refine al_zero rfl 25 rfl zer z25 ?_)
  intro g6 x6 hg6 B6 gr6
  go_wp2_with (refine st_all rfl 25 (.tmp 6) (.tmp 30) rfl g6 25 zer (six p.1 na6 nc6 ka6 p.2.list.length kc6) rfl rfl B6 rfl s25 (six_one _ _ _ _ _ _) ?_)
  intro y6 C6 gs6
  have G6 : Hid (Below w3.heap.size w3 y6) := below_new gr6 hg6 gs6
  have T6 : Hid (Below y4.heap.size y4 y6) := H6.out.bl.trans (G6.out.mono H6.out.bl.size)
  have HV6 : Hid (Vl y6 p na6 nc6 ka6 kc6) := by
    obtain ⟨Lp, a1, _⟩ := H6.out.vl
    exact a1.vl.below G6.out
  have HB6 : Hid (Blk y6 g6 25 (six p.1 na6 nc6 ka6 p.2.list.length kc6)) := C6
  clear B6 gr6 C6 gs6 G6 H6
  have T16 : Hid (Below W.heap.size W y6) := T14.out.trans (T6.out.mono T14.out.size)
  have KE := HK3.out y6 ((HBw.out.below T4.out).below T6.out)
  clear HK3
  go_wp2_with (first | (refine sl_to rfl 29 (.tmp 33) (.tmp 35) rfl 5 Try.underlying29 1 sz5 (some ⟨g, 0, none⟩) (l.length + 1) c l.length _ rfl rfl rfl hlc ?_) | fail)
  refine KE.mono ?_
  clear KE
  rintro e w5 ⟨na8, nc8, ka8, kc8, rfl, H8⟩
  go_wp2_with (refine al_zero rfl 25 rfl zer z25 ?_)
  intro g8 x8 hg8 B8 gr8
  go_wp2_with (refine st_all rfl 25 (.tmp 8) (.tmp 38) rfl g8 25 zer (six q.1 na8 nc8 ka8 q.2.list.length kc8) rfl rfl B8 rfl s25 (six_one _ _ _ _ _ _) ?_)
  intro y8 C8 gs8
  have G8 : Hid (Below w5.heap.size w5 y8) := below_new gr8 hg8 gs8
  have T8 : Hid (Below y6.heap.size y6 y8) := H8.out.bl.trans (G8.out.mono H8.out.bl.size)
  have HV8 : Hid (Vl y8 q na8 nc8 ka8 kc8) := by
    obtain ⟨Lp, a1, _⟩ := H8.out.vl
    exact a1.vl.below G8.out
  have HB8 : Hid (Blk y8 g8 25 (six q.1 na8 nc8 ka8 q.2.list.length kc8)) := C8
  have HW8 : Hid (WfV q) := H8.out.wf
  clear B8 gr8 C8 gs8 G8 H8
  have T18 : Hid (Below W.heap.size W y8) := T16.out.trans (T8.out.mono T16.out.size)
  have KE2 := HK4.out y8 (HB.out.below T18.out)
  clear HK4
  go_wp2_with fail
  refine KE2.mono ?_
  clear KE2
  rintro e w6 ⟨na11, nc11, ka11, kc11, rfl, H11⟩
  go_wp2_with (refine al_zero rfl 25 rfl zer z25 ?_)
  intro g11 x11 hg11 B11 gr11
  go_wp2_with (refine st_all rfl 25 (.tmp 11) (.tmp 44) rfl g11 25 zer (six q.1 na11 nc11 ka11 q.2.list.length kc11) rfl rfl B11 rfl s25 (six_one _ _ _ _ _ _) ?_)
  intro y11 C11 gs11
  have G11 : Hid (Below w6.heap.size w6 y11) := below_new gr11 hg11 gs11
  have T11 : Hid (Below y8.heap.size y8 y11) := H11.out.bl.trans (G11.out.mono H11.out.bl.size)
  have HV11 : Hid (Vl y11 q na11 nc11 ka11 kc11) := by
    obtain ⟨Lp, a1, _⟩ := H11.out.vl
    exact a1.vl.below G11.out
  have HB11 : Hid (Blk y11 g11 25 (six q.1 na11 nc11 ka11 q.2.list.length kc11)) := C11
  clear B11 gr11 C11 gs11 G11 H11
  have T111 : Hid (Below W.heap.size W y11) := T18.out.trans (T11.out.mono T18.out.size)
  have T68 : Hid (Below y6.heap.size y6 y11) := T8.out.trans (T11.out.mono T8.out.size)
  have T4e : Hid (Below y4.heap.size y4 y11) := T6.out.trans (T68.out.mono T6.out.size)
  have HB4e : Hid (Blk y11 g4 25 (six p.1 na4 nc4 ka4 p.2.list.length kc4)) := HB4.out.below T4e.out HB4.out.lt
  have HB6e : Hid (Blk y11 g6 25 (six p.1 na6 nc6 ka6 p.2.list.length kc6)) := HB6.out.below T68.out HB6.out.lt
  have HB8e : Hid (Blk y11 g8 25 (six q.1 na8 nc8 ka8 q.2.list.length kc8)) := HB8.out.below T11.out HB8.out.lt
  have HCe : Hid (Cells y11 g 0 (l ++ [171])) := (HC.out.below T4.out).below T4e.out
  have HWf : Hid (WfV p ∧ WfV q) := ⟨HW4.out, HW8.out⟩
  have KQ := equal_any _ p (Nat.le_refl _) HWf.out.1 p HWf.out.1 na4 nc4 ka4 kc4 na6 nc6 ka6 kc6 y11 (HV4.out.below T4e.out) (HV6.out.below T68.out)
  have c0 : y11.cell? ⟨g4, 0, none⟩ = some (.int .i64 p.1.k) := HB4e.out.cell 0
  have c1 : y11.cell? ⟨g4, 1, none⟩ = some (.int .i64 p.1.n) := HB4e.out.cell 1
  have c2 : y11.cell? ⟨g4, 2, none⟩ = some (.int .i64 p.1.s) := HB4e.out.cell 2
  have c3 : y11.cell? ⟨g4, 3, none⟩ = some (.string p.1.t) := HB4e.out.cell 3
  have c4 : y11.cell? ⟨g4, 4, none⟩ = some (.slice na4 p.1.ns.length nc4) := HB4e.out.cell 4
  have c5 : y11.cell? ⟨g4, 5, none⟩ = some (.slice ka4 p.2.list.length kc4) := HB4e.out.cell 5
  have d0 : y11.cell? ⟨g6, 0, none⟩ = some (.int .i64 p.1.k) := HB6e.out.cell 0
  have d1 : y11.cell? ⟨g6, 1, none⟩ = some (.int .i64 p.1.n) := HB6e.out.cell 1
  have d2 : y11.cell? ⟨g6, 2, none⟩ = some (.int .i64 p.1.s) := HB6e.out.cell 2
  have d3 : y11.cell? ⟨g6, 3, none⟩ = some (.string p.1.t) := HB6e.out.cell 3
  have d4 : y11.cell? ⟨g6, 4, none⟩ = some (.slice na6 p.1.ns.length nc6) := HB6e.out.cell 4
  have d5 : y11.cell? ⟨g6, 5, none⟩ = some (.slice ka6 p.2.list.length kc6) := HB6e.out.cell 5
  go_wp2_with fail
  refine KQ.mono ?_
  clear KQ c0 c1 c2 c3 c4 c5 d0 d1 d2 d3 d4 d5
  rintro e z1 ⟨t1, rfl, Hz1⟩
  obtain rfl : t1 = true := Hz1.out.1.2 (by first | rfl | trivial)
  have TZ1 : Hid (Below y11.heap.size y11 z1) := Hz1.out.2
  have HB8z : Hid (Blk z1 g8 25 (six q.1 na8 nc8 ka8 q.2.list.length kc8)) := HB8e.out.below TZ1.out HB8e.out.lt
  have HB11z : Hid (Blk z1 g11 25 (six q.1 na11 nc11 ka11 q.2.list.length kc11)) := HB11.out.below TZ1.out HB11.out.lt
  have KQ := equal_any _ q (Nat.le_refl _) HWf.out.2 q HWf.out.2 na8 nc8 ka8 kc8 na11 nc11 ka11 kc11 z1 ((HV8.out.below T11.out).below TZ1.out) (HV11.out.below TZ1.out)
  clear Hz1
  have c0 : z1.cell? ⟨g8, 0, none⟩ = some (.int .i64 q.1.k) := HB8z.out.cell 0
  have c1 : z1.cell? ⟨g8, 1, none⟩ = some (.int .i64 q.1.n) := HB8z.out.cell 1
  have c2 : z1.cell? ⟨g8, 2, none⟩ = some (.int .i64 q.1.s) := HB8z.out.cell 2
  have c3 : z1.cell? ⟨g8, 3, none⟩ = some (.string q.1.t) := HB8z.out.cell 3
  have c4 : z1.cell? ⟨g8, 4, none⟩ = some (.slice na8 q.1.ns.length nc8) := HB8z.out.cell 4
  have c5 : z1.cell? ⟨g8, 5, none⟩ = some (.slice ka8 q.2.list.length kc8) := HB8z.out.cell 5
  have d0 : z1.cell? ⟨g11, 0, none⟩ = some (.int .i64 q.1.k) := HB11z.out.cell 0
  have d1 : z1.cell? ⟨g11, 1, none⟩ = some (.int .i64 q.1.n) := HB11z.out.cell 1
  have d2 : z1.cell? ⟨g11, 2, none⟩ = some (.int .i64 q.1.s) := HB11z.out.cell 2
  have d3 : z1.cell? ⟨g11, 3, none⟩ = some (.string q.1.t) := HB11z.out.cell 3
  have d4 : z1.cell? ⟨g11, 4, none⟩ = some (.slice na11 q.1.ns.length nc11) := HB11z.out.cell 4
  have d5 : z1.cell? ⟨g11, 5, none⟩ = some (.slice ka11 q.2.list.length kc11) := HB11z.out.cell 5
  go_wp2_with fail
  refine KQ.mono ?_
  clear KQ c0 c1 c2 c3 c4 c5 d0 d1 d2 d3 d4 d5
  rintro e z2 ⟨t2, rfl, Hz2⟩
  obtain rfl : t2 = true := Hz2.out.1.2 (by first | rfl | trivial)
  have TZ2 : Hid (Below y11.heap.size y11 z2) := TZ1.out.trans (Hz2.out.2.mono TZ1.out.size)
  clear Hz2
  have TW2 : Hid (Below W.heap.size W z2) := T111.out.trans (TZ2.out.mono T111.out.size)
  have KS := stands_any g c ab cb l (by omega) HO.out z2 hle (HCe.out.below TZ2.out) (HB.out.below TW2.out)
  go_wp2_with fail
  refine KS.mono ?_
  clear KS
  rintro e z3 ⟨rfl, nq, hq3⟩
  have TW3 : Hid (Below W.heap.size W z3) := by rw [hq3]; exact below_drewN TW2.out nq
  clear hq3
  have KK := known_any z3
  go_wp2_with fail
  refine KK.mono ?_
  clear KK
  rintro e z4 ⟨rfl, H8k⟩
  have TW4 : Hid (Below W.heap.size W z4) := TW3.out.trans (H8k.out.mono TW3.out.size)
  go_wp2
  go_ret
  exact ⟨rfl, TW4.out⟩
theorem bytes5 : Try.prog.bytesOf 5 = 1 := by kernel_rfl
theorem decodes_row (ab : Option Addr) (len cb : Nat) (zs : List Int) (W : World) (h : IsRow .u8 W ab len cb zs) (hcm : cb ≤ 140737488351232) :
    Calls Try.prog 4 #[.slice ab len cb] W fun e w' => e = .returned (.bool true) ∧ Below W.heap.size W w' := by
  obtain ⟨l, rfl, h1, h2, h3, _⟩ := row_byt h
  refine decodes_walk ab cb l ?_ (by omega) h3 h2 W h1
  rcases h with ⟨_, h, _, _⟩ | ⟨_, _, h, _⟩
  · omega
  · exact h
end Go.Proofs.Ytimddoaejldgaaa
