/-
  codec.readFirst, from what value answers at the beginning.
-/
import Derived.Test.YtmbglggodifboaaDoorSXh
namespace Go.Proofs.YtmbglggodifboaaDoor
open Go.RowKit Math
set_option linter.unusedVariables false
set_option linter.unusedSimpArgs false
theorem oper_two {o : Oper} {a : Act} {w : World} {K : Act → World → Prop} {Q : Exit → Act → World → Prop} (s t : Nat) (ho : o.op = .buildSlice 96 2 #[(0, .tmp s), (1, .tmp t)]) (m n : Int) (hx : a.tmps.getD s undef = .int .i64 m) (hy : a.tmps.getD t undef = .int .i64 n) (hK : K (a.put o.dst (.slice (some ⟨w.heap.size, 0, none⟩) 2 2)) (w.alloc (.cells #[.int .i64 m, .int .i64 n] 29))) : Oper.wp Tryd.prog o a w K Q := by
  have hx' : a.tmps[s]?.getD undef = .int .i64 m := by simpa using hx
  have hy' : a.tmps[t]?.getD undef = .int .i64 n := by simpa using hy
  unfold Oper.wp execOp
  simp only [ho]
  go_simp
  exact hK
theorem q_nil {C : World → Prop} {a : Act} {o : Oper} {K : Act → Prop} (x : Operand) (ho : o.op = .nilCheck x) (b k : Nat) (hx : a.eval x = .pointer (some ⟨b, k, none⟩))
    (hk : K (a.put o.dst (.pointer (some ⟨b, k, none⟩)))) : o.quiet Tryd.prog a C K :=
  ⟨_, fun w hw => by
    unfold Oper.quietAt execOp
    simp only [ho, hx]
    go_simp, hk⟩
theorem q_fld {C : World → Prop} {a : Act} {o : Oper} {K : Act → Prop} (i : Nat) (hi : i = 1 ∨ i = 2) (x : Operand) (ho : o.op = .fieldAddr 141 x i) (b : Nat) (hx : a.eval x = .pointer (some ⟨b, 0, none⟩))
    (hk : K (a.put o.dst (.pointer (some ⟨b, i, none⟩)))) : o.quiet Tryd.prog a C K :=
  ⟨_, fun w hw => by
    unfold Oper.quietAt execOp
    rcases hi with rfl | rfl <;> simp only [ho, hx] <;> go_simp, hk⟩
theorem res_three {P : Program} {w : World} {fn : Func} {p q s : Tmp} {ty : TypeId} (h : fn.results = #[.cell p ty, .tmp q, .tmp s]) (tmps : Array Value) (g : Nat) (t : TypeId) (cs : List Value) (d : TypeDesc)
    (hp : tmps.getD p undef = .pointer (some ⟨g, 0, none⟩)) (hg : Blk w g t cs) (hu : P.underlying ty = some d) (hd : d.isRow = true) (hi : (P.info? ty).map (·.size) = some cs.length) :
    (results fn tmps).run P w = .ok (.tuple #[.agg cs.toArray, tmps.getD q undef, tmps.getD s undef]) w := by
  have hp' : tmps[p]?.getD undef = .pointer (some ⟨g, 0, none⟩) := by simpa using hp
  simp [results, h, hp', asAddr, run_loadVar_row w g t ty cs.toArray (0, 0) d hg hu (by cases d <;> simp_all [TypeDesc.isRow]) (by simpa using hi)]
/-- What value answers at the beginning of these bytes. -/
def ValL (L : List Nat) : Prop := ∀ (w0 W : World) (r : Nat) (ab : Option Addr) (cb : Nat), En w0 W r ab cb L → Blk W r 141 [.slice ab L.length cb, .int .i64 0, .int .i64 0] →
  Calls Tryd.prog 83 #[.pointer (some ⟨r, 0, none⟩), .int .i64 1] W fun e w' => ∃ p na nc ka kc j err' rf, e = .returned (.tuple #[.agg #[.int .i64 p.1.k, .int .i64 p.1.n, .int .i64 p.1.s, .string p.1.t, .slice na p.1.ns.length nc, .slice ka p.2.list.length kc], .int .i64 rf]) ∧ Hid (Vo (rdV 16) r ab cb L W w' 0 0 p na nc ka kc j err' rf)
/-- What readFirst answers. -/
def Fst (L : List Nat) (p : Vt) (j : Nat) (E : Int) : Prop := (∃ e : Nat, rdV 16 L = .error e ∧ E = (e : Int) ∧ e ≠ 0) ∨ (rdV 16 L = .ok (p, L.drop j) ∧ j ≤ L.length ∧ E = chk0V p)
structure Fo1 (L : List Nat) (W w' : World) (p : Vt) (na : Option Addr) (nc : Nat) (ka : Option Addr) (kc j : Nat) (E : Int) : Prop where
  vl : ∃ Lp, VlL w' p na nc ka kc Lp ∧ ∀ x ∈ Lp, W.heap.size ≤ x ∧ x < w'.heap.size
  wf : WfV p
  fst : Fst L p j E
  bl : Below W.heap.size W w'
  le : j ≤ L.length
set_option maxRecDepth 8000 in
set_option maxHeartbeats 1000000 in
theorem first_any (L : List Nat) (V : ValL L) (ab : Option Addr) (cb : Nat) (W : World) (hB : Byt W ab L) (hO : Oct L) (hlen : L.length ≤ 1000000) (hcap : L.length ≤ cb) (hcm : cb ≤ 9223372036854775807) (hnil : ab = none → cb = 0) :
    Calls Tryd.prog 73 #[.slice ab L.length cb] W fun e w' => ∃ p na nc ka kc j E, e = .returned (.tuple #[.agg #[.int .i64 p.1.k, .int .i64 p.1.n, .int .i64 p.1.s, .string p.1.t, .slice na p.1.ns.length nc, .slice ka p.2.list.length kc], .int .i64 ((j : Nat) : Int), .int .i64 E]) ∧ Hid (Fo1 L W w' p na nc ka kc j E) := by
  have HA : Hid (Byt W ab L ∧ Oct L ∧ (ab = none → cb = 0)) := ⟨hB, hO, hnil⟩
  have HV : Hid (ValL L) := V
  clear hB hO hnil V
  go_enter Tryd.func73, Tryd.ntmps73
  go_wp2_with (refine al_zero rfl 39 rfl zer z25 ?_)
  intro g2 w1 hg2 B2 gr2
  have G1 : Hid (Below W.heap.size W w1) := (Below.refl _ _).grown gr2 (Nat.le_refl _) (fun k e => by cases e)
  have HB2 : Hid (Blk w1 g2 39 zer) := B2
  obtain ⟨w2, HW2⟩ : ∃ w2, Hid (w1.alloc (.cells #[.slice ab L.length cb, .int .i64 0, .int .i64 0] 141) = w2) := ⟨_, rfl⟩
  have HBr : Hid (Blk w2 w1.heap.size 141 [.slice ab L.length cb, .int .i64 0, .int .i64 0]) := by rw [← HW2.out]; exact blk_new w1 141 [.slice ab L.length cb, .int .i64 0, .int .i64 0]
  have G2 : Hid (Below w1.heap.size w1 w2) := by rw [← HW2.out]; exact (Below.refl _ _).alloc (Nat.le_refl _) _
  have hr2 : g2 < w1.heap.size := B2.lt
  have GW2 : Hid (Below W.heap.size W w2) := G1.out.trans (G2.out.mono G1.out.size)
  have KV := HV.out W w2 w1.heap.size ab cb ⟨HA.out.1, HA.out.2.1, GW2.out, G1.out.size, hlen, hcap, hcm, HA.out.2.2⟩ HBr.out
  clear B2 gr2
  go_wp2_with fail
  generalize hWW : World.alloc w1 _ = W9
  obtain rfl : w2 = W9 := by rw [← hWW, ← HW2.out]
  clear hWW HW2
  refine KV.mono ?_
  clear KV HV
  rintro e w3 ⟨p, na, nc, ka, kc, j, e1, rf, rfl, H3⟩
  go_wp2_with (refine al_zero rfl 39 rfl zer z25 ?_)
  intro g6 w4 hg6 B6 gr6
  go_wp2_with (refine st_all rfl 39 (.tmp 6) (.tmp 14) rfl g6 39 zer (six p.1 na nc ka p.2.list.length kc) rfl rfl B6 rfl s25 (six_one _ _ _ _ _ _) ?_)
  intro w5 B5 gr5
  have G5 : Hid (Below w3.heap.size w3 w5) := below_new gr6 hg6 gr5
  have hs1 : w1.heap.size < w2.heap.size := HBr.out.lt
  have hs3 : w2.heap.size ≤ w3.heap.size := H3.out.ro.gr.size
  have HR5 : Hid (Blk w5 w1.heap.size 141 [.slice ab L.length cb, .int .i64 (j : Int), .int .i64 e1]) := H3.out.ro.blk.below G5.out H3.out.ro.blk.lt
  have HB25 : Hid (Blk w5 g2 39 zer) := by
    have b2 : Blk w2 g2 39 zer := HB2.out.below G2.out HB2.out.lt
    have b3 : Blk w3 g2 39 zer := b2.kept H3.out.ro.gr (by intro c; injection c with c; omega)
    exact b3.below G5.out b3.lt
  have HB65 : Hid (Blk w5 g6 39 (six p.1 na nc ka p.2.list.length kc)) := B5
  have GW5 : Hid (Below W.heap.size W w5) := by
    have h3 : Below W.heap.size W w3 := GW2.out.grown H3.out.ro.gr GW2.out.size (fun x e => by injection e with e; have := G1.out.size; omega)
    exact h3.trans (G5.out.mono h3.size)
  obtain ⟨E, HE⟩ : ∃ E, Hid ((if e1 ≠ 0 then e1 else rf) = E) := ⟨_, rfl⟩
  have HV5 : Hid ((∃ Lp, VlL w5 p na nc ka kc Lp ∧ ∀ x ∈ Lp, W.heap.size ≤ x ∧ x < w5.heap.size ∧ x ≠ g2) ∧ WfV p ∧ Fst L p j E ∧ j ≤ L.length) := by
    refine ⟨?_, H3.out.wf, ?_, H3.out.ro.le⟩
    · obtain ⟨Lp, h1, h2⟩ := H3.out.vl
      refine ⟨Lp, h1.keep fun x hx => G5.out.block x (h2 x hx).2, fun x hx => ?_⟩
      have := h2 x hx
      have := G5.out.size
      have := G1.out.size
      omega
    · rcases H3.out.st with ⟨a, _, _⟩ | ⟨_, ⟨a, b, c⟩ | ⟨e, a, b, c⟩⟩
      · exact absurd rfl a
      · right
        refine ⟨a, H3.out.ro.le, ?_⟩
        rw [← HE.out, if_neg (by simpa using b)]
        exact H3.out.rf b
      · left
        refine ⟨e, a, ?_, c⟩
        rw [← HE.out, if_pos (by rw [b]; exact_mod_cast c), b]
  have hg26 : g2 ≠ g6 := by omega
  have hg2r : g2 ≠ w1.heap.size := by omega
  have hg6r : g6 ≠ w1.heap.size := by omega
  clear B6 gr6 gr5 B5 G5 H3 HB2 G1 G2 HBr GW2 HA hs1 hs3
  generalize w1.heap.size = r at *
  obtain ⟨C, hC⟩ : ∃ C : World → Prop, C = fun w' => Blk w' g6 39 (six p.1 na nc ka p.2.list.length kc) ∧ Blk w' r 141 [.slice ab L.length cb, .int .i64 (j : Int), .int .i64 e1] := ⟨_, rfl⟩
  have CN : Hid (∀ w', C w' → Nd w' g6 0 p.1 na nc ka p.2.list.length kc) := fun w' h => by rw [hC] at h; exact ⟨h.1.cell 0, h.1.cell 1, h.1.cell 2, h.1.cell 3, h.1.cell 4, h.1.cell 5⟩
  have C1 : Hid (∀ w', C w' → w'.cell? ⟨r, 1, none⟩ = some (.int .i64 (j : Int))) := fun w' h => by rw [hC] at h; exact h.2.cell 1
  have C2 : Hid (∀ w', C w' → w'.cell? ⟨r, 2, none⟩ = some (.int .i64 e1)) := fun w' h => by rw [hC] at h; exact h.2.cell 2
  have CB : Hid (∀ w1 w2, C w1 → Below w1.heap.size w1 w2 → C w2) := fun w1 w2 h k => by rw [hC] at h ⊢; exact ⟨h.1.below k h.1.lt, h.2.below k h.2.lt⟩
  have CS : Hid (∀ w1 w2, C w1 → w1.grownBy w2 (some g2) → C w2) := fun w1 w2 h k => by rw [hC] at h ⊢; exact ⟨h.1.kept k (by intro c; injection c with c; omega), h.2.kept k (by intro c; injection c with c; omega)⟩
  have D0 : Hid (Below w5.heap.size w5 { w5 with drawn := w5.drawn + 1 }) := Below.drew (Below.refl _ _)
  have C0 : Hid (C { w5 with drawn := w5.drawn + 1 }) := CB.out _ _ (by rw [hC]; exact ⟨HB65.out, HR5.out⟩) D0.out
  go_wp2
  refine region_calm C 14 (by kernel_rfl) ?_
  have hCp : ∀ p : Prop, (∀ W, C W → p) ↔ p := fun p => ⟨fun h => h _ C0.out, fun h _ _ => h⟩
  generalize ({ w5 with drawn := w5.drawn + 1 } : World) = v0 at *
  refine seg 5 [0, 1, 2, 3, 4, 5, 6, 7, 8, 9] rfl (by kernel_rfl) whole_blind C0.out (by kernel_rfl) ?_
  change wpQuiet _ _ _ _ (_ :: _ :: _ :: _ :: _ :: _ :: _ :: _ :: _ :: _ :: []) _
  repeat (first
    | go_big_quiet_skip
    | (go_big_quiet_want
       first
       | (refine q_val (.tmp 6) rfl g6 0 rfl p.1 na nc ka p.2.list.length kc CN.out ?_
          simp only [Act.put, List.setIfInBounds_toArray, List.set_cons_zero, List.set_cons_succ]
          go_big_quiet_on)
       | (refine q_nil (.tmp 17) rfl r 0 rfl ?_
          simp only [Act.put, List.setIfInBounds_toArray, List.set_cons_zero, List.set_cons_succ]
          go_big_quiet_on)
       | (refine q_nil (.tmp 21) rfl r 0 rfl ?_
          simp only [Act.put, List.setIfInBounds_toArray, List.set_cons_zero, List.set_cons_succ]
          go_big_quiet_on)
       | (refine q_fld 1 (.inl rfl) (.tmp 18) rfl r rfl ?_
          simp only [Act.put, List.setIfInBounds_toArray, List.set_cons_zero, List.set_cons_succ]
          go_big_quiet_on)
       | (refine q_fld 2 (.inr rfl) (.tmp 22) rfl r rfl ?_
          simp only [Act.put, List.setIfInBounds_toArray, List.set_cons_zero, List.set_cons_succ]
          go_big_quiet_on)
       | (refine q_one 3 (.inl rfl) (.tmp 19) rfl r 1 rfl _ C1.out ?_
          simp only [Act.put, List.setIfInBounds_toArray, List.set_cons_zero, List.set_cons_succ]
          go_big_quiet_on)
       | (refine q_one 29 (.inr (.inr (.inr (.inr (.inr rfl))))) (.tmp 23) rfl r 2 rfl _ C2.out ?_
          simp only [Act.put, List.setIfInBounds_toArray, List.set_cons_zero, List.set_cons_succ]
          go_big_quiet_on)
       | (go_big_quiet_op
          go_big_quiet_on)))
  refine wpQuiet_nil ?_
  refine lone_do (i := 10) 4 rfl (by kernel_rfl) rfl (by rfl) ?_
  intro K hK
  refine oper_two 24 25 rfl e1 rf rfl rfl ?_
  have DA : Hid (Below v0.heap.size v0 (v0.alloc (.cells #[.int .i64 e1, .int .i64 rf] 29))) := (Below.refl _ _).alloc (Nat.le_refl _) _
  have ca := CB.out _ _ C0.out DA.out
  refine hK _ _ ca ?_
  simp only [Act.put, List.setIfInBounds_toArray, List.set_cons_zero, List.set_cons_succ]
  refine lone_do (i := 11) 3 rfl (by kernel_rfl) rfl (by rfl) ?_
  intro K hK
  refine oper_call 29 #[.tmp 26] #[96] rfl #[.slice (some ⟨v0.heap.size, 0, none⟩) 2 2] (by rw [List.map_toArray]; rfl) (enters Tryd.func29 (by kernel_rfl) rfl) (fun v' w' => v' = .int .i64 E ∧ w' = v0.alloc (.cells #[.int .i64 e1, .int .i64 rf] 29)) ((or_lit e1 rf v0).mono fun e' w' ⟨h1, h2⟩ => ⟨_, h1, by rw [HE.out], h2⟩) ?_
  rintro _ _ ⟨rfl, rfl⟩
  refine hK _ _ ca ?_
  simp only [Act.put, List.setIfInBounds_toArray, List.set_cons_zero, List.set_cons_succ]
  have GA : Hid (Below w5.heap.size w5 (v0.alloc (.cells #[.int .i64 e1, .int .i64 rf] 29))) := D0.out.trans (DA.out.mono D0.out.size)
  clear C0 hCp DA D0
  generalize v0.alloc (.cells #[.int .i64 e1, .int .i64 rf] 29) = v1 at *
  have HB2v : Hid (Blk v1 g2 39 zer) := HB25.out.below GA.out HB25.out.lt
  refine lone_do (i := 12) 2 rfl (by kernel_rfl) rfl (by rfl) ?_
  intro K hK
  refine oper_sta 39 (.tmp 2) (.tmp 16) rfl rfl g2 39 zer (six p.1 na nc ka p.2.list.length kc) rfl rfl HB2v.out rfl s25 (six_one _ _ _ _ _ _) ?_
  intro w6 b6 gr6
  have HB6 : Hid (Blk w6 g2 39 (six p.1 na nc ka p.2.list.length kc)) := b6
  have hc6 := CS.out _ _ ca gr6
  have HF : Hid (Fo1 L W w6 p na nc ka kc j E) := by
    have h1 : Below W.heap.size W v1 := GW5.out.trans (GA.out.mono GW5.out.size)
    refine ⟨?_, HV5.out.2.1, HV5.out.2.2.1, h1.grown gr6 h1.size (fun x e => by injection e with e; omega), HV5.out.2.2.2⟩
    obtain ⟨Lp, a1, a2⟩ := HV5.out.1
    refine ⟨Lp, (a1.keep fun x hx => ?_), fun x hx => ?_⟩
    · have := a2 x hx
      exact (gr6.block x (Nat.lt_of_lt_of_le this.2.1 GA.out.size) (by intro c; injection c with c; omega)).trans (GA.out.block x this.2.1)
    · have := a2 x hx
      have := GA.out.size
      have := gr6.size
      omega
  clear b6 gr6 ca GA HB2v
  refine hK _ _ hc6 ?_
  simp only [Act.put, List.setIfInBounds_toArray, List.set_cons_zero, List.set_cons_succ]
  have hCq : ∀ p : Prop, (∀ W, C W → p) ↔ p := fun p => ⟨fun h => h _ hc6, fun h _ _ => h⟩
  refine lone_calm (i := 13) 1 rfl (by kernel_rfl) rfl rfl hc6 ?_
  go_big_quiet_want
  go_big_quiet_op
  go_big_quiet_on
  refine wpQuiet_nil ?_
  refine lone_calm (i := 14) 0 rfl (by kernel_rfl) rfl rfl hc6 ?_
  go_big_quiet_want
  go_big_quiet_op
  go_big_quiet_on
  refine wpQuiet_nil ?_
  refine anyC_done (by kernel_rfl) ⟨rfl, ?_⟩
  clear hc6 hCq CN C1 C2 CB CS hC
  go_wp2
  refine bodyPost_ret (res_three rfl _ g2 39 _ _ rfl HB6.out Tryd.underlying39 rfl s25) rfl ?_
  exact ⟨p, na, nc, ka, kc, j, E, rfl, HF.out⟩
end Go.Proofs.YtmbglggodifboaaDoor
