/-
  codec.readFirst, from what value answers at the beginning. · slices.Repeat of one value; codec's checkShell.
-/
import Derived.Test.YtmbglggodifboaaGreatDoorSXh
import Derived.Lib.Mul64
import Derived.Laws.Bits64b
import Derived.Laws.IdiomCopy
import Derived.Laws.MakeOwn
namespace Go.Proofs.YtmbglggodifboaaGreatDoor
open Go.RowKit Math
set_option linter.unusedVariables false
set_option linter.unusedSimpArgs false
theorem oper_two {o : Oper} {a : Act} {w : World} {K : Act → World → Prop} {Q : Exit → Act → World → Prop} (s t : Nat) (ho : o.op = .buildSlice 160 2 #[(0, .tmp s), (1, .tmp t)]) (m n : Int) (hx : a.tmps.getD s undef = .int .i64 m) (hy : a.tmps.getD t undef = .int .i64 n) (hK : K (a.put o.dst (.slice (some ⟨w.heap.size, 0, none⟩) 2 2)) (w.alloc (.cells #[.int .i64 m, .int .i64 n] 29))) : Oper.wp Tryz.prog o a w K Q := by
  have hx' : a.tmps[s]?.getD undef = .int .i64 m := by simpa using hx
  have hy' : a.tmps[t]?.getD undef = .int .i64 n := by simpa using hy
  unfold Oper.wp execOp
  simp only [ho]
  go_simp
  exact hK
theorem q_nil {C : World → Prop} {a : Act} {o : Oper} {K : Act → Prop} (x : Operand) (ho : o.op = .nilCheck x) (b k : Nat) (hx : a.eval x = .pointer (some ⟨b, k, none⟩))
    (hk : K (a.put o.dst (.pointer (some ⟨b, k, none⟩)))) : o.quiet Tryz.prog a C K :=
  ⟨_, fun w hw => by
    unfold Oper.quietAt execOp
    simp only [ho, hx]
    go_simp, hk⟩
theorem q_fld {C : World → Prop} {a : Act} {o : Oper} {K : Act → Prop} (i : Nat) (hi : i = 1 ∨ i = 2) (x : Operand) (ho : o.op = .fieldAddr 170 x i) (b : Nat) (hx : a.eval x = .pointer (some ⟨b, 0, none⟩))
    (hk : K (a.put o.dst (.pointer (some ⟨b, i, none⟩)))) : o.quiet Tryz.prog a C K :=
  ⟨_, fun w hw => by
    unfold Oper.quietAt execOp
    rcases hi with rfl | rfl <;> simp only [ho, hx] <;> go_simp, hk⟩
theorem res_three {P : Program} {w : World} {fn : Func} {p q s : Tmp} {ty : TypeId} (h : fn.results = #[.cell p ty, .tmp q, .tmp s]) (tmps : Array Value) (g : Nat) (t : TypeId) (cs : List Value) (d : TypeDesc)
    (hp : tmps.getD p undef = .pointer (some ⟨g, 0, none⟩)) (hg : Blk w g t cs) (hu : P.underlying ty = some d) (hd : d.isRow = true) (hi : (P.info? ty).map (·.size) = some cs.length) :
    (results fn tmps).run P w = .ok (.tuple #[.agg cs.toArray, tmps.getD q undef, tmps.getD s undef]) w := by
  have hp' : tmps[p]?.getD undef = .pointer (some ⟨g, 0, none⟩) := by simpa using hp
  simp [results, h, hp', asAddr, run_loadVar_row w g t ty cs.toArray (0, 0) d hg hu (by cases d <;> simp_all [TypeDesc.isRow]) (by simpa using hi)]
/-- What value answers at the beginning of these bytes. -/
def ValL (L : List Nat) : Prop := ∀ (w0 W : World) (r : Nat) (ab : Option Addr) (cb : Nat), En w0 W r ab cb L → Blk W r 170 [.slice ab L.length cb, .int .i64 0, .int .i64 0] →
  Calls Tryz.prog 127 #[.pointer (some ⟨r, 0, none⟩), .int .i64 1] W fun e w' => ∃ p na nc ka kc j err' rf, e = .returned (.tuple #[.agg #[.int .i64 p.1.k, .int .i64 p.1.n, .int .i64 p.1.s, .string p.1.t, .slice na p.1.ns.length nc, .slice ka p.2.list.length kc], .int .i64 rf]) ∧ Hid (Vo (rdV 16) r ab cb L W w' 0 0 p na nc ka kc j err' rf)
/-- What readFirst answers. -/
def Fst (L : List Nat) (p : Vt) (j : Nat) (E : Int) : Prop := (∃ e : Nat, rdV 16 L = .error e ∧ E = (e : Int) ∧ e ≠ 0) ∨ (rdV 16 L = .ok (p, L.drop j) ∧ j ≤ L.length ∧ E = chk0V p)
structure Fo1 (L : List Nat) (W w' : World) (p : Vt) (na : Option Addr) (nc : Nat) (ka : Option Addr) (kc j : Nat) (E : Int) : Prop where
  vl : ∃ Lp, VlL w' p na nc ka kc Lp ∧ ∀ x ∈ Lp, W.heap.size ≤ x ∧ x < w'.heap.size
  wf : WfV p
  fst : Fst L p j E
  bl : Below W.heap.size W w'
  le : j ≤ L.length
set_option maxRecDepth 8000 in
set_option maxHeartbeats 1000000 in
theorem first_any (L : List Nat) (V : ValL L) (ab : Option Addr) (cb : Nat) (W : World) (hB : Byt W ab L) (hO : Oct L) (hlen : L.length ≤ 1000000) (hcap : L.length ≤ cb) (hcm : cb ≤ 9223372036854775807) (hnil : ab = none → cb = 0) :
    Calls Tryz.prog 126 #[.slice ab L.length cb] W fun e w' => ∃ p na nc ka kc j E, e = .returned (.tuple #[.agg #[.int .i64 p.1.k, .int .i64 p.1.n, .int .i64 p.1.s, .string p.1.t, .slice na p.1.ns.length nc, .slice ka p.2.list.length kc], .int .i64 ((j : Nat) : Int), .int .i64 E]) ∧ Hid (Fo1 L W w' p na nc ka kc j E) := by
  have HA : Hid (Byt W ab L ∧ Oct L ∧ (ab = none → cb = 0)) := ⟨hB, hO, hnil⟩
  have HV : Hid (ValL L) := V
  clear hB hO hnil V
  go_enter Tryz.func126, Tryz.ntmps126
  go_wp2_with (refine al_zero rfl 41 rfl zer z25 ?_)
  intro g2 w1 hg2 B2 gr2
  have G1 : Hid (Below W.heap.size W w1) := (Below.refl _ _).grown gr2 (Nat.le_refl _) (fun k e => by cases e)
  have HB2 : Hid (Blk w1 g2 41 zer) := B2
  obtain ⟨w2, HW2⟩ : ∃ w2, Hid (w1.alloc (.cells #[.slice ab L.length cb, .int .i64 0, .int .i64 0] 170) = w2) := ⟨_, rfl⟩
  have HBr : Hid (Blk w2 w1.heap.size 170 [.slice ab L.length cb, .int .i64 0, .int .i64 0]) := by rw [← HW2.out]; exact blk_new w1 170 [.slice ab L.length cb, .int .i64 0, .int .i64 0]
  have G2 : Hid (Below w1.heap.size w1 w2) := by rw [← HW2.out]; exact (Below.refl _ _).alloc (Nat.le_refl _) _
  have hr2 : g2 < w1.heap.size := B2.lt
  have GW2 : Hid (Below W.heap.size W w2) := G1.out.trans (G2.out.mono G1.out.size)
  have KV := HV.out W w2 w1.heap.size ab cb ⟨HA.out.1, HA.out.2.1, GW2.out, G1.out.size, hlen, hcap, hcm, HA.out.2.2⟩ HBr.out
  clear B2 gr2
  go_wp2_with fail
  generalize hWW : World.alloc w1 _ = W9
  obtain rfl : w2 = W9 := by rw [← hWW, ← HW2.out]
  clear hWW HW2
  refine KV.mono ?_
  clear KV HV
  rintro e w3 ⟨p, na, nc, ka, kc, j, e1, rf, rfl, H3⟩
  go_wp2_with (refine al_zero rfl 41 rfl zer z25 ?_)
  intro g6 w4 hg6 B6 gr6
  go_wp2_with (refine st_all rfl 41 (.tmp 6) (.tmp 14) rfl g6 41 zer (six p.1 na nc ka p.2.list.length kc) rfl rfl B6 rfl s25 (six_one _ _ _ _ _ _) ?_)
  intro w5 B5 gr5
  have G5 : Hid (Below w3.heap.size w3 w5) := below_new gr6 hg6 gr5
  have hs1 : w1.heap.size < w2.heap.size := HBr.out.lt
  have hs3 : w2.heap.size ≤ w3.heap.size := H3.out.ro.gr.size
  have HR5 : Hid (Blk w5 w1.heap.size 170 [.slice ab L.length cb, .int .i64 (j : Int), .int .i64 e1]) := H3.out.ro.blk.below G5.out H3.out.ro.blk.lt
  have HB25 : Hid (Blk w5 g2 41 zer) := by
    have b2 : Blk w2 g2 41 zer := HB2.out.below G2.out HB2.out.lt
    have b3 : Blk w3 g2 41 zer := b2.kept H3.out.ro.gr (by intro c; injection c with c; omega)
    exact b3.below G5.out b3.lt
  have HB65 : Hid (Blk w5 g6 41 (six p.1 na nc ka p.2.list.length kc)) := B5
  have GW5 : Hid (Below W.heap.size W w5) := by
    have h3 : Below W.heap.size W w3 := GW2.out.grown H3.out.ro.gr GW2.out.size (fun x e => by injection e with e; have := G1.out.size; omega)
    exact h3.trans (G5.out.mono h3.size)
  obtain ⟨E, HE⟩ : ∃ E, Hid ((if e1 ≠ 0 then e1 else rf) = E) := ⟨_, rfl⟩
  have HV5 : Hid ((∃ Lp, VlL w5 p na nc ka kc Lp ∧ ∀ x ∈ Lp, W.heap.size ≤ x ∧ x < w5.heap.size ∧ x ≠ g2) ∧ WfV p ∧ Fst L p j E ∧ j ≤ L.length) := by
    refine ⟨?_, H3.out.wf, ?_, H3.out.ro.le⟩
    · obtain ⟨Lp, h1, h2⟩ := H3.out.vl
      refine ⟨Lp, h1.keep fun x hx => G5.out.block x (h2 x hx).2, fun x hx => ?_⟩
      have := h2 x hx
      have := G5.out.size
      have := G1.out.size
      omega
    · rcases H3.out.st with ⟨a, _, _⟩ | ⟨_, ⟨a, b, c⟩ | ⟨e, a, b, c⟩⟩
      · exact absurd rfl a
      · right
        refine ⟨a, H3.out.ro.le, ?_⟩
        rw [← HE.out, if_neg (by simpa using b)]
        exact H3.out.rf b
      · left
        refine ⟨e, a, ?_, c⟩
        rw [← HE.out, if_pos (by rw [b]; exact_mod_cast c), b]
  have hg26 : g2 ≠ g6 := by omega
  have hg2r : g2 ≠ w1.heap.size := by omega
  have hg6r : g6 ≠ w1.heap.size := by omega
  clear B6 gr6 gr5 B5 G5 H3 HB2 G1 G2 HBr GW2 HA hs1 hs3
  generalize w1.heap.size = r at *
  obtain ⟨C, hC⟩ : ∃ C : World → Prop, C = fun w' => Blk w' g6 41 (six p.1 na nc ka p.2.list.length kc) ∧ Blk w' r 170 [.slice ab L.length cb, .int .i64 (j : Int), .int .i64 e1] := ⟨_, rfl⟩
  have CN : Hid (∀ w', C w' → Nd w' g6 0 p.1 na nc ka p.2.list.length kc) := fun w' h => by rw [hC] at h; exact ⟨h.1.cell 0, h.1.cell 1, h.1.cell 2, h.1.cell 3, h.1.cell 4, h.1.cell 5⟩
  have C1 : Hid (∀ w', C w' → w'.cell? ⟨r, 1, none⟩ = some (.int .i64 (j : Int))) := fun w' h => by rw [hC] at h; exact h.2.cell 1
  have C2 : Hid (∀ w', C w' → w'.cell? ⟨r, 2, none⟩ = some (.int .i64 e1)) := fun w' h => by rw [hC] at h; exact h.2.cell 2
  have CB : Hid (∀ w1 w2, C w1 → Below w1.heap.size w1 w2 → C w2) := fun w1 w2 h k => by rw [hC] at h ⊢; exact ⟨h.1.below k h.1.lt, h.2.below k h.2.lt⟩
  have CS : Hid (∀ w1 w2, C w1 → w1.grownBy w2 (some g2) → C w2) := fun w1 w2 h k => by rw [hC] at h ⊢; exact ⟨h.1.kept k (by intro c; injection c with c; omega), h.2.kept k (by intro c; injection c with c; omega)⟩
  have D0 : Hid (Below w5.heap.size w5 { w5 with drawn := w5.drawn + 1 }) := Below.drew (Below.refl _ _)
  have C0 : Hid (C { w5 with drawn := w5.drawn + 1 }) := CB.out _ _ (by rw [hC]; exact ⟨HB65.out, HR5.out⟩) D0.out
  go_wp2
  refine region_calm C 14 (by kernel_rfl) ?_
  have hCp : ∀ p : Prop, (∀ W, C W → p) ↔ p := fun p => ⟨fun h => h _ C0.out, fun h _ _ => h⟩
  generalize ({ w5 with drawn := w5.drawn + 1 } : World) = v0 at *
  refine seg 5 [0, 1, 2, 3, 4, 5, 6, 7, 8, 9] rfl (by kernel_rfl) whole_blind C0.out (by kernel_rfl) ?_
  change wpQuiet _ _ _ _ (_ :: _ :: _ :: _ :: _ :: _ :: _ :: _ :: _ :: _ :: []) _
  repeat (first
    | go_big_quiet_skip
    | (go_big_quiet_want
       first
       | (refine q_val (.tmp 6) rfl g6 0 rfl p.1 na nc ka p.2.list.length kc CN.out ?_
          simp only [Act.put, List.setIfInBounds_toArray, List.set_cons_zero, List.set_cons_succ]
          go_big_quiet_on)
       | (refine q_nil (.tmp 17) rfl r 0 rfl ?_
          simp only [Act.put, List.setIfInBounds_toArray, List.set_cons_zero, List.set_cons_succ]
          go_big_quiet_on)
       | (refine q_nil (.tmp 21) rfl r 0 rfl ?_
          simp only [Act.put, List.setIfInBounds_toArray, List.set_cons_zero, List.set_cons_succ]
          go_big_quiet_on)
       | (refine q_fld 1 (.inl rfl) (.tmp 18) rfl r rfl ?_
          simp only [Act.put, List.setIfInBounds_toArray, List.set_cons_zero, List.set_cons_succ]
          go_big_quiet_on)
       | (refine q_fld 2 (.inr rfl) (.tmp 22) rfl r rfl ?_
          simp only [Act.put, List.setIfInBounds_toArray, List.set_cons_zero, List.set_cons_succ]
          go_big_quiet_on)
       | (refine q_one 3 (.inl rfl) (.tmp 19) rfl r 1 rfl _ C1.out ?_
          simp only [Act.put, List.setIfInBounds_toArray, List.set_cons_zero, List.set_cons_succ]
          go_big_quiet_on)
       | (refine q_one 29 (.inr (.inr (.inr (.inr (.inr rfl))))) (.tmp 23) rfl r 2 rfl _ C2.out ?_
          simp only [Act.put, List.setIfInBounds_toArray, List.set_cons_zero, List.set_cons_succ]
          go_big_quiet_on)
       | (go_big_quiet_op
          go_big_quiet_on)))
  refine wpQuiet_nil ?_
  refine lone_do (i := 10) 4 rfl (by kernel_rfl) rfl (by rfl) ?_
  intro K hK
  refine oper_two 24 25 rfl e1 rf rfl rfl ?_
  have DA : Hid (Below v0.heap.size v0 (v0.alloc (.cells #[.int .i64 e1, .int .i64 rf] 29))) := (Below.refl _ _).alloc (Nat.le_refl _) _
  have ca := CB.out _ _ C0.out DA.out
  refine hK _ _ ca ?_
  simp only [Act.put, List.setIfInBounds_toArray, List.set_cons_zero, List.set_cons_succ]
  refine lone_do (i := 11) 3 rfl (by kernel_rfl) rfl (by rfl) ?_
  intro K hK
  refine oper_call 97 #[.tmp 26] #[160] rfl #[.slice (some ⟨v0.heap.size, 0, none⟩) 2 2] (by rw [List.map_toArray]; rfl) (enters Tryz.func97 (by kernel_rfl) rfl) (fun v' w' => v' = .int .i64 E ∧ w' = v0.alloc (.cells #[.int .i64 e1, .int .i64 rf] 29)) ((or_lit e1 rf v0).mono fun e' w' ⟨h1, h2⟩ => ⟨_, h1, by rw [HE.out], h2⟩) ?_
  rintro _ _ ⟨rfl, rfl⟩
  refine hK _ _ ca ?_
  simp only [Act.put, List.setIfInBounds_toArray, List.set_cons_zero, List.set_cons_succ]
  have GA : Hid (Below w5.heap.size w5 (v0.alloc (.cells #[.int .i64 e1, .int .i64 rf] 29))) := D0.out.trans (DA.out.mono D0.out.size)
  clear C0 hCp DA D0
  generalize v0.alloc (.cells #[.int .i64 e1, .int .i64 rf] 29) = v1 at *
  have HB2v : Hid (Blk v1 g2 41 zer) := HB25.out.below GA.out HB25.out.lt
  refine lone_do (i := 12) 2 rfl (by kernel_rfl) rfl (by rfl) ?_
  intro K hK
  refine oper_sta 41 (.tmp 2) (.tmp 16) rfl rfl g2 41 zer (six p.1 na nc ka p.2.list.length kc) rfl rfl HB2v.out rfl s25 (six_one _ _ _ _ _ _) ?_
  intro w6 b6 gr6
  have HB6 : Hid (Blk w6 g2 41 (six p.1 na nc ka p.2.list.length kc)) := b6
  have hc6 := CS.out _ _ ca gr6
  have HF : Hid (Fo1 L W w6 p na nc ka kc j E) := by
    have h1 : Below W.heap.size W v1 := GW5.out.trans (GA.out.mono GW5.out.size)
    refine ⟨?_, HV5.out.2.1, HV5.out.2.2.1, h1.grown gr6 h1.size (fun x e => by injection e with e; omega), HV5.out.2.2.2⟩
    obtain ⟨Lp, a1, a2⟩ := HV5.out.1
    refine ⟨Lp, (a1.keep fun x hx => ?_), fun x hx => ?_⟩
    · have := a2 x hx
      exact (gr6.block x (Nat.lt_of_lt_of_le this.2.1 GA.out.size) (by intro c; injection c with c; omega)).trans (GA.out.block x this.2.1)
    · have := a2 x hx
      have := GA.out.size
      have := gr6.size
      omega
  clear b6 gr6 ca GA HB2v
  refine hK _ _ hc6 ?_
  simp only [Act.put, List.setIfInBounds_toArray, List.set_cons_zero, List.set_cons_succ]
  have hCq : ∀ p : Prop, (∀ W, C W → p) ↔ p := fun p => ⟨fun h => h _ hc6, fun h _ _ => h⟩
  refine lone_calm (i := 13) 1 rfl (by kernel_rfl) rfl rfl hc6 ?_
  go_big_quiet_want
  go_big_quiet_op
  go_big_quiet_on
  refine wpQuiet_nil ?_
  refine lone_calm (i := 14) 0 rfl (by kernel_rfl) rfl rfl hc6 ?_
  go_big_quiet_want
  go_big_quiet_op
  go_big_quiet_on
  refine wpQuiet_nil ?_
  refine anyC_done (by kernel_rfl) ⟨rfl, ?_⟩
  clear hc6 hCq CN C1 C2 CB CS hC
  go_wp2
  refine bodyPost_ret (res_three rfl _ g2 41 _ _ rfl HB6.out Tryz.underlying41 rfl s25) rfl ?_
  exact ⟨p, na, nc, ka, kc, j, E, rfl, HF.out⟩
end Go.Proofs.YtmbglggodifboaaGreatDoor
namespace Go.Proofs.YtmbglggodifboaaGreatDoor
open Go.RowKit Math
set_option linter.unusedVariables false
set_option linter.unusedSimpArgs false
section
variable {P : Program} {ops : Array Oper} {rest : List Oper} {o : Oper} {a : Act} {w : World} {Q : Exit → Act → World → Prop} {K : Act → World → Prop} {C : World → Prop}
theorem run_fromW (T elem : TypeId) (hu : P.underlying T = some (.slice elem)) (sz : Nat) (hsz : ∀ w, (Go.sizeOf elem).run P w = .ok sz w) (A : Option Addr) (len cap n : Nat) (hn : n ≤ len) (w : World) :
    (Instr.sliceAt T (.slice A len cap) (some (.int .i64 (n : Int))) none none).run P w = .ok (.slice (if cap = n then A else A.map fun p => p.add (n * sz)) (len - n) (cap - n)) w := by
  have h0 : (0 : Int) ≤ (n : Int) ∧ (n : Int) ≤ (len : Int) := ⟨by omega, by omega⟩
  simp [Instr.sliceAt, Instr.slice, Instr.sliceBounds, Instr.sliceBound, asIntOf, run_underlying hu, h0, hsz]
  intro h
  omega
theorem run_toW (T elem : TypeId) (hu : P.underlying T = some (.slice elem)) (sz : Nat) (hsz : ∀ w, (Go.sizeOf elem).run P w = .ok sz w) (A : Option Addr) (len cap n : Nat) (hn : n ≤ cap) (w : World) :
    (Instr.sliceAt T (.slice A len cap) none (some (.int .i64 (n : Int))) none).run P w = .ok (.slice A n cap) w := by
  have h0 : (0 : Int) ≤ (n : Int) ∧ (n : Int) ≤ (cap : Int) := ⟨by omega, by omega⟩
  have e : (A.map fun p => p.add 0) = A := by cases A <;> simp [Addr.add]
  simp [Instr.sliceAt, Instr.slice, Instr.sliceBounds, Instr.sliceBound, asIntOf, run_underlying hu, h0, hsz]
  rw [if_pos hn, e]
  simp
theorem sl_from (hg : o.guard = none) (T : TypeId) (x y : Operand) (ho : o.op = .slice T x (some y) none none) (elem : TypeId) (hu : P.underlying T = some (.slice elem)) (sz : Nat) (hsz : ∀ w, (Go.sizeOf elem).run P w = .ok sz w)
    (b off len cap n : Nat) (z : Int) (hz : z = (n : Int)) (hx : a.eval x = .slice (some ⟨b, off, none⟩) len cap) (hy : a.eval y = .int .i64 z) (hn : n ≤ len) (hc : n < cap)
    (h : wpList P ops Q rest (a.put o.dst (.slice (some ⟨b, off + n * sz, none⟩) (len - n) (cap - n))) w) : wpList P ops Q (o :: rest) a w := by
  subst hz
  refine wpList_plain hg fun K hK => ?_
  unfold Oper.wp execOp
  have e : (if cap = n then some (⟨b, off, none⟩ : Addr) else (some (⟨b, off, none⟩ : Addr)).map fun p => p.add (n * sz)) = some ⟨b, off + n * sz, none⟩ := by rw [if_neg (by omega)]; simp [Addr.add_lit]
  simp only [ho, hx, hy, Option.map_some, Option.map_none, run_fromW T elem hu sz hsz _ len cap n hn w, Sem.run_bind, Result.andThen_ok, Sem.run_pure]
  simp only [Option.map_some] at e
  rw [e]
  exact hK _ _ h
theorem q_from {K : Act → Prop} (T : TypeId) (x y : Operand) (ho : o.op = .slice T x (some y) none none) (elem : TypeId) (hu : P.underlying T = some (.slice elem)) (sz : Nat) (hsz : ∀ w, (Go.sizeOf elem).run P w = .ok sz w)
    (b off len cap n : Nat) (z : Int) (hz : z = (n : Int)) (hx : a.eval x = .slice (some ⟨b, off, none⟩) len cap) (hy : a.eval y = .int .i64 z) (hn : n ≤ len) (hc : n < cap)
    (hk : K (a.put o.dst (.slice (some ⟨b, off + n * sz, none⟩) (len - n) (cap - n)))) : o.quiet P a C K :=
  ⟨_, fun w hw => by
    subst hz
    have e : (if cap = n then some (⟨b, off, none⟩ : Addr) else (some (⟨b, off, none⟩ : Addr)).map fun p => p.add (n * sz)) = some ⟨b, off + n * sz, none⟩ := by rw [if_neg (by omega)]; simp [Addr.add_lit]
    unfold Oper.quietAt execOp
    simp only [ho, hx, hy, Option.map_some, Option.map_none, run_fromW T elem hu sz hsz _ len cap n hn w, Sem.run_bind, Result.andThen_ok, Sem.run_pure]
    simp only [Option.map_some] at e
    rw [e]
    exact ⟨rfl, rfl⟩, hk⟩
theorem run_copyW (w : World) (dT sT ty elem : TypeId) (b o dLen dCap : Nat) (a : Addr) (sLen sCap size n : Nat) (cs : List Value)
    (hu : P.underlying dT = some (.slice elem)) (hs : (P.info? elem).map (·.size) = some size) (hn : n = Nat.min sLen dLen) (hl : cs.length = n * size)
    (hsrc : ∀ j v, cs[j]? = some v → w.cell? (a.add j) = some v) (hc : ∀ j, j < cs.length → (w.cell? ⟨b, o + j, none⟩).isSome = true) (hf : ∀ j, j < cs.length → w.frozen? ⟨b, o + j, none⟩ = false) (h1 : ∀ v ∈ cs, v.oneCell' = true) :
    (Builtin.copy_ #[dT, sT] ty #[.slice (some ⟨b, o, none⟩) dLen dCap, .slice (some a) sLen sCap]).run P w = .ok (goInt n) (w.setCells b o cs) := by
  have hst := run_storeCells_cells (P := P) b o cs 0 w (by simpa using hc) (by simpa using hf) h1
  have hfc := run_firstCells_some (P := P) w size n a sLen sCap cs hl hsrc
  cases hq : P.info? elem with
  | none => simp [hq] at hs
  | some i =>
    have hi : i.size = size := by simpa [hq] using hs
    simp [Builtin.copy_, run_underlying hu, Builtin.lenOf, sizeOf, typeInfo, hq, hi, ← hn, hfc, hst]
theorem wp_cp (d s : Operand) (t : TypeId) (ho : o.op = .call { callee := .builtin .copy, args := #[d, s], argTypes := #[t, t] }) (elem size : Nat) (hu : P.underlying t = some (.slice elem)) (hs : (P.info? elem).map (·.size) = some size)
    (b off dLen dCap : Nat) (hd : a.eval d = .slice (some ⟨b, off, none⟩) dLen dCap) (b2 off2 sLen sCap : Nat) (hsl : a.eval s = .slice (some ⟨b2, off2, none⟩) sLen sCap) (n : Nat) (hn : n = Nat.min sLen dLen) (cs p m q : List Value) (tb : TypeId)
    (hp : p.length = off) (hb : Blk w b tb (p ++ (m ++ q))) (hml : cs.length = m.length) (hcs : cs.length = n * size) (hsrc : ∀ j v, cs[j]? = some v → w.cell? ⟨b2, off2 + j, none⟩ = some v) (h1 : ∀ v ∈ cs, v.oneCell' = true)
    (h : ∀ w', Blk w' b tb (p ++ (cs ++ q)) → w.grownBy w' (some b) → K (a.put o.dst (goInt n)) w') : Oper.wp P o a w K Q := by
  subst hp
  have hr := run_copyW (P := P) w t t o.type elem b p.length dLen dCap ⟨b2, off2, none⟩ sLen sCap size n cs hu hs hn hcs (fun j v hj => by rw [Addr.add_lit]; exact hsrc j v hj)
    (fun j hj => by rw [hb.cell, List.getElem?_eq_getElem (by simp; omega)]; rfl) (fun j hj => hb.frozen _) h1
  unfold Oper.wp execOp
  simp only [ho, resolve, invoke, builtin, Sem.run_bind, Sem.run_pure, Result.andThen_ok, List.map_toArray, List.map_cons, List.map_nil, hd, hsl, hr]
  exact h _ (Blk.setCells q cs m p w hml hb) (grown_setCells b cs p.length w)
theorem cp_row (hg : o.guard = none) (d s : Operand) (t : TypeId) (ho : o.op = .call { callee := .builtin .copy, args := #[d, s], argTypes := #[t, t] }) (elem size : Nat) (hu : P.underlying t = some (.slice elem)) (hs : (P.info? elem).map (·.size) = some size)
    (b off dLen dCap : Nat) (hd : a.eval d = .slice (some ⟨b, off, none⟩) dLen dCap) (b2 off2 sLen sCap : Nat) (hsl : a.eval s = .slice (some ⟨b2, off2, none⟩) sLen sCap) (n : Nat) (hn : n = Nat.min sLen dLen) (cs p m q : List Value) (tb : TypeId)
    (hp : p.length = off) (hb : Blk w b tb (p ++ (m ++ q))) (hml : cs.length = m.length) (hcs : cs.length = n * size) (hsrc : ∀ j v, cs[j]? = some v → w.cell? ⟨b2, off2 + j, none⟩ = some v) (h1 : ∀ v ∈ cs, v.oneCell' = true)
    (h : ∀ w', Blk w' b tb (p ++ (cs ++ q)) → w.grownBy w' (some b) → wpList P ops Q rest (a.put o.dst (goInt n)) w') : wpList P ops Q (o :: rest) a w :=
  wpList_plain hg fun K hK => wp_cp d s t ho elem size hu hs b off dLen dCap hd b2 off2 sLen sCap hsl n hn cs p m q tb hp hb hml hcs hsrc h1 fun w' h2 h3 => hK _ _ (h w' h2 h3)
theorem q_to {K : Act → Prop} (T : TypeId) (x y : Operand) (ho : o.op = .slice T x none (some y) none) (elem : TypeId) (hu : P.underlying T = some (.slice elem)) (sz : Nat) (hsz : ∀ w, (Go.sizeOf elem).run P w = .ok sz w)
    (A : Option Addr) (len cap n : Nat) (z : Int) (hz : z = (n : Int)) (hx : a.eval x = .slice A len cap) (hy : a.eval y = .int .i64 z) (hn : n ≤ cap)
    (hk : K (a.put o.dst (.slice A n cap))) : o.quiet P a C K :=
  ⟨_, fun w hw => by
    subst hz
    unfold Oper.quietAt execOp
    simp only [ho, hx, hy, Option.map_some, Option.map_none, run_toW T elem hu sz hsz A len cap n hn w, Sem.run_bind, Result.andThen_ok, Sem.run_pure]
    exact ⟨rfl, rfl⟩, hk⟩
theorem mk_row (hg : o.guard = none) (T elem : TypeId) (x : Operand) (ho : o.op = .makeSlice T x x) (hu : P.underlying T = some (.slice elem)) (size bytes : Nat) (z : Value) (hi : (P.info? elem).map (fun i => (i.zero, i.size, i.bytes)) = some (some z, size, bytes))
    (n : Nat) (zn : Int) (hzn : zn = (n : Int)) (hx : a.eval x = .int .i64 zn) (hb : bytes * n ≤ 281474976710656) (hn : n ≤ 1000000)
    (h : ∀ w' cs, cs.length = n * size → Blk w' w.heap.size elem cs → w.grownBy w' none → wpList P ops Q rest (a.put o.dst (.slice (some ⟨w.heap.size, 0, none⟩) n n)) w') : wpList P ops Q (o :: rest) a w := by
  subst hzn
  refine wpList_plain hg fun K hK => ?_
  cases hq : P.info? elem with
  | none => simp [hq] at hi
  | some i =>
    simp only [hq, Option.map_some, Option.some.injEq, Prod.mk.injEq] at hi
    obtain ⟨h1, h2, h3⟩ := hi
    have hb' : (i.bytes : Int) * (n : Int) ≤ 281474976710656 := by
      rw [h3]
      have h : ((bytes * n : Nat) : Int) ≤ 281474976710656 := by omega
      rwa [Int.natCast_mul] at h
    have hr := run_make (P := P) w T elem i z hu hq h1 .i64 .i64 n n (by omega) (Int.le_refl _) hb' (by omega)
    simp only [Int.toNat_natCast] at hr
    unfold Oper.wp execOp
    simp only [ho, hx, hr, Sem.run_bind, Result.andThen_ok, Sem.run_pure]
    refine hK _ _ (h _ (madeCells z.cells (n * i.size)).toList (by simp [size_madeCells, h2]) ?_ (World.grownBy_alloc w _ none))
    have := heap_alloc_new w (.cells (madeCells z.cells (n * i.size)) elem)
    unfold Blk
    rw [this]
end
namespace Mul
theorem maskN (a : Nat) (ha : a < 18446744073709551616) : bits .and .u64 (a : Int) 4294967295 = ((a % 4294967296 : Nat) : Int) := by
  have h := bits_and_u64_nat a 4294967295 ha (by omega)
  have e : a &&& 4294967295 = a % 4294967296 := Nat.and_two_pow_sub_one_eq_mod a 32
  rw [e] at h
  exact h
theorem divN (a : Nat) : (a : Int) / 4294967296 = ((a / 4294967296 : Nat) : Int) := by omega
theorem mulN (a b : Nat) : (a : Int) * (b : Int) = ((a * b : Nat) : Int) := (Int.natCast_mul a b).symm
theorem addN (a b : Nat) : (a : Int) + (b : Int) = ((a + b : Nat) : Int) := (Int.natCast_add a b).symm
theorem wrapN (a : Nat) (ha : a < 18446744073709551616) : IntKind.u64.wrap (a : Int) = (a : Int) := by rw [IntKind.wrap_u64]; omega
theorem wrapM (a : Nat) : IntKind.u64.wrap (a : Int) = ((a % 18446744073709551616 : Nat) : Int) := by rw [IntKind.wrap_u64]; omega
end Mul
set_option maxHeartbeats 1000000 in
theorem mul60 (x y : Nat) (hx : x < 18446744073709551616) (hy : y < 18446744073709551616) (w : World) :
    Calls Tryz.prog 142 #[.int .u64 x, .int .u64 y] w fun e w' => e = .returned (.tuple #[.int .u64 ((x * y / 18446744073709551616 : Nat) : Int), .int .u64 ((x * y % 18446744073709551616 : Nat) : Int)]) ∧ w' = w := by
  obtain ⟨bd, bt, bw, hhi⟩ := Lib.mul64_hi x y hx hy
  have ba := Lib.half_mul_le (a := x / 4294967296) (b := y / 4294967296) (by omega) (by omega)
  have bb := Lib.half_mul_le (a := x / 4294967296) (b := y % 4294967296) (by omega) (by omega)
  have bc := Lib.half_mul_le (a := x % 4294967296) (b := y / 4294967296) (by omega) (by omega)
  have ba' : x / 4294967296 * (y / 4294967296) < 18446744073709551616 := by omega
  have bb' : x / 4294967296 * (y % 4294967296) < 18446744073709551616 := by omega
  have bc' : x % 4294967296 * (y / 4294967296) < 18446744073709551616 := by omega
  have hlt : x * y / 18446744073709551616 < 18446744073709551616 := by
    apply Nat.div_lt_of_lt_mul
    exact Nat.mul_lt_mul'' hx hy
  have bh : x / 4294967296 * (y / 4294967296) + (x / 4294967296 * (y % 4294967296) + x % 4294967296 * (y % 4294967296) / 4294967296) / 4294967296 + ((x / 4294967296 * (y % 4294967296) + x % 4294967296 * (y % 4294967296) / 4294967296) % 4294967296 + x % 4294967296 * (y / 4294967296)) / 4294967296 < 18446744073709551616 := by rw [hhi]; exact hlt
  have bh1 : x / 4294967296 * (y / 4294967296) + (x / 4294967296 * (y % 4294967296) + x % 4294967296 * (y % 4294967296) / 4294967296) / 4294967296 < 18446744073709551616 := by omega
  go_enter Tryz.func142, Tryz.ntmps142
  go_wp2
  simp only [Mul.maskN x hx, Mul.maskN y hy, Mul.divN, Mul.mulN, Mul.addN, Mul.wrapN _ bd, Mul.wrapN _ bb', Mul.wrapN _ bt, Mul.maskN _ bt, Mul.wrapN _ bc', Mul.wrapN _ bw, Mul.wrapN _ ba', Mul.wrapN _ bh1, Mul.wrapN _ bh, Mul.wrapM (x * y)]
  rw [hhi]
  go_ret2
  exact ⟨rfl, rfl⟩
theorem mulB (n : Nat) (hn : n ≤ 65536) (w : World) : Calls Tryz.prog 140 #[.int .u64 1, .int .u64 (n : Int)] w fun e w' => e = .returned (.tuple #[.int .u64 0, .int .u64 (n : Int)]) ∧ w' = w := by
  have K := mul60 1 n (by omega) (by omega) w
  rw [show 1 * n / 18446744073709551616 = 0 by omega, show 1 * n % 18446744073709551616 = n by omega] at K
  go_enter Tryz.func140, Tryz.ntmps140
  go_wp2_with fail
  refine K.mono ?_
  rintro e w' ⟨rfl, rfl⟩
  go_wp2
  go_ret2
  exact ⟨rfl, rfl⟩
/-- A value that is Null. -/
def nul6 : List Value := [.int .i64 1, .int .i64 0, .int .i64 0, .string ⟨#[]⟩, .slice none 0 0, .slice none 0 0]
def reps : Nat → List Value
  | 0 => []
  | n + 1 => nul6 ++ reps n
theorem reps_len (n : Nat) : (reps n).length = n * 6 := by
  induction n with
  | zero => rfl
  | succ n ih => simp [reps, nul6, ih]; omega
theorem reps_add (m n : Nat) : reps (m + n) = reps m ++ reps n := by
  induction m with
  | zero => simp [reps]
  | succ m ih => rw [show m + 1 + n = (m + n) + 1 by omega]; simp [reps, ih]
theorem reps_one : ∀ (n : Nat), ∀ v ∈ reps n, v.oneCell' = true
  | 0, v, hv => by simp [reps] at hv
  | n + 1, v, hv => by
    simp only [reps, List.mem_append] at hv
    rcases hv with hv | hv
    · simp only [nul6, List.mem_cons, List.not_mem_nil, or_false] at hv
      rcases hv with rfl | rfl | rfl | rfl | rfl | rfl <;> rfl
    · exact reps_one n v hv
theorem i25 : ∃ z b, (Tryz.prog.info? 41).map (fun i => (i.zero, i.size, i.bytes)) = some (some z, 6, b) ∧ b ≤ 1000 := ⟨.agg #[.int .i64 0, .int .i64 0, .int .i64 0, .string ⟨#[]⟩, .slice none 0 0, .slice none 0 0], 88, by kernel_rfl, by omega⟩
theorem sz25 (w : World) : (Go.sizeOf 41).run Tryz.prog w = .ok 6 w := by
  have := s25
  cases hq : Tryz.prog.info? 41 with
  | none => simp [hq] at this
  | some i => simp [hq] at this; simp [Go.sizeOf, typeInfo, hq, this]
set_option maxRecDepth 8000 in
set_option maxHeartbeats 1000000 in
theorem repeat_any (n : Nat) (hn : n ≤ 65536) (b0 : Nat) (W : World) (hb : Blk W b0 41 nul6) :
    Calls Tryz.prog 139 #[.slice (some ⟨b0, 0, none⟩) 1 1, .int .i64 (n : Int)] W fun e w' => ∃ g, e = .returned (.slice (some ⟨g, 0, none⟩) n n) ∧ Hid (Blk w' g 41 (reps n) ∧ W.heap.size ≤ g ∧ Below W.heap.size W w') := by
  have HB0 : Hid (Blk W b0 41 nul6) := hb
  have KM := mulB n hn W
  obtain ⟨z, bs, hz, hbs⟩ := i25
  have HZ : Hid ((Tryz.prog.info? 41).map (fun i => (i.zero, i.size, i.bytes)) = some (some z, 6, bs)) := hz
  have HBS : Hid (bs * n ≤ 281474976710656) := by
    have : bs * n ≤ 1000 * 65536 := Nat.mul_le_mul hbs hn
    show _ ≤ _
    omega
  clear hz hbs hb
  go_enter Tryz.func139, Tryz.ntmps139
  go_wp2_with fail
  refine KM.mono ?_
  clear KM
  rintro e w' ⟨rfl, rfl⟩
  go_wp2_with (refine mk_row rfl 39 41 (.tmp 29) rfl Tryz.underlying39 6 bs z HZ.out n _ rfl rfl HBS.out (by omega) ?_)
  intro w1 cs hcs B1 gr1
  have HC : Hid (cs.length = n * 6) := hcs
  have HB1 : Hid (Blk w1 w'.heap.size 41 cs) := B1
  have G1 : Hid (Below w'.heap.size w' w1) := (Below.refl _ _).grown gr1 (Nat.le_refl _) (fun k e => by cases e)
  have HBx : Hid (Blk w1 b0 41 nul6) := HB0.out.below G1.out HB0.out.lt
  clear B1 gr1 hcs HZ HBS
  have HM : ∃ m, Hid (m = Nat.min 1 n) := ⟨_, rfl⟩
  obtain ⟨m, HM⟩ := HM
  have hmn : m ≤ n ∧ m ≤ 1 ∧ (0 < n → m = 1) := by
    have := HM.out
    simp only [Nat.min_def] at this
    split at this <;> omega
  have HBs : Hid (Blk w1 w'.heap.size 41 ([] ++ (cs.take (m * 6) ++ cs.drop (m * 6)))) := by
    rw [List.take_append_drop]
    exact HB1.out
  have HSrc : Hid (∀ j v, (reps m)[j]? = some v → w1.cell? ⟨b0, 0 + j, none⟩ = some v) := fun j v hj => by
    rw [Nat.zero_add]
    rw [HBx.out.cell]
    rcases Nat.lt_or_ge 0 n with h | h
    · rw [hmn.2.2 h] at hj
      simpa [reps] using hj
    · have : m = 0 := by omega
      rw [this] at hj
      simp [reps] at hj
  have HL1 : Hid ((reps m).length = (cs.take (m * 6)).length) := by
    show _ = _
    rw [reps_len, List.length_take, HC.out]
    have := Nat.mul_le_mul_right 6 hmn.1
    omega
  go_wp2_with (refine cp_row rfl (.tmp 31) (.tmp 32) 39 rfl 41 6 Tryz.underlying39 s25 w'.heap.size 0 n n rfl b0 0 1 1 rfl m HM.out (reps m) [] (cs.take (m * 6)) (cs.drop (m * 6)) 41 rfl HBs.out HL1.out (reps_len m) HSrc.out (reps_one m) ?_)
  intro w2 B2 gr2
  have HI0 : Hid (∃ q, Blk w2 w'.heap.size 41 (reps m ++ q) ∧ q.length = (n - m) * 6) := ⟨cs.drop (m * 6), B2, by rw [List.length_drop, HC.out, Nat.sub_mul]⟩
  have G2 : Hid (Below w'.heap.size w' w2) := G1.out.grown gr2 G1.out.size (fun x e => by injection e with e; omega)
  clear B2 gr2 HBs HSrc HL1 HB1 HBx G1 HC HB0
  go_wp2
  go_loopw [8] (fun i wr => ∃ k : Nat, k ≤ n ∧ (0 < n → 0 < k) ∧ i = .int .i64 (k : Int) ∧ Hid (∃ q, Blk wr w'.heap.size 41 (reps k ++ q) ∧ q.length = (n - k) * 6) ∧ Hid (Below w'.heap.size w' wr)) (fun i _ => n - (intOf i).toNat)
  case atStart => exact ⟨m, by omega, by omega, rfl, HI0.out, G2.out⟩
  case round =>
    clear HI0 G2
    obtain ⟨k, hk, hk0, rfl, HI, GI⟩ := hrel
    by_cases hlt : k < n
    case neg =>
      have HF : Hid (Blk wr w'.heap.size 41 (reps n)) := by
        obtain ⟨q, h1, h2⟩ := HI.out
        have : k = n := by omega
        subst this
        rw [Nat.sub_self, Nat.zero_mul] at h2
        rw [List.eq_nil_of_length_eq_zero h2, List.append_nil] at h1
        exact h1
      go_wp2
      go_ret
      exact ⟨_, rfl, HF.out, Nat.le_refl _, GI.out⟩
    have h0k := hk0 (by omega)
    obtain ⟨q, hq1, hq2⟩ := HI.out
    have HB : Hid (Blk wr w'.heap.size 41 (reps k ++ q)) := hq1
    have HQ : Hid (q.length = (n - k) * 6) := hq2
    clear hq1 hq2 HI
    obtain ⟨n1, HN1⟩ : ∃ n1, Hid (n1 = Nat.min k (n - k)) := ⟨_, rfl⟩
    have hn1 : n1 ≤ k ∧ n1 ≤ n - k ∧ 0 < n1 := by
      have := HN1.out
      simp only [Nat.min_def] at this
      split at this <;> omega
    go_wp2
    refine region_calm (fun _ => True) 9 (by kernel_rfl) ?_
    have D0 : Hid (Below wr.heap.size wr { wr with drawn := wr.drawn + 1 }) := Below.drew (Below.refl _ _)
    have HBv : Hid (Blk { wr with drawn := wr.drawn + 1 } w'.heap.size 41 (reps k ++ q)) := HB.out.below D0.out HB.out.lt
    have GV : Hid (Below w'.heap.size w' { wr with drawn := wr.drawn + 1 }) := GI.out.trans (D0.out.mono GI.out.size)
    clear D0 HB GI
    generalize ({ wr with drawn := wr.drawn + 1 } : World) = v0 at *
    refine seg 3 [0, 1, 2, 3, 4, 5, 6] rfl (by kernel_rfl) whole_blind trivial (by kernel_rfl) ?_
    change wpQuiet _ _ _ _ (_ :: _ :: _ :: _ :: _ :: _ :: _ :: []) _
    repeat (first
      | go_big_quiet_skip
      | (go_big_quiet_want
         first
         | (refine q_from 39 (.tmp 39) (.tmp 40) rfl 41 Tryz.underlying39 6 sz25 w'.heap.size 0 n n k _ rfl rfl rfl hk hlt ?_
            simp only [Act.put, List.setIfInBounds_toArray, List.set_cons_zero, List.set_cons_succ]
            go_big_quiet_on)
         | (refine q_to 39 (.tmp 42) (.tmp 43) rfl 41 Tryz.underlying39 6 sz25 (some ⟨w'.heap.size, 0, none⟩) n n k _ rfl rfl rfl hk ?_
            simp only [Act.put, List.setIfInBounds_toArray, List.set_cons_zero, List.set_cons_succ]
            go_big_quiet_on)
         | (go_big_quiet_op
            go_big_quiet_on)))
    refine wpQuiet_nil ?_
    have HBs : Hid (Blk v0 w'.heap.size 41 (reps k ++ (q.take (n1 * 6) ++ q.drop (n1 * 6)))) := by
      rw [List.take_append_drop]
      exact HBv.out
    have HSrc : Hid (∀ j v, (reps n1)[j]? = some v → v0.cell? ⟨w'.heap.size, 0 + j, none⟩ = some v) := fun j v hj => by
      rw [Nat.zero_add, HBv.out.cell]
      have e : reps k = reps n1 ++ reps (k - n1) := by rw [← reps_add]; congr 1; omega
      have hjl : j < (reps n1).length := (List.getElem?_eq_some_iff.1 hj).1
      rw [e, List.append_assoc, List.getElem?_append_left hjl]
      exact hj
    have HL1 : Hid ((reps n1).length = (q.take (n1 * 6)).length) := by
      show _ = _
      rw [reps_len, List.length_take, HQ.out]
      have := Nat.mul_le_mul_right 6 hn1.2.1
      omega
    have HLk : Hid ((reps k).length = 0 + k * 6) := by show _ = _; rw [reps_len]; omega
    refine lone_do (i := 7) 2 rfl (by kernel_rfl) rfl (by rfl) ?_
    intro K hK
    refine wp_cp (.tmp 41) (.tmp 44) 39 rfl 41 6 Tryz.underlying39 s25 w'.heap.size (0 + k * 6) (n - k) (n - k) rfl w'.heap.size 0 k n rfl n1 HN1.out (reps n1) (reps k) (q.take (n1 * 6)) (q.drop (n1 * 6)) 41 HLk.out HBs.out HL1.out (reps_len n1) HSrc.out (reps_one n1) ?_
    intro w5 B5 gr5
    have HI5 : Hid (∃ q, Blk w5 w'.heap.size 41 (reps (k + n1) ++ q) ∧ q.length = (n - (k + n1)) * 6) := by
      refine ⟨q.drop (n1 * 6), ?_, ?_⟩
      · rw [reps_add, List.append_assoc]
        exact B5
      · rw [List.length_drop, HQ.out, ← Nat.sub_mul]
        congr 1
        omega
    have GI5 : Hid (Below w'.heap.size w' w5) := GV.out.grown gr5 GV.out.size (fun x e => by injection e with e; omega)
    clear B5 gr5 HBs HSrc HL1 HLk HBv GV HQ
    refine hK _ _ trivial ?_
    simp only [Act.put, List.setIfInBounds_toArray, List.set_cons_zero, List.set_cons_succ]
    refine lone_calm (i := 8) 1 rfl (by kernel_rfl) rfl rfl trivial ?_
    go_big_quiet_want
    go_big_quiet_op
    go_big_quiet_on
    refine wpQuiet_nil ?_
    refine lone_calm (i := 9) 0 rfl (by kernel_rfl) rfl rfl trivial ?_
    go_big_quiet_want
    go_big_quiet_op
    go_big_quiet_on
    refine wpQuiet_nil ?_
    refine anyC_done (by kernel_rfl) ⟨rfl, ?_⟩
    go_wp2
    go_roundw
    case rel => exact ⟨k + n1, by omega, by omega, by go_num, HI5.out, GI5.out⟩
    case measure => simp [intOf]; omega
end Go.Proofs.YtmbglggodifboaaGreatDoor
