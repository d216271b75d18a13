/-
  The contract of the document's own Equal.
-/
import Derived.Test.YtmbglggodifboaaGreatDoorSG3x
import Derived.Deep.MidRow
namespace Go.Proofs.YtmbglggodifboaaGreatDoor
open Go.RowKit
set_option linter.unusedVariables false
/-- A region that draws its order, walked once, in whatever class of worlds its operations keep. -/
theorem q_region {P : Program} {C : World → Prop} {id : Nat} {Q : Exit → Act → World → Prop} {a : Act} {w : World} {l : List Oper} (hm : P.follows .mixedOrders = true) (hB : Region.lexB .any l.toArray = true) (hC : C { w with drawn := w.drawn + 1 })
    (h : wpQuiet P l.toArray C (fun a' => ∀ w', C w' → Q .normal a' w') l a) : (Code.region id l.toArray true).wp P Q a w :=
  wp_region_quiet hm hB hC (by simpa using h)
theorem q_slice {C : World → Prop} {a : Act} {o : Oper} {K : Act → Prop} (T : TypeId) (x : Operand) (ho : o.op = .load T x) (b k : Nat) (hx : a.eval x = .pointer (some ⟨b, k, none⟩)) (y : Option Addr) (n c : Nat) (hT : T = 38 ∨ T = 39) (hS : ∀ w, C w → w.cell? ⟨b, k, none⟩ = some (.slice y n c))
    (hk : K (a.put o.dst (.slice y n c))) : o.quiet Tryz.prog a C K :=
  ⟨_, fun w hw => by
    have h := hS w hw
    unfold Oper.quietAt execOp
    rcases hT with rfl | rfl <;> simp only [ho, hx] <;> go_simp, hk⟩
theorem q_val {C : World → Prop} {a : Act} {o : Oper} {K : Act → Prop} (x : Operand) (ho : o.op = .load 41 x) (b k : Nat) (hx : a.eval x = .pointer (some ⟨b, k, none⟩)) (h : Hd) (na : Option Addr) (nc : Nat) (ka : Option Addr) (kl kc : Nat) (hS : ∀ w, C w → Nd w b k h na nc ka kl kc)
    (hk : K (a.put o.dst (.agg #[.int .i64 h.k, .int .i64 h.n, .int .i64 h.s, .string h.t, .slice na h.ns.length nc, .slice ka kl kc]))) : o.quiet Tryz.prog a C K :=
  ⟨_, fun w hw => by
    obtain ⟨h0, h1, h2, h3, h4, h5⟩ := hS w hw
    unfold Oper.quietAt execOp
    simp only [ho, hx]
    go_simp, hk⟩
theorem Fo.list_inj : ∀ {f g : Fo}, f.list = g.list → f = g
  | .nil, .nil, _ => rfl
  | .nil, .cons _ _ _, h => by simp [Fo.list] at h
  | .cons _ _ _, .nil, h => by simp [Fo.list] at h
  | .cons h1 k1 r1, .cons h2 k2 r2, h => by
    simp only [Fo.list, List.cons.injEq, Prod.mk.injEq] at h
    obtain ⟨⟨rfl, rfl⟩, h3⟩ := h
    rw [Fo.list_inj h3]
theorem bytes_eq {a b : ByteArray} (h : a.toList = b.toList) : a = b := by
  rw [ByteArray.toList_eq, ByteArray.toList_eq] at h
  cases a; cases b
  simp only [ByteArray.mk.injEq]
  exact Array.ext' h
/-- What Equal answers, of each value that is smaller. -/
def EIh (p : Vt) : Prop := ∀ p' : Vt, wt p' < wt p → WfV p' → ∀ q' : Vt, WfV q' → ∀ (na : Option Addr) (nc : Nat) (ka : Option Addr) (kc : Nat) (na2 : Option Addr) (nc2 : Nat) (ka2 : Option Addr) (kc2 : Nat) (W : World), Vl W p' na nc ka kc → Vl W q' na2 nc2 ka2 kc2 →
  Calls Tryz.prog 75 #[.agg #[.int .i64 p'.1.k, .int .i64 p'.1.n, .int .i64 p'.1.s, .string p'.1.t, .slice na p'.1.ns.length nc, .slice ka p'.2.list.length kc], .agg #[.int .i64 q'.1.k, .int .i64 q'.1.n, .int .i64 q'.1.s, .string q'.1.t, .slice na2 q'.1.ns.length nc2, .slice ka2 q'.2.list.length kc2]] W
    fun e w' => ∃ t, e = .returned (.bool t) ∧ Hid ((t = true ↔ p' = q') ∧ Below W.heap.size W w')
set_option maxRecDepth 8000 in
set_option maxHeartbeats 4000000 in
theorem equal_no (k n s k2 n2 s2 : Int) (t t2 : ByteArray) (na na2 ka ka2 : Option Addr) (nl nc kl kc nl2 nc2 kl2 kc2 : Nat) (w : World) (hE : ¬ (k = k2 ∧ n = n2 ∧ s = s2 ∧ t.toList = t2.toList ∧ nl = nl2 ∧ kl = kl2)) :
    Calls Tryz.prog 75 #[.agg #[.int .i64 k, .int .i64 n, .int .i64 s, .string t, .slice na nl nc, .slice ka kl kc], .agg #[.int .i64 k2, .int .i64 n2, .int .i64 s2, .string t2, .slice na2 nl2 nc2, .slice ka2 kl2 kc2]] w fun e w' => e = .returned (.bool false) ∧ Below w.heap.size w w' := by
  go_enter Tryz.func75, Tryz.ntmps75
  go_wp2
  all_goals first
    | (go_ret; exact ⟨rfl, ((Below.refl _ _).alloc (Nat.le_refl _) _).alloc (by simp) _⟩)
    | (exfalso; apply hE; simp_all; done)
    | (exfalso; simp only [bne_eq_false_iff_eq] at *; apply hE; refine ⟨?_, ?_, ?_, ?_, ?_, ?_⟩ <;> first | assumption | omega)
set_option maxRecDepth 8000 in
set_option maxHeartbeats 4000000 in
theorem equal_yes (k n s : Int) (t : ByteArray) (ns ns2 : List ByteArray) (f f2 : Fo) (ih : EIh (⟨k, n, s, t, ns⟩, f)) (hwf : WfV (⟨k, n, s, t, ns⟩, f)) (hwf2 : WfV (⟨k, n, s, t, ns2⟩, f2)) (na na2 ka ka2 : Option Addr) (nl nc kl kc nc2 kc2 : Nat)
    (HNL : Hid (ns.length = nl)) (HNL2 : Hid (ns2.length = nl)) (HKL : Hid (f.list.length = kl)) (HKL2 : Hid (f2.list.length = kl)) (w : World) (hv : Vl w (⟨k, n, s, t, ns⟩, f) na nc ka kc) (hv2 : Vl w (⟨k, n, s, t, ns2⟩, f2) na2 nc2 ka2 kc2) :
    Calls Tryz.prog 75 #[.agg #[.int .i64 k, .int .i64 n, .int .i64 s, .string t, .slice na nl nc, .slice ka kl kc], .agg #[.int .i64 k, .int .i64 n, .int .i64 s, .string t, .slice na2 nl nc2, .slice ka2 kl kc2]] w
      fun e w' => ∃ r, e = .returned (.bool r) ∧ Hid ((r = true ↔ ns = ns2 ∧ f = f2) ∧ Below w.heap.size w w') := by
  have HI : Hid (EIh (⟨k, n, s, t, ns⟩, f)) := ih
  have HW : Hid (WfV (⟨k, n, s, t, ns⟩, f)) := hwf
  have HW2 : Hid (WfV (⟨k, n, s, t, ns2⟩, f2)) := hwf2
  have hkl : kl ≤ 140737488355328 := by rw [← HKL.out]; exact hwf.2.1
  have hnl : nl ≤ 140737488355328 := by rw [← HNL.out]; exact hwf.1.c1
  have b0 : Below w.heap.size w ((w.alloc (.cells #[.int .i64 k, .int .i64 n, .int .i64 s, .string t, .slice na nl nc, .slice ka kl kc] 41)).alloc (.cells #[.int .i64 k, .int .i64 n, .int .i64 s, .string t, .slice na2 nl nc2, .slice ka2 kl kc2] 41)) := ((Below.refl _ _).alloc (Nat.le_refl _) _).alloc (by simp) _
  have HV : Hid (Vl ((w.alloc (.cells #[.int .i64 k, .int .i64 n, .int .i64 s, .string t, .slice na nl nc, .slice ka kl kc] 41)).alloc (.cells #[.int .i64 k, .int .i64 n, .int .i64 s, .string t, .slice na2 nl nc2, .slice ka2 kl kc2] 41)) (⟨k, n, s, t, ns⟩, f) na nc ka kc) := hv.below b0
  have HV2 : Hid (Vl ((w.alloc (.cells #[.int .i64 k, .int .i64 n, .int .i64 s, .string t, .slice na nl nc, .slice ka kl kc] 41)).alloc (.cells #[.int .i64 k, .int .i64 n, .int .i64 s, .string t, .slice na2 nl nc2, .slice ka2 kl kc2] 41)) (⟨k, n, s, t, ns2⟩, f2) na2 nc2 ka2 kc2) := hv2.below b0
  have HB0 : Hid (Below w.heap.size w ((w.alloc (.cells #[.int .i64 k, .int .i64 n, .int .i64 s, .string t, .slice na nl nc, .slice ka kl kc] 41)).alloc (.cells #[.int .i64 k, .int .i64 n, .int .i64 s, .string t, .slice na2 nl nc2, .slice ka2 kl kc2] 41))) := b0
  have HC : Hid (∀ W, Below ((w.alloc (.cells #[.int .i64 k, .int .i64 n, .int .i64 s, .string t, .slice na nl nc, .slice ka kl kc] 41)).alloc (.cells #[.int .i64 k, .int .i64 n, .int .i64 s, .string t, .slice na2 nl nc2, .slice ka2 kl kc2] 41)).heap.size ((w.alloc (.cells #[.int .i64 k, .int .i64 n, .int .i64 s, .string t, .slice na nl nc, .slice ka kl kc] 41)).alloc (.cells #[.int .i64 k, .int .i64 n, .int .i64 s, .string t, .slice na2 nl nc2, .slice ka2 kl kc2] 41)) W → W.cell? ⟨w.heap.size, 4, none⟩ = some (.slice na nl nc) ∧ W.cell? ⟨w.heap.size, 5, none⟩ = some (.slice ka kl kc) ∧ W.cell? ⟨w.heap.size + 1, 4, none⟩ = some (.slice na2 nl nc2) ∧ W.cell? ⟨w.heap.size + 1, 5, none⟩ = some (.slice ka2 kl kc2)) := fun W hb => by
    have e1 : Below (w.alloc (.cells #[.int .i64 k, .int .i64 n, .int .i64 s, .string t, .slice na nl nc, .slice ka kl kc] 41)).heap.size (w.alloc (.cells #[.int .i64 k, .int .i64 n, .int .i64 s, .string t, .slice na nl nc, .slice ka kl kc] 41)) W := ((Below.refl _ _).alloc (Nat.le_refl _) _).trans (hb.mono (by simp))
    have g1 := fun j v hj => box_get [.int .i64 k, .int .i64 n, .int .i64 s, .string t, .slice na nl nc, .slice ka kl kc] 41 e1 j v hj
    have g2 := fun j v hj => box_get [.int .i64 k, .int .i64 n, .int .i64 s, .string t, .slice na2 nl nc2, .slice ka2 kl kc2] 41 hb j v hj
    have e2 : (w.alloc (.cells #[.int .i64 k, .int .i64 n, .int .i64 s, .string t, .slice na nl nc, .slice ka kl kc] 41)).heap.size = w.heap.size + 1 := by simp
    rw [e2] at g2
    exact ⟨g1 4 _ rfl, g1 5 _ rfl, g2 4 _ rfl, g2 5 _ rfl⟩
  clear ih hwf hwf2 hv hv2 b0
  go_enter Tryz.func75, Tryz.ntmps75
  go_wp2
  generalize ((w.alloc (.cells #[.int .i64 k, .int .i64 n, .int .i64 s, .string t, .slice na nl nc, .slice ka kl kc] 41)).alloc (.cells #[.int .i64 k, .int .i64 n, .int .i64 s, .string t, .slice na2 nl nc2, .slice ka2 kl kc2] 41)) = w1 at *
  go_loopw [5] (fun i wr => ∃ j : Nat, j ≤ nl ∧ i = .int .i64 (j : Int) ∧ Hid (Below w1.heap.size w1 wr) ∧ Hid (∀ l, l < j → ns[l]? = ns2[l]?)) (fun i _ => nl - (intOf i).toNat)
  case atStart => exact ⟨0, by omega, rfl, Below.refl _ _, fun l hl => by omega⟩
  case round =>
    obtain ⟨j, hj0, rfl, HB, HJ⟩ := hrel
    obtain ⟨c4, c5, e4, e5⟩ := HC.out wr HB.out
    by_cases hlt : j < nl
    case pos =>
      obtain ⟨x, hx⟩ : ∃ x, ns[j]? = some x := ⟨_, List.getElem?_eq_getElem (by rw [HNL.out]; exact hlt)⟩
      obtain ⟨y, hy⟩ : ∃ y, ns2[j]? = some y := ⟨_, List.getElem?_eq_getElem (by rw [HNL2.out]; exact hlt)⟩
      obtain ⟨b, o, rfl, hc⟩ : ∃ b o, na = some ⟨b, o, none⟩ ∧ ∀ i x, ns[i]? = some x → wr.cell? ⟨b, o + i, none⟩ = some (.string x) := by
        rcases HV.out.nms.below HB.out with e | h
        · simp only at e; rw [e] at hx; simp at hx
        · exact h
      obtain ⟨b2, o2, rfl, hc2⟩ : ∃ b o, na2 = some ⟨b, o, none⟩ ∧ ∀ i x, ns2[i]? = some x → wr.cell? ⟨b, o + i, none⟩ = some (.string x) := by
        rcases HV2.out.nms.below HB.out with e | h
        · simp only at e; rw [e] at hy; simp at hy
        · exact h
      have cx := hc j x hx
      have cy := hc2 j y hy
      have HX : Hid (ns[j]? = some x ∧ ns2[j]? = some y) := ⟨hx, hy⟩
      have HBd : Hid (∀ q, Below w1.heap.size w1 (wr.drewN q)) := fun q => HB.out.trans (below_dq _ _)
      clear hc hc2 hx hy
      cases hxy : (x.toList == y.toList)
      · go_wp2
        go_quiet (fail)
        go_wp2
        go_ret
        refine ⟨false, rfl, ⟨⟨(fun e => by cases e), fun e => ?_⟩, HB0.out.trans ((HBd.out _).mono HB0.out.size)⟩⟩
        have h1 := HX.out.1
        rw [e.1, HX.out.2] at h1
        rw [Option.some.inj h1] at hxy
        simp at hxy
      · have HXY : Hid (x = y) := bytes_eq (by simpa using hxy)
        go_wp2
        go_quiet (fail)
        go_wp2
        go_roundw
        case rel =>
          refine ⟨j + 1, by omega, by go_num, HBd.out _, fun l hl => ?_⟩
          by_cases e : l = j
          · rw [e, HX.out.1, HX.out.2, HXY.out]
          · exact HJ.out l (by omega)
        case measure => simp [intOf]; omega
    case neg =>
      have HNs : Hid (ns = ns2) := by
        refine List.ext_getElem? fun l => ?_
        by_cases hl : l < nl
        · exact HJ.out l (by omega)
        · rw [List.getElem?_eq_none (by rw [HNL.out]; omega), List.getElem?_eq_none (by rw [HNL2.out]; omega)]
      clear HJ
      go_wp2
      go_loopw [6] (fun i wr => ∃ j : Nat, j ≤ kl ∧ i = .int .i64 (j : Int) ∧ Hid (Below w1.heap.size w1 wr) ∧ Hid (∀ l, l < j → f.list[l]? = f2.list[l]?)) (fun i _ => kl - (intOf i).toNat)
      case atStart => exact ⟨0, by omega, rfl, HB.out, fun l hl => by omega⟩
      case round =>
        clear c4 c5 e4 e5 hlt hj0
        obtain ⟨m, hm0, rfl, HB2, HM⟩ := hrel
        obtain ⟨c4, c5, e4, e5⟩ := HC.out wr HB2.out
        by_cases hlt : m < kl
        case neg =>
          go_wp2
          go_ret
          refine ⟨true, rfl, ⟨⟨fun _ => ⟨HNs.out, Fo.list_inj ?_⟩, fun _ => rfl⟩, HB0.out.trans (HB2.out.mono HB0.out.size)⟩⟩
          refine List.ext_getElem? fun l => ?_
          by_cases hl : l < kl
          · exact HM.out l (by omega)
          · rw [List.getElem?_eq_none (by rw [HKL.out]; omega), List.getElem?_eq_none (by rw [HKL2.out]; omega)]
        obtain ⟨q, b, o, na', nc', ka', kc', hq, rfl, hnd, hvl⟩ := HV.out.kid HB2.out (k := m) (show m < f.list.length by rw [HKL.out]; exact hlt)
        obtain ⟨q2, b2, o2, na3, nc3, ka3, kc3, hq2, rfl, hnd2, hvl2⟩ := HV2.out.kid HB2.out (k := m) (show m < f2.list.length by rw [HKL2.out]; exact hlt)
        obtain ⟨T, hT⟩ : ∃ T : Bool, (T = true ↔ q = q2) := by
          by_cases e : q = q2
          · exact ⟨true, fun _ => e, fun _ => rfl⟩
          · exact ⟨false, (fun h => by cases h), fun h => absurd h e⟩
        have HTT : Hid (T = true ↔ q = q2) := hT
        have k1 : Hid (∀ W, Below wr.heap.size wr W → Calls Tryz.prog 75 #[.agg #[.int .i64 q.1.k, .int .i64 q.1.n, .int .i64 q.1.s, .string q.1.t, .slice na' q.1.ns.length nc', .slice ka' q.2.list.length kc'], .agg #[.int .i64 q2.1.k, .int .i64 q2.1.n, .int .i64 q2.1.s, .string q2.1.t, .slice na3 q2.1.ns.length nc3, .slice ka3 q2.2.list.length kc3]] W fun e w' => e = .returned (.bool T) ∧ Below wr.heap.size wr w') := fun W hb => by
          refine (HI.out q (wt_kid (List.mem_of_getElem? hq)) (HW.out.kid (List.mem_of_getElem? hq)) q2 (HW2.out.kid (List.mem_of_getElem? hq2)) na' nc' ka' kc' na3 nc3 ka3 kc3 W (hvl.below hb) (hvl2.below hb)).mono ?_
          rintro e w' ⟨t', rfl, h'⟩
          refine ⟨?_, hb.trans (h'.out.2.mono hb.size)⟩
          have h1 := h'.out.1
          have : t' = T := by
            cases t' <;> cases T <;> simp_all
          rw [this]
        have n1 : Hid (∀ W, Below wr.heap.size wr W → Nd W b (o + m * 6) q.1 na' nc' ka' q.2.list.length kc') := fun W hb => hnd.below hb
        have n2 : Hid (∀ W, Below wr.heap.size wr W → Nd W b2 (o2 + m * 6) q2.1 na3 nc3 ka3 q2.2.list.length kc3) := fun W hb => hnd2.below hb
        have s1 : Hid (∀ W, Below wr.heap.size wr W → W.cell? ⟨w.heap.size, 5, none⟩ = some (.slice (some ⟨b, o, none⟩) kl kc)) := fun W hb => (hb.cell (p := ⟨w.heap.size, 5, none⟩) (cell_lt c5)).trans c5
        have s2 : Hid (∀ W, Below wr.heap.size wr W → W.cell? ⟨w.heap.size + 1, 5, none⟩ = some (.slice (some ⟨b2, o2, none⟩) kl kc2)) := fun W hb => (hb.cell (p := ⟨w.heap.size + 1, 5, none⟩) (cell_lt e5)).trans e5
        have z0 : Hid (Below wr.heap.size wr { wr with drawn := wr.drawn + 1 }) := (Below.refl _ _).drew
        have ZZ : Hid (∀ W, Below wr.heap.size wr W → Below w1.heap.size w1 W) := fun W hb => HB2.out.trans (hb.mono HB2.out.size)
        have HQ1 : Hid (f.list[m]? = some q ∧ f2.list[m]? = some q2) := ⟨hq, hq2⟩
        clear hnd hnd2 hvl hvl2 hq hq2 hT
        go_wp2
        generalize hC : (fun W => Below wr.heap.size wr W) = C
        have hCC : ∀ W, Below wr.heap.size wr W = C W := fun W => by rw [← hC]
        clear hC
        simp only [hCC] at k1 n1 n2 s1 s2 z0 ZZ
        clear hCC
        have hCp : ∀ p : Prop, (∀ W, C W → p) ↔ p := fun p => ⟨fun h => h _ z0.out, fun h _ _ => h⟩
        refine q_region (C := C) (by kernel_rfl) (by kernel_rfl) z0.out ?_
        repeat (first
          | go_big_quiet_skip
          | (go_big_quiet_want
             first
             | (refine q_slice 39 (.tmp 76) rfl w.heap.size 5 rfl _ _ _ (by simp) s1.out ?_
                simp only [Act.put, List.setIfInBounds_toArray, List.set_cons_zero, List.set_cons_succ]
                go_big_quiet_on)
             | (refine q_slice 39 (.tmp 81) rfl (w.heap.size + 1) 5 rfl _ _ _ (by simp) s2.out ?_
                simp only [Act.put, List.setIfInBounds_toArray, List.set_cons_zero, List.set_cons_succ]
                go_big_quiet_on)
             | (refine q_val (.tmp 79) rfl b (o + m * 6) rfl _ _ _ _ _ _ n1.out ?_
                simp only [Act.put, List.setIfInBounds_toArray, List.set_cons_zero, List.set_cons_succ]
                go_big_quiet_on)
             | (refine q_val (.tmp 84) rfl b2 (o2 + m * 6) rfl _ _ _ _ _ _ n2.out ?_
                simp only [Act.put, List.setIfInBounds_toArray, List.set_cons_zero, List.set_cons_succ]
                go_big_quiet_on)
             | (go_big_quiet_op
                first
                | go_big_quiet_on
                | (apply Exists.intro
                   refine ⟨?_, ?_⟩
                   · exact k1.out
                   go_big_quiet_on))))
        refine wpQuiet_nil ?_
        intro W hW
        have HZ : Hid (Below w1.heap.size w1 W) := ZZ.out W hW
        clear k1 n1 n2 s1 s2 z0 ZZ hCp hW
        cases T with
        | false =>
          go_wp2
          go_ret
          refine ⟨false, rfl, ⟨⟨(fun e => by cases e), fun e => ?_⟩, HB0.out.trans (HZ.out.mono HB0.out.size)⟩⟩
          have h1 := HQ1.out.1
          rw [e.2, HQ1.out.2] at h1
          exact HTT.out.2 (Option.some.inj h1).symm
        | true =>
          go_wp2
          go_roundw
          case rel =>
            refine ⟨m + 1, by omega, by go_num, HZ.out, fun l hl => ?_⟩
            by_cases e : l = m
            · rw [e, HQ1.out.1, HQ1.out.2, HTT.out.1 rfl]
            · exact HM.out l (by omega)
          case measure => simp [intOf]; omega
theorem equal_any : ∀ (N : Nat) (p : Vt), wt p ≤ N → WfV p → ∀ q : Vt, WfV q → ∀ (na : Option Addr) (nc : Nat) (ka : Option Addr) (kc : Nat) (na2 : Option Addr) (nc2 : Nat) (ka2 : Option Addr) (kc2 : Nat) (W : World), Vl W p na nc ka kc → Vl W q na2 nc2 ka2 kc2 →
    Calls Tryz.prog 75 #[.agg #[.int .i64 p.1.k, .int .i64 p.1.n, .int .i64 p.1.s, .string p.1.t, .slice na p.1.ns.length nc, .slice ka p.2.list.length kc], .agg #[.int .i64 q.1.k, .int .i64 q.1.n, .int .i64 q.1.s, .string q.1.t, .slice na2 q.1.ns.length nc2, .slice ka2 q.2.list.length kc2]] W
      fun e w' => ∃ t, e = .returned (.bool t) ∧ Hid ((t = true ↔ p = q) ∧ Below W.heap.size W w') := by
  intro N
  induction N with
  | zero => intro p hp; exfalso; unfold wt at hp; omega
  | succ N ih =>
    intro p hp hwf q hwq na nc ka kc na2 nc2 ka2 kc2 W hv hv2
    have hI : EIh p := fun p' hp' hwp' q' hwq' na nc ka kc na2 nc2 ka2 kc2 W h1 h2 => ih p' (by omega) hwp' q' hwq' na nc ka kc na2 nc2 ka2 kc2 W h1 h2
    by_cases hE : p.1.k = q.1.k ∧ p.1.n = q.1.n ∧ p.1.s = q.1.s ∧ p.1.t.toList = q.1.t.toList ∧ p.1.ns.length = q.1.ns.length ∧ p.2.list.length = q.2.list.length
    case neg =>
      refine (equal_no p.1.k p.1.n p.1.s q.1.k q.1.n q.1.s p.1.t q.1.t na na2 ka ka2 _ nc _ kc _ nc2 _ kc2 W hE).mono ?_
      rintro e w' ⟨rfl, hb⟩
      exact ⟨false, rfl, ⟨⟨(fun h => by cases h), fun h => absurd (by rw [h]; simp) hE⟩, hb⟩⟩
    obtain ⟨⟨k, n, s, t, ns⟩, f⟩ := p
    obtain ⟨⟨k2, n2, s2, t2, ns2⟩, f2⟩ := q
    simp only at hE
    obtain ⟨rfl, rfl, rfl, ht, hn, hl⟩ := hE
    obtain rfl := bytes_eq ht
    have := equal_yes k n s t ns ns2 f f2 hI hwf hwq na na2 ka ka2 _ nc _ kc nc2 kc2 rfl hn.symm rfl hl.symm W hv hv2
    simp only [hn, hl] at this ⊢
    refine this.mono ?_
    rintro e w' ⟨r, rfl, h⟩
    refine ⟨r, rfl, ⟨?_, h.out.2⟩⟩
    rw [h.out.1]
    simp
end Go.Proofs.YtmbglggodifboaaGreatDoor
