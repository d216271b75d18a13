/-
  The contracts of block's headBytes, entryBytes. · Regions that draw their order: what chapter 11's walks lean on.
-/
import Derived.Test.YtmbglggodifboaaDoorSG19x
import Derived.Test.YtmbglggodifboaaDoorSG10x
import Derived.Test.YtmbglggodifboaaDoorSG15x
namespace Go.Proofs.YtmbglggodifboaaDoor.Sh
open Go.RowKit Math Mt
set_option linter.unusedVariables false
set_option linter.unusedSimpArgs false
theorem cells_range {w : World} {b o : Nat} {l : List Nat} (h : w.rangeAt b o (nums .u8 l)) : Cells w b o l := fun i hi => h i _ (nums_get .u8 l i hi)
theorem own_lit1 (w : World) (x base : Nat) (hb : base ≤ w.heap.size) : Own (w.alloc (.cells #[.int .u8 (x : Int)] 5)) base (.slice (some ⟨w.heap.size, 0, none⟩) 1 1) [x] := World.ownsRow_lit w #[.int .u8 (x : Int)] 1 hb (by decide) rfl
theorem ints_new (w : World) (ns : List Int) : IntsM (w.alloc (.cells (ns.map fun n => Value.int .i64 n).toArray 3)) w.heap.size ns := fun i n h => by
  rw [World.cell?_alloc_new, List.getElem?_toArray, List.getElem?_map, h]; rfl
/-- appendNumbers with numbers that were just put side by side. -/
theorem apn_new (v : Value) (l : List Nat) (ns : List Int) (hns : ∀ n ∈ ns, I64 n) (hlen : ns.length ≤ 10) (B : Nat) (W : World) (ho : Own W B v l) (hB : B ≤ W.heap.size) (hl : l.length ≤ 800000000) :
    Calls Tryd.prog 23 #[v, .slice (some ⟨W.heap.size, 0, none⟩) ns.length ns.length] (W.alloc (.cells (ns.map fun n => Value.int .i64 n).toArray 3)) fun e w' => ∃ v', e = .returned v' ∧ Ap B W w' v v' (l ++ ns.flatMap uvI) :=
  (apn_any v l ns hns hlen W.heap.size ns.length B _ (ho.alloc _) (by simp; omega) hl (ints_new W ns) ho.ne (by simp)).mono fun e w' ⟨v', h1, h2⟩ => ⟨v', h1, Ap.after ((Below.refl _ _).alloc (Nat.le_refl _) _) h2⟩
set_option maxHeartbeats 1000000 in
set_option maxRecDepth 8000 in
theorem hed_any (b : Bk) (hb : BkW b) (a : Option Addr) (c : Nat) (w : World) :
    Calls Tryd.prog 24 #[.agg (bC b a c).toArray] w fun e w' => ∃ v', e = .returned v' ∧ Own w' w.heap.size v' (hedB b) ∧ Below w.heap.size w w' := by
  have HL : Hid (b.pv.length = 32) := hb.pv.1
  have HB : Hid (BkW b) := hb
  obtain ⟨la, hla⟩ : ∃ la : List Nat, Hid (([] : List Nat) ++ [b.ix, b.tm, b.tx].flatMap uvI = la) := ⟨_, rfl⟩
  have HX : Hid (la ++ b.pv = hedB b) := by show _ = _; rw [← hla.out]; simp [hedB]
  have HN : Hid (∀ n ∈ [b.ix, b.tm, b.tx], I64 n) := fun n hn => by
    simp only [List.mem_cons, List.not_mem_nil, or_false] at hn
    rcases hn with rfl | rfl | rfl
    · exact hb.ix
    · exact hb.tm
    · exact hb.tx
  have hfl : Hid (la.length ≤ 30) := by show _ ≤ _; rw [← hla.out, List.nil_append]; exact flat_uv _ HN.out
  clear hb
  go_enter Tryd.func24, Tryd.ntmps24
  go_wp2_with (refine al_box rfl 26 (.tmp 0) rfl (bC b a c) rfl ?_)
  intro gb w1 l1 BB G0
  have Z := (Below.refl w.heap.size w).grown G0 (Nat.le_refl _) (by simp)
  have z1 := Z.size
  clear G0
  obtain ⟨c0, c1, c2, hp, _⟩ := bkF_of HL.out BB
  have KA : Calls Tryd.prog 23 #[.slice none 0 0, .slice (some ⟨w1.heap.size, 0, none⟩) 3 3] (w1.alloc (.cells #[.int .i64 b.ix, .int .i64 b.tm, .int .i64 b.tx] 3)) _ := apn_new (.slice none 0 0) [] [b.ix, b.tm, b.tx] HN.out (by simp) w.heap.size w1 (World.ownsRow_nil _ _ _ _) z1 (by simp)
  rw [hla.out] at KA
  clear hp
  go_wp2_with fail
  refine KA.mono ?_
  rintro e w2 ⟨v2, rfl, A2⟩
  have BB2 : Blk w2 gb 26 (bC b a c) := A2.blk BB (fun e => by cases e)
  have HA : Hid (Ap w.heap.size w1 w2 (.slice none 0 0) v2 la) := A2
  have Z2 : Hid (Below w.heap.size w w2) := A2.below (show Own w1 w.heap.size (.slice none 0 0) [] from World.ownsRow_nil _ _ _ _) Z z1 (Nat.le_refl _)
  have z2 := Z2.out.size
  have HY : Hid (Byt w2 (some ⟨gb, 3, none⟩) b.pv) := .inr ⟨gb, 3, rfl, cells_range (bkF_of HL.out BB2).pv⟩
  clear KA A2 c0 c1 c2 BB
  go_wp2_with (at_builtin; go_must (refine ap_bytes rfl (.tmp 12) (.tmp 14) rfl w.heap.size v2 _ rfl HA.out.own (some ⟨gb, 3, none⟩) 32 32 b.pv HL.out.symm rfl HY.out (by intro h; cases h) (by have := hfl.out; have := HL.out; omega) z2 ?_))
  intro v3 w3 A3
  have HF : Hid (Own w3 w.heap.size v3 (hedB b) ∧ Below w.heap.size w w3) := ⟨by rw [← HX.out]; exact A3.own, A3.below HA.out.own Z2.out z2 (Nat.le_refl _)⟩
  clear A3 HA HY
  go_wp2
  go_ret
  exact ⟨v3, rfl, HF.out⟩
set_option maxHeartbeats 2000000 in
set_option maxRecDepth 8000 in
theorem ent_any (e : En) (he : EnW e) (hn : Num e) (na : Option Addr) (nc : Nat) (ka : Option Addr) (kc : Nat) (w : World) :
    Calls Tryd.prog 42 #[.agg (eC e na nc ka kc).toArray] w fun e' w' => ∃ v', e' = .returned v' ∧ Own w' w.heap.size v' (entB e) ∧ Below w.heap.size w w' := by
  have HL : Hid (e.h.length = 32) := he.h.1
  obtain ⟨kn, hkn⟩ : ∃ kn : Nat, e.k = (kn : Int) := ⟨e.k.toNat, by have := hn.k; omega⟩
  have hk8 : kn ≤ 7 := by have := hn.k; omega
  have ht := hn.t
  obtain ⟨la, hla⟩ : ∃ la, Hid ([kn] ++ [e.tb, e.dc, e.vr, (e.t.size : Int)].flatMap uvI = la) := ⟨_, rfl⟩
  obtain ⟨lb, hlb⟩ : ∃ lb, Hid (la ++ bts e.t = lb) := ⟨_, rfl⟩
  obtain ⟨lc, hlc⟩ : ∃ lc, Hid (lb ++ [e.ab, e.ae].flatMap uvI = lc) := ⟨_, rfl⟩
  have HX : Hid ((lc = entB e ∧ kn ≠ 2) ∨ (lc ++ e.h = entB e ∧ kn = 2)) := by
    rw [← hlc.out, ← hlb.out, ← hla.out]
    have e1 : e.k.toNat = kn := by omega
    have e2 : uvI (e.t.size : Int) = uv e.t.size := rfl
    by_cases h2 : kn = 2
    · right
      refine ⟨?_, h2⟩
      unfold entB
      rw [if_pos (by omega), e1]
      simp [e2]
    · left
      refine ⟨?_, h2⟩
      unfold entB
      rw [if_neg (by omega), e1]
      simp [e2]
  have HN : Hid (∀ n ∈ [e.tb, e.dc, e.vr, (e.t.size : Int)], I64 n) := fun n h => by
    simp only [List.mem_cons, List.not_mem_nil, or_false] at h
    rcases h with rfl | rfl | rfl | rfl
    · exact he.tb
    · exact he.dc
    · exact he.vr
    · exact ⟨by omega, by omega⟩
  have HM : Hid (∀ n ∈ [e.ab, e.ae], I64 n) := fun n h => by
    simp only [List.mem_cons, List.not_mem_nil, or_false] at h
    rcases h with rfl | rfl
    · exact he.ab
    · exact he.ae
  have hf1 : Hid (la.length ≤ 41) := by
    have := flat_uv _ HN.out
    show _ ≤ _
    rw [← hla.out, List.length_append, List.length_singleton]
    simp only [List.length_cons, List.length_nil] at this
    omega
  have hf2 : Hid (lb.length ≤ 41 + e.t.size) := by show _ ≤ _; rw [← hlb.out, List.length_append, bts_len]; have := hf1.out; omega
  have hf3 : Hid (lc.length ≤ 61 + e.t.size) := by
    have := flat_uv _ HM.out
    have := hf2.out
    show _ ≤ _
    rw [← hlc.out, List.length_append]
    simp only [List.length_cons, List.length_nil] at *
    omega
  clear he hn
  go_enter Tryd.func42, Tryd.ntmps42
  go_wp2_with (refine al_box rfl 43 (.tmp 0) rfl (eC e na nc ka kc) rfl ?_)
  intro ge w1 l1 BE G0
  have Z := (Below.refl w.heap.size w).grown G0 (Nat.le_refl _) (by simp)
  have z1 := Z.size
  clear G0
  obtain ⟨ck, ct, ctb, cdc, cvr, _, _, _, _, _⟩ := enF_of HL.out BE.all
  rw [hkn] at ck
  rw [Nat.zero_add] at ct ctb cdc cvr
  have oL := own_lit1 w1 kn w.heap.size z1
  obtain ⟨W1, HW1⟩ : ∃ W1, Hid (w1.alloc (.cells #[.int .u8 (kn : Int)] 5) = W1) := ⟨_, rfl⟩
  have hz1 : W1.heap.size = w1.heap.size + 1 := by rw [← HW1.out]; simp
  have ZW : Hid (Below w.heap.size w W1) := by rw [← HW1.out]; exact Z.alloc z1 _
  have BW : Hid (Blk W1 ge 43 (eC e na nc ka kc)) := by rw [← HW1.out]; exact BE.alloc _
  have hgw : ge < w1.heap.size := BE.lt
  rw [HW1.out] at oL
  have KA := apn_new _ [kn] [e.tb, e.dc, e.vr, (e.t.size : Int)] HN.out (by simp) w.heap.size W1 oL (by omega) (by simp)
  rw [hz1] at KA
  replace KA : Calls Tryd.prog 23 #[.slice (some ⟨w1.heap.size, 0, none⟩) 1 1, .slice (some ⟨w1.heap.size + 1, 0, none⟩) 4 4] (W1.alloc (.cells #[.int .i64 e.tb, .int .i64 e.dc, .int .i64 e.vr, .int .i64 (e.t.size : Int)] 3)) _ := KA
  have HO1 : Hid (Own W1 w.heap.size (.slice (some ⟨w1.heap.size, 0, none⟩) 1 1) [kn]) := oL
  rw [← HW1.out, hla.out] at KA
  clear oL
  go_wp2_with fail
  refine KA.mono ?_
  rintro e' w2 ⟨v2, rfl, A2⟩
  rw [HW1.out] at A2
  have BE2 : Blk w2 ge 43 (eC e na nc ka kc) := A2.blk BW.out (fun h => by simp only [Value.ownBlock, Option.some.injEq] at h; omega)
  have HO2 : Hid (Own w2 w.heap.size v2 la) := A2.own
  have Z2 : Hid (Below w.heap.size w w2) := A2.below HO1.out ZW.out (by omega) (Nat.le_refl _)
  have hv2 : Hid (v2.ownBlock ≠ some ge) := fun h => by
    rcases A2.ob ge h with h | h
    · simp only [Value.ownBlock, Option.some.injEq] at h; omega
    · omega
  have z2 := Z2.out.size
  have ct2 : w2.cell? ⟨ge, 1, none⟩ = some (.string e.t) := by have := (enF_of HL.out BE2.all).t; rw [Nat.zero_add] at this; exact this
  clear A2 KA ck ct ctb cdc cvr BE HW1 BW ZW HO1
  go_wp2_with (at_builtin; go_must (refine ap_str rfl (.tmp 19) (.tmp 21) rfl w.heap.size v2 _ rfl HO2.out e.t rfl (by have := hf1.out; omega) z2 ?_))
  intro v3 w3 A3
  rw [hlb.out] at A3
  have BE3 : Blk w3 ge 43 (eC e na nc ka kc) := A3.blk BE2 hv2.out
  have HO3 : Hid (Own w3 w.heap.size v3 lb) := A3.own
  have Z3 : Hid (Below w.heap.size w w3) := A3.below HO2.out Z2.out z2 (Nat.le_refl _)
  have hg2 : ge < w2.heap.size := BE2.lt
  have hv3 : Hid (v3.ownBlock ≠ some ge) := fun h => by
    rcases A3.ob ge h with h | h
    · exact hv2.out h
    · omega
  have z3 := Z3.out.size
  have ca : w3.cell? ⟨ge, 44, none⟩ = some (.int .i64 e.ab) := by have := (enF_of HL.out BE3.all).ab; rw [Nat.zero_add] at this; exact this
  have cb : w3.cell? ⟨ge, 45, none⟩ = some (.int .i64 e.ae) := by have := (enF_of HL.out BE3.all).ae; rw [Nat.zero_add] at this; exact this
  have KB : Calls Tryd.prog 23 #[v3, .slice (some ⟨w3.heap.size, 0, none⟩) 2 2] (w3.alloc (.cells #[.int .i64 e.ab, .int .i64 e.ae] 3)) _ := apn_new v3 _ [e.ab, e.ae] HM.out (by simp) w.heap.size w3 HO3.out z3 (by have := hf2.out; omega)
  rw [hlc.out] at KB
  clear A3 ct2 BE2 HO2 hv2
  go_wp2_with fail
  refine KB.mono ?_
  rintro e' w4 ⟨v4, rfl, A4⟩
  have BE4 : Blk w4 ge 43 (eC e na nc ka kc) := A4.blk BE3 hv3.out
  have HO4 : Hid (Own w4 w.heap.size v4 lc) := A4.own
  have Z4 : Hid (Below w.heap.size w w4) := A4.below HO3.out Z3.out z3 (Nat.le_refl _)
  have z4 := Z4.out.size
  have ck4 : w4.cell? ⟨ge, 0, none⟩ = some (.int .i64 (kn : Int)) := by have := (enF_of HL.out BE4.all).k; rw [hkn] at this; exact this
  have HY : Hid (Byt w4 (some ⟨ge, 11, none⟩) e.h) := .inr ⟨ge, 11, rfl, cells_range (by have := (enF_of HL.out BE4.all).h; rw [Nat.zero_add] at this; exact this)⟩
  clear A4 KB ca cb BE3 HO3 hv3 BE4
  by_cases h2 : kn = 2
  · have hx : Hid (lc ++ e.h = entB e) := by
      rcases HX.out with h | h
      · exact absurd h2 h.2
      · exact h.1
    have hb2 : ((kn : Int) == 2) = true := by rw [h2]; rfl
    clear HX h2 hkn
    go_wp2_with (at_builtin; go_must (refine ap_bytes rfl (.tmp 35) (.tmp 37) rfl w.heap.size v4 _ rfl HO4.out (some ⟨ge, 11, none⟩) 32 32 e.h HL.out.symm rfl HY.out (by intro h; cases h) (by have := hf3.out; have := HL.out; omega) z4 ?_))
    intro v5 w5 A5
    have HF : Hid (Own w5 w.heap.size v5 (entB e) ∧ Below w.heap.size w w5) := ⟨by rw [← hx.out]; exact A5.own, A5.below HO4.out Z4.out z4 (Nat.le_refl _)⟩
    clear A5 HO4 HY
    go_wp2
    go_ret
    exact ⟨v5, rfl, HF.out⟩
  · have HF : Hid (Own w4 w.heap.size v4 (entB e) ∧ Below w.heap.size w w4) := ⟨by
      rcases HX.out with h | h
      · rw [← h.1]; exact HO4.out
      · exact absurd h.2 h2, Z4.out⟩
    have hb2 : ((kn : Int) == 2) = false := beq_eq_false_iff_ne.2 (by omega)
    clear HX h2 hkn HO4 HY
    go_wp2
    go_ret
    exact ⟨v4, rfl, HF.out⟩
end Go.Proofs.YtmbglggodifboaaDoor.Sh
namespace Go.Proofs.YtmbglggodifboaaDoor.Sh
open Go Go.RowKit
set_option linter.unusedVariables false
section
variable {C : World → Prop} {z : Nat} {Q : Exit → Act → World → Prop}
def firstL (ops : Array Oper) (z : Nat) (listed : Array Bool) (i : Nat) : Bool := lastOn ops z i && ((Region.ready .any ops listed).contains i && Region.free .any ops listed i)
/-- A length may be taken first. -/
theorem len_first {L : List Oper} {i : Nat} {o : Oper} {n : Nat} {listed : Array Bool} {a : Act} {w : World} (N : Nat) (hn : n = N + 1) (hsel : Region.noSelect L.toArray = true) (hQ : ∀ c (a : Act) (d : Option Tmp) v w, Q (.panic c) (a.put d v) w → Q (.panic c) a w) (hC : C w) (hB : firstL L.toArray z listed i = true) (hi : nth L i = some o) (hw : Region.wanted o (yielded L.toArray a.tmps) = true)
    (x : Operand) (t : TypeId) (ho : o.op = .call { callee := .builtin .len, args := #[x], argTypes := #[t] }) (e : TypeId) (ht : Tryd.prog.underlying t = some (.slice e)) (ad : Option Addr) (k cap : Nat) (hx : a.eval x = .slice ad k cap)
    (h : anyC Tryd.prog L.toArray C z Q N (listed.setIfInBounds i true) (a.put o.dst (.int .i64 (k : Int))) w) : anyC Tryd.prog L.toArray C z Q n listed a w := by
  subst hn
  unfold firstL at hB
  simp only [Bool.and_eq_true] at hB
  have hi' : L.toArray[i]? = some o := by rw [List.getElem?_toArray, ← nth_eq, hi]
  refine anyC_first (v := .int .i64 (k : Int)) hi' (lastOn_spec hB.1) hsel hQ N listed a w hC (Region.free_spec hi' hB.2.2) (by simpa using hB.2.1) (.inl ⟨hw, fun W _ => ?_⟩) h
  unfold execOp
  simp only [ho, resolve, invoke, builtin, Sem.run_bind, Sem.run_pure, Result.andThen_ok, List.map_toArray, List.map_cons, List.map_nil, hx]
  go_simp
end
section
variable {o : Oper} {a : Act} {w : World} {K : Act → World → Prop} {Q : Exit → Act → World → Prop}
theorem oper_b1 (n : Int) (ho : o.op = .buildSlice 28 1 #[(0, .const (.int .u8 n))]) (hK : K (a.put o.dst (.slice (some ⟨w.heap.size, 0, none⟩) 1 1)) (w.alloc (.cells #[.int .u8 n] 5))) : Oper.wp Tryd.prog o a w K Q := by
  unfold Oper.wp execOp
  simp only [ho]
  go_simp
  exact hK
theorem oper_i1 (t : Nat) (ho : o.op = .buildSlice 89 1 #[(0, .tmp t)]) (n : Int) (hx : a.tmps.getD t undef = .int .i64 n) (hK : K (a.put o.dst (.slice (some ⟨w.heap.size, 0, none⟩) 1 1)) (w.alloc (.cells #[.int .i64 n] 3))) : Oper.wp Tryd.prog o a w K Q := by
  have hx' : a.tmps[t]?.getD undef = .int .i64 n := by simpa using hx
  unfold Oper.wp execOp
  simp only [ho]
  go_simp
  exact hK
theorem oper_new {P : Program} (t : TypeId) (ho : o.op = .alloc t) (cs : List Value) (hz : (P.info? t).map (fun i => i.zero.map (·.cells)) = some (some cs.toArray))
    (hK : K (a.put o.dst (.pointer (some ⟨w.heap.size, 0, none⟩))) (w.alloc (.cells cs.toArray t))) : Oper.wp P o a w K Q := by
  unfold Oper.wp execOp
  cases hi : P.info? t with
  | none => simp [hi] at hz
  | some i =>
    cases hq : i.zero with
    | none => simp [hi, hq] at hz
    | some z =>
      have hc : z.cells = cs.toArray := by simpa [hi, hq] using hz
      have hzv : (zeroValue t).run P w = .ok z w := by simp [zeroValue, typeInfo, hi, hq]
      simp only [ho, Sem.run_bind, Instr.alloc, hzv, newVar, newRow, run_newObj_alloc, Sem.run_pure, Result.andThen_ok, hc]
      exact hK
theorem q_load {C : World → Prop} {K : Act → Prop} (ty : TypeId) (x : Operand) (ho : o.op = .load ty x) (b k : Nat) (hx : a.eval x = .pointer (some ⟨b, k, none⟩)) (cs : List Value) (d : TypeDesc) (hS : ∀ w, C w → w.rangeAt b k cs)
    (hu : Tryd.prog.underlying ty = some d) (hd : d.isRow = true) (hi : (Tryd.prog.info? ty).map (·.size) = some cs.length) (hk : K (a.put o.dst (.agg cs.toArray))) : o.quiet Tryd.prog a C K :=
  ⟨_, fun w hw => by
    unfold Oper.quietAt execOp
    simp only [ho, hx, Instr.loadAt, Instr.sureAddr, Sem.run_bind, Sem.run_pure, Result.andThen_ok, run_loadVar_mid w b k ty cs d (hS w hw) hu hd hi]
    exact ⟨rfl, rfl⟩, hk⟩
theorem q_cell {C : World → Prop} {K : Act → Prop} (T : TypeId) (hT : T = 3 ∨ T = 9 ∨ T = 24 ∨ T = 28 ∨ T = 4) (x : Operand) (ho : o.op = .load T x) (b k : Nat) (hx : a.eval x = .pointer (some ⟨b, k, none⟩)) (v : Value) (hS : ∀ w, C w → w.cell? ⟨b, k, none⟩ = some v)
    (hk : K (a.put o.dst v)) : o.quiet Tryd.prog a C K :=
  ⟨_, fun w hw => by
    have h := hS w hw
    unfold Oper.quietAt execOp
    rcases hT with rfl | rfl | rfl | rfl | rfl <;> simp only [ho, hx] <;> go_simp, hk⟩
end
end Go.Proofs.YtmbglggodifboaaDoor.Sh
