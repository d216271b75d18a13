/-
  Tree: a node with all that is under it is made anew. · Tree: clone, of any. · Tree: clone, Copy.
-/
import Derived.Test.YteokjfpppmnebaaPn
import Derived.Test.YteokjfpppmnebaaIi
namespace Go.Proofs.Yteokjfpppmnebaa
open Go.RowKit
set_option linter.unusedVariables false
set_option linter.unusedSimpArgs false
def simK (S : B → B → Prop) : List KB → List KB → Prop
  | [], [] => True
  | p :: r, q :: r' => (q.1 = p.1 ∧ S p.2 q.2) ∧ simK S r r'
  | [], _ :: _ => False
  | _ :: _, [] => False
/-- The same texts in the same shape. -/
def Sim : Nat → B → B → Prop
  | 0, .lf _ es, .lf _ es' => es' = es
  | 0, .nd _ _, _ => False
  | 0, .lf _ _, .nd _ _ => False
  | l + 1, .nd _ ks, .nd _ ks' => simK (fun a c => Sim l a c) ks ks'
  | _ + 1, .lf _ _, _ => False
  | _ + 1, .nd _ _, .lf _ _ => False
theorem simK_map {S : B → B → Prop} {α : Type} (f : KB → α) (hf : ∀ p q, q.1 = p.1 → S p.2 q.2 → f q = f p) : ∀ {ks ks' : List KB}, simK S ks ks' → ks'.map f = ks.map f
  | [], [], _ => rfl
  | p :: r, q :: r', h => by
    rw [List.map_cons, List.map_cons, hf p q h.1.1 h.1.2, simK_map f hf h.2]
  | [], _ :: _, h => h.elim
  | _ :: _, [], h => h.elim
theorem simK_all {S : B → B → Prop} {P P' : KB → Prop} (hf : ∀ p q, q.1 = p.1 → S p.2 q.2 → P p → P' q) : ∀ {ks ks' : List KB}, simK S ks ks' → (∀ p ∈ ks, P p) → ∀ q ∈ ks', P' q
  | [], [], _, _, q, hq => by cases hq
  | p :: r, q :: r', h, hp, x, hx => by
    rcases List.mem_cons.1 hx with rfl | hx
    · exact hf p _ h.1.1 h.1.2 (hp p (by simp))
    · exact simK_all hf h.2 (fun y hy => hp y (by simp [hy])) x hx
  | [], _ :: _, h, _, _, _ => h.elim
  | _ :: _, [], h, _, _, _ => h.elim
theorem sim_ents : ∀ {l : Nat} {t t' : B}, Sim l t t' → ents l t' = ents l t ∧ nods l t' = nods l t ∧ t'.cnt = t.cnt
  | 0, .lf _ es, .lf _ es', h => by
    obtain rfl : es' = es := h
    exact ⟨rfl, rfl, rfl⟩
  | 0, .nd _ _, _, h => h.elim
  | 0, .lf _ _, .nd _ _, h => h.elim
  | l + 1, .nd _ ks, .nd _ ks', h => by
    have h : simK (fun a c => Sim l a c) ks ks' := h
    have e1 := simK_map (fun p => ents l p.2) (fun p q _ hs => (sim_ents hs).1) h
    have e2 := simK_map (fun p => nods l p.2) (fun p q _ hs => (sim_ents hs).2.1) h
    have e3 := congrArg List.length e2
    simp only [List.length_map] at e3
    refine ⟨?_, ?_, by simp [B.cnt, B.ss, e3]⟩
    · show ks'.flatMap _ = ks.flatMap _
      rw [List.flatMap_def, List.flatMap_def, e1]
    · show 1 + _ = 1 + _
      rw [e2]
  | _ + 1, .lf _ _, _, h => h.elim
  | _ + 1, .nd _ _, .lf _ _, h => h.elim
theorem sim_lt0 : ∀ {l : Nat} {t t' : B}, Sim l t t' → t'.lt0 = t.lt0
  | 0, .lf _ es, .lf _ es', h => by
    obtain rfl : es' = es := h
    rfl
  | 0, .nd _ _, _, h => h.elim
  | 0, .lf _ _, .nd _ _, h => h.elim
  | l + 1, .nd _ [], .nd _ [], h => rfl
  | l + 1, .nd _ (p :: r), .nd _ (q :: r'), h => h.1.1
  | l + 1, .nd _ [], .nd _ (_ :: _), h => h.elim
  | l + 1, .nd _ (_ :: _), .nd _ [], h => h.elim
  | _ + 1, .lf _ _, _, h => h.elim
  | _ + 1, .nd _ _, .lf _ _, h => h.elim
theorem sim_fit : ∀ {l : Nat} {t t' : B}, Sim l t t' → Fit l t → Fit l t'
  | 0, .lf _ es, .lf _ es', h, _ => trivial
  | 0, .nd _ _, _, h, _ => h.elim
  | 0, .lf _ _, .nd _ _, h, _ => h.elim
  | l + 1, .nd _ ks, .nd _ ks', h, hf => simK_all (P := fun p => Fit l p.2 ∧ 8 ≤ p.2.cnt ∧ p.1 = p.2.lt0) (fun p q e hs hp => ⟨sim_fit hs hp.1, by rw [(sim_ents hs).2.2]; exact hp.2.1, by rw [e, sim_lt0 hs]; exact hp.2.2⟩) h hf
  | _ + 1, .lf _ _, _, h, _ => h.elim
  | _ + 1, .nd _ _, .lf _ _, h, _ => h.elim
/-- What a clone is. -/
structure ClB (w w' : World) (l : Nat) (t : B) (nx' : Option Nat) (bb : Nat) (t' : B) : Prop where
  mem : Mem w' l t' nx' 0
  sim : Sim l t t'
  new : ∀ x ∈ fps l t', w.heap.size ≤ x
  nodup : (fps l t').Nodup
  box : Blk w' bb 53 [pt (some (fsl l t'))]
  upd : Upd [bb] w w'
/-- Half way through the kids. -/
structure CbI (w wr : World) (l c bb : Nat) (ks : List KB) (nx' : Option Nat) (k : Nat) (D : List KB) : Prop where
  hk : k ≤ ks.length
  nd : Nd wr c ((l + 1 : Nat) : Int) ((ks.take k).map sK ++ D.map sK) none 0
  ch : chain (fun t nx => Mem wr l t nx 0) (fsl l) D nx'
  sim : simK (fun a c => Sim l a c) (ks.drop k) D
  hc : w.heap.size ≤ c
  new : ∀ x ∈ D.flatMap fun p => fps l p.2, c < x
  nodup : (D.flatMap fun p => fps l p.2).Nodup
  box : Blk wr bb 53 [pt (nxt (fsl l) D nx')]
  upd : Upd [bb] w wr
theorem simK_len {S : B → B → Prop} {ks ks' : List KB} (h : simK S ks ks') : ks'.length = ks.length := by
  have := congrArg List.length (simK_map (fun p => p.1) (fun _ _ e _ => e) h)
  simpa using this
theorem CbI.done {w wr : World} {l b c bb : Nat} {ks D : List KB} {nx' : Option Nat} (h : CbI w wr l c bb ks nx' 0 D) (hne : ks ≠ []) : ClB w wr (l + 1) (.nd b ks) nx' bb (.nd c D) := by
  have hn := h.nd
  rw [List.take_zero, List.map_nil, List.nil_append] at hn
  have hs := h.sim
  rw [List.drop_zero] at hs
  cases D with
  | nil =>
    cases ks with
    | nil => exact absurd rfl hne
    | cons p r => exact hs.elim
  | cons q r =>
    refine ⟨⟨hn, h.ch⟩, hs, fun x hx => ?_, ?_, h.box, h.upd⟩
    · simp only [fps, List.mem_cons] at hx
      rcases hx with rfl | hx
      · exact h.hc
      · have := h.new x hx; have := h.hc; omega
    · simp only [fps, List.nodup_cons]
      exact ⟨fun hx => by have := h.new c hx; omega, h.nodup⟩
theorem CbI.step {w wr w2 w3 : World} {l c bb k : Nat} {ks D : List KB} {nx' : Option Nat} {p : KB} {t2 : B} (h : CbI w wr l c bb ks nx' (k + 1) D) (hp : ks[k]? = some p) (hbl : bb < w.heap.size) (hC : ClB wr w2 l p.2 (nxt (fsl l) D nx') bb t2) (g : w2.grownBy w3 (some c)) (hN : Nd w3 c ((l + 1 : Nat) : Int) ((ks.take k).map sK ++ ((p.1, t2) :: D).map sK) none 0) : CbI w w3 l c bb ks nx' k ((p.1, t2) :: D) := by
  have hk : k < ks.length := (List.getElem?_eq_some_iff.1 hp).1
  have hcl : c < wr.heap.size := h.nd.lt
  have hcb : c ≠ bb := by have := h.hc; omega
  have hsz := h.upd.size
  have hD : ∀ x ∈ D.flatMap fun p => fps l p.2, x < wr.heap.size := fun x hx => by
    obtain ⟨q, hq, hx⟩ := List.mem_flatMap.1 hx
    obtain ⟨nx, hm⟩ := chain_mem h.ch q hq
    exact hm.lt x hx
  have hnb : ∀ x ∈ D.flatMap fun p => fps l p.2, x ≠ bb := fun x hx => by have := h.new x hx; have := h.hc; omega
  have u3 := Upd.of_by g
  refine ⟨by omega, hN, ⟨?_, ?_⟩, ?_, h.hc, fun x hx => ?_, ?_, ?_, ?_⟩
  · exact hC.mem.upd u3 (fun x hx q => by have := hC.new x hx; rw [List.mem_singleton] at q; omega)
  · refine (h.ch.mono (fun q hq nx hm => ?_))
    refine (hm.upd hC.upd (fun x hx e => hnb x (List.mem_flatMap.2 ⟨q, hq, hx⟩) (List.mem_singleton.1 e))).upd u3 (fun x hx e => ?_)
    have := h.new x (List.mem_flatMap.2 ⟨q, hq, hx⟩)
    rw [List.mem_singleton] at e
    omega
  · rw [List.drop_eq_getElem_cons hk]
    have e := (List.getElem?_eq_some_iff.1 hp).2
    rw [e]
    exact ⟨⟨rfl, hC.sim⟩, h.sim⟩
  · rw [List.flatMap_cons] at hx
    rcases List.mem_append.1 hx with hx | hx
    · have := hC.new x hx; omega
    · exact h.new x hx
  · rw [List.flatMap_cons, List.nodup_append]
    exact ⟨hC.nodup, h.nodup, fun x hx y hy e => by have := hC.new x hx; have := hD y hy; omega⟩
  · exact hC.box.upd u3 (fun q => hcb (List.mem_singleton.1 q).symm)
  · exact (h.upd.trans hC.upd (fun x hx _ => hx)).trans u3 (fun x hx hl => by have := h.hc; rw [List.mem_singleton] at hx; omega)
theorem list_range {L : List Value} {n : Nat} (h : L.length = n) : L = (List.range n).map (fun i => L.getD i undef) := by
  apply List.ext_getElem (by simp [h])
  intro i h1 h2
  simp [List.getD_eq_getElem?_getD, List.getElem?_eq_getElem h1]
theorem bd_node0 (lv cnt : Int) (f : Nat → Value) : Try.prog.built 71 [(0, .int .i64 lv), (1, .int .i64 cnt), (2, .agg ((List.range 48).map f).toArray)] = some ([Value.int .i64 lv, Value.int .i64 cnt] ++ ((List.range 48).map f ++ [Value.pointer none, Value.int .i64 0])).toArray := by kernel_rfl
theorem bd_node (lv cnt : Int) (ss : List Sl) (h : ss.length ≤ 16) : Try.prog.built 71 [(0, .int .i64 lv), (1, .int .i64 cnt), (2, .agg (rowC (pad ss)).toArray)] = some (nR lv cnt (pad ss) none 0).toArray := by
  have hl : (rowC (pad ss)).length = 48 := by rw [rowC_len, pad_len h]
  have := bd_node0 lv cnt (fun i => (rowC (pad ss)).getD i undef)
  rw [← list_range hl] at this
  exact this
theorem q_bdn {o : Oper} {a : Act} {C : World → Prop} {K : Act → Prop} (x y z : Operand) (ho : o.op = .build 71 #[(0, x), (1, y), (2, z)]) (lv cnt : Int) (ss : List Sl) (h : ss.length ≤ 16) (hx : a.eval x = .int .i64 lv) (hy : a.eval y = .int .i64 cnt) (hz : a.eval z = .agg (rowC (pad ss)).toArray) (hk : K (a.put o.dst (.agg (nR lv cnt (pad ss) none 0).toArray))) : o.quiet Try.prog a C K :=
  q_bd 71 _ ho _ (by simp only [List.map_toArray, List.map_cons, List.map_nil, hx, hy, hz]; exact bd_node lv cnt ss h) hk
theorem s69 : (Try.prog.info? 69).map (·.size) = some 48 := by kernel_rfl
theorem oper_box {o : Oper} {a : Act} {w : World} {K : Act → World → Prop} {Q : Exit → Act → World → Prop} (t : TypeId) (x : Operand) (ho : o.op = .box t x) (cs : List Value) (hx : a.eval x = .agg cs.toArray)
    (h : K (a.put o.dst (.pointer (some ⟨w.heap.size, 0, none⟩))) (w.alloc (.cells cs.toArray t))) : Oper.wp Try.prog o a w K Q := by
  unfold Oper.wp execOp
  simp only [ho, hx, Value.cells, Sem.run_bind, Instr.box, newVar, newRow, run_newObj_alloc, Sem.run_pure, Result.andThen_ok]
  exact h
set_option maxRecDepth 8000 in
set_option maxHeartbeats 2000000 in
theorem clone_leaf (b : Nat) (es : List E) (nx nx' : Option Nat) (rd : Int) (bb : Nat) (w : World) (hm : Nd w b 0 (es.map sE) nx rd) (hb : Blk w bb 53 [pt nx']) (hbb : bb ≠ b) :
    Calls Try.prog 41 #[.pointer (some ⟨b, 0, none⟩), .pointer (some ⟨bb, 0, none⟩)] w fun e w' => ∃ c, e = .returned (.pointer (some ⟨c, 0, none⟩)) ∧ Hid (ClB w w' 0 (.lf b es) nx' bb (.lf c es)) := by
  obtain ⟨ss, HS⟩ : ∃ ss, Hid (es.map sE = ss) := ⟨_, rfl⟩
  rw [HS.out] at hm
  have HSL : Hid (ss.length ≤ 16) := hm.le
  obtain ⟨n, hn⟩ : ∃ n, ss.length = n := ⟨_, rfl⟩
  have HL : Hid (ss.length = n) := hn
  have HN : Hid (Nd w b 0 ss nx rd) := hm
  have HB : Hid (Blk w bb 53 [pt nx']) := hb
  have HS48 : Hid ((Try.prog.info? 69).map (·.size) = some (rowC (pad ss)).length) := by rw [rowC_len, pad_len HSL.out]; exact s69
  have hbl : bb < w.heap.size := hb.lt
  clear hm hn hb
  go_enter Try.func41, Try.ntmps41
  obtain ⟨C, hC⟩ : ∃ C : World → Prop, C = fun W => Below w.heap.size w W := ⟨_, rfl⟩
  have F0 : Hid (∀ W, C W → W.cell? ⟨b, 0, none⟩ = some (.int .i64 0)) := fun W hW => by rw [hC] at hW; exact (HN.out.below hW HN.out.lt).level
  have F1 : Hid (∀ W, C W → W.cell? ⟨b, 1, none⟩ = some (.int .i64 (n : Int))) := fun W hW => by rw [hC] at hW; exact (by have := (HN.out.below hW HN.out.lt).count; rw [HL.out] at this; exact this)
  have F2 : Hid (∀ W, C W → W.rangeAt b 2 (rowC (pad ss))) := fun W hW => by rw [hC] at hW; exact (by have h := (HN.out.below hW HN.out.lt).blk; unfold nC at h; exact h.range)
  have CG : Hid (∀ w w', C w → Grow w w' → C w') := fun W W' h1 h2 => by rw [hC] at h1 ⊢; exact h1.trans (h2.mono h1.size)
  have CE : Hid (∀ W, C W → Below w.heap.size w W) := fun W h => by rw [hC] at h; exact h
  have C0 : Hid (C { w with drawn := w.drawn + 1 }) := by rw [hC]; exact Below.drew (Below.refl _ _)
  clear hC
  go_wp2_with fail
  refine region_grow [] (by kernel_rfl) ?_
  have hCp : ∀ p : Prop, (∀ W, C W → p) ↔ p := fun p => ⟨fun h => h _ C0.out, fun h _ _ => h⟩
  generalize ({ w with drawn := w.drawn + 1 } : World) = y0 at *
  refine segR 2 [0, 1, 2, 3, 4, 5, 6, 7, 8, 9, 10, 11, 12] rfl (by kernel_rfl) whole_blind CG.out C0.out (by decide +kernel) ?_
  change wpQuiet _ _ _ _ (_ :: _ :: _ :: _ :: _ :: _ :: _ :: _ :: _ :: _ :: _ :: _ :: _ :: []) _
  repeat (first
    | go_big_quiet_skip
    | (go_big_quiet_want
       first
       | (refine q_cell 3 (.inl rfl) (.tmp 11) rfl b 0 rfl _ F0.out ?_
          simp only [Act.put, List.setIfInBounds_toArray, List.set_cons_zero, List.set_cons_succ]
          go_big_quiet_on)
       | (refine q_cell 3 (.inl rfl) (.tmp 15) rfl b 1 rfl _ F1.out ?_
          simp only [Act.put, List.setIfInBounds_toArray, List.set_cons_zero, List.set_cons_succ]
          go_big_quiet_on)
       | (refine q_load 69 (.tmp 19) rfl b 2 rfl (rowC (pad ss)) _ F2.out Try.underlying69 rfl HS48.out ?_
          simp only [Act.put, List.setIfInBounds_toArray, List.set_cons_zero, List.set_cons_succ]
          go_big_quiet_on)
       | (refine q_bdn (.tmp 12) (.tmp 16) (.tmp 20) rfl 0 (n : Int) ss HSL.out rfl rfl rfl ?_
          simp only [Act.put, List.setIfInBounds_toArray, List.set_cons_zero, List.set_cons_succ]
          go_big_quiet_on)
       | (go_big_quiet_op
          go_big_quiet_on)))
  refine wpQuiet_nil ?_
  refine one_ofR 1 rfl [13] (by decide +kernel) (by simp) fun j hj => ?_
  obtain rfl := List.mem_singleton.1 hj
  refine ⟨_, rfl, (by rfl), fun uz hy K hK => ?_⟩
  have CZ : Hid (C uz) := CG.out _ _ C0.out hy
  clear hy
  refine oper_box 71 _ rfl (nR 0 (n : Int) (pad ss) none 0) rfl ?_
  have GZ : Grow uz (uz.alloc (.cells (nR 0 (n : Int) (pad ss) none 0).toArray 71)) := (Grow.refl uz).alloc _
  refine hK _ _ (.inr GZ) ?_
  clear hK K
  simp only [Act.put, List.setIfInBounds_toArray, List.set_cons_zero, List.set_cons_succ]
  have HZ : Hid (Below w.heap.size w (uz.alloc (.cells (nR 0 (n : Int) (pad ss) none 0).toArray 71)) ∧ Nd (uz.alloc (.cells (nR 0 (n : Int) (pad ss) none 0).toArray 71)) uz.heap.size 0 ss none 0 ∧ w.heap.size ≤ uz.heap.size) := by
    have hb := CE.out _ CZ.out
    refine ⟨hb.trans (GZ.mono hb.size), ⟨?_, HSL.out⟩, hb.size⟩
    rw [nC_nR, HL.out]
    exact blk_new uz _ _
  obtain ⟨c, hbz⟩ : ∃ c, uz.heap.size = c := ⟨_, rfl⟩
  rw [hbz] at HZ ⊢
  obtain ⟨w2, hwz⟩ : ∃ w2, (uz.alloc (.cells (nR 0 (n : Int) (pad ss) none 0).toArray 71)) = w2 := ⟨_, rfl⟩
  rw [hwz] at HZ ⊢
  clear hbz hwz GZ CZ hCp
  have hCp : ∀ p : Prop, (∀ W, Anyw W → p) ↔ p := fun p => anyw_p w p
  refine loneR (C := Anyw) (i := 14) 0 rfl (by kernel_rfl) rfl rfl (fun _ _ _ _ => trivial) trivial ?_
  repeat (first
    | go_big_quiet_skip
    | (go_big_quiet_want
       first
       | (go_big_quiet_op
          go_big_quiet_on)))
  refine wpQuiet_nil ?_
  clear hCp
  refine doneR (by kernel_rfl) fun w3 hy => ?_
  have HZ3 : Hid (Below w.heap.size w w3 ∧ Nd w3 c 0 ss none 0 ∧ w.heap.size ≤ c) := ⟨HZ.out.1.trans (hy.mono HZ.out.1.size), HZ.out.2.1.below hy HZ.out.2.1.lt, HZ.out.2.2⟩
  clear hy HZ CG CE C0 F0 F1 F2 HS48
  have c0 : w3.cell? ⟨b, 0, none⟩ = some (.int .i64 0) := (HN.out.below HZ3.out.1 HN.out.lt).level
  have HB3 : Hid (Blk w3 bb 53 [pt nx']) := HB.out.below HZ3.out.1 hbl
  have c1 : w3.cell? ⟨bb, 0, none⟩ = some (pt nx') := HB3.out.cell 0
  obtain ⟨pv, hpv⟩ : ∃ pv, pt nx' = .pointer pv := ⟨_, rfl⟩
  have HPV : Hid (pt nx' = .pointer pv) := hpv
  rw [hpv] at c1
  clear hpv
  go_wp2_with (refine st_one rfl 53 (.tmp 35) (.tmp 32) rfl c 50 71 _ (.pointer pv) rfl rfl rfl rfl (by rw [nC_len HZ3.out.2.1.le]; decide) HZ3.out.2.1.blk s53 ?_)
  intro w4 B4 G4
  have HN4 : Hid (Nd w4 c 0 ss nx' 0) := by
    rw [← HPV.out, nC_next _ _ _ _ _ HZ3.out.2.1.le] at B4
    exact ⟨B4, HZ3.out.2.1.le⟩
  have hcb : c ≠ bb := by have := HZ3.out.2.2; omega
  have HB4 : Hid (Blk w4 bb 53 [pt nx']) := HB3.out.kept G4 (fun q => hcb (Option.some.inj q).symm)
  have HG4 : Hid (Upd [bb] w w4) := (Upd.of_below _ HZ3.out.1).trans (Upd.of_by G4) (fun x hx hl => by have := HZ3.out.2.2; rw [List.mem_singleton] at hx; omega)
  clear B4 G4 c0 c1 HB3
  go_wp2_with (refine st_one rfl 53 (.tmp 36) (.tmp 33) rfl bb 0 53 _ (.pointer (some ⟨c, 0, none⟩)) rfl rfl rfl rfl (by show 0 < 1; decide) HB4.out s53 ?_)
  intro w5 B5 G5
  have HF : Hid (ClB w w5 0 (.lf b es) nx' bb (.lf c es)) := by
    refine ⟨?_, rfl, fun x hx => ?_, by simp [fps], B5, HG4.out.trans (Upd.of_by G5) (fun x hx _ => hx)⟩
    · show Nd w5 c 0 (es.map sE) nx' 0
      rw [HS.out]
      exact HN4.out.kept G5 (fun q => hcb (Option.some.inj q))
    · simp only [fps, B.bk, List.mem_singleton] at hx
      rw [hx]
      exact HZ3.out.2.2
  clear B5 G5 HN4 HB4 HG4 HZ3
  go_wp2
  go_ret
  exact ⟨_, rfl, HF.out⟩
#print axioms clone_leaf
end Go.Proofs.Yteokjfpppmnebaa
namespace Go.Proofs.Yteokjfpppmnebaa
open Go.RowKit
set_option linter.unusedVariables false
set_option linter.unusedSimpArgs false
theorem Nd.kid {w : World} {c k : Nat} {lv : Int} {X Y : List Sl} {s s' : Sl} {nx : Option Nat} {rd : Int} (h : Nd w c lv (X ++ s :: Y) nx rd) (hk : X.length = k) (v : Value) (hs : (slC s).set 2 v = slC s') : (nC lv (X ++ s :: Y) nx rd).set (2 + k * 3 + 2) v = nC lv (X ++ s' :: Y) nx rd := by
  subst hk
  have e : ∀ u : Sl, pad (X ++ u :: Y) = X ++ (u :: (Y ++ List.replicate (16 - (X ++ s :: Y).length) z0)) := fun u => by
    unfold pad
    simp
  rw [nC_nR, nC_nR, e, e, nR_set _ _ _ _ _ _ _ 2 v s' hs (by decide)]
  congr 1
  simp
theorem ClB.base {w0 w w' : World} {l bb : Nat} {t t' : B} {nx' : Option Nat} (h : ClB w w' l t nx' bb t') (z : Below w0.heap.size w0 w) : ClB w0 w' l t nx' bb t' :=
  ⟨h.mem, h.sim, fun x hx => Nat.le_trans z.size (h.new x hx), h.nodup, h.box, (Upd.of_below [bb] z).trans h.upd (fun x hx _ => hx)⟩
theorem CbI.below {w wr w2 : World} {l c bb k : Nat} {ks D : List KB} {nx' : Option Nat} (h : CbI w wr l c bb ks nx' k D) (z : Below wr.heap.size wr w2) : CbI w w2 l c bb ks nx' k D :=
  ⟨h.hk, h.nd.below z h.nd.lt, h.ch.mono (fun q hq nx hm => hm.upd (Upd.of_below [] z) (by simp)), h.sim, h.hc, h.new, h.nodup, h.box.below z h.box.lt, (h.upd.trans (Upd.of_below [bb] z) (fun x hx _ => hx))⟩
set_option maxRecDepth 8000 in
set_option maxHeartbeats 2000000 in
theorem clone_node (l : Nat) (ih : ∀ (t : B) (nx : Option Nat) (rd : Int) (nx' : Option Nat) (bb : Nat) (w : World), Mem w l t nx rd → Ok l t → Blk w bb 53 [pt nx'] → bb ∉ fps l t → Calls Try.prog 41 #[.pointer (some ⟨t.bk, 0, none⟩), .pointer (some ⟨bb, 0, none⟩)] w fun e w' => ∃ t', e = .returned (.pointer (some ⟨t'.bk, 0, none⟩)) ∧ Hid (ClB w w' l t nx' bb t'))
    (hl9 : l < 1000000000) (b : Nat) (ks : List KB) (nx : Option Nat) (rd : Int) (nx' : Option Nat) (bb : Nat) (w : World) (hm : Mem w (l + 1) (.nd b ks) nx rd) (ho : Ok (l + 1) (.nd b ks)) (hb : Blk w bb 53 [pt nx']) (hbb : bb ∉ fps (l + 1) (.nd b ks)) :
    Calls Try.prog 41 #[.pointer (some ⟨b, 0, none⟩), .pointer (some ⟨bb, 0, none⟩)] w fun e w' => ∃ t', e = .returned (.pointer (some ⟨t'.bk, 0, none⟩)) ∧ Hid (ClB w w' (l + 1) (.nd b ks) nx' bb t') := by
  have HIH : Hid (∀ (t : B) (nx : Option Nat) (rd : Int) (nx' : Option Nat) (bb : Nat) (w : World), Mem w l t nx rd → Ok l t → Blk w bb 53 [pt nx'] → bb ∉ fps l t → Calls Try.prog 41 #[.pointer (some ⟨t.bk, 0, none⟩), .pointer (some ⟨bb, 0, none⟩)] w fun e w' => ∃ t', e = .returned (.pointer (some ⟨t'.bk, 0, none⟩)) ∧ Hid (ClB w w' l t nx' bb t')) := ih
  clear ih
  obtain ⟨ss, HS⟩ : ∃ ss, Hid (ks.map sK = ss) := ⟨_, rfl⟩
  obtain ⟨lv, HLV⟩ : ∃ lv : Int, Hid (((l + 1 : Nat) : Int) = lv) := ⟨_, rfl⟩
  have hlv : ¬ lv = 0 := by rw [← HLV.out]; omega
  have HM : Hid (∀ W, Upd [bb] w W → Mem W (l + 1) (.nd b ks) nx rd) := fun W u => hm.upd u (fun x hx q => hbb (by rw [← List.mem_singleton.1 q]; exact hx))
  have HOK : Hid (Ok (l + 1) (.nd b ks)) := ho
  have HBB : Hid (bb ∉ fps (l + 1) (.nd b ks)) := hbb
  have hm1 : Nd w b lv ss none rd := by rw [← HS.out, ← HLV.out]; exact hm.1
  have HSL : Hid (ss.length ≤ 16) := hm1.le
  obtain ⟨n, hn⟩ : ∃ n, ss.length = n := ⟨_, rfl⟩
  have HL : Hid (ss.length = n) := hn
  have HKL : Hid (ks.length = n) := by
    show ks.length = n
    rw [← hn, ← HS.out, List.length_map]
  have hn1 : 1 ≤ n := by
    have := ho.ne (by omega)
    rw [← HKL.out]
    simp only [B.cnt, B.ss, List.length_map] at this
    omega
  have hn16 : n ≤ 16 := by rw [← hn]; exact hm1.le
  have HN : Hid (Nd w b lv ss none rd) := hm1
  have HB : Hid (Blk w bb 53 [pt nx']) := hb
  have HS48 : Hid ((Try.prog.info? 69).map (·.size) = some (rowC (pad ss)).length) := by rw [rowC_len, pad_len HSL.out]; exact s69
  have hbl : bb < w.heap.size := hb.lt
  have hbbb : bb ≠ b := fun q => hbb (by simp [fps, q])
  clear hm hn hb ho hbb hm1
  go_enter Try.func41, Try.ntmps41
  obtain ⟨C, hC⟩ : ∃ C : World → Prop, C = fun W => Below w.heap.size w W := ⟨_, rfl⟩
  have F0 : Hid (∀ W, C W → W.cell? ⟨b, 0, none⟩ = some (.int .i64 lv)) := fun W hW => by rw [hC] at hW; exact (HN.out.below hW HN.out.lt).level
  have F1 : Hid (∀ W, C W → W.cell? ⟨b, 1, none⟩ = some (.int .i64 (n : Int))) := fun W hW => by rw [hC] at hW; exact (by have := (HN.out.below hW HN.out.lt).count; rw [HL.out] at this; exact this)
  have F2 : Hid (∀ W, C W → W.rangeAt b 2 (rowC (pad ss))) := fun W hW => by rw [hC] at hW; exact (by have h := (HN.out.below hW HN.out.lt).blk; unfold nC at h; exact h.range)
  have CG : Hid (∀ w w', C w → Grow w w' → C w') := fun W W' h1 h2 => by rw [hC] at h1 ⊢; exact h1.trans (h2.mono h1.size)
  have CE : Hid (∀ W, C W → Below w.heap.size w W) := fun W h => by rw [hC] at h; exact h
  have C0 : Hid (C { w with drawn := w.drawn + 1 }) := by rw [hC]; exact Below.drew (Below.refl _ _)
  clear hC
  go_wp2_with fail
  refine region_grow [] (by kernel_rfl) ?_
  have hCp : ∀ p : Prop, (∀ W, C W → p) ↔ p := fun p => ⟨fun h => h _ C0.out, fun h _ _ => h⟩
  generalize ({ w with drawn := w.drawn + 1 } : World) = y0 at *
  refine segR 2 [0, 1, 2, 3, 4, 5, 6, 7, 8, 9, 10, 11, 12] rfl (by kernel_rfl) whole_blind CG.out C0.out (by decide +kernel) ?_
  change wpQuiet _ _ _ _ (_ :: _ :: _ :: _ :: _ :: _ :: _ :: _ :: _ :: _ :: _ :: _ :: _ :: []) _
  repeat (first
    | go_big_quiet_skip
    | (go_big_quiet_want
       first
       | (refine q_cell 3 (.inl rfl) (.tmp 11) rfl b 0 rfl _ F0.out ?_
          simp only [Act.put, List.setIfInBounds_toArray, List.set_cons_zero, List.set_cons_succ]
          go_big_quiet_on)
       | (refine q_cell 3 (.inl rfl) (.tmp 15) rfl b 1 rfl _ F1.out ?_
          simp only [Act.put, List.setIfInBounds_toArray, List.set_cons_zero, List.set_cons_succ]
          go_big_quiet_on)
       | (refine q_load 69 (.tmp 19) rfl b 2 rfl (rowC (pad ss)) _ F2.out Try.underlying69 rfl HS48.out ?_
          simp only [Act.put, List.setIfInBounds_toArray, List.set_cons_zero, List.set_cons_succ]
          go_big_quiet_on)
       | (refine q_bdn (.tmp 12) (.tmp 16) (.tmp 20) rfl lv (n : Int) ss HSL.out rfl rfl rfl ?_
          simp only [Act.put, List.setIfInBounds_toArray, List.set_cons_zero, List.set_cons_succ]
          go_big_quiet_on)
       | (go_big_quiet_op
          go_big_quiet_on)))
  refine wpQuiet_nil ?_
  refine one_ofR 1 rfl [13] (by decide +kernel) (by simp) fun j hj => ?_
  obtain rfl := List.mem_singleton.1 hj
  refine ⟨_, rfl, (by rfl), fun uz hy K hK => ?_⟩
  have CZ : Hid (C uz) := CG.out _ _ C0.out hy
  clear hy
  refine oper_box 71 _ rfl (nR lv (n : Int) (pad ss) none 0) rfl ?_
  have GZ : Grow uz (uz.alloc (.cells (nR lv (n : Int) (pad ss) none 0).toArray 71)) := (Grow.refl uz).alloc _
  refine hK _ _ (.inr GZ) ?_
  clear hK K
  simp only [Act.put, List.setIfInBounds_toArray, List.set_cons_zero, List.set_cons_succ]
  have HZ : Hid (Below w.heap.size w (uz.alloc (.cells (nR lv (n : Int) (pad ss) none 0).toArray 71)) ∧ Nd (uz.alloc (.cells (nR lv (n : Int) (pad ss) none 0).toArray 71)) uz.heap.size lv ss none 0 ∧ w.heap.size ≤ uz.heap.size) := by
    have hb := CE.out _ CZ.out
    refine ⟨hb.trans (GZ.mono hb.size), ⟨?_, HSL.out⟩, hb.size⟩
    rw [nC_nR, HL.out]
    exact blk_new uz _ _
  obtain ⟨c, hbz⟩ : ∃ c, uz.heap.size = c := ⟨_, rfl⟩
  rw [hbz] at HZ ⊢
  obtain ⟨w2, hwz⟩ : ∃ w2, (uz.alloc (.cells (nR lv (n : Int) (pad ss) none 0).toArray 71)) = w2 := ⟨_, rfl⟩
  rw [hwz] at HZ ⊢
  clear hbz hwz GZ CZ hCp
  have hCp : ∀ p : Prop, (∀ W, Anyw W → p) ↔ p := fun p => anyw_p w p
  refine loneR (C := Anyw) (i := 14) 0 rfl (by kernel_rfl) rfl rfl (fun _ _ _ _ => trivial) trivial ?_
  repeat (first
    | go_big_quiet_skip
    | (go_big_quiet_want
       first
       | (go_big_quiet_op
          go_big_quiet_on)))
  refine wpQuiet_nil ?_
  clear hCp
  refine doneR (by kernel_rfl) fun w3 hy => ?_
  have HZ3 : Hid (Below w.heap.size w w3 ∧ Nd w3 c lv ss none 0 ∧ w.heap.size ≤ c) := ⟨HZ.out.1.trans (hy.mono HZ.out.1.size), HZ.out.2.1.below hy HZ.out.2.1.lt, HZ.out.2.2⟩
  clear hy HZ CG CE C0 F0 F1 F2 HS48
  have HN3 : Hid (Nd w3 b lv ss none rd) := HN.out.below HZ3.out.1 HN.out.lt
  have c0 : w3.cell? ⟨b, 0, none⟩ = some (.int .i64 lv) := HN3.out.level
  have c1 : w3.cell? ⟨b, 1, none⟩ = some (.int .i64 (n : Int)) := by have := HN3.out.count; rw [HL.out] at this; exact this
  have HI0 : Hid (CbI w w3 l c bb ks nx' n []) := by
    refine ⟨by rw [HKL.out]; exact Nat.le_refl _, ?_, trivial, ?_, HZ3.out.2.2, by simp, by simp, HB.out.below HZ3.out.1 hbl, Upd.of_below _ HZ3.out.1⟩
    · have := HZ3.out.2.1
      rw [← HS.out, ← HLV.out] at this
      rw [← HKL.out, List.take_length]
      simpa using this
    · rw [← HKL.out, List.drop_length]
      trivial
  have hw0 : wrap64 ((n : Int) - 1) = (n : Int) - 1 := by unfold wrap64; omega
  clear HZ3
  go_wp2_with fail
  clear hw0 c0 c1 HN3
  go_loopw [6] (fun iv wr => ∃ (z : Int) (k : Nat) (D : List KB), z + 1 = (k : Int) ∧ k ≤ n ∧ iv = .int .i64 z ∧ Hid (CbI w wr l c bb ks nx' k D)) (fun iv _ => ((intOf iv) + 1).toNat)
  case atStart => exact ⟨(n : Int) - 1, n, [], by omega, Nat.le_refl _, rfl, HI0.out⟩
  case round =>
    obtain ⟨z, k, D, hz, hkn, rfl, HR⟩ := hrel
    clear HI0
    by_cases hz0 : 0 ≤ z
    · obtain ⟨q, rfl⟩ : ∃ q : Nat, z = (q : Int) := ⟨z.toNat, by omega⟩
      obtain rfl : k = q + 1 := by omega
      have hq16 : q < 16 := by omega
      obtain ⟨p, hp⟩ : ∃ p, ks[q]? = some p := ⟨_, List.getElem?_eq_getElem (by rw [HKL.out]; omega)⟩
      have HP : Hid (ks[q]? = some p) := hp
      obtain ⟨pb, hpb⟩ : ∃ pb, p.2.bk = pb := ⟨_, rfl⟩
      have HPB : Hid (p.2.bk = pb) := hpb
      have HMR : Hid (Mem wr (l + 1) (.nd b ks) nx rd) := HM.out wr HR.out.upd
      have HKID : Hid (∀ W, Below wr.heap.size wr W → (∃ nx, Mem W l p.2 nx 0) ∧ W.cell? ⟨b, 2 + q * 3 + 2, none⟩ = some (.pointer (some ⟨pb, 0, none⟩))) := fun W z => by
        obtain ⟨nx1, h1⟩ := chain_mem (HMR.out.upd (Upd.of_below [] z) (by simp)).2 p (List.mem_of_getElem? HP.out)
        refine ⟨⟨nx1, h1⟩, ?_⟩
        have h2 := (HMR.out.upd (Upd.of_below [] z) (by simp)).1
        have h3 := h2.range q (sK p) (pad_at (by rw [List.getElem?_map, HP.out]; rfl)) 2 (pt (some p.2.bk)) rfl
        rw [HPB.out] at h3
        exact h3
      have HCALL : Hid (∀ W, Below wr.heap.size wr W → Calls Try.prog 41 #[.pointer (some ⟨pb, 0, none⟩), .pointer (some ⟨bb, 0, none⟩)] W fun e w' => ∃ t', e = .returned (.pointer (some ⟨t'.bk, 0, none⟩)) ∧ Hid (ClB wr w' l p.2 (nxt (fsl l) D nx') bb t')) := fun W z => by
        obtain ⟨⟨nx1, h1⟩, _⟩ := HKID.out W z
        have hpm := List.mem_of_getElem? HP.out
        have := HIH.out p.2 nx1 0 (nxt (fsl l) D nx') bb W h1 ⟨(HOK.out.fit p hpm).1, fun _ => by have := (HOK.out.fit p hpm).2.1; omega⟩ (HR.out.box.below z HR.out.box.lt) (fun hx => HBB.out (by simp only [fps, List.mem_cons, List.mem_flatMap]; exact .inr ⟨p, hpm, hx⟩))
        rw [HPB.out] at this
        refine this.mono ?_
        rintro e w' ⟨t', rfl, H⟩
        exact ⟨t', rfl, H.out.base z⟩
      clear hp hpb HMR
      obtain ⟨C, hC⟩ : ∃ C : World → Prop, C = fun W => Below wr.heap.size wr W := ⟨_, rfl⟩
      have F1 : Hid (∀ W, C W → W.cell? ⟨b, 2 + q * 3 + 2, none⟩ = some (.pointer (some ⟨pb, 0, none⟩))) := fun W hW => by rw [hC] at hW; exact (HKID.out W hW).2
      have CG : Hid (∀ w w', C w → Grow w w' → C w') := fun W W' h1 h2 => by rw [hC] at h1 ⊢; exact h1.trans (h2.mono h1.size)
      have CE : Hid (∀ W, C W → Below wr.heap.size wr W) := fun W h => by rw [hC] at h; exact h
      have C0 : Hid (C { wr with drawn := wr.drawn + 1 }) := by rw [hC]; exact Below.drew (Below.refl _ _)
      clear hC
      go_wp2_with fail
      refine region_grow [10, 15] (by kernel_rfl) ?_
      have hCp : ∀ p : Prop, (∀ W, C W → p) ↔ p := fun p => ⟨fun h => h _ C0.out, fun h _ _ => h⟩
      generalize ({ wr with drawn := wr.drawn + 1 } : World) = y0 at *
      have hCq := anyw_p y0
      refine segF 12 [0, 1, 11, 12] rfl (by kernel_rfl) whole_blind (by decide +kernel) ?_
      change wpQuiet _ _ _ _ (_ :: _ :: _ :: _ :: []) _
      repeat (first
        | go_big_quiet_skip
        | (go_big_quiet_want
           first
           | (go_big_quiet_op
              go_big_quiet_on)))
      refine wpQuiet_nil ?_
      clear hCq
      refine segR 4 [2, 3, 4, 5, 6, 7, 8, 9] rfl (by kernel_rfl) whole_blind CG.out C0.out (by decide +kernel) ?_
      change wpQuiet _ _ _ _ (_ :: _ :: _ :: _ :: _ :: _ :: _ :: _ :: []) _
      repeat (first
        | go_big_quiet_skip
        | (go_big_quiet_want
           first
           | (refine q_ixa (.tmp 52) (.tmp 50) rfl b q rfl rfl hq16 ?_
              simp only [Act.put, List.setIfInBounds_toArray, List.set_cons_zero, List.set_cons_succ]
              go_big_quiet_on)
           | (refine q_cell 53 (.inr (.inr rfl)) (.tmp 54) rfl b (2 + q * 3 + 2) rfl _ F1.out ?_
              simp only [Act.put, List.setIfInBounds_toArray, List.set_cons_zero, List.set_cons_succ]
              go_big_quiet_on)
           | (go_big_quiet_op
              go_big_quiet_on)))
      refine wpQuiet_nil ?_
      refine one_ofR 3 rfl [10] (by decide +kernel) (by simp) fun j hj => ?_
      obtain rfl := List.mem_singleton.1 hj
      refine ⟨_, rfl, (by rfl), fun y1 hy1 K hK => ?_⟩
      have C1 : Hid (C y1) := CG.out _ _ C0.out hy1
      clear hy1
      refine oper_calls 41 _ _ rfl #[.pointer (some ⟨pb, 0, none⟩), .pointer (some ⟨bb, 0, none⟩)] (by rw [List.map_toArray]; rfl) (enters Try.func41 (by kernel_rfl) rfl) (fun v w' => ∃ t', v = .pointer (some ⟨t'.bk, 0, none⟩) ∧ Hid (ClB wr w' l p.2 (nxt (fsl l) D nx') bb t')) ((HCALL.out y1 (CE.out _ C1.out)).mono (by rintro e w' ⟨t', rfl, h⟩; exact ⟨_, rfl, t', rfl, h⟩)) ?_
      rintro v w5 ⟨t2, rfl, H⟩
      obtain ⟨tb, htb⟩ : ∃ tb, t2.bk = tb := ⟨_, rfl⟩
      have HTB : Hid (t2.bk = tb) := htb
      rw [htb]
      clear htb
      have HC5 : Hid (ClB wr w5 l p.2 (nxt (fsl l) D nx') bb t2) := H.out
      clear H
      refine hK _ _ (.inl (by simp)) ?_
      clear hK K
      simp only [Act.put, List.setIfInBounds_toArray, List.set_cons_zero, List.set_cons_succ]
      clear C0 C1 hCp CE CG F1 HKID HCALL
      have hCp : ∀ p : Prop, (∀ W, Anyw W → p) ↔ p := fun p => anyw_p w p
      refine loneR (C := Anyw) (i := 13) 2 rfl (by kernel_rfl) rfl rfl (fun _ _ _ _ => trivial) trivial ?_
      repeat (first
        | go_big_quiet_skip
        | (go_big_quiet_want
           first
           | (refine q_ixa (.tmp 59) (.tmp 48) rfl c q rfl rfl hq16 ?_
              simp only [Act.put, List.setIfInBounds_toArray, List.set_cons_zero, List.set_cons_succ]
              go_big_quiet_on)
           | (go_big_quiet_op
              go_big_quiet_on)))
      refine wpQuiet_nil ?_
      clear hCp
      have hCp : ∀ p : Prop, (∀ W, Anyw W → p) ↔ p := fun p => anyw_p w p
      refine loneR (C := Anyw) (i := 14) 1 rfl (by kernel_rfl) rfl rfl (fun _ _ _ _ => trivial) trivial ?_
      repeat (first
        | go_big_quiet_skip
        | (go_big_quiet_want
           first
           | (go_big_quiet_op
              go_big_quiet_on)))
      refine wpQuiet_nil ?_
      clear hCp
      refine one_ofR 0 rfl [15] (by decide +kernel) (by simp) fun j hj => ?_
      obtain rfl := List.mem_singleton.1 hj
      refine ⟨_, rfl, (by rfl), fun y3 hy1 K hK => ?_⟩
      have hcb : c ≠ bb := by have := HR.out.hc; omega
      have hlT : (ks.take q).length = q := by rw [List.length_take, HKL.out]; omega
      have HL5 : Hid (Nd w5 c ((l + 1 : Nat) : Int) ((ks.take q).map sK ++ sK p :: D.map sK) none 0) := by
        have h := (HR.out.nd.upd HC5.out.upd (fun x => hcb (List.mem_singleton.1 x)))
        have e : ks.take (q + 1) = ks.take q ++ [p] := by
          have hq := (List.getElem?_eq_some_iff.1 HP.out).1
          rw [List.take_succ_eq_append_getElem hq, (List.getElem?_eq_some_iff.1 HP.out).2]
        rw [e] at h
        have h5 : Nd w5 c ((l + 1 : Nat) : Int) ((ks.take q).map sK ++ sK p :: D.map sK) none 0 := by simpa using h
        exact h5
      refine oper_st1 53 (.tmp 61) (.tmp 57) rfl c (2 + q * 3 + 2) 71 _ (.pointer (some ⟨tb, 0, none⟩)) rfl rfl rfl rfl (by rw [nC_len HL5.out.le]; omega) (HL5.out.blk.grow hy1) s53 ?_
      intro w3 B3 G3
      have HX : Hid (∃ y2, w3 = y2 ∧ CbI w w3 l c bb ks nx' q ((p.1, t2) :: D)) := by
        refine ⟨w3, rfl, HR.out.step HP.out hbl HC5.out (((by_below hy1 (some c)).trans G3)) ?_⟩
        rw [Nd.kid HL5.out (by simpa using hlT) (.pointer (some ⟨tb, 0, none⟩)) (s' := sK (p.1, t2)) (by rw [← HTB.out]; rfl)] at B3
        refine ⟨by simpa using B3, ?_⟩
        have := HL5.out.le
        simpa using this
      refine hK _ _ (.inl (by simp)) ?_
      clear hK K
      simp only [Act.put, List.setIfInBounds_toArray, List.set_cons_zero, List.set_cons_succ]
      refine doneR (by kernel_rfl) fun y4 hy => ?_
      have HX : Hid (CbI w y4 l c bb ks nx' q ((p.1, t2) :: D)) := by
        obtain ⟨_, rfl, h⟩ := HX.out
        exact h.below hy
      clear hy hy1 B3 G3 HL5 HC5 HTB HR HP HPB hlT hcb
      have hw1 : wrap64 ((q : Int) - 1) = (q : Int) - 1 := by unfold wrap64; omega
      go_wp2
      go_roundw
      case rel => exact ⟨(q : Int) - 1, q, (p.1, t2) :: D, by omega, by omega, by go_num, HX.out⟩
      case measure => first | (simp [intOf]; done) | (simp [intOf]; omega)
    · obtain rfl : z = -1 := by omega
      obtain rfl : k = 0 := by omega
      have HF : Hid (ClB w wr (l + 1) (.nd b ks) nx' bb (.nd c D)) := HR.out.done (fun q => by have := HKL.out; rw [q] at this; simp at this; omega)
      clear HR
      go_wp2
      go_ret
      exact ⟨.nd c D, rfl, HF.out⟩
theorem clone_any : ∀ (l : Nat), l < 1000000000 → ∀ (t : B) (nx : Option Nat) (rd : Int) (nx' : Option Nat) (bb : Nat) (w : World), Mem w l t nx rd → Ok l t → Blk w bb 53 [pt nx'] → bb ∉ fps l t → Calls Try.prog 41 #[.pointer (some ⟨t.bk, 0, none⟩), .pointer (some ⟨bb, 0, none⟩)] w fun e w' => ∃ t', e = .returned (.pointer (some ⟨t'.bk, 0, none⟩)) ∧ Hid (ClB w w' l t nx' bb t')
  | 0, _, .lf b es, nx, rd, nx', bb, w, hm, ho, hb, hbb => (clone_leaf b es nx nx' rd bb w hm hb (fun q => hbb (by simp [fps, B.bk, q]))).mono (by rintro e w' ⟨c, rfl, H⟩; exact ⟨.lf c es, rfl, H⟩)
  | 0, _, .nd _ _, _, _, _, _, _, _, ho, _, _ => ho.fit.elim
  | l + 1, _, .lf _ _, _, _, _, _, _, _, ho, _, _ => ho.fit.elim
  | l + 1, h, .nd b ks, nx, rd, nx', bb, w, hm, ho, hb, hbb => clone_node l (fun t nx rd nx' bb w => clone_any l (by omega) t nx rd nx' bb w) (by omega) b ks nx rd nx' bb w hm ho hb hbb
#print axioms clone_any
end Go.Proofs.Yteokjfpppmnebaa
namespace Go.Proofs.Yteokjfpppmnebaa
open Go.RowKit
set_option linter.unusedVariables false
set_option linter.unusedSimpArgs false
set_option maxHeartbeats 1000000 in
theorem clone_none (bb : Nat) (w : World) : Calls Try.prog 41 #[.pointer none, .pointer (some ⟨bb, 0, none⟩)] w fun e w' => e = .returned (.pointer none) ∧ w' = w := by
  go_enter Try.func41, Try.ntmps41
  go_wp2
  go_ret
  exact ⟨rfl, rfl⟩
theorem zPtr : (Try.prog.info? 53).map (fun i => i.zero.map (·.cells)) = some (some [Value.pointer none].toArray) := by kernel_rfl
/-- clone, of a root. -/
theorem clone0_none (w : World) : Calls Try.prog 24 #[.pointer none] w fun e w' => e = .returned (.pointer none) ∧ Hid (Grow w w') := by
  go_enter Try.func24, Try.ntmps24
  go_wp2_with (refine al_zero rfl 53 rfl [.pointer none] zPtr ?_)
  intro b w1 l1 B1 G1
  have HG : Hid (Grow w w1) := ⟨G1.os, G1.tape, G1.output, G1.size, fun k hk => G1.block k hk (by simp)⟩
  have K := clone_none b w1
  clear B1 G1 l1
  go_wp2_with fail
  refine K.mono ?_
  clear K
  rintro e w2 ⟨rfl, rfl⟩
  go_wp2
  go_ret
  exact ⟨rfl, HG.out⟩
theorem clone0_some (l : Nat) (t : B) (rd : Int) (w : World) (hl : l < 1000000000) (hm : Mem w l t none rd) (ho : Ok l t) : Calls Try.prog 24 #[.pointer (some ⟨t.bk, 0, none⟩)] w fun e w' => ∃ t', e = .returned (.pointer (some ⟨t'.bk, 0, none⟩)) ∧ Hid (Grow w w' ∧ Mem w' l t' none 0 ∧ Sim l t t' ∧ (∀ x ∈ fps l t', w.heap.size ≤ x) ∧ (fps l t').Nodup) := by
  have HM : Hid (Mem w l t none rd) := hm
  have HO : Hid (Ok l t) := ho
  obtain ⟨tb, htb⟩ : ∃ tb, t.bk = tb := ⟨_, rfl⟩
  have HTB : Hid (t.bk = tb) := htb
  rw [htb]
  clear hm ho htb
  go_enter Try.func24, Try.ntmps24
  go_wp2_with (refine al_zero rfl 53 rfl [.pointer none] zPtr ?_)
  intro b w1 l1 B1 G1
  have HG : Hid (Grow w w1) := ⟨G1.os, G1.tape, G1.output, G1.size, fun k hk => G1.block k hk (by simp)⟩
  have K := clone_any l hl t none rd none b w1 (HM.out.upd (Upd.of_none [] G1) (by simp)) HO.out B1 (fun hx => by have := HM.out.lt b hx; omega)
  rw [HTB.out] at K
  have HL : Hid (w.heap.size ≤ b) := l1
  clear B1 G1 l1
  go_wp2_with fail
  refine K.mono ?_
  clear K
  rintro e w2 ⟨t', rfl, H⟩
  have HF : Hid (Grow w w2 ∧ Mem w2 l t' none 0 ∧ Sim l t t' ∧ (∀ x ∈ fps l t', w.heap.size ≤ x) ∧ (fps l t').Nodup) := by
    obtain ⟨h1, h2, h3, h4, h5, h6⟩ := H.out
    refine ⟨Upd.below HG.out h6 (Nat.le_refl _) (fun x hx => by rw [List.mem_singleton.1 hx]; exact HL.out), h1, h2, fun x hx => Nat.le_trans HG.out.size (h3 x hx), h4⟩
  obtain ⟨tb2, htb2⟩ : ∃ tb2, t'.bk = tb2 := ⟨_, rfl⟩
  have HTB2 : Hid (t'.bk = tb2) := htb2
  rw [htb2]
  clear H htb2
  go_wp2
  go_ret
  exact ⟨t', by rw [HTB2.out]; rfl, HF.out⟩
theorem oper_new {o : Oper} {a : Act} {w : World} {K : Act → World → Prop} {Q : Exit → Act → World → Prop} (x : Operand) (ho : o.op = .box 55 x) (cs : List Value) (hx : a.eval x = .agg cs.toArray)
    (h : K (a.put o.dst (.pointer (some ⟨w.heap.size, 0, none⟩))) (w.alloc (.cells cs.toArray 55))) : Oper.wp Try.prog o a w K Q := oper_box 55 x ho cs hx h
set_option maxRecDepth 8000 in
set_option maxHeartbeats 1000000 in
theorem copy_of {α : Type} (g n nd : Nat) (rt : Option Nat) (R : α → Option Nat → World → Prop) (hR : ∀ d r w w', R d r w → Grow w w' → R d r w') (w : World) (hT : Blk w g 55 (tC rt n nd)) (hc : ∀ W, Below w.heap.size w W → Calls Try.prog 24 #[pt rt] W fun e w' => ∃ d r, e = .returned (pt r) ∧ Hid (Grow W w' ∧ R d r w')) :
    Calls Try.prog 11 #[.pointer (some ⟨g, 0, none⟩)] w fun e w' => ∃ g', e = .returned (.pointer (some ⟨g', 0, none⟩)) ∧ Hid (∃ d r, Blk w' g' 55 (tC r n nd) ∧ R d r w' ∧ w.heap.size ≤ g' ∧ Below w.heap.size w w' ∧ ∃ w1, R d r w1 ∧ w1.heap.size ≤ g') := by
  have HR : Hid (∀ d r w w', R d r w → Grow w w' → R d r w') := hR
  have HT : Hid (Blk w g 55 (tC rt n nd)) := hT
  have HC : Hid (∀ W, Below w.heap.size w W → Calls Try.prog 24 #[pt rt] W fun e w' => ∃ d r, e = .returned (pt r) ∧ Hid (Grow W w' ∧ R d r w')) := hc
  clear hR hT hc
  obtain ⟨pv, hpv⟩ : ∃ pv, pt rt = .pointer pv := ⟨_, rfl⟩
  have HPV : Hid (pt rt = .pointer pv) := hpv
  clear hpv
  go_enter Try.func11, Try.ntmps11
  obtain ⟨C, hC⟩ : ∃ C : World → Prop, C = fun W => Below w.heap.size w W := ⟨_, rfl⟩
  have F0 : Hid (∀ W, C W → W.cell? ⟨g, 0, none⟩ = some (.pointer pv)) := fun W hW => by rw [hC] at hW; exact (by have := (HT.out.below hW HT.out.lt).cell 0; rw [← HPV.out]; exact this)
  have F1 : Hid (∀ W, C W → W.cell? ⟨g, 1, none⟩ = some (.int .i64 (n : Int))) := fun W hW => by rw [hC] at hW; exact (HT.out.below hW HT.out.lt).cell 1
  have F2 : Hid (∀ W, C W → W.cell? ⟨g, 2, none⟩ = some (.int .i64 (nd : Int))) := fun W hW => by rw [hC] at hW; exact (HT.out.below hW HT.out.lt).cell 2
  have CG : Hid (∀ w w', C w → Grow w w' → C w') := fun W W' h1 h2 => by rw [hC] at h1 ⊢; exact h1.trans (h2.mono h1.size)
  have CE : Hid (∀ W, C W → Below w.heap.size w W) := fun W h => by rw [hC] at h; exact h
  have C0 : Hid (C { w with drawn := w.drawn + 1 }) := by rw [hC]; exact Below.drew (Below.refl _ _)
  clear hC
  go_wp2_with fail
  refine region_grow [] (by kernel_rfl) ?_
  have hCp : ∀ p : Prop, (∀ W, C W → p) ↔ p := fun p => ⟨fun h => h _ C0.out, fun h _ _ => h⟩
  generalize ({ w with drawn := w.drawn + 1 } : World) = y0 at *
  refine segR 4 [0, 1, 2, 3, 5, 6, 7, 8, 9, 10, 11, 12] rfl (by kernel_rfl) whole_blind CG.out C0.out (by decide +kernel) ?_
  change wpQuiet _ _ _ _ (_ :: _ :: _ :: _ :: _ :: _ :: _ :: _ :: _ :: _ :: _ :: _ :: []) _
  repeat (first
    | go_big_quiet_skip
    | (go_big_quiet_want
       first
       | (refine q_cell 53 (.inr (.inr rfl)) (.tmp 7) rfl g 0 rfl _ F0.out ?_
          simp only [Act.put, List.setIfInBounds_toArray, List.set_cons_zero, List.set_cons_succ]
          go_big_quiet_on)
       | (refine q_cell 3 (.inl rfl) (.tmp 12) rfl g 1 rfl _ F1.out ?_
          simp only [Act.put, List.setIfInBounds_toArray, List.set_cons_zero, List.set_cons_succ]
          go_big_quiet_on)
       | (refine q_cell 3 (.inl rfl) (.tmp 16) rfl g 2 rfl _ F2.out ?_
          simp only [Act.put, List.setIfInBounds_toArray, List.set_cons_zero, List.set_cons_succ]
          go_big_quiet_on)
       | (go_big_quiet_op
          go_big_quiet_on)))
  refine wpQuiet_nil ?_
  refine one_ofR 3 rfl [4] (by decide +kernel) (by simp) fun j hj => ?_
  obtain rfl := List.mem_singleton.1 hj
  refine ⟨_, rfl, (by rfl), fun y1 hy1 K hK => ?_⟩
  have C1 : Hid (C y1) := CG.out _ _ C0.out hy1
  clear hy1
  refine oper_calls 24 _ _ rfl #[.pointer pv] (by rw [List.map_toArray]; rfl) (enters Try.func24 (by kernel_rfl) rfl) (fun v w' => ∃ d r, v = pt r ∧ Hid (Grow y1 w' ∧ R d r w')) ((by have h := HC.out y1 (CE.out _ C1.out); rw [HPV.out] at h; exact h : Calls Try.prog 24 #[.pointer pv] y1 fun e w' => ∃ d r, e = .returned (pt r) ∧ Hid (Grow y1 w' ∧ R d r w')).mono (by rintro e w' ⟨d, r, rfl, h⟩; exact ⟨_, rfl, d, r, rfl, h⟩)) ?_
  rintro v w5 ⟨d, r, rfl, H⟩
  obtain ⟨qv, hqv⟩ : ∃ qv, pt r = .pointer qv := ⟨_, rfl⟩
  have HQV : Hid (pt r = .pointer qv) := hqv
  rw [hqv]
  clear hqv
  refine hK _ _ (.inr H.out.1) ?_
  clear hK K
  simp only [Act.put, List.setIfInBounds_toArray, List.set_cons_zero, List.set_cons_succ]
  have H5 : Hid (C w5 ∧ R d r w5) := ⟨CG.out _ _ C1.out H.out.1, H.out.2⟩
  have C5 : Hid (C w5) := H5.out.1
  clear H C1 C0 hCp
  have hCp : ∀ p : Prop, (∀ W, C W → p) ↔ p := fun p => ⟨fun h => h _ C5.out, fun h _ _ => h⟩
  refine segR 2 [13] rfl (by kernel_rfl) whole_blind CG.out C5.out (by decide +kernel) ?_
  change wpQuiet _ _ _ _ (_ :: []) _
  repeat (first
    | go_big_quiet_skip
    | (go_big_quiet_want
       first
       | (go_big_quiet_op
          go_big_quiet_on)))
  refine wpQuiet_nil ?_
  clear hCp
  refine one_ofR 1 rfl [14] (by decide +kernel) (by simp) fun j hj => ?_
  obtain rfl := List.mem_singleton.1 hj
  refine ⟨_, rfl, (by rfl), fun uz hy K hK => ?_⟩
  have HZ : Hid (C uz ∧ R d r uz) := ⟨CG.out _ _ C5.out hy, HR.out _ _ _ _ H5.out.2 hy⟩
  clear hy
  refine oper_new _ rfl [.pointer qv, .int .i64 (n : Int), .int .i64 (nd : Int)] rfl ?_
  have GZ : Grow uz (uz.alloc (.cells #[.pointer qv, .int .i64 (n : Int), .int .i64 (nd : Int)] 55)) := (Grow.refl uz).alloc _
  refine hK _ _ (.inr GZ) ?_
  clear hK K
  simp only [Act.put, List.setIfInBounds_toArray, List.set_cons_zero, List.set_cons_succ]
  have HF : Hid (Blk (uz.alloc (.cells #[.pointer qv, .int .i64 (n : Int), .int .i64 (nd : Int)] 55)) uz.heap.size 55 (tC r n nd) ∧ R d r (uz.alloc (.cells #[.pointer qv, .int .i64 (n : Int), .int .i64 (nd : Int)] 55)) ∧ w.heap.size ≤ uz.heap.size ∧ Below w.heap.size w (uz.alloc (.cells #[.pointer qv, .int .i64 (n : Int), .int .i64 (nd : Int)] 55)) ∧ ∃ w1, R d r w1 ∧ w1.heap.size ≤ uz.heap.size) := by
    have hb := CE.out _ HZ.out.1
    refine ⟨?_, HR.out _ _ _ _ HZ.out.2 GZ, hb.size, hb.trans (GZ.mono hb.size), uz, HZ.out.2, Nat.le_refl _⟩
    have := blk_new uz 55 [.pointer qv, .int .i64 (n : Int), .int .i64 (nd : Int)]
    rw [← HQV.out] at this
    rw [← HQV.out]
    exact this
  obtain ⟨bz, hbz⟩ : ∃ bz, uz.heap.size = bz := ⟨_, rfl⟩
  rw [hbz] at HF ⊢
  obtain ⟨wz, hwz⟩ : ∃ wz, (uz.alloc (.cells #[.pointer qv, .int .i64 (n : Int), .int .i64 (nd : Int)] 55)) = wz := ⟨_, rfl⟩
  rw [hwz] at HF ⊢
  clear hbz hwz HZ GZ
  have hCp : ∀ p : Prop, (∀ W, Anyw W → p) ↔ p := fun p => anyw_p w p
  refine loneR (C := Anyw) (i := 15) 0 rfl (by kernel_rfl) rfl rfl (fun _ _ _ _ => trivial) trivial ?_
  repeat (first
    | go_big_quiet_skip
    | (go_big_quiet_want
       first
       | (go_big_quiet_op
          go_big_quiet_on)))
  refine wpQuiet_nil ?_
  clear hCp
  refine doneR (by kernel_rfl) fun y9 hy => ?_
  have HE : Hid (Blk y9 bz 55 (tC r n nd) ∧ R d r y9 ∧ w.heap.size ≤ bz ∧ Below w.heap.size w y9 ∧ ∃ w1, R d r w1 ∧ w1.heap.size ≤ bz) := by
    obtain ⟨h1, h2, h3, h4, h5⟩ := HF.out
    exact ⟨h1.grow hy, HR.out _ _ _ _ h2 hy, h3, h4.trans (hy.mono h4.size), h5⟩
  clear hy HF CG CE HT HC HR F0 F1 F2 H5 C5
  go_wp2
  go_ret
  exact ⟨_, rfl, d, r, HE.out⟩
theorem copy_S (w : World) (g : Nat) (T : Option (Nat × B)) (M : List E) (h : TreeS w g T M) (hn : M.length < 100000000) :
    Calls Try.prog 11 #[.pointer (some ⟨g, 0, none⟩)] w fun e w' => ∃ g', e = .returned (.pointer (some ⟨g', 0, none⟩)) ∧ Hid (∃ T', TreeS w' g' T' M ∧ (∀ y ∈ fpO T', w.heap.size ≤ y) ∧ w.heap.size ≤ g' ∧ Below w.heap.size w w') := by
  obtain ⟨tm, rfl, hs⟩ := h
  cases T with
  | none =>
    have hT : Blk w g 55 (tC none 0 0) := tm
    refine (copy_of (α := Unit) g 0 0 none (fun _ r _ => r = none) (fun _ _ _ _ q _ => q) w hT (fun W _ => (clone0_none W).mono (by rintro e w' ⟨rfl, H⟩; exact ⟨(), none, rfl, H.out, rfl⟩))).mono ?_
    rintro e w' ⟨g', rfl, H⟩
    obtain ⟨_, r, h1, rfl, h3, h4, _⟩ := H.out
    exact ⟨g', rfl, none, ⟨h1, rfl, hs⟩, by simp [fpO], h3, h4⟩
  | some lt =>
    obtain ⟨l, t⟩ := lt
    have ht : TreeM w g l t := tm
    have hb := ht.bounds hn
    have hl : l < 1000000000 := by omega
    refine (copy_of (α := B) g (ents l t).length (nods l t) (some t.bk) (fun t' r W => r = some t'.bk ∧ Mem W l t' none 0 ∧ Sim l t t' ∧ (∀ x ∈ fps l t', w.heap.size ≤ x) ∧ (fps l t').Nodup) ?_ w ht.tree ?_).mono ?_
    · rintro t' r W W' ⟨h1, h2, h3⟩ g
      exact ⟨h1, h2.upd (Upd.of_below [] g) (by simp), h3⟩
    · intro W z
      refine (clone0_some l t 0 W hl (ht.mem.upd (Upd.of_below [] z) (by simp)) ht.ok).mono ?_
      rintro e w' ⟨t', rfl, H⟩
      obtain ⟨h1, h2, h3, h4, h5⟩ := H.out
      exact ⟨t', some t'.bk, rfl, h1, rfl, h2, h3, fun x hx => Nat.le_trans z.size (h4 x hx), h5⟩
    · rintro e w' ⟨g', rfl, H⟩
      obtain ⟨t', r, h1, ⟨rfl, m1, m2, m3, m4⟩, h3, h4, w1, ⟨_, n1, _⟩, h6⟩ := H.out
      obtain ⟨e1, e2, e3⟩ := sim_ents m2
      refine ⟨g', rfl, some (l, t'), ⟨⟨?_, m1, sim_fit m2 ht.fit, by rw [e3]; exact ht.top, m4, fun q => by have := n1.lt g' q; omega⟩, e1, hs⟩, m3, h3, h4⟩
      rw [e1, e2]
      exact h1
#print axioms copy_S
end Go.Proofs.Yteokjfpppmnebaa
