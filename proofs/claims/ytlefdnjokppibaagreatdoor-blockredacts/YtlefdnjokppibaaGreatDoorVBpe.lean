/-
  The contract of block's packEntry.
-/
import Derived.Test.YtlefdnjokppibaaGreatDoorVG21x
import Derived.Test.YtlefdnjokppibaaGreatDoorVG23x
namespace Go.Proofs.YtlefdnjokppibaaGreatDoor.Sh
open Go Go.RowKit Math Mt
set_option linter.unusedVariables false
set_option linter.unusedSimpArgs false
/-- A value's bytes are not too many to be written. -/
def Lk (p : Vt) : Prop := chkV p 1 = 0 → (encV p).length ≤ 12000000
theorem lk_ws {p : Vt} (hw : WfV p) (h : Go.Proofs.YtlefdnjokppibaaGreatDoor.ws p ≤ 100000) : Lk p := fun hc => by have := bound_V p hw (chk1 hc); omega
theorem lk_enc {p : Vt} (h : encE p = 0) : Lk p := fun _ => by have := (encOk h).2.2; omega
theorem lk_nv : Lk nv := fun _ => by decide
def pN : Pk := ⟨none, 0, [], none, 0, [], 0⟩
theorem own_keepn {w w' : World} {B g : Nat} {v : Value} {l : List Nat} (h : Own w B v l) (G : w.grownBy w' (some g)) (hne : v.ownBlock ≠ some g) : Own w' B v l := World.ownsRow.kept (row := some g) h G (.inr hne)
theorem own_ne_blk {w : World} {B b : Nat} {t : TypeId} {v : Value} {l : List Nat} {vs : List Value} (h : Own w B v l) (hb : Blk w b t vs) (ht : t ≠ 5) : v.ownBlock = some b → False := fun e => by
  rcases h with ⟨_, ⟨rfl, _⟩ | ⟨g, cap, cur, rfl, _, hh, _⟩⟩
  · cases e
  · simp only [Value.ownBlock, Option.some.injEq] at e
    subst e
    unfold Blk at hb
    rw [hb] at hh
    injection hh with hh
    injection hh with _ h2
    exact ht h2
/-- What packEntry answers. -/
structure PkR (w w' : World) (e : En) (p : Pk) : Prop where
  bl : Below w.heap.size w w'
  ok : mayE e = 0 → Own w' w.heap.size (.slice p.oa p.ol.length p.oc) p.ol ∧ Own w' w.heap.size (.slice p.da p.dl.length p.dc) p.dl ∧ p.ol = entB e ∧ p.dl = datL e ∧ p.k = e.k
theorem pk_built (a : Act) (x y : Nat) (oa : Option Addr) (n oc : Nat) (k : Int) (hx : a.eval (.tmp x) = .slice oa n oc) (hy : a.eval (.tmp y) = .int .i64 k) : Tryz.prog.built 75 ((#[(0, .tmp x), (2, .tmp y)] : Array (Nat × Operand)).map fun p => (p.1, a.eval p.2)).toList = some [Value.slice oa n oc, .slice none 0 0, .int .i64 k].toArray := by
  simp only [List.map_toArray, List.map_cons, List.map_nil, hx, hy]
  kernel_rfl
theorem q_bd {o : Oper} {a : Act} {C : World → Prop} {K : Act → Prop} (t : TypeId) (parts : Array (Nat × Operand)) (ho : o.op = .build t parts) (cs : List Value) (hf : Tryz.prog.built t (parts.map fun p => (p.1, a.eval p.2)).toList = some cs.toArray) (hk : K (a.put o.dst (.agg cs.toArray))) : o.quiet Tryz.prog a C K :=
  ⟨_, fun w hw => by
    have e : Tryz.prog.built t (parts.map fun (i, x) => (i, a.eval x)).toList = some cs.toArray := hf
    unfold Oper.quietAt execOp
    simp only [ho, Sem.run_bind, run_build w t _ cs.toArray e, Result.andThen_ok, Sem.run_pure]
    exact ⟨rfl, rfl⟩, hk⟩
set_option maxHeartbeats 4000000 in
set_option maxRecDepth 8000 in
theorem pke_any (e : En) (he : EnW e) (hws : Lk e.v) (na : Option Addr) (nc : Nat) (ka : Option Addr) (kc : Nat) (w : World) (hv : Vl w e.v na nc ka kc) :
    Calls Tryz.prog 37 #[.agg (eC e na nc ka kc).toArray] w fun e' w' => ∃ p, e' = .returned (.tuple #[.agg (pC p).toArray, .int .i64 (mayE e)]) ∧ Hid (PkR w w' e p) := by
  have HL : Hid (e.h.length = 32) := he.h.1
  have HE : Hid (EnW e) := he
  have HV : Hid (Vl w e.v na nc ka kc) := hv
  have HW : Hid (Lk e.v) := hws
  clear he hv hws
  go_enter Tryz.func37, Tryz.ntmps37
  go_wp2_with (refine al_box rfl 45 (.tmp 0) rfl (eC e na nc ka kc) rfl ?_)
  intro ge w1 l1 BE G0
  have Z := (Below.refl w.heap.size w).grown G0 (Nat.le_refl _) (by simp)
  have hge : w.heap.size ≤ ge := l1
  clear G0
  go_wp2_with (refine al_zero rfl 75 rfl pZ zK ?_)
  intro g2 w2 l2 B2 G0
  have hg2 : w.heap.size ≤ g2 := Nat.le_trans Z.size l2
  have Z := Z.grown G0 Z.size (by simp)
  have ngeg2 : ge ≠ g2 := by have := BE.lt; omega
  have BE := BE.kept G0 (by simp)
  clear G0
  obtain ⟨t, ht⟩ : ∃ t, Hid (formB e = t) := ⟨_, rfl⟩
  have KR := entry_any e HE.out na nc ka kc w2
  rw [ht.out] at KR
  go_wp2_with (refine ld_w (by rfl) 45 (.tmp 1) rfl ge 0 rfl (eC e na nc ka kc) _ BE.all Tryz.underlying45 rfl (sE HL.out _ _ _ _) ?_)
  refine KR.mono ?_
  rintro e' w3 ⟨rfl, Z0⟩
  clear KR
  have BE := BE.below Z0 BE.lt
  have B2 := B2.below Z0 B2.lt
  have Z := Z.trans (Z0.mono Z.size)
  clear Z0
  cases t
  · have hm := may_no (e := e) (by show ¬ formB e = true; rw [ht.out]; simp)
    go_wp2_with (first | (refine bd_row rfl 75 #[] rfl pZ (by kernel_rfl) ?_) | (refine st_all rfl 75 (.tmp 2) (.tmp 10) rfl g2 75 pZ pZ rfl rfl B2 rfl (szK pN) (pC_one pN) ?_))
    intro w9 B2 G0
    have Z := Sh.grown_below Z G0 Z.size hg2
    clear G0
    go_wp2
    refine bodyPost_ret (Go.Proofs.YtlefdnjokppibaaGreatDoor.res_two rfl _ g2 75 _ _ rfl B2 Tryz.underlying75 rfl (szK pN)) rfl ⟨pN, by rw [hm]; rfl, Z, fun h => by rw [hm] at h; exact absurd h (by decide)⟩
  have HF : Hid (Form e) := ht.out
  clear ht
  obtain ⟨C, hC⟩ : ∃ C : World → Prop, C = fun W => Blk W ge 45 (eC e na nc ka kc) ∧ Blk W g2 75 pZ ∧ Below w.heap.size w W := ⟨_, rfl⟩
  have FE : Hid (∀ W, C W → W.rangeAt ge 0 (eC e na nc ka kc)) := fun W hW => by rw [hC] at hW; exact hW.1.all
  have FK : Hid (∀ W, C W → W.cell? ⟨ge, 0, none⟩ = some (.int .i64 e.k)) := fun W hW => (enF_of HL.out (FE.out W hW)).k
  have CK : Hid (∀ W W', C W → Below W.heap.size W W' → C W') := fun W W' h1 h2 => by rw [hC] at h1 ⊢; exact ⟨h1.1.below h2 h1.1.lt, h1.2.1.below h2 h1.2.1.lt, h1.2.2.trans (h2.mono h1.2.2.size)⟩
  have CE : Hid (∀ W, C W → Blk W ge 45 (eC e na nc ka kc) ∧ Blk W g2 75 pZ ∧ Below w.heap.size w W) := fun W h => by rw [hC] at h; exact h
  have C0 : Hid (C { w3 with drawn := w3.drawn + 1 }) := by rw [hC]; exact ⟨BE, B2, Below.drew Z⟩
  clear hC
  go_wp2_with fail
  refine Code.wp_mono (Q := fun ex a' w' => ex = .normal ∧ ∃ (g4 : Nat) (oa : Option Addr) (oc : Nat), a' = (⟨#[.agg (eC e na nc ka kc).toArray, .pointer (some ⟨ge, 0, none⟩), .pointer (some ⟨g2, 0, none⟩), .int .i64 0, .pointer (some ⟨g4, 0, none⟩), undef, undef, .agg (eC e na nc ka kc).toArray, .bool true, .bool false, undef, .agg (eC e na nc ka kc).toArray, .slice oa (entB e).length oc, .pointer (some ⟨ge, 0, none⟩), .int .i64 e.k, .agg [.slice oa (entB e).length oc, .slice none 0 0, .int .i64 e.k].toArray, undef, undef, undef, undef, undef, undef, undef, undef, undef, undef, undef, undef, undef, undef, undef, undef, undef, undef, undef, undef, undef, undef, undef, undef, undef, undef, undef], []⟩ : Act) ∧ Hid (Blk w' ge 45 (eC e na nc ka kc) ∧ Blk w' g2 75 pZ ∧ Below w.heap.size w w' ∧ Blk w' g4 75 [.slice oa (entB e).length oc, .slice none 0 0, .int .i64 e.k] ∧ Own w' w.heap.size (.slice oa (entB e).length oc) (entB e) ∧ w.heap.size ≤ g4 ∧ g4 ≠ ge ∧ g4 ≠ g2)) ?_ ?_
  case refine_2 =>
    clear BE B2 Z
    refine region_calm C 6 (by kernel_rfl) ?_
    have hCp : ∀ p : Prop, (∀ W, C W → p) ↔ p := fun p => ⟨fun h => h _ C0.out, fun h _ _ => h⟩
    generalize ({ w3 with drawn := w3.drawn + 1 } : World) = y0 at *
    refine seg 4 [0, 2, 3] rfl (by kernel_rfl) whole_blind (C0.out) (by kernel_rfl) ?_
    change wpQuiet _ _ _ _ (_ :: _ :: _ :: []) _
    repeat (first
      | go_big_quiet_skip
      | (go_big_quiet_want
         first
         | (refine q_load 45 (.tmp 1) rfl ge 0 rfl (eC e na nc ka kc) _ FE.out Tryz.underlying45 rfl (sE HL.out _ _ _ _) ?_
            simp only [Act.put, List.setIfInBounds_toArray, List.set_cons_zero, List.set_cons_succ]
            go_big_quiet_on)
         | (refine q_cell 3 (.inl rfl) (.tmp 13) rfl ge 0 rfl _ FK.out ?_
            simp only [Act.put, List.setIfInBounds_toArray, List.set_cons_zero, List.set_cons_succ]
            go_big_quiet_on)
         | (go_big_quiet_op
            go_big_quiet_on)))
    refine wpQuiet_nil ?_
    obtain ⟨BE0, B20, Z00⟩ := CE.out _ C0.out
    have hge := BE0.lt
    have hg2' := B20.lt
    have z00 := Z00.size
    clear BE0 B20 Z00
    refine two_do (i := 1) (j := 5) 3 rfl (by kernel_rfl) rfl (by rfl) rfl (by rfl) (fun K hK => ?_) (fun K hK => ?_)
    · refine oper_call 68 _ _ rfl #[.agg (eC e na nc ka kc).toArray] (by rw [List.map_toArray]; rfl) (enters Tryz.func68 (by kernel_rfl) rfl) (fun v w' => Own w' y0.heap.size v (entB e) ∧ Below y0.heap.size y0 w') ((ent_any e HE.out HF.out.num na nc ka kc y0).mono (by rintro e' w' ⟨v, rfl, o, z⟩; exact ⟨v, rfl, o, z⟩)) ?_
      rintro v1 y1 ⟨O1, Z1⟩
      have C1 : Hid (C y1) := CK.out _ _ C0.out Z1
      obtain ⟨oa, oc, rfl, _, _, _, _⟩ := O1.byt
      refine hK _ _ (C1.out) ?_
      clear hK K
      simp only [Act.put, List.setIfInBounds_toArray, List.set_cons_zero, List.set_cons_succ]
      have s1 := Z1.size
      refine seg 2 [4] rfl (by kernel_rfl) whole_blind (C1.out) (by kernel_rfl) ?_
      change wpQuiet _ _ _ _ (_ :: []) _
      repeat (first
        | go_big_quiet_skip
        | (go_big_quiet_want
           first
           | (refine q_bd 75 _ rfl [.slice oa (entB e).length oc, .slice none 0 0, .int .i64 e.k] (pk_built _ 12 14 oa (entB e).length oc e.k rfl rfl) ?_
              simp only [Act.put, List.setIfInBounds_toArray, List.set_cons_zero, List.set_cons_succ]
              go_big_quiet_on)
           | (go_big_quiet_op
              go_big_quiet_on)))
      refine wpQuiet_nil ?_
      refine lone_do (i := 5) 1 rfl (by kernel_rfl) rfl (by rfl) ?_
      intro K hK
      refine oper_new 75 rfl pZ zK ?_
      have C2 : Hid (C (y1.alloc (.cells pZ.toArray 75))) := CK.out _ _ C1.out ((Below.refl _ _).alloc (Nat.le_refl _) _)
      have B4 : Blk (y1.alloc (.cells pZ.toArray 75)) y1.heap.size 75 pZ := blk_new y1 75 pZ
      have ZA : Below y1.heap.size y1 (y1.alloc (.cells pZ.toArray 75)) := (Below.refl _ _).alloc (Nat.le_refl _) _
      refine hK _ _ C2.out ?_
      clear hK K
      simp only [Act.put, List.setIfInBounds_toArray, List.set_cons_zero, List.set_cons_succ]
      generalize y1.alloc (.cells pZ.toArray 75) = y2 at *
      refine lone_last (i := 6) 0 rfl rfl (by kernel_rfl) rfl (by rfl) ?_
      intro K hK
      refine oper_sta 75 (.tmp 4) (.tmp 15) rfl rfl y1.heap.size 75 pZ [.slice oa (entB e).length oc, .slice none 0 0, .int .i64 e.k] rfl rfl B4 rfl (szK ⟨oa, oc, entB e, none, 0, [], e.k⟩) (pC_one ⟨oa, oc, entB e, none, 0, [], e.k⟩) ?_
      intro y3 B4 G0
      obtain ⟨BE, B2, Z⟩ := CE.out _ C2.out
      have hlow : w.heap.size ≤ y1.heap.size := by omega
      have ne1 : y1.heap.size ≠ ge := by omega
      have ne2 : y1.heap.size ≠ g2 := by omega
      have HQ : Hid (Blk y3 ge 45 (eC e na nc ka kc) ∧ Blk y3 g2 75 pZ ∧ Below w.heap.size w y3 ∧ Blk y3 y1.heap.size 75 [.slice oa (entB e).length oc, .slice none 0 0, .int .i64 e.k] ∧ Own y3 w.heap.size (.slice oa (entB e).length oc) (entB e) ∧ w.heap.size ≤ y1.heap.size ∧ y1.heap.size ≠ ge ∧ y1.heap.size ≠ g2) := ⟨BE.kept G0 (fun x => ne1 (Option.some.inj x).symm), B2.kept G0 (fun x => ne2 (Option.some.inj x).symm), Sh.grown_below Z G0 Z.size hlow, B4, own_keepn (own_mono (O1.below ZA) (by omega)) G0 (fun x => by have := (World.ownsRow.lt O1 _ x).2; omega), hlow, ne1, ne2⟩
      refine hK _ _ ?_
      clear hK K
      refine anyC_done (by kernel_rfl) ⟨rfl, ?_⟩
      simp only [Act.put]
      exact ⟨by first | rfl | trivial, y1.heap.size, oa, oc, rfl, HQ⟩
    · refine oper_new 75 rfl pZ zK ?_
      have C1 : Hid (C (y0.alloc (.cells pZ.toArray 75))) := CK.out _ _ C0.out ((Below.refl _ _).alloc (Nat.le_refl _) _)
      have B4 : Blk (y0.alloc (.cells pZ.toArray 75)) y0.heap.size 75 pZ := blk_new y0 75 pZ
      have ZA : Below y0.heap.size y0 (y0.alloc (.cells pZ.toArray 75)) := (Below.refl _ _).alloc (Nat.le_refl _) _
      refine hK _ _ C1.out ?_
      clear hK K
      simp only [Act.put, List.setIfInBounds_toArray, List.set_cons_zero, List.set_cons_succ]
      generalize y0.alloc (.cells pZ.toArray 75) = y1 at *
      have s1 := ZA.size
      have b4 := B4.lt
      refine lone_do (i := 1) 2 rfl (by kernel_rfl) rfl (by rfl) ?_
      intro K hK
      refine oper_call 68 _ _ rfl #[.agg (eC e na nc ka kc).toArray] (by rw [List.map_toArray]; rfl) (enters Tryz.func68 (by kernel_rfl) rfl) (fun v w' => Own w' y1.heap.size v (entB e) ∧ Below y1.heap.size y1 w') ((ent_any e HE.out HF.out.num na nc ka kc y1).mono (by rintro e' w' ⟨v, rfl, o, z⟩; exact ⟨v, rfl, o, z⟩)) ?_
      rintro v1 y2 ⟨O1, Z1⟩
      have C2 : Hid (C y2) := CK.out _ _ C1.out Z1
      obtain ⟨oa, oc, rfl, _, _, _, _⟩ := O1.byt
      refine hK _ _ (C2.out) ?_
      clear hK K
      simp only [Act.put, List.setIfInBounds_toArray, List.set_cons_zero, List.set_cons_succ]
      have B4 := B4.below Z1 B4.lt
      refine lone_calm (i := 4) 1 rfl (by kernel_rfl) rfl rfl (C2.out) ?_
      repeat (first
        | go_big_quiet_skip
        | (go_big_quiet_want
           first
           | (refine q_bd 75 _ rfl [.slice oa (entB e).length oc, .slice none 0 0, .int .i64 e.k] (pk_built _ 12 14 oa (entB e).length oc e.k rfl rfl) ?_
              simp only [Act.put, List.setIfInBounds_toArray, List.set_cons_zero, List.set_cons_succ]
              go_big_quiet_on)
           | (go_big_quiet_op
              go_big_quiet_on)))
      refine wpQuiet_nil ?_
      refine lone_last (i := 6) 0 rfl rfl (by kernel_rfl) rfl (by rfl) ?_
      intro K hK
      refine oper_sta 75 (.tmp 4) (.tmp 15) rfl rfl y0.heap.size 75 pZ [.slice oa (entB e).length oc, .slice none 0 0, .int .i64 e.k] rfl rfl B4 rfl (szK ⟨oa, oc, entB e, none, 0, [], e.k⟩) (pC_one ⟨oa, oc, entB e, none, 0, [], e.k⟩) ?_
      intro y3 B4 G0
      obtain ⟨BE, B2, Z⟩ := CE.out _ C2.out
      have hlow : w.heap.size ≤ y0.heap.size := by omega
      have ne1 : y0.heap.size ≠ ge := by omega
      have ne2 : y0.heap.size ≠ g2 := by omega
      have HQ : Hid (Blk y3 ge 45 (eC e na nc ka kc) ∧ Blk y3 g2 75 pZ ∧ Below w.heap.size w y3 ∧ Blk y3 y0.heap.size 75 [.slice oa (entB e).length oc, .slice none 0 0, .int .i64 e.k] ∧ Own y3 w.heap.size (.slice oa (entB e).length oc) (entB e) ∧ w.heap.size ≤ y0.heap.size ∧ y0.heap.size ≠ ge ∧ y0.heap.size ≠ g2) := ⟨BE.kept G0 (fun x => ne1 (Option.some.inj x).symm), B2.kept G0 (fun x => ne2 (Option.some.inj x).symm), Sh.grown_below Z G0 Z.size hlow, B4, own_keepn (own_mono O1 (by omega)) G0 (fun x => by have := (World.ownsRow.lt O1 _ x).1; omega), hlow, ne1, ne2⟩
      refine hK _ _ ?_
      clear hK K
      refine anyC_done (by kernel_rfl) ⟨rfl, ?_⟩
      simp only [Act.put]
      exact ⟨by first | rfl | trivial, y0.heap.size, oa, oc, rfl, HQ⟩
  case refine_1 =>
    rintro ex a' w4 ⟨rfl, g4, oa, oc, rfl, HQ⟩
    obtain ⟨BE, B2, Z, B4, O4, hg4, n4e, n42⟩ := HQ.out
    have HO4 : Hid (Own w4 w.heap.size (.slice oa (entB e).length oc) (entB e)) := O4
    clear C0 CE CK FE FK HQ O4
    have EF := enF_of HL.out BE.all
    have ck : w4.cell? ⟨ge, 0, none⟩ = some (.int .i64 e.k) := EF.k
    have cg : w4.cell? ⟨ge, 43, none⟩ = some (.bool e.g) := by have := EF.g; simpa using this
    clear EF
    by_cases hk2 : e.k = 2
    case neg =>
      have hm := may_plain HF.out (.inl hk2)
      have hcc : e.k ≠ 2 ∨ e.g = true := .inl hk2
      have hkb : (e.k != 2) = true := by simpa using hk2
      have B20 := B2
      go_wp2_with (first | (refine ld_w (by rfl) 75 (.tmp 4) rfl g4 0 rfl [.slice oa (entB e).length oc, .slice none 0 0, .int .i64 e.k] _ B4.all Tryz.underlying75 rfl (szK ⟨oa, oc, entB e, none, 0, [], e.k⟩) ?_) | (refine st_all rfl 75 (.tmp 2) (.tmp 23) rfl g2 75 pZ [.slice oa (entB e).length oc, .slice none 0 0, .int .i64 e.k] rfl rfl B2 rfl (szK ⟨oa, oc, entB e, none, 0, [], e.k⟩) (pC_one ⟨oa, oc, entB e, none, 0, [], e.k⟩) ?_))
      intro w9 B2 G0
      have hne : (Value.slice oa (entB e).length oc).ownBlock ≠ some g2 := fun x => own_ne_blk HO4.out B20 (by decide) x
      have O9 := own_keepn HO4.out G0 hne
      have Z := Sh.grown_below Z G0 Z.size hg2
      clear G0
      go_wp2
      refine bodyPost_ret (Go.Proofs.YtlefdnjokppibaaGreatDoor.res_two rfl _ g2 75 _ _ rfl B2 Tryz.underlying75 rfl (szK ⟨oa, oc, entB e, none, 0, [], e.k⟩)) rfl ⟨⟨oa, oc, entB e, none, 0, [], e.k⟩, by rw [hm]; rfl, Z, fun _ => ⟨O9, World.ownsRow_nil _ _ _ _, rfl, (dat_ok hm).2.2.2 hcc |>.symm, rfl⟩⟩
    have hkb : (e.k != 2) = false := by rw [hk2]; rfl
    by_cases hg : e.g = true
    case pos =>
      rw [hg] at cg
      have hm := may_plain HF.out (.inr hg)
      have hcc : e.k ≠ 2 ∨ e.g = true := .inr hg
      have B20 := B2
      clear hk2 hg
      go_wp2_with (first | (refine ld_w (by rfl) 75 (.tmp 4) rfl g4 0 rfl [.slice oa (entB e).length oc, .slice none 0 0, .int .i64 e.k] _ B4.all Tryz.underlying75 rfl (szK ⟨oa, oc, entB e, none, 0, [], e.k⟩) ?_) | (refine st_all rfl 75 (.tmp 2) (.tmp 23) rfl g2 75 pZ [.slice oa (entB e).length oc, .slice none 0 0, .int .i64 e.k] rfl rfl B2 rfl (szK ⟨oa, oc, entB e, none, 0, [], e.k⟩) (pC_one ⟨oa, oc, entB e, none, 0, [], e.k⟩) ?_))
      intro w9 B2 G0
      have hne : (Value.slice oa (entB e).length oc).ownBlock ≠ some g2 := fun x => own_ne_blk HO4.out B20 (by decide) x
      have O9 := own_keepn HO4.out G0 hne
      have Z := Sh.grown_below Z G0 Z.size hg2
      clear G0
      go_wp2
      refine bodyPost_ret (Go.Proofs.YtlefdnjokppibaaGreatDoor.res_two rfl _ g2 75 _ _ rfl B2 Tryz.underlying75 rfl (szK ⟨oa, oc, entB e, none, 0, [], e.k⟩)) rfl ⟨⟨oa, oc, entB e, none, 0, [], e.k⟩, by rw [hm]; rfl, Z, fun _ => ⟨O9, World.ownsRow_nil _ _ _ _, rfl, (dat_ok hm).2.2.2 hcc |>.symm, rfl⟩⟩
    have hg : e.g = false := by simpa using hg
    rw [hg] at cg
    have hvv := (enF_of HL.out BE.all).v
    simp only [Nat.zero_add] at hvv
    have KE := encode_all e.v HE.out.v HW.out na nc ka kc w4 (HV.out.below Z)
    replace KE : Calls Tryz.prog 69 #[.agg (six e.v.1 na nc ka e.v.2.list.length kc).toArray] w4 _ := KE
    have HM : Hid ((encE e.v ≠ 0 → mayE e = encE e.v) ∧ (encE e.v = 0 → hshV e.v ≠ e.h → mayE e = 18) ∧ (encE e.v = 0 → hshV e.v = e.h → mayE e = 0 ∧ datL e = encB e.v)) := ⟨fun h => may_enc HF.out hk2 hg h, fun h1 h2 => may_hash HF.out hk2 hg h1 h2, fun h1 h2 => ⟨may_yes HF.out hk2 hg h1 h2, by unfold datL; rw [if_pos ⟨hk2, hg⟩]⟩⟩
    have HOC : Hid (encE e.v = 0 → Oct (encB e.v) ∧ (encB e.v).length ≤ 65536) := fun h => encOf h
    have HD : Hid (hshV e.v = D (0 :: encB e.v)) := rfl
    obtain ⟨EE, hEE⟩ : ∃ x, Hid (encE e.v = x) := ⟨_, rfl⟩
    obtain ⟨EB, hEB⟩ : ∃ x, Hid (encB e.v = x) := ⟨_, rfl⟩
    rw [hEE.out] at HM HOC
    rw [hEB.out] at HM HOC HD
    rw [hEE.out, hEB.out] at KE
    clear hEE hEB hk2 hg
    go_wp2_with (refine ld_w (by rfl) 41 (.tmp 25) rfl ge 5 rfl (six e.v.1 na nc ka e.v.2.list.length kc) _ hvv Tryz.underlying41 rfl (szV _ _ _ _ _ _) ?_)
    refine KE.mono ?_
    rintro e' w5 ⟨v5, rfl, H5⟩
    obtain ⟨O5, Z0⟩ := H5.out
    obtain ⟨da, dc, rfl, hY5, hn5, hc5, hm5⟩ := O5.byt
    have O5 := own_mono O5 Z.size
    have z4 := Z.size
    have O4 := HO4.out.below Z0
    have BE := BE.below Z0 BE.lt
    have B2 := B2.below Z0 B2.lt
    have B4 := B4.below Z0 B4.lt
    have Z := Z.trans (Z0.mono Z.size)
    clear Z0
    clear KE H5 hvv ck cg HO4
    by_cases hE : EE = 0
    case neg =>
      have hm := HM.out.1 hE
      have hEb : (EE != 0) = true := by simpa using hE
      go_wp2_with (first | (refine bd_row rfl 75 #[] rfl pZ (by kernel_rfl) ?_) | (refine st_all rfl 75 (.tmp 2) (.tmp 32) rfl g2 75 pZ pZ rfl rfl B2 rfl (szK pN) (pC_one pN) ?_))
      intro w9 B2 G0
      have Z := Sh.grown_below Z G0 Z.size hg2
      clear G0
      go_wp2
      refine bodyPost_ret (Go.Proofs.YtlefdnjokppibaaGreatDoor.res_two rfl _ g2 75 _ _ rfl B2 Tryz.underlying75 rfl (szK pN)) rfl ⟨pN, by rw [hm]; rfl, Z, fun h => by rw [hm] at h; exact absurd h hE⟩
    subst hE
    have HB5 : Hid (Byt w5 da EB) := hY5
    have HR5 : Hid (w5.rangeAt ge 11 (nums .u8 e.h)) := by have := (enF_of HL.out BE.all).h; rw [Nat.zero_add] at this; exact this
    obtain ⟨DH, hDH⟩ : ∃ x, Hid (hshV e.v = x) := ⟨_, rfl⟩
    rw [hDH.out] at HM HD
    have HDL : Hid (H32 DH) := by show H32 DH; rw [HD.out]; exact ⟨D_len _, D_oct _⟩
    have hEL : EB.length ≤ 65536 := (HOC.out (by first | rfl | trivial)).2
    have heq := fun w => eq_hash HDL.out HE.out.h w
    generalize hC : (fun W => Below w5.heap.size w5 W) = C
    have z0 : Hid (C { w5 with drawn := w5.drawn + 1 }) := by rw [← hC]; exact (Below.refl _ _).drew
    have k1 : Hid (∀ W, C W → Calls Tryz.prog 70 #[.slice da EB.length dc] W fun e' w' => e' = .returned (.agg (nums .u8 DH).toArray) ∧ C w') := fun W hW => by
      rw [← hC] at hW ⊢
      refine (leaf_any da dc EB (by omega) W (HB5.out.below hW) hc5 (HOC.out (by first | rfl | trivial)).1).mono ?_
      rintro e' w' ⟨rfl, z⟩
      exact ⟨by rw [HD.out], hW.trans (z.mono hW.size)⟩
    have s1 : Hid (∀ W, C W → W.rangeAt ge 11 (nums .u8 e.h)) := fun W hW => by rw [← hC] at hW; exact range_below HR5.out hW
    have ZZ : Hid (∀ W, C W → Below w5.heap.size w5 W) := fun W hW => by rw [← hC] at hW; exact hW
    clear hC
    have hCp : ∀ p : Prop, (∀ W, C W → p) ↔ p := fun p => ⟨fun h => h _ z0.out, fun h _ _ => h⟩
    obtain ⟨T, hT⟩ : ∃ T, Hid (decide (DH = e.h) = T) := ⟨_, rfl⟩
    rw [hT.out] at heq
    go_wp2_with fail
    refine q_region (C := C) (by kernel_rfl) (by kernel_rfl) z0.out ?_
    repeat (first
      | go_big_quiet_skip
      | (go_big_quiet_want
         first
         | (refine q_load 23 (.tmp 36) rfl ge 11 rfl (nums .u8 e.h) _ s1.out Tryz.underlying23 rfl (sH HL.out) ?_
            simp only [Act.put, List.setIfInBounds_toArray, List.set_cons_zero, List.set_cons_succ]
            go_big_quiet_on)
         | (go_big_quiet_op
            first
            | go_big_quiet_on
            | (apply Exists.intro
               refine ⟨?_, ?_⟩
               · exact k1.out
               go_big_quiet_on))))
    refine wpQuiet_nil ?_
    intro w6 hW
    have Z0 := ZZ.out w6 hW
    have O5 := O5.below Z0
    have O4 := O4.below Z0
    have BE := BE.below Z0 BE.lt
    have B2 := B2.below Z0 B2.lt
    have B4 := B4.below Z0 B4.lt
    have Z := Z.trans (Z0.mono Z.size)
    clear Z0
    clear k1 s1 z0 ZZ hCp hW heq HB5 HR5
    cases T
    · have hm := HM.out.2.1 (by first | rfl | trivial) (of_decide_eq_false hT.out)
      go_wp2_with (first | (refine bd_row rfl 75 #[] rfl pZ (by kernel_rfl) ?_) | (refine st_all rfl 75 (.tmp 2) (.tmp 39) rfl g2 75 pZ pZ rfl rfl B2 rfl (szK pN) (pC_one pN) ?_))
      intro w9 B2 G0
      have Z := Sh.grown_below Z G0 Z.size hg2
      clear G0
      go_wp2
      refine bodyPost_ret (Go.Proofs.YtlefdnjokppibaaGreatDoor.res_two rfl _ g2 75 _ _ rfl B2 Tryz.underlying75 rfl (szK pN)) rfl ⟨pN, by rw [hm]; rfl, Z, fun h => by rw [hm] at h; exact absurd h (by decide)⟩
    obtain ⟨hm, hdl⟩ := HM.out.2.2 (by first | rfl | trivial) (of_decide_eq_true hT.out)
    go_wp2_with (refine st_one rfl 70 (.tmp 41) (.tmp 40) rfl g4 1 75 _ (.slice da EB.length dc) rfl rfl rfl rfl (by simp) B4 (by kernel_rfl) ?_)
    intro w7 B7 G0
    have B7 : Blk w7 g4 75 [.slice oa (entB e).length oc, .slice da EB.length dc, .int .i64 e.k] := B7
    have O5 := own_keepn O5 G0 (fun x => own_ne_blk O5 B4 (by decide) x)
    have O4 := own_keepn O4 G0 (fun x => own_ne_blk O4 B4 (by decide) x)
    have B2 := B2.kept G0 (fun x => n42 (Option.some.inj x).symm)
    have Z := Sh.grown_below Z G0 Z.size hg4
    clear G0 B4
    have B20 := B2
    go_wp2_with (first | (refine ld_w (by rfl) 75 (.tmp 4) rfl g4 0 rfl [.slice oa (entB e).length oc, .slice da EB.length dc, .int .i64 e.k] _ B7.all Tryz.underlying75 rfl (szK ⟨oa, oc, entB e, da, dc, EB, e.k⟩) ?_) | (refine st_all rfl 75 (.tmp 2) (.tmp 42) rfl g2 75 pZ [.slice oa (entB e).length oc, .slice da EB.length dc, .int .i64 e.k] rfl rfl B2 rfl (szK ⟨oa, oc, entB e, da, dc, EB, e.k⟩) (pC_one ⟨oa, oc, entB e, da, dc, EB, e.k⟩) ?_))
    intro w8 B2 G0
    have O5 := own_keepn O5 G0 (fun x => own_ne_blk O5 B20 (by decide) x)
    have O4 := own_keepn O4 G0 (fun x => own_ne_blk O4 B20 (by decide) x)
    have Z := Sh.grown_below Z G0 Z.size hg2
    clear G0
    go_wp2
    refine bodyPost_ret (Go.Proofs.YtlefdnjokppibaaGreatDoor.res_two rfl _ g2 75 _ _ rfl B2 Tryz.underlying75 rfl (szK ⟨oa, oc, entB e, da, dc, EB, e.k⟩)) rfl ⟨⟨oa, oc, entB e, da, dc, EB, e.k⟩, by rw [hm]; rfl, Z, fun _ => ⟨O4, O5, rfl, hdl.symm, rfl⟩⟩
end Go.Proofs.YtlefdnjokppibaaGreatDoor.Sh
