/-
  Put, once more: into a tree without a text, with the frame exact; where the text is there, with what was there.
-/
import Derived.Test.YteokjfpppmnebaaQc
import Derived.Test.YteokjfpppmnebaaIb
import Derived.Test.YteokjfpppmnebaaPo
namespace Go.Proofs.Yteokjfpppmnebaa
open Go.RowKit
set_option linter.unusedVariables false
set_option linter.unusedSimpArgs false
theorem ux_g {g : Nat} {w a b : World} (h : Upd [g] w a) (k : a.grownBy b (some g)) : Upd [g] w b := h.trans (Upd.of_by k) (fun x hx _ => hx)
theorem ux_b {g x : Nat} {w a b : World} (h : Upd [g] w a) (k : a.grownBy b (some x)) (hx : w.heap.size ≤ x) : Upd [g] w b := h.trans (Upd.of_by k) (fun y hy hl => by simp at hy; omega)
theorem ux_t {g : Nat} {w a b : World} (h : Upd [g] w a) (k : Below a.heap.size a b) : Upd [g] w b := h.trans (Upd.of_below [] k) (by simp)
set_option maxHeartbeats 1000000 in
set_option maxRecDepth 8000 in
theorem add_firstX (g : Nat) (n nd : Nat) (hn : n < 1000000000) (hnd : nd < 1000000000) (s : Sl) (w : World) (hT : Blk w g 55 (tC none n nd)) :
    Calls Try.prog 27 #[.pointer (some ⟨g, 0, none⟩), .agg (slC s).toArray] w fun e w' => e = .returned (.tuple #[]) ∧ Hid (∃ b, Blk w' g 55 (tC (some b) (n + 1) (nd + 1)) ∧ Nd w' b 0 [s] none 0 ∧ Upd [g] w w' ∧ g ≠ b ∧ w.heap.size ≤ b) := by
  have HT0 : Hid (Blk w g 55 (tC none n nd)) := hT
  have hgl : g < w.heap.size := hT.lt
  obtain ⟨ss, hss⟩ : ∃ ss : List Sl, Hid (ss = []) := ⟨_, rfl⟩
  have HC : Hid (ss.length < 16) := by show _ < _; rw [hss.out]; decide
  clear hT
  go_enter Try.func27, Try.ntmps27
  go_wp2_with (refine al_box rfl 60 (.tmp 1) rfl (slC s) rfl ?_)
  intro g3 w1 l1 B1 G0
  have HT : Hid (Blk w1 g 55 (tC none n nd)) := HT0.out.kept G0 (by simp)
  have HZ : Hid (Upd [g] w w1) := Upd.of_none [g] G0
  have HB3 : Hid (Blk w1 g3 60 (slC s)) := B1
  have c0 : w1.cell? ⟨g, 0, none⟩ = some (.pointer none) := HT.out.cell 0
  clear G0 B1 HT0
  have K := grow_any g none n nd hnd 0 w1 HT.out
  go_wp2_with fail
  refine K.mono ?_
  clear K
  rintro e w2 ⟨b, rfl, H⟩
  obtain ⟨h1, h2, h3, h4⟩ := H.out
  have HT2 : Hid (Blk w2 g 55 (tC none n (nd + 1))) := h1
  have HN2 : Hid (Nd w2 b 0 ss none 0) := by rw [hss.out]; exact h2
  have hgb : g ≠ b := by have := HT.out.lt; omega
  have hBb : w.heap.size ≤ b := Nat.le_trans HZ.out.size h3
  have HZ2 : Hid (Upd [g] w w2) := ux_g HZ.out h4
  have HB2 : Hid (Blk w2 g3 60 (slC s)) := HB3.out.kept h4 (by simp; omega)
  clear h1 h2 h3 h4 H HT HZ HB3 c0
  go_wp2_with (refine st_one rfl 53 (.tmp 14) (.tmp 12) rfl g 0 55 _ (.pointer (some ⟨b, 0, none⟩)) rfl rfl rfl rfl (by show 0 < 3; decide) HT2.out s53 ?_)
  intro w3 B4 G4
  have HT : Hid (Blk w3 g 55 (tC (some b) n (nd + 1))) := B4
  have HN : Hid (Nd w3 b 0 ss none 0) := HN2.out.kept G4 (by simpa using (Ne.symm hgb))
  have HZ : Hid (Upd [g] w w3) := ux_g HZ2.out G4
  have HB3 : Hid (Blk w3 g3 60 (slC s)) := HB2.out.kept G4 (by simp; omega)
  clear B4 G4 HT2 HN2 HZ2 HB2
  obtain ⟨C, hC⟩ : ∃ C : World → Prop, C = fun W => Below w3.heap.size w3 W := ⟨_, rfl⟩
  have F1 : Hid (∀ W, C W → W.cell? ⟨g, 0, none⟩ = some (.pointer (some ⟨b, 0, none⟩))) := fun W hW => by rw [hC] at hW; exact (HT.out.below hW HT.out.lt).cell 0
  have F2 : Hid (∀ W, C W → W.rangeAt g3 0 (slC s)) := fun W hW => by rw [hC] at hW; exact (HB3.out.below hW HB3.out.lt).all
  have CG : Hid (∀ w w', C w → Grow w w' → C w') := fun W W' h1 h2 => by rw [hC] at h1 ⊢; exact h1.trans (h2.mono h1.size)
  have CE : Hid (∀ W, C W → Below w3.heap.size w3 W) := fun W h => by rw [hC] at h; exact h
  have C0 : Hid (C { w3 with drawn := w3.drawn + 1 }) := by rw [hC]; exact Below.drew (Below.refl _ _)
  clear hC
  have FN : Hid (∀ W, C W → Nd W b 0 ss none 0 ∧ Blk W g 55 (tC (some b) n (nd + 1)) ∧ Upd [g] w W) := fun W hW => ⟨HN.out.below (CE.out W hW) HN.out.lt, HT.out.below (CE.out W hW) HT.out.lt, ux_t HZ.out (CE.out W hW)⟩
  go_wp2_with fail
  refine region_grow [6] (by kernel_rfl) ?_
  have hCp : ∀ p : Prop, (∀ W, C W → p) ↔ p := fun p => ⟨fun h => h _ C0.out, fun h _ _ => h⟩
  generalize ({ w3 with drawn := w3.drawn + 1 } : World) = y0 at *
  refine segR 2 [0, 1, 2, 3, 4, 5] rfl (by kernel_rfl) whole_blind CG.out C0.out (by kernel_rfl) ?_
  change wpQuiet _ _ _ _ (_ :: _ :: _ :: _ :: _ :: _ :: []) _
  repeat (first
    | go_big_quiet_skip
    | (go_big_quiet_want
       first
       | (refine q_cell 53 (.inr (.inr rfl)) (.tmp 18) rfl g 0 rfl _ F1.out ?_
          simp only [Act.put, List.setIfInBounds_toArray, List.set_cons_zero, List.set_cons_succ]
          go_big_quiet_on)
       | (refine q_load 60 (.tmp 3) rfl g3 0 rfl (slC s) _ F2.out Try.underlying60 rfl (sSl s) ?_
          simp only [Act.put, List.setIfInBounds_toArray, List.set_cons_zero, List.set_cons_succ]
          go_big_quiet_on)
       | (go_big_quiet_op
          go_big_quiet_on)))
  refine wpQuiet_nil ?_
  refine one_ofR 1 rfl [6] (by kernel_rfl) (by simp) fun j hj => ?_
  obtain rfl := List.mem_singleton.1 hj
  refine ⟨_, rfl, (by rfl), fun y1 hy1 K hK => ?_⟩
  have C1 : Hid (C y1) := CG.out _ _ C0.out hy1
  clear hy1
  refine oper_calls 45 _ _ rfl #[.pointer (some ⟨g, 0, none⟩), .pointer (some ⟨b, 0, none⟩), .agg (slC s).toArray] (by rw [List.map_toArray]; rfl) (enters Try.func45 (by kernel_rfl) rfl) (fun v w' => v = .pointer none ∧ Hid (Nd w' b 0 (insS ss s) none 0 ∧ y1.grownBy w' (some b))) ((put_room g b ss none 0 s y1 (FN.out _ C1.out).1 HC.out).mono (by rintro e w' ⟨rfl, h⟩; exact ⟨_, rfl, rfl, h⟩)) ?_
  rintro v w5 ⟨rfl, H⟩
  refine hK _ _ (.inl (by simp)) ?_
  clear hK K
  simp only [Act.put, List.setIfInBounds_toArray, List.set_cons_zero, List.set_cons_succ]
  have C1E := CE.out _ C1.out
  have HT5 : Hid (Blk w5 g 55 (tC (some b) n (nd + 1))) := (FN.out _ C1.out).2.1.kept H.out.2 (by simpa using hgb)
  have HN5 : Hid (Nd w5 b 0 (insS ss s) none 0) := H.out.1
  have HZ5 : Hid (Upd [g] w w5) := ux_b (FN.out _ C1.out).2.2 H.out.2 hBb
  clear C0 C1 C1E hCp CE CG
  clear F1 F2 FN H HT HN HB3 HZ
  have hCp : ∀ p : Prop, (∀ W, Anyw W → p) ↔ p := fun p => anyw_p w p
  refine loneR (C := Anyw) (i := 7) 0 rfl (by kernel_rfl) rfl rfl (fun _ _ _ _ => trivial) trivial ?_
  repeat (first
    | go_big_quiet_skip
    | (go_big_quiet_want
       first
       | (go_big_quiet_op
          go_big_quiet_on)))
  refine wpQuiet_nil ?_
  clear hCp
  refine doneR (by kernel_rfl) fun y6 hy => ?_
  have HT6 : Hid (Blk y6 g 55 (tC (some b) n (nd + 1))) := HT5.out.grow hy
  have HN6 : Hid (Nd y6 b 0 (insS ss s) none 0) := HN5.out.below hy HN5.out.lt
  have HZ6 : Hid (Upd [g] w y6) := ux_t HZ5.out hy
  clear hy HT5 HN5 HZ5
  have c1 : y6.cell? ⟨g, 1, none⟩ = some (.int .i64 (n : Int)) := HT6.out.cell 1
  have e1 : wrap64 ((n : Int) + 1) = (n : Int) + 1 := wrap_small (n := n + 1) (by omega) (by omega)
  go_wp2_with (refine st_one rfl 3 (.tmp 33) (.tmp 31) rfl g 1 55 _ (.int .i64 ((n : Int) + 1)) rfl (by first | rfl | exact congrArg _ e1) rfl rfl (by show 1 < 3; decide) HT6.out s3' ?_)
  intro w7 B7 G7
  have HE : Hid (Blk w7 g 55 (tC (some b) (n + 1) (nd + 1)) ∧ Nd w7 b 0 (insS ss s) none 0 ∧ Upd [g] w w7) := ⟨B7, HN6.out.kept G7 (by simpa using (Ne.symm hgb)), ux_g HZ6.out G7⟩
  clear B7 G7 HN6 HZ6 HT6 c1 e1
  go_wp2
  go_end0
  refine ⟨rfl, b, HE.out.1, ?_, HE.out.2.2, hgb, hBb⟩
  have h := HE.out.2.1
  rw [hss.out] at h
  exact h
set_option maxHeartbeats 1000000 in
set_option maxRecDepth 8000 in
theorem tput_noneX (g : Nat) (n nd : Nat) (hn : n < 1000000000) (key : ByteArray) (hk : key.size ≤ 281474976710656) (x : Int) (w : World) (hT : Blk w g 55 (tC none n nd)) (hnd : nd < 1000000000) :
    Calls Try.prog 13 #[.pointer (some ⟨g, 0, none⟩), .string key, .int .i64 x] w fun e w' => e = .returned (.tuple #[.int .i64 0, .bool false]) ∧ Hid (∃ b, Blk w' g 55 (tC (some b) (n + 1) (nd + 1)) ∧ Nd w' b 0 [⟨key, x, none⟩] none 0 ∧ Upd [g] w w' ∧ g ≠ b ∧ w.heap.size ≤ b) := by
  have HT0 : Hid (Blk w g 55 (tC none n nd)) := hT
  have hgl : g < w.heap.size := hT.lt
  have K1 := own_none g n nd w hT
  have K2 := find_none g n nd key w hT
  clear hT
  go_enter Try.func13, Try.ntmps13
  go_wp2_with fail
  refine K1.mono ?_
  clear K1
  rintro e w1 ⟨rfl, hw⟩
  have hw' := hw.symm
  subst hw'
  clear hw
  go_wp2_with fail
  refine K2.mono ?_
  clear K2
  rintro e w1 ⟨rfl, hw⟩
  have hw' := hw.symm
  subst hw'
  clear hw
  have K := sclone_any key hk w
  go_wp2_with fail
  refine K.mono ?_
  clear K
  rintro e w2 ⟨rfl, hZ⟩
  have K : Calls Try.prog 27 #[.pointer (some ⟨g, 0, none⟩), .agg #[.string key, .int .i64 x, .pointer none]] w2 _ := add_firstX g n nd hn hnd ⟨key, x, none⟩ w2 (HT0.out.below hZ hgl)
  have HZ : Hid (Below w.heap.size w w2) := hZ
  clear hZ HT0
  go_wp2_with fail
  refine K.mono ?_
  clear K
  rintro e w3 ⟨rfl, H⟩
  have HE : Hid (∃ b, Blk w3 g 55 (tC (some b) (n + 1) (nd + 1)) ∧ Nd w3 b 0 [⟨key, x, none⟩] none 0 ∧ Upd [g] w w3 ∧ g ≠ b ∧ w.heap.size ≤ b) := by
    obtain ⟨b, h1, h2, h3, h4, h5⟩ := H.out
    exact ⟨b, h1, h2, (Upd.of_below [g] HZ.out).trans h3 (fun x hx _ => hx), h4, Nat.le_trans HZ.out.size h5⟩
  clear H HZ
  go_wp2
  go_ret2
  exact ⟨rfl, HE.out⟩
set_option maxHeartbeats 1000000 in
set_option maxRecDepth 8000 in
theorem tPut_hitX (g l : Nat) (t : B) (key : ByteArray) (x : Int) (w : World) (ht : TreeM w g l t) (b : Nat) (es : List E) (hl : lfn l t key = .lf b es) (hh : hit (es.map sE) key = true) :
    Calls Try.prog 13 #[.pointer (some ⟨g, 0, none⟩), .string key, .int .i64 x] w fun e w' => ∃ old : E, e = .returned (.tuple #[.int .i64 old.2, .bool true]) ∧ Hid (es[sk (es.map sE) key]? = some old ∧ ∃ t', TreeM w' g l t' ∧ ents l t' = (ents l t).set (pos l t key) (old.1, x) ∧ fps l t' = fps l t ∧ Upd (g :: fps l t) w w') := by
  have hj : sk (es.map sE) key < es.length := by have := hit_lt hh; simpa using this
  obtain ⟨A, old, D, hes, hA⟩ := cut_e hj
  have HOLD : Hid (es[sk (es.map sE) key]? = some old) := by
    show _ = _
    rw [← hA]
    conv => lhs; rw [hes]
    simp
  obtain ⟨R, HR⟩ : ∃ R, Hid (sk (es.map sE) key = R) := ⟨_, rfl⟩
  obtain ⟨tb, Htb⟩ : ∃ tb, Hid (t.bk = tb) := ⟨_, rfl⟩
  have K1 := own_some g t.bk (ents l t).length (nods l t) w ht.tree ht.mem.nd.read
  have K2 := find_any g l t (ents l t).length (nods l t) none 0 key w ht.tree ht.mem ht.ok b es hl (some R) (by rw [hh, HR.out]; rfl)
  obtain ⟨b', es', nx', rd', g1, g2, g3⟩ := lfn_mem key ht.mem ht.ok
  rw [hl] at g1
  injection g1 with q1 q2
  subst q1 q2
  have HN : Hid (Nd w b 0 (es.map sE) nx' rd') := g2
  have hgb : g ≠ b := fun e => ht.gn (by rw [e]; exact g3)
  have HR16 : R < 16 := by have := g2.le; rw [List.length_map] at this; rw [← HR.out]; omega
  have HSO : Hid ((es.map sE)[R]? = some (sE old)) := by show _ = _; rw [← HR.out, ← hA, hes]; simp
  have HFin : Hid (∀ w1 w2, Below w.heap.size w w1 → Blk w2 b 71 ((nC 0 (es.map sE) nx' rd').set (2 + R * 3 + 1) (.int .i64 x)) → w1.grownBy w2 (some b) → ∃ t', TreeM w2 g l t' ∧ ents l t' = (ents l t).set (pos l t key) (old.1, x) ∧ fps l t' = fps l t ∧ Upd (g :: fps l t) w w2) := fun w1 w2 hb B2 G2 => by
    have ht1 : TreeM w1 g l t := ht.upd (Upd.of_below [] hb) (by simp) (by simp)
    have hN1 : Nd w1 b 0 (es.map sE) nx' rd' := g2.below hb g2.lt
    have e3 : (nC 0 (es.map sE) nx' rd').set (2 + R * 3 + 1) (.int .i64 x) = nC 0 ((es.set (sk (es.map sE) key) (old.1, x)).map sE) nx' rd' := by
      rw [HR.out]
      have hAR : A.length = R := by rw [hA, HR.out]
      subst hAR
      rw [hes, nC_num]
      simp
    rw [e3] at B2
    have hS := set_any (w := w1) (w' := w2) (bl := b) (k := key) (es := es) (e := (old.1, x)) hj (by
        have h5 : es[sk (es.map sE) key]? = some old := by rw [← hA]; rw [hes]; simp
        rw [(List.getElem?_eq_some_iff.1 h5).2]) (Upd.of_by G2) (fun nx rd h => by
      have h6 : nC 0 (es.map sE) nx rd = nC 0 (es.map sE) nx' rd' := by
        have h7 := h.blk.symm.trans hN1.blk
        simpa using h7
      have hlen : ((es.set (sk (es.map sE) key) (old.1, x)).map sE).length = (es.map sE).length := by simp
      refine ⟨?_, by rw [hlen]; exact h.le⟩
      have h8 : nC 0 ((es.set (sk (es.map sE) key) (old.1, x)).map sE) nx rd = nC 0 ((es.set (sk (es.map sE) key) (old.1, x)).map sE) nx' rd' := by
        unfold nC at h6 ⊢
        have h9 := List.append_cancel_left h6
        rw [List.append_cancel_left h9]
      rw [h8]; exact B2) l t none 0 ht1.mem ht1.ok ht1.nodup hl
    obtain ⟨S, hpos⟩ := hS
    refine ⟨_, ⟨?_, S.mem, S.fit, by rw [S.cnt]; exact ht1.top, by rw [S.fp]; exact ht1.nodup, by rw [S.fp]; exact ht1.gn⟩, S.ent, S.fp, ((Upd.of_below (g :: fps l t) hb).trans (Upd.of_by G2) (by simp; exact fun _ => .inr g3))⟩
    rw [S.bk, S.ent, S.nod, List.length_set]
    exact ht1.tree.kept G2 (by simpa using hgb)
  clear ht hl hh hj hes hA g2 g3 HR Htb
  go_enter Try.func13, Try.ntmps13
  go_wp2_with fail
  refine K1.mono ?_
  clear K1
  rintro e w1 ⟨rfl, hw⟩
  have hw' := hw.symm
  subst hw'
  clear hw
  go_wp2_with fail
  refine K2.mono ?_
  clear K2
  rintro e w1 ⟨rfl, H⟩
  have HN1 : Hid (Nd w1 b 0 (es.map sE) nx' rd') := HN.out.below H.out HN.out.lt
  have HZ : Hid (Below w.heap.size w w1) := H.out
  have cn : w1.cell? ⟨b, 2 + R * 3 + 1, none⟩ = some (.int .i64 old.2) := HN1.out.slot R (sE old) (pad_at HSO.out) 1 (by decide)
  clear H HN
  simp only [Option.map_some]
  go_wp2_with (refine st_one rfl 3 (.tmp 26) (.tmp 24) rfl b (2 + R * 3 + 1) 71 _ (.int .i64 x) rfl rfl rfl rfl (by rw [nC_len HN1.out.le]; omega) HN1.out.blk s3' ?_)
  intro w2 B2 G2
  have HE := HFin.out w1 w2 HZ.out B2 G2
  have HE2 : Hid (∃ t', TreeM w2 g l t' ∧ ents l t' = (ents l t).set (pos l t key) (old.1, x) ∧ fps l t' = fps l t ∧ Upd (g :: fps l t) w w2) := HE
  clear B2 G2 HN1 HZ HFin HE HSO cn
  go_wp2
  go_ret2
  exact ⟨old, rfl, HOLD.out, HE2.out⟩
#print axioms tPut_hitX
end Go.Proofs.Yteokjfpppmnebaa
