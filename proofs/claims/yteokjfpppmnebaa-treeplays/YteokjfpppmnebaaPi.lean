/-
  A tree as a whole: a number is changed; Put.
-/
import Derived.Test.YteokjfpppmnebaaPh
namespace Go.Proofs.Yteokjfpppmnebaa
open Go.RowKit
set_option linter.unusedVariables false
set_option linter.unusedSimpArgs false
/-- The leaf's texts are others. -/
def updL : Nat → B → ByteArray → List E → B
  | 0, t, _, es' => .lf t.bk es'
  | _ + 1, .lf b es, _, _ => .lf b es
  | l + 1, .nd b ks, k, es' => .nd b (ks.take (und (ks.map sK) k) ++ (match ks[und (ks.map sK) k]? with
    | some p => (p.1, updL l p.2 k es') :: ks.drop (und (ks.map sK) k + 1)
    | none => []))
theorem updL_at {l b : Nat} {A D : List KB} {p : KB} {k : ByteArray} {es' : List E} (h : und ((A ++ p :: D).map sK) k = A.length) : updL (l + 1) (.nd b (A ++ p :: D)) k es' = .nd b (A ++ (p.1, updL l p.2 k es') :: D) := by
  simp only [updL]
  rw [h]
  simp
structure SetR (w' : World) (l : Nat) (t : B) (nx : Option Nat) (rd : Int) (k : ByteArray) (j : Nat) (e : E) (t' : B) : Prop where
  mem : Mem w' l t' nx rd
  fit : Fit l t'
  bk : t'.bk = t.bk
  cnt : t'.cnt = t.cnt
  lt0 : t'.lt0 = t.lt0
  fs : fsl l t' = fsl l t
  fp : fps l t' = fps l t
  nod : nods l t' = nods l t
  ent : ents l t' = (ents l t).set (pos l t k) e
theorem set_mid (X Y Z : List E) (e : E) (p : Nat) (h : p < Y.length) : (X ++ (Y ++ Z)).set (X.length + p) e = X ++ (Y.set p e ++ Z) := by
  rw [List.set_append_right _ _ (by omega), Nat.add_sub_cancel_left, List.set_append_left _ _ h]
theorem set_any {w w' : World} {bl : Nat} {k : ByteArray} {es : List E} {e : E} (hj : sk (es.map sE) k < es.length) (he : e.1 = (es[sk (es.map sE) k]).1) (u : Upd [bl] w w') (hN : ∀ nx rd, Nd w bl 0 (es.map sE) nx rd → Nd w' bl 0 ((es.set (sk (es.map sE) k) e).map sE) nx rd) :
    ∀ (l : Nat) (t : B) (nx : Option Nat) (rd : Int), Mem w l t nx rd → Ok l t → (fps l t).Nodup → lfn l t k = .lf bl es → SetR w' l t nx rd k (sk (es.map sE) k) e (updL l t k (es.set (sk (es.map sE) k) e)) ∧ pos l t k < (ents l t).length
  | 0, .lf b es', nx, rd, h, ho, hd, hl => by
    injection hl with e1 e2
    subst e1 e2
    refine ⟨⟨hN nx rd h, trivial, rfl, by simp [updL, B.cnt, B.ss], ?_, rfl, rfl, rfl, rfl⟩, hj⟩
    show (((es'.set (sk (es'.map sE) k) e).map sE).headD z0).t = ((es'.map sE).headD z0).t
    generalize sk (es'.map sE) k = j at *
    cases es' with
    | nil => simp at hj
    | cons a r =>
      cases j with
      | zero => simp at he ⊢; simpa [sE] using he
      | succ j => rfl
  | l + 1, .nd b ks, nx, rd, h, ho, hd, hl => by
    obtain ⟨A, p, D, rfl, hA, hp, hp8, hp1⟩ := ho.cut k
    rw [lfn_at hA] at hl
    have e1 : fps (l + 1) (.nd b (A ++ p :: D)) = b :: ((A.flatMap fun p => fps l p.2) ++ (fps l p.2 ++ D.flatMap fun p => fps l p.2)) := by simp [fps]
    have hd' := hd
    rw [e1, List.nodup_cons, List.nodup_append, List.nodup_append] at hd'
    obtain ⟨hb, _, ⟨hdp, _, hpD⟩, hAp⟩ := hd'
    obtain ⟨cA, cp, cD⟩ := chain_app.1 h.2
    obtain ⟨R, hpos⟩ := set_any hj he u hN l p.2 _ 0 cp hp hdp hl
    obtain ⟨b', es', nx', rd', g1, g2, g3⟩ := lfn_mem k cp hp
    rw [hl] at g1
    injection g1 with q1 q2
    subst q1 q2
    rw [updL_at hA]
    refine ⟨⟨⟨?_, ?_⟩, ?_, rfl, by simp [B.cnt, B.ss], ?_, ?_, ?_, ?_, ?_⟩, ?_⟩
    · have h2 := Nd.upd h.1 u (by simp only [List.mem_singleton]; intro e; exact hb (by rw [e]; simp [g3]))
      rw [show List.map sK (A ++ (p.1, updL l p.2 k (es.set (sk (es.map sE) k) e)) :: D) = List.map sK (A ++ p :: D) by simp [sK, R.bk]]
      exact h2
    · rw [chain_app]
      have n1 : nxt (fsl l) ((p.1, updL l p.2 k (es.set (sk (es.map sE) k) e)) :: D) nx = nxt (fsl l) (p :: D) nx := by
        show some _ = some _
        rw [R.fs]
      rw [n1]
      exact ⟨chain_upd u cA (fun y hy e => by rw [List.mem_singleton.1 e] at hy; exact hAp _ hy _ (by simp [g3]) rfl), R.mem, chain_upd u cD (fun y hy e => by rw [List.mem_singleton.1 e] at hy; exact hpD _ g3 _ hy rfl)⟩
    · intro c hc
      simp only [List.mem_append, List.mem_cons] at hc
      rcases hc with hc | rfl | hc
      · exact ho.fit c (by simp [hc])
      · exact ⟨R.fit, by rw [R.cnt]; exact hp8, by rw [R.lt0]; exact hp1⟩
      · exact ho.fit c (by simp [hc])
    · cases A <;> rfl
    · cases A <;> simp [fsl, R.fs]
    · simp [fps, R.fp]
    · simp [nods, R.nod]
    · rw [pos_at hA]
      have e2 : ents (l + 1) (.nd b (A ++ p :: D)) = (A.flatMap fun p => ents l p.2) ++ (ents l p.2 ++ D.flatMap fun p => ents l p.2) := by simp [ents]
      rw [e2, set_mid _ _ _ _ _ hpos, ← R.ent]
      simp [ents]
    · rw [pos_at hA]
      simp [ents]
      omega
/-- Behind Put. -/
structure PutT (w w' : World) (g l : Nat) (t : B) (l' : Nat) (t' : B) : Prop where
  tm : TreeM w' g l' t'
  fp : ∀ y ∈ fps l' t', y ∈ fps l t ∨ w.heap.size ≤ y
  upd : Upd (g :: fps l t) w w'
set_option maxRecDepth 8000 in
set_option maxHeartbeats 1000000 in
theorem tPut_miss (g l : Nat) (t : B) (key : ByteArray) (hk : key.size ≤ 281474976710656) (x : Int) (w : World) (ht : TreeM w g l t) (hn : (ents l t).length < 100000000) (hnd : nods l t + l + 2 < 1000000000) (b : Nat) (es : List E) (hl : lfn l t key = .lf b es) (hh : hit (es.map sE) key = false) :
    Calls Try.prog 13 #[.pointer (some ⟨g, 0, none⟩), .string key, .int .i64 x] w fun e w' => e = .returned (.tuple #[.int .i64 0, .bool false]) ∧ Hid (∃ l' t', AddR w w' g l t key x l' t') := by
  have HT : Hid (∀ W, Upd [] w W → TreeM W g l t) := fun W u => ht.upd u (by simp) (by simp)
  have K1 := own_some g t.bk (ents l t).length (nods l t) w ht.tree ht.mem.nd.read
  have K2 := find_any g l t (ents l t).length (nods l t) none 0 key w ht.tree ht.mem ht.ok b es hl none (by rw [hh]; rfl)
  have HN : Hid ((ents l t).length < 100000000 ∧ nods l t + l + 2 < 1000000000) := ⟨hn, hnd⟩
  clear ht hn hnd hl hh
  go_enter Try.func13, Try.ntmps13
  go_wp2_with fail
  refine K1.mono ?_
  clear K1
  rintro e w1 ⟨rfl, hw⟩
  have hw' := hw.symm
  subst hw'
  clear hw
  go_wp2_with fail
  refine K2.mono ?_
  clear K2
  rintro e w1 ⟨rfl, H⟩
  have HZ1 : Hid (Below w.heap.size w w1) := H.out
  clear H
  have K := sclone_any key hk w1
  go_wp2_with fail
  refine K.mono ?_
  clear K
  rintro e w2 ⟨rfl, hZ⟩
  have HU : Hid (Upd [] w w2) := (Upd.of_below [] HZ1.out).trans (Upd.of_below [] hZ) (by simp)
  have K : Calls Try.prog 27 #[.pointer (some ⟨g, 0, none⟩), .agg #[.string key, .int .i64 x, .pointer none]] w2 _ := add_any g l t key x w2 (HT.out w2 HU.out) HN.out.1 HN.out.2
  clear hZ HT HN HZ1
  go_wp2_with fail
  refine K.mono ?_
  clear K
  rintro e w3 ⟨rfl, H⟩
  have HE : Hid (∃ l' t', AddR w w3 g l t key x l' t') := by
    obtain ⟨l', t', h⟩ := H.out
    exact ⟨l', t', h.tm, h.ent, fun y hy => (h.fp y hy).imp id (fun q => Nat.le_trans HU.out.size q), (HU.out.mono (S' := g :: fps l t) (by simp)).trans h.upd (fun y hy _ => hy)⟩
  clear H HU
  go_wp2
  go_ret2
  exact ⟨rfl, HE.out⟩
theorem cut_e {es : List E} {i : Nat} (h : i < es.length) : ∃ A p D, es = A ++ p :: D ∧ A.length = i :=
  ⟨es.take i, es[i], es.drop (i + 1), by rw [List.getElem_cons_drop, List.take_append_drop], by rw [List.length_take]; omega⟩
theorem nC_num (lv : Int) (A D : List E) (old : E) (x : Int) (nx : Option Nat) (rd : Int) : (nC lv ((A ++ old :: D).map sE) nx rd).set (2 + A.length * 3 + 1) (.int .i64 x) = nC lv ((A ++ (old.1, x) :: D).map sE) nx rd := by
  have e1 : ∀ o : E, nC lv ((A ++ o :: D).map sE) nx rd = nR lv ((A ++ o :: D).length : Int) (A.map sE ++ (sE o :: (D.map sE ++ List.replicate (16 - (A ++ o :: D).length) z0))) nx rd := fun o => by
    rw [nC_nR, pad]
    simp
  rw [e1, e1]
  have h := nR_set lv ((A ++ old :: D).length : Int) (A.map sE) (sE old) (D.map sE ++ List.replicate (16 - (A ++ old :: D).length) z0) nx rd 1 (.int .i64 x) (sE (old.1, x)) rfl (by decide)
  rw [List.length_map] at h
  rw [h]
  simp
set_option maxRecDepth 8000 in
set_option maxHeartbeats 1000000 in
theorem tPut_hit (g l : Nat) (t : B) (key : ByteArray) (x : Int) (w : World) (ht : TreeM w g l t) (b : Nat) (es : List E) (hl : lfn l t key = .lf b es) (hh : hit (es.map sE) key = true) :
    Calls Try.prog 13 #[.pointer (some ⟨g, 0, none⟩), .string key, .int .i64 x] w fun e w' => ∃ old : E, e = .returned (.tuple #[.int .i64 old.2, .bool true]) ∧ Hid (∃ t', TreeM w' g l t' ∧ ents l t' = (ents l t).set (pos l t key) (old.1, x) ∧ fps l t' = fps l t ∧ Upd (g :: fps l t) w w') := by
  have hj : sk (es.map sE) key < es.length := by have := hit_lt hh; simpa using this
  obtain ⟨A, old, D, hes, hA⟩ := cut_e hj
  obtain ⟨R, HR⟩ : ∃ R, Hid (sk (es.map sE) key = R) := ⟨_, rfl⟩
  obtain ⟨tb, Htb⟩ : ∃ tb, Hid (t.bk = tb) := ⟨_, rfl⟩
  have K1 := own_some g t.bk (ents l t).length (nods l t) w ht.tree ht.mem.nd.read
  have K2 := find_any g l t (ents l t).length (nods l t) none 0 key w ht.tree ht.mem ht.ok b es hl (some R) (by rw [hh, HR.out]; rfl)
  obtain ⟨b', es', nx', rd', g1, g2, g3⟩ := lfn_mem key ht.mem ht.ok
  rw [hl] at g1
  injection g1 with q1 q2
  subst q1 q2
  have HN : Hid (Nd w b 0 (es.map sE) nx' rd') := g2
  have hgb : g ≠ b := fun e => ht.gn (by rw [e]; exact g3)
  have HR16 : R < 16 := by have := g2.le; rw [List.length_map] at this; rw [← HR.out]; omega
  have HSO : Hid ((es.map sE)[R]? = some (sE old)) := by show _ = _; rw [← HR.out, ← hA, hes]; simp
  have HFin : Hid (∀ w1 w2, Below w.heap.size w w1 → Blk w2 b 71 ((nC 0 (es.map sE) nx' rd').set (2 + R * 3 + 1) (.int .i64 x)) → w1.grownBy w2 (some b) → ∃ t', TreeM w2 g l t' ∧ ents l t' = (ents l t).set (pos l t key) (old.1, x) ∧ fps l t' = fps l t ∧ Upd (g :: fps l t) w w2) := fun w1 w2 hb B2 G2 => by
    have ht1 : TreeM w1 g l t := ht.upd (Upd.of_below [] hb) (by simp) (by simp)
    have hN1 : Nd w1 b 0 (es.map sE) nx' rd' := g2.below hb g2.lt
    have e3 : (nC 0 (es.map sE) nx' rd').set (2 + R * 3 + 1) (.int .i64 x) = nC 0 ((es.set (sk (es.map sE) key) (old.1, x)).map sE) nx' rd' := by
      rw [HR.out]
      have hAR : A.length = R := by rw [hA, HR.out]
      subst hAR
      rw [hes, nC_num]
      simp
    rw [e3] at B2
    have hS := set_any (w := w1) (w' := w2) (bl := b) (k := key) (es := es) (e := (old.1, x)) hj (by
        have h5 : es[sk (es.map sE) key]? = some old := by rw [← hA]; rw [hes]; simp
        rw [(List.getElem?_eq_some_iff.1 h5).2]) (Upd.of_by G2) (fun nx rd h => by
      have h6 : nC 0 (es.map sE) nx rd = nC 0 (es.map sE) nx' rd' := by
        have h7 := h.blk.symm.trans hN1.blk
        simpa using h7
      have hlen : ((es.set (sk (es.map sE) key) (old.1, x)).map sE).length = (es.map sE).length := by simp
      refine ⟨?_, by rw [hlen]; exact h.le⟩
      have h8 : nC 0 ((es.set (sk (es.map sE) key) (old.1, x)).map sE) nx rd = nC 0 ((es.set (sk (es.map sE) key) (old.1, x)).map sE) nx' rd' := by
        unfold nC at h6 ⊢
        have h9 := List.append_cancel_left h6
        rw [List.append_cancel_left h9]
      rw [h8]; exact B2) l t none 0 ht1.mem ht1.ok ht1.nodup hl
    obtain ⟨S, hpos⟩ := hS
    refine ⟨_, ⟨?_, S.mem, S.fit, by rw [S.cnt]; exact ht1.top, by rw [S.fp]; exact ht1.nodup, by rw [S.fp]; exact ht1.gn⟩, S.ent, S.fp, ((Upd.of_below (g :: fps l t) hb).trans (Upd.of_by G2) (by simp; exact fun _ => .inr g3))⟩
    rw [S.bk, S.ent, S.nod, List.length_set]
    exact ht1.tree.kept G2 (by simpa using hgb)
  clear ht hl hh hj hes hA g2 g3 HR Htb
  go_enter Try.func13, Try.ntmps13
  go_wp2_with fail
  refine K1.mono ?_
  clear K1
  rintro e w1 ⟨rfl, hw⟩
  have hw' := hw.symm
  subst hw'
  clear hw
  go_wp2_with fail
  refine K2.mono ?_
  clear K2
  rintro e w1 ⟨rfl, H⟩
  have HN1 : Hid (Nd w1 b 0 (es.map sE) nx' rd') := HN.out.below H.out HN.out.lt
  have HZ : Hid (Below w.heap.size w w1) := H.out
  have cn : w1.cell? ⟨b, 2 + R * 3 + 1, none⟩ = some (.int .i64 old.2) := HN1.out.slot R (sE old) (pad_at HSO.out) 1 (by decide)
  clear H HN
  simp only [Option.map_some]
  go_wp2_with (refine st_one rfl 3 (.tmp 26) (.tmp 24) rfl b (2 + R * 3 + 1) 71 _ (.int .i64 x) rfl rfl rfl rfl (by rw [nC_len HN1.out.le]; omega) HN1.out.blk s3' ?_)
  intro w2 B2 G2
  have HE := HFin.out w1 w2 HZ.out B2 G2
  have HE2 : Hid (∃ t', TreeM w2 g l t' ∧ ents l t' = (ents l t).set (pos l t key) (old.1, x) ∧ fps l t' = fps l t ∧ Upd (g :: fps l t) w w2) := HE
  clear B2 G2 HN1 HZ HFin HE HSO cn
  go_wp2
  go_ret2
  exact ⟨old, rfl, HE2.out⟩
#print axioms set_any
#print axioms tPut_miss
#print axioms tPut_hit
end Go.Proofs.Yteokjfpppmnebaa
