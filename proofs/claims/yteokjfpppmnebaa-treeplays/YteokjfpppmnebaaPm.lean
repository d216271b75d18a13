/-
  Tree: pull.
-/
import Derived.Test.YteokjfpppmnebaaPl
namespace Go.Proofs.Yteokjfpppmnebaa
open Go.RowKit
set_option linter.unusedVariables false
set_option linter.unusedSimpArgs false
set_option maxHeartbeats 1000000 in
theorem pull_leaf (g b : Nat) (A : List Sl) (s : Sl) (D : List Sl) (nx : Option Nat) (key : ByteArray) (w : World) (h : Nd w b 0 (A ++ s :: D) nx 0) (hs : sk (A ++ s :: D) key = A.length) :
    Calls Try.prog 48 #[.pointer (some ⟨g, 0, none⟩), .pointer (some ⟨b, 0, none⟩), .string key] w fun e w' => e = .returned (.tuple #[]) ∧ Hid (Nd w' b 0 (A ++ D) nx 0 ∧ Upd [b] w w') := by
  have HN : Hid (Nd w b 0 (A ++ s :: D) nx 0) := h
  have c0 : w.cell? ⟨b, 0, none⟩ = some (.int .i64 0) := h.level
  have K := seek_any b 0 (A ++ s :: D) nx 0 key w h
  rw [hs] at K
  obtain ⟨i, HI⟩ : ∃ i, Hid (A.length = i) := ⟨_, rfl⟩
  rw [HI.out] at K
  generalize hit (A ++ s :: D) key = T at *
  clear h hs
  go_enter Try.func48, Try.ntmps48
  go_wp2_with fail
  refine K.mono ?_
  clear K
  rintro e w1 ⟨rfl, H⟩
  have K := take_any b 0 A s D nx 0 i HI.out w1 (HN.out.below H.out HN.out.lt)
  have HU : Hid (Upd [b] w w1) := Upd.of_below _ H.out
  clear H HN c0
  go_wp2_with fail
  refine K.mono ?_
  clear K
  rintro e w2 ⟨rfl, H⟩
  have HE : Hid (Nd w2 b 0 (A ++ D) nx 0 ∧ Upd [b] w w2) := ⟨H.out.1, HU.out.trans (Upd.of_by H.out.2) (by simp)⟩
  clear H HU
  go_wp2
  exact bodyPost_ret (results_none rfl _ _ _) rfl ⟨rfl, HE.out⟩
/-- A kid has turned: the node as it is then. -/
structure PullU (w w4 : World) (g : Nat) (rt : Option Nat) (n nd l b : Nat) (A D : List KB) (p : KB) (nx : Option Nat) (t' : B) : Prop where
  mem : Mem w4 (l + 1) (.nd b (A ++ (t'.lt0, t') :: D)) nx 0
  nodup : (fps (l + 1) (.nd b (A ++ (t'.lt0, t') :: D))).Nodup
  fp : ∀ y ∈ fps (l + 1) (.nd b (A ++ (t'.lt0, t') :: D)), y ∈ fps (l + 1) (.nd b (A ++ p :: D))
  upd : Upd (g :: fps (l + 1) (.nd b (A ++ p :: D))) w w4
  tree : ∃ nd', Blk w4 g 55 (tC rt n nd') ∧ nd' + nods (l + 1) (.nd b (A ++ p :: D)) = nd + nods (l + 1) (.nd b (A ++ (t'.lt0, t') :: D)) ∧ nd' ≤ nd
  fs : fsl (l + 1) (.nd b (A ++ (t'.lt0, t') :: D)) = fsl (l + 1) (.nd b (A ++ p :: D))
theorem pull_up {w w3 w4 : World} {g : Nat} {rt : Option Nat} {n nd l b : Nat} {A D : List KB} {p : KB} {nx : Option Nat} {t' : B} (hg : g ∉ fps (l + 1) (.nd b (A ++ p :: D))) (hnd : (fps (l + 1) (.nd b (A ++ p :: D))).Nodup) (hM : Mem w (l + 1) (.nd b (A ++ p :: D)) nx 0)
    (h : ModR w w3 g rt n nd l p.2 (nxt (fsl l) D nx) t') (u : w3.grownBy w4 (some b)) (hN : Nd w4 b ((l + 1 : Nat) : Int) (A.map sK ++ sK (t'.lt0, t') :: D.map sK) none 0) : PullU w w4 g rt n nd l b A D p nx t' := by
  have hC := hM.2
  rw [chain_app] at hC
  obtain ⟨hA, hp, hD⟩ := hC
  have e1 : fps (l + 1) (.nd b (A ++ p :: D)) = (b :: A.flatMap fun p => fps l p.2) ++ (fps l p.2 ++ D.flatMap fun p => fps l p.2) := by simp [fps]
  have e2 : fps (l + 1) (.nd b (A ++ (t'.lt0, t') :: D)) = (b :: A.flatMap fun p => fps l p.2) ++ (fps l t' ++ D.flatMap fun p => fps l p.2) := by simp [fps]
  have hlt := hM.lt
  have hnd0 := hnd
  rw [e1] at hg hnd hlt
  have hd1 := List.nodup_append.1 hnd
  have hd2 := List.nodup_append.1 hd1.2.1
  have hb := (List.nodup_cons.1 hd1.1).1
  have hbp : b ∉ fps l p.2 := fun q => hd1.2.2 b (by simp) b (by simp [q]) rfl
  have hbD : b ∉ D.flatMap fun p => fps l p.2 := fun q => hd1.2.2 b (by simp) b (List.mem_append.2 (.inr q)) rfl
  simp only [List.cons_append, List.mem_cons, List.mem_append, not_or] at hg
  have uT : Upd (g :: b :: fps l p.2) w w4 := (h.upd.mono (S' := g :: b :: fps l p.2) (by simp only [List.mem_cons]; intro y hy _; exact hy.elim .inl (fun q => .inr (.inr q)))).trans (Upd.of_by u) (by simp)
  refine ⟨⟨by rw [List.map_append, List.map_cons]; exact hN, ?_⟩, ?_, ?_, uT.mono ?_, ?_, ?_⟩
  · rw [chain_app]
    refine ⟨?_, h.mem.upd (Upd.of_by u) (fun y hy e => by rw [List.mem_singleton.1 e] at hy; exact hbp (h.fp b hy)), ?_⟩
    · rw [show nxt (fsl l) ((t'.lt0, t') :: D) nx = nxt (fsl l) (p :: D) nx by show some _ = some _; rw [h.fs]]
      refine chain_upd uT hA (fun y hy e => ?_)
      simp only [List.mem_cons] at e
      rcases e with rfl | rfl | e
      · exact hg.2.1 hy
      · exact hb hy
      · exact hd1.2.2 y (by simp only [List.mem_cons]; exact .inr hy) y (by simp [e]) rfl
    · refine chain_upd uT hD (fun y hy e => ?_)
      simp only [List.mem_cons] at e
      rcases e with rfl | rfl | e
      · exact hg.2.2.2 hy
      · exact hbD hy
      · exact hd2.2.2 y e y hy rfl
  · rw [e2]
    exact nodup_swap hnd h.nodup (fun y hy => .inl (h.fp y hy)) hlt
  · rw [e2, e1]
    intro y hy
    simp only [List.mem_append] at hy ⊢
    rcases hy with q | q | q
    · exact .inl q
    · exact .inr (.inl (h.fp y q))
    · exact .inr (.inr q)
  · rw [e1]
    simp only [List.cons_append, List.mem_cons, List.mem_append]
    intro y hy _
    rcases hy with q | q | q
    · exact .inl q
    · exact .inr (.inl q)
    · exact .inr (.inr (.inr (.inl q)))
  · obtain ⟨nd', h1, h2, h3⟩ := h.tree
    refine ⟨nd', h1.kept u (by simp; exact hg.1), ?_, h3⟩
    simp [nods]
    omega
  · cases A <;> simp [fsl, h.fs]
/-- The node needs no more. -/
theorem pullR_ok {w w4 : World} {g : Nat} {rt : Option Nat} {n nd l b : Nat} {A D : List KB} {p : KB} {nx : Option Nat} {t' : B} (h : PullU w w4 g rt n nd l b A D p nx t') (hF : Fit (l + 1) (.nd b (A ++ p :: D))) (h1 : Fit l t') (h2 : 8 ≤ t'.cnt) : ModR w w4 g rt n nd (l + 1) (.nd b (A ++ p :: D)) nx (.nd b (A ++ (t'.lt0, t') :: D)) :=
  ⟨h.mem, rfl, h.fs, fun c hc => by
    simp only [List.mem_append, List.mem_cons] at hc
    rcases hc with hc | rfl | hc
    · exact hF c (by simp [hc])
    · exact ⟨h1, h2, rfl⟩
    · exact hF c (by simp [hc]), by simp [B.cnt, B.ss], h.tree, h.fp, h.nodup, h.upd⟩
theorem pullR_mend {w w4 w5 : World} {g : Nat} {rt : Option Nat} {n nd nd4 l b : Nat} {A D : List KB} {p : KB} {nx : Option Nat} {t' t2 : B} (h : PullU w w4 g rt n nd l b A D p nx t') (hn : nd4 + nods (l + 1) (.nd b (A ++ p :: D)) = nd + nods (l + 1) (.nd b (A ++ (t'.lt0, t') :: D))) (hnn : nd4 ≤ nd) (m : ModR w4 w5 g rt n nd4 (l + 1) (.nd b (A ++ (t'.lt0, t') :: D)) nx t2) : ModR w w5 g rt n nd (l + 1) (.nd b (A ++ p :: D)) nx t2 := by
  obtain ⟨nd5, m1, m2, m3⟩ := m.tree
  refine ⟨m.mem, m.bk, m.fs.trans h.fs, m.fit, ?_, ⟨nd5, m1, by omega, Nat.le_trans m3 hnn⟩, fun y hy => h.fp y (m.fp y hy), m.nodup, h.upd.trans m.upd ?_⟩
  · have := m.cnt
    simp [B.cnt, B.ss] at this ⊢
    exact this
  · simp only [List.mem_cons]
    intro y hy _
    exact hy.elim .inl (fun q => .inr (h.fp y q))
theorem erase_mid (X Y Z : List E) (p : Nat) (h : p < Y.length) : (X ++ (Y ++ Z)).eraseIdx (X.length + p) = X ++ (Y.eraseIdx p ++ Z) := by
  rw [List.eraseIdx_append_of_length_le (by omega), Nat.add_sub_cancel_left, List.eraseIdx_append_of_lt_length h]
/-- The text that is found. -/
def hitT (l : Nat) (t : B) (key : ByteArray) : Prop := ∃ b es, lfn l t key = .lf b es ∧ hit (es.map sE) key = true
theorem hit_pos : ∀ {l : Nat} {t : B} {key : ByteArray}, Ok l t → hitT l t key → pos l t key < (ents l t).length
  | 0, .lf b es, key, ho, ⟨b', es', h1, h2⟩ => by
    injection h1 with q1 q2
    subst q1 q2
    have := hit_lt h2
    simpa [pos, ents] using this
  | 0, .nd b ks, key, ho, h => ho.fit.elim
  | l + 1, .lf b es, key, ho, h => ho.fit.elim
  | l + 1, .nd b ks, key, ho, ⟨b', es', h1, h2⟩ => by
    obtain ⟨A, p, D, rfl, hA, hp, _⟩ := ho.cut key
    rw [lfn_at hA] at h1
    have := hit_pos hp ⟨b', es', h1, h2⟩
    rw [pos_at hA]
    simp [ents]
    omega
set_option maxRecDepth 8000 in
set_option maxHeartbeats 2000000 in
theorem pull_step (l b g : Nat) (rt : Option Nat) (n nd : Nat) (A D : List KB) (p : KB) (nx : Option Nat) (key : ByteArray) (w : World) (hnd : nods (l + 1) (.nd b (A ++ p :: D)) ≤ nd) (hnd2 : nd ≤ 1000000000) (hT : Blk w g 55 (tC rt n nd)) (hM : Mem w (l + 1) (.nd b (A ++ p :: D)) nx 0) (hF : Fit (l + 1) (.nd b (A ++ p :: D))) (h2 : 2 ≤ (B.nd b (A ++ p :: D)).cnt) (hD : (fps (l + 1) (.nd b (A ++ p :: D))).Nodup) (hg : g ∉ fps (l + 1) (.nd b (A ++ p :: D))) (hu : und ((A ++ p :: D).map sK) key = A.length) (hpos : pos l p.2 key < (ents l p.2).length)
    (IH : ∀ w, Blk w g 55 (tC rt n nd) → Mem w l p.2 (nxt (fsl l) D nx) 0 → Calls Try.prog 48 #[.pointer (some ⟨g, 0, none⟩), .pointer (some ⟨p.2.bk, 0, none⟩), .string key] w fun e w' => e = .returned (.tuple #[]) ∧ Hid (∃ t', ModR w w' g rt n nd l p.2 (nxt (fsl l) D nx) t' ∧ ents l t' = (ents l p.2).eraseIdx (pos l p.2 key))) :
    Calls Try.prog 48 #[.pointer (some ⟨g, 0, none⟩), .pointer (some ⟨b, 0, none⟩), .string key] w fun e w' => e = .returned (.tuple #[]) ∧ Hid (∃ t', ModR w w' g rt n nd (l + 1) (.nd b (A ++ p :: D)) nx t' ∧ ents (l + 1) t' = (ents (l + 1) (.nd b (A ++ p :: D))).eraseIdx (pos (l + 1) (.nd b (A ++ p :: D)) key)) := by
  have hen : ∀ t' : B, ents l t' = (ents l p.2).eraseIdx (pos l p.2 key) → ents (l + 1) (.nd b (A ++ (t'.lt0, t') :: D)) = (ents (l + 1) (.nd b (A ++ p :: D))).eraseIdx (pos (l + 1) (.nd b (A ++ p :: D)) key) := fun t' he => by
    rw [pos_at hu]
    have e2 : ents (l + 1) (.nd b (A ++ p :: D)) = (A.flatMap fun p => ents l p.2) ++ (ents l p.2 ++ D.flatMap fun p => ents l p.2) := by simp [ents]
    rw [e2, erase_mid _ _ _ _ hpos, ← he]
    simp [ents]
  obtain ⟨Y, HY⟩ : ∃ Y, Hid ((ents (l + 1) (.nd b (A ++ p :: D))).eraseIdx (pos (l + 1) (.nd b (A ++ p :: D)) key) = Y) := ⟨_, rfl⟩
  rw [HY.out] at hen ⊢
  obtain ⟨lv, HLV⟩ : ∃ lv : Int, Hid (((l + 1 : Nat) : Int) = lv) := ⟨_, rfl⟩
  have hlb : (lv == 0) = false := beq_eq_false_iff_ne.2 (by rw [← HLV.out]; omega)
  obtain ⟨ss, HSS⟩ : ∃ ss, Hid ((A ++ p :: D).map sK = ss) := ⟨_, rfl⟩
  obtain ⟨i, HI⟩ : ∃ i, Hid (A.length = i) := ⟨_, rfl⟩
  obtain ⟨kb, HKB⟩ : ∃ kb, Hid (p.2.bk = kb) := ⟨_, rfl⟩
  have HN : Hid (Nd w b lv ss none 0) := by rw [← HLV.out, ← HSS.out]; exact hM.1
  have HUN : Hid (und ss key = i) := by rw [← HSS.out, ← HI.out]; exact hu
  have hil : i < ss.length := by rw [← HSS.out, ← HI.out]; simp
  have hl16 : ss.length ≤ 16 := HN.out.le
  have hgb : g ≠ b := fun e => hg (by rw [e]; simp [fps])
  have hbp : b ∉ fps l p.2 := fun e => by
    have h := hD
    simp only [fps, List.flatMap_append, List.flatMap_cons, List.nodup_cons, List.mem_append, not_or] at h
    exact h.1.2.1 e
  have HSK : Hid (ss[i]? = some (sK p)) := by show _ = _; rw [← HSS.out, ← HI.out]; simp
  have HAll : Hid (Mem w (l + 1) (.nd b (A ++ p :: D)) nx 0 ∧ Blk w g 55 (tC rt n nd)) := ⟨hM, hT⟩
  have hp8 : 8 ≤ p.2.cnt := (hF p (by simp)).2.1
  have HIH : Hid (∀ w, Blk w g 55 (tC rt n nd) → Mem w l p.2 (nxt (fsl l) D nx) 0 → Calls Try.prog 48 #[.pointer (some ⟨g, 0, none⟩), .pointer (some ⟨kb, 0, none⟩), .string key] w fun e w' => e = .returned (.tuple #[]) ∧ Hid (∃ t', ModR w w' g rt n nd l p.2 (nxt (fsl l) D nx) t' ∧ ents l t' = (ents l p.2).eraseIdx (pos l p.2 key))) := by
    rw [← HKB.out]; exact IH
  have c0 : w.cell? ⟨b, 0, none⟩ = some (.int .i64 lv) := HN.out.level
  -- what comes behind the name
  have HMend : Hid (∀ w1 w4 (t' : B), Upd [] w w1 → PullU w1 w4 g rt n nd l b A D p nx t' → Fit l t' → 7 ≤ t'.cnt → t'.cnt < 8 → ents l t' = (ents l p.2).eraseIdx (pos l p.2 key) → ∃ j : Nat, j = (if i = 0 then 0 else i - 1) ∧ Calls Try.prog 59 #[.pointer (some ⟨g, 0, none⟩), .pointer (some ⟨b, 0, none⟩), .int .i64 (j : Int)] w4 fun e w' => e = .returned (.tuple #[]) ∧ Hid (∃ t', ModR w w' g rt n nd (l + 1) (.nd b (A ++ p :: D)) nx t' ∧ ents (l + 1) t' = Y)) := fun w1 w4 t' hu1 h f1 f2 f3 fe => by
    have hbase : ∀ {w5 : World} {t2 : B}, ModR w1 w5 g rt n nd (l + 1) (.nd b (A ++ p :: D)) nx t2 → ModR w w5 g rt n nd (l + 1) (.nd b (A ++ p :: D)) nx t2 := fun m => ⟨m.mem, m.bk, m.fs, m.fit, m.cnt, m.tree, m.fp, m.nodup, (hu1.mono (S' := g :: fps (l + 1) (.nd b (A ++ p :: D))) (by simp)).trans m.upd (fun y hy _ => hy)⟩
    obtain ⟨nd4, t1, t2, hq4⟩ := h.tree
    have hge : nods (l + 1) (.nd b (A ++ (t'.lt0, t') :: D)) ≤ nd4 := by omega
    have h1nd : 1 ≤ nods (l + 1) (.nd b (A ++ (t'.lt0, t') :: D)) := by simp [nods]
    have hge2 : nd4 ≤ 1000000000 := Nat.le_trans hq4 hnd2
    have hg4 : g ∉ fps (l + 1) (.nd b (A ++ (t'.lt0, t') :: D)) := fun q => hg (h.fp g q)
    obtain hAq | ⟨A', q, hA'⟩ : A = [] ∨ ∃ A' q, A = A' ++ [q] := by
      cases A with
      | nil => exact .inl rfl
      | cons a r => exact .inr ⟨(a :: r).dropLast, (a :: r).getLast (by simp), (List.dropLast_concat_getLast _).symm⟩
    · subst hAq
      obtain ⟨q, D', rfl⟩ : ∃ q D', D = q :: D' := by cases D with | nil => simp [B.cnt, B.ss] at h2 | cons a r => exact ⟨a, r, rfl⟩
      refine ⟨0, by rw [if_pos (by rw [← HI.out]; rfl)], ?_⟩
      have hq := hF q (by simp)
      have hq16 : q.2.cnt ≤ 16 := by have := (chain_mem h.mem.2 q (by simp)); obtain ⟨nx', hm⟩ := this; exact hm.nd.le
      refine (mend_any l b g rt n nd4 [] D' (t'.lt0, t') q nx w4 t1 h.mem (fun c hc => ?_) (fun c hc => ?_) f2 (by have := hq.2.1; omega) (by show t'.cnt + q.2.cnt ≤ 23; omega) (by show 15 ≤ t'.cnt + q.2.cnt; have := hq.2.1; omega) h.nodup hg4 (by omega) (by omega)).mono ?_
      · simp only [List.nil_append, List.mem_cons] at hc
        rcases hc with rfl | hc
        · exact ⟨f1, rfl⟩
        · have := hF c (by simp only [List.nil_append, List.mem_cons]; exact .inr hc)
          exact ⟨this.1, this.2.2⟩
      · exact (hF c (by simp only [List.nil_append, List.mem_cons] at hc ⊢; exact .inr (.inr hc))).2.1
      · rintro e w5 ⟨rfl, H⟩
        obtain ⟨t2', m, me⟩ := H.out
        exact ⟨rfl, t2', hbase (pullR_mend h t2 hq4 m), me.trans (hen t' fe)⟩
    · subst hA'
      refine ⟨A'.length, by rw [← HI.out, if_neg (by simp)]; simp, ?_⟩
      have hq := hF q (by simp)
      have hq16 : q.2.cnt ≤ 16 := by have := (chain_mem h.mem.2 q (by simp)); obtain ⟨nx', hm⟩ := this; exact hm.nd.le
      have er : A' ++ [q] ++ (t'.lt0, t') :: D = A' ++ q :: (t'.lt0, t') :: D := by simp
      have hm := h.mem
      have hn := h.nodup
      rw [er] at hm hn hg4
      refine (mend_any l b g rt n nd4 A' D q (t'.lt0, t') nx w4 t1 hm (fun c hc => ?_) (fun c hc => ?_) (by have := hq.2.1; omega) f2 (by show q.2.cnt + t'.cnt ≤ 23; omega) (by show 15 ≤ q.2.cnt + t'.cnt; have := hq.2.1; omega) hn hg4 (by omega) (by omega)).mono ?_
      · simp only [List.mem_append, List.mem_cons] at hc
        rcases hc with hc | rfl | rfl | hc
        · have := hF c (by simp [hc]); exact ⟨this.1, this.2.2⟩
        · exact ⟨hq.1, hq.2.2⟩
        · exact ⟨f1, rfl⟩
        · have := hF c (by simp [hc]); exact ⟨this.1, this.2.2⟩
      · rcases List.mem_append.1 hc with hc | hc
        · exact (hF c (by simp [hc])).2.1
        · exact (hF c (by simp [hc])).2.1
      · rintro e w5 ⟨rfl, H⟩
        obtain ⟨t2', m, me⟩ := H.out
        rw [← er] at m me
        exact ⟨rfl, t2', hbase (pullR_mend h t2 hq4 m), me.trans (hen t' fe)⟩
  have HOk : Hid (∀ w1 w4 (t' : B), Upd [] w w1 → PullU w1 w4 g rt n nd l b A D p nx t' → Fit l t' → 8 ≤ t'.cnt → ents l t' = (ents l p.2).eraseIdx (pos l p.2 key) → ∃ t', ModR w w4 g rt n nd (l + 1) (.nd b (A ++ p :: D)) nx t' ∧ ents (l + 1) t' = Y) := fun w1 w4 t' hu1 h f1 f2 fe => by
    have m := pullR_ok h hF f1 f2
    exact ⟨_, ⟨m.mem, m.bk, m.fs, m.fit, m.cnt, m.tree, m.fp, m.nodup, (hu1.mono (S' := g :: fps (l + 1) (.nd b (A ++ p :: D))) (by simp)).trans m.upd (fun y hy _ => hy)⟩, hen t' fe⟩
  have HUp : Hid (∀ w1 w3 w4 (t' : B), Upd [] w w1 → ModR w1 w3 g rt n nd l p.2 (nxt (fsl l) D nx) t' → w3.grownBy w4 (some b) → Nd w4 b lv (A.map sK ++ sK (t'.lt0, t') :: D.map sK) none 0 → PullU w1 w4 g rt n nd l b A D p nx t') := fun w1 w3 w4 t' hu1 m hg4 hn4 => pull_up hg hD (hM.upd hu1 (by simp)) m hg4 (by rw [HLV.out]; exact hn4)
  have K := under_any b lv ss none 0 key w HN.out
  rw [HUN.out] at K
  clear hT hM hF h2 hD hg hu hpos IH hen HUN hnd
  go_enter Try.func48, Try.ntmps48
  go_wp2_with fail
  refine K.mono ?_
  clear K
  rintro e w1 ⟨rfl, H⟩
  have HU1 : Hid (Upd [] w w1) := Upd.of_below [] H.out
  have HN1 : Hid (Nd w1 b lv ss none 0) := HN.out.below H.out HN.out.lt
  have ck : w1.cell? ⟨b, 2 + i * 3 + 2, none⟩ = some (.pointer (some ⟨kb, 0, none⟩)) := by
    have h := HN1.out.slot i (sK p) (pad_at HSK.out) 2 (by decide)
    rw [show (slC (sK p))[2]? = some (pt (some p.2.bk)) from rfl, HKB.out] at h
    exact h
  have h1 : ¬ ((i : Int) < 0) := by omega
  have h3 : (i : Int) < 16 := by omega
  have K := HIH.out w1 (HAll.out.2.upd HU1.out (by simp)) (by have h := HAll.out.1.upd HU1.out (by simp); exact (chain_app.1 h.2).2.1)
  clear H HIH HAll HN c0
  go_wp2_with fail
  refine K.mono ?_
  clear K h1 h3 ck
  rintro e w3 ⟨rfl, H⟩
  obtain ⟨t', m, me⟩ := H.out
  have HMd : Hid (ModR w1 w3 g rt n nd l p.2 (nxt (fsl l) D nx) t' ∧ ents l t' = (ents l p.2).eraseIdx (pos l p.2 key)) := ⟨m, me⟩
  have hc7 : 7 ≤ t'.cnt := by have := m.cnt; omega
  have HN3 : Hid (Nd w3 b lv (A.map sK ++ sK p :: D.map sK) none 0) := by
    have h := HN1.out.upd m.upd (by simp only [List.mem_cons, not_or]; exact ⟨Ne.symm hgb, hbp⟩)
    rw [← HSS.out, map_cut] at h
    exact h
  have K := name_any b lv (A.map sK) (sK p) (D.map sK) none 0 i (by rw [List.length_map]; exact HI.out) kb (by rw [← HKB.out]; rfl) t'.lt0 w3 HN3.out (by have h := m.mem.text (by omega); rw [m.bk, HKB.out] at h; exact h)
  clear H m me HN3
  go_wp2_with fail
  refine K.mono ?_
  clear K
  rintro e w4 ⟨rfl, H⟩
  have HP : Hid (PullU w1 w4 g rt n nd l b A D p nx t') := HUp.out w1 w3 w4 t' HU1.out HMd.out.1 H.out.2 (by
    have h := H.out.1
    rw [show ({ sK p with t := t'.lt0 } : Sl) = sK (t'.lt0, t') by unfold sK; rw [HMd.out.1.bk]] at h
    exact h)
  have HFt : Hid (Fit l t' ∧ ents l t' = (ents l p.2).eraseIdx (pos l p.2 key)) := ⟨HMd.out.1.fit, HMd.out.2⟩
  obtain ⟨c, Hc⟩ : ∃ c, Hid (t'.cnt = c) := ⟨_, rfl⟩
  have cc : w4.cell? ⟨kb, 1, none⟩ = some (.int .i64 (c : Int)) := by
    have hm : Mem w4 l t' (nxt (fsl l) D nx) 0 := (chain_app.1 HP.out.mem.2).2.1
    have h := hm.nd.count
    rw [HMd.out.1.bk, HKB.out] at h
    rw [show (t'.ss.length : Int) = (c : Int) by rw [← Hc.out]; rfl] at h
    exact h
  rw [Hc.out] at hc7
  clear H HMd HN1 HUp
  by_cases h8 : c < 8
  · have h8' : (c : Int) < 8 := by omega
    obtain ⟨j, hj, K⟩ := HMend.out w1 w4 t' HU1.out HP.out HFt.out.1 (by rw [Hc.out]; exact hc7) (by rw [Hc.out]; exact h8) HFt.out.2
    have e5 : wrap64 ((i : Int) - 1) = (i : Int) - 1 := by simp only [wrap64]; omega
    have e6 : max ((i : Int) - 1) 0 = (j : Int) := by
      rw [hj]
      split <;> omega
    clear HMend HOk HP HFt HU1 hj
    go_wp2_with fail
    · rename_i h
      have ej : (j : Int) = 0 := by omega
      rw [ej] at K
      refine K.mono ?_
      clear K
      rintro e w5 ⟨rfl, H⟩
      go_wp2
      go_end0
      exact ⟨rfl, H.out⟩
    · rename_i h
      have ej : (j : Int) = (i : Int) - 1 := by omega
      rw [ej] at K
      clear ej e6
      refine K.mono ?_
      clear K
      rintro e w5 ⟨rfl, H⟩
      go_wp2
      go_end0
      exact ⟨rfl, H.out⟩
  · have h8' : ¬ (c : Int) < 8 := by omega
    have HE : Hid (∃ t', ModR w w4 g rt n nd (l + 1) (.nd b (A ++ p :: D)) nx t' ∧ ents (l + 1) t' = Y) := HOk.out w1 w4 t' HU1.out HP.out HFt.out.1 (by rw [Hc.out]; omega) HFt.out.2
    clear HMend HOk HP HFt HU1
    go_wp2
    go_end0
    exact ⟨rfl, HE.out⟩
theorem pull_any : ∀ (l : Nat) (t : B) (nx : Option Nat) (g : Nat) (rt : Option Nat) (n nd : Nat) (key : ByteArray) (w : World), nods l t ≤ nd → nd ≤ 1000000000 → Blk w g 55 (tC rt n nd) → Mem w l t nx 0 → Fit l t → (0 < l → 2 ≤ t.cnt) → (fps l t).Nodup → g ∉ fps l t → hitT l t key →
    Calls Try.prog 48 #[.pointer (some ⟨g, 0, none⟩), .pointer (some ⟨t.bk, 0, none⟩), .string key] w fun e w' => e = .returned (.tuple #[]) ∧ Hid (∃ t', ModR w w' g rt n nd l t nx t' ∧ ents l t' = (ents l t).eraseIdx (pos l t key))
  | 0, .lf b es, nx, g, rt, n, nd, key, w, hn, hn2, hT, hM, hF, hc, hD, hg, ⟨b', es', h1, h2⟩ => by
    injection h1 with q1 q2
    subst q1 q2
    have hgb : g ≠ b := by simpa [fps, B.bk] using hg
    have hj : sk (es.map sE) key < es.length := by have := hit_lt h2; simpa using this
    obtain ⟨A, old, D, hes, hA⟩ := cut_e hj
    have hN : Nd w b 0 (A.map sE ++ sE old :: D.map sE) nx 0 := by have h : Nd w b 0 (es.map sE) nx 0 := hM; rw [hes] at h; simpa using h
    have hs : sk (A.map sE ++ sE old :: D.map sE) key = (A.map sE).length := by rw [List.length_map, hA, hes]; simp
    refine (pull_leaf g b (A.map sE) (sE old) (D.map sE) nx key w hN hs).mono ?_
    rintro e w' ⟨rfl, H⟩
    refine ⟨rfl, .lf b (A ++ D), ⟨?_, rfl, rfl, trivial, ?_, ⟨nd, hT.upd H.out.2 (by simpa using hgb), rfl, Nat.le_refl _⟩, by simp [fps, B.bk], by simp [fps], H.out.2.mono (by simp [fps, B.bk])⟩, ?_⟩
    · show Nd _ _ _ _ _ _
      rw [List.map_append]; exact H.out.1
    · rw [hes]; simp [B.cnt, B.ss]; omega
    · simp only [ents, pos]
      rw [← hA, hes, List.eraseIdx_append_of_length_le (Nat.le_refl _)]
      simp
  | l + 1, .nd b ks, nx, g, rt, n, nd, key, w, hn, hn2, hT, hM, hF, hc, hD, hg, hh => by
    have ho : Ok (l + 1) (.nd b ks) := ⟨hF, fun _ => by have := hc (by omega); omega⟩
    obtain ⟨A, p, D, rfl, hA, hp, hp8, _⟩ := ho.cut key
    obtain ⟨b', es', h1, h2⟩ := hh
    rw [lfn_at hA] at h1
    refine pull_step l b g rt n nd A D p nx key w hn hn2 hT hM hF (hc (by omega)) hD hg hA (hit_pos hp ⟨b', es', h1, h2⟩) (fun w1 g1 g2 => ?_)
    have e1 : fps (l + 1) (.nd b (A ++ p :: D)) = b :: ((A.flatMap fun p => fps l p.2) ++ (fps l p.2 ++ D.flatMap fun p => fps l p.2)) := by simp [fps]
    rw [e1] at hD hg
    rw [List.nodup_cons, List.nodup_append, List.nodup_append] at hD
    simp only [List.mem_cons, List.mem_append, not_or] at hg
    refine pull_any l p.2 _ g rt n nd key w1 ?_ hn2 g1 g2 hp.fit (fun _ => by omega) hD.2.2.1.1 hg.2.2.1 ⟨b', es', h1, h2⟩
    simp [nods] at hn
    omega
#print axioms pull_any
#print axioms pull_step
end Go.Proofs.Yteokjfpppmnebaa
