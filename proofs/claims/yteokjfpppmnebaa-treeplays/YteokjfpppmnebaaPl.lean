/-
  Tree: mend, over data.
-/
import Derived.Test.YteokjfpppmnebaaPk
namespace Go.Proofs.Yteokjfpppmnebaa
open Go.RowKit
set_option linter.unusedVariables false
set_option linter.unusedSimpArgs false
theorem lt0_app {t t' : B} {S : List Sl} (h : t'.ss = t.ss ++ S) (hc : 0 < t.cnt) : t'.lt0 = t.lt0 := by
  unfold B.lt0
  rw [h]
  unfold B.cnt at hc
  cases hq : t.ss with
  | nil => rw [hq] at hc; simp at hc
  | cons a r => rfl
theorem lt0_take {t t' : B} {S : List Sl} {m : Nat} (h : t'.ss = (t.ss ++ S).take m) (hc : 0 < t.cnt) (hm : 0 < m) : t'.lt0 = t.lt0 := by
  unfold B.lt0
  rw [h]
  unfold B.cnt at hc
  cases hq : t.ss with
  | nil => rw [hq] at hc; simp at hc
  | cons a r =>
    cases m with
    | zero => omega
    | succ m => rfl
set_option maxHeartbeats 1000000 in
theorem mend_any (l b g : Nat) (rt : Option Nat) (n nd : Nat) (A D : List KB) (p q : KB) (nx : Option Nat) (w : World) (hT : Blk w g 55 (tC rt n nd)) (hM : Mem w (l + 1) (.nd b (A ++ p :: q :: D)) nx 0) (hF : ∀ c ∈ A ++ p :: q :: D, Fit l c.2 ∧ c.1 = c.2.lt0) (h8 : ∀ c ∈ A ++ D, 8 ≤ c.2.cnt) (k1 : 7 ≤ p.2.cnt) (k2 : 7 ≤ q.2.cnt) (k3 : p.2.cnt + q.2.cnt ≤ 23) (k4 : 15 ≤ p.2.cnt + q.2.cnt) (hD : (fps (l + 1) (.nd b (A ++ p :: q :: D))).Nodup) (hg : g ∉ fps (l + 1) (.nd b (A ++ p :: q :: D))) (hnd : 1 ≤ nd) (hnd2 : nd ≤ 1000000000) :
    Calls Try.prog 59 #[.pointer (some ⟨g, 0, none⟩), .pointer (some ⟨b, 0, none⟩), .int .i64 (A.length : Int)] w fun e w' => e = .returned (.tuple #[]) ∧ Hid (∃ t', ModR w w' g rt n nd (l + 1) (.nd b (A ++ p :: q :: D)) nx t' ∧ ents (l + 1) t' = ents (l + 1) (.nd b (A ++ p :: q :: D))) := by
  have ef : ∀ ks : List KB, fps (l + 1) (.nd b ks) = b :: ks.flatMap fun p => fps l p.2 := fun ks => rfl
  have e1 : fps (l + 1) (.nd b (A ++ p :: q :: D)) = (b :: A.flatMap fun p => fps l p.2) ++ ((fps l p.2 ++ fps l q.2) ++ D.flatMap fun p => fps l p.2) := by simp [fps]
  have hlt := hM.lt
  have hD0 := hD
  rw [e1] at hD hg hlt
  have hbp := bk_fps l p.2
  have hbq := bk_fps l q.2
  have hd1 := (List.nodup_append.1 hD).2.1
  have hdpq := (List.nodup_append.1 hd1).1
  have hdis := (List.nodup_append.1 hD).2.2
  have hdis2 := (List.nodup_append.1 hd1).2.2
  have hb0 := List.nodup_cons.1 (List.nodup_append.1 hD).1
  have n1 : b ≠ p.2.bk := fun e => hdis b (by simp) b (by rw [e]; simp [hbp]) rfl
  have n2 : b ≠ q.2.bk := fun e => hdis b (by simp) b (by rw [e]; simp [hbq]) rfl
  have n3 : p.2.bk ≠ q.2.bk := fun e => (List.nodup_append.1 hdpq).2.2 _ hbp _ hbq e
  have n4 : g ≠ b := fun e => hg (by rw [e]; simp)
  have n5 : g ≠ p.2.bk := fun e => hg (by rw [e]; simp [hbp])
  have n6 : g ≠ q.2.bk := fun e => hg (by rw [e]; simp [hbq])
  obtain ⟨cA, cp, cq, cD⟩ : chain (fun t nx => Mem w l t nx 0) (fsl l) A (some (fsl l p.2)) ∧ Mem w l p.2 (some (fsl l q.2)) 0 ∧ Mem w l q.2 (nxt (fsl l) D nx) 0 ∧ chain (fun t nx => Mem w l t nx 0) (fsl l) D nx := by
    have h := hM.2
    rw [chain_app] at h
    exact ⟨h.1, h.2.1, h.2.2.1, h.2.2.2⟩
  obtain ⟨hFp, hlp⟩ := hF p (by simp)
  obtain ⟨hFq, hlq⟩ := hF q (by simp)
  have hSmall : ∀ y ∈ fps l p.2 ++ fps l q.2, ∀ S : List Nat, (∀ z ∈ S, z = g ∨ z = b ∨ z = p.2.bk ∨ z = q.2.bk) → y ∈ S → y = p.2.bk ∨ y = q.2.bk := fun y hy S hS hyS => by
    rcases hS y hyS with e | e | e | e
    · exact absurd (by rw [e] at hy; simp only [List.cons_append, List.mem_cons, List.mem_append] at hg hy ⊢; exact .inr (.inr (.inl hy)) : g ∈ (b :: A.flatMap fun p => fps l p.2) ++ ((fps l p.2 ++ fps l q.2) ++ D.flatMap fun p => fps l p.2)) hg
    · exact absurd rfl (hdis b (by simp) b (by rw [e] at hy; exact List.mem_append.2 (.inl hy)))
    · exact .inl e
    · exact .inr e
  have hOut : ∀ S : List Nat, (∀ z ∈ S, z = g ∨ z = b ∨ z = p.2.bk ∨ z = q.2.bk) → (∀ y ∈ A.flatMap (fun p => fps l p.2), y ∉ S) ∧ (∀ y ∈ D.flatMap (fun p => fps l p.2), y ∉ S) := fun S hS => by
    constructor
    · intro y hy hyS
      rcases hS y hyS with e | e | e | e
      · exact hg (by rw [e] at hy; simp only [List.cons_append, List.mem_cons, List.mem_append]; exact .inr (.inl hy))
      · exact hb0.1 (by rw [e] at hy; exact hy)
      · exact hdis y (by simp only [List.mem_cons]; exact .inr hy) y (by rw [e]; simp [hbp]) rfl
      · exact hdis y (by simp only [List.mem_cons]; exact .inr hy) y (by rw [e]; simp [hbq]) rfl
    · intro y hy hyS
      rcases hS y hyS with e | e | e | e
      · exact hg (by rw [e] at hy; simp only [List.cons_append, List.mem_cons, List.mem_append]; exact .inr (.inr (.inr hy)))
      · exact hdis b (by simp) b (by rw [e] at hy; exact List.mem_append.2 (.inr hy)) rfl
      · exact hdis2 y (by rw [e]; simp [hbp]) y hy rfl
      · exact hdis2 y (by rw [e]; simp [hbq]) y hy rfl
  have K := mend_walk g b p.2.bk q.2.bk rt n nd hnd hnd2 ((l + 1 : Nat) : Int) (l : Int) (A.map sK) (sK p) (sK q) (D.map sK) p.2.ss q.2.ss (if l = 0 then some (fsl l q.2) else none) (if l = 0 then nxt (fsl l) D nx else none) A.length (by simp) w rfl rfl hT (by have h := hM.1; simpa using h) cp.nd cq.nd n1 n2 n3 n4 n5 n6 k1 k2 k3
  refine K.mono ?_
  rintro e w' ⟨rfl, H⟩
  refine ⟨rfl, ?_⟩
  rcases H.out with ⟨hs, g1, g2, g3, u⟩ | ⟨m, m1, m2, g1, g2, g3, g4, u⟩
  · have hS : ∀ z ∈ [g, b, p.2.bk], z = g ∨ z = b ∨ z = p.2.bk ∨ z = q.2.bk := by simp
    obtain ⟨t', J⟩ := join_mem u cp cq (by omega) (by omega) hFp hFq hdpq (fun y hy hyS => hSmall y hy _ hS hyS) g2
    have hlt0 : t'.lt0 = p.2.lt0 := lt0_app J.ss (by omega)
    have hsk : sK (p.1, t') = sK p := by unfold sK; rw [J.bk]
    have hc' : 8 ≤ t'.cnt := by unfold B.cnt; rw [J.ss, List.length_append]; exact Nat.le_trans (by omega) k4
    have e2 : fps (l + 1) (.nd b (A ++ (p.1, t') :: D)) = (b :: A.flatMap fun p => fps l p.2) ++ (fps l t' ++ D.flatMap fun p => fps l p.2) := by simp [fps]
    refine ⟨.nd b (A ++ (p.1, t') :: D), ⟨⟨?_, ?_⟩, rfl, ?_, ?_, ?_, ⟨nd - 1, g1, ?_, by omega⟩, ?_, ?_, u.mono ?_⟩, ?_⟩
    · rw [List.map_append, List.map_cons, hsk]; exact g3
    · rw [chain_app]
      have h := hOut _ hS
      exact ⟨by rw [show nxt (fsl l) ((p.1, t') :: D) nx = some (fsl l p.2) by show some _ = some _; rw [J.fs]]; exact chain_upd u cA h.1, J.mem, chain_upd u cD h.2⟩
    · cases A <;> simp [fsl, J.fs]
    · intro c hc
      simp only [List.mem_append, List.mem_cons] at hc
      rcases hc with hc | rfl | hc
      · exact ⟨(hF c (by simp [hc])).1, h8 c (by simp [hc]), (hF c (by simp [hc])).2⟩
      · exact ⟨J.fit, hc', by rw [hlt0]; exact hlp⟩
      · exact ⟨(hF c (by simp [hc])).1, h8 c (by simp [hc]), (hF c (by simp [hc])).2⟩
    · simp [B.cnt, B.ss]; omega
    · have h := J.nod
      simp [nods] at h ⊢
      omega
    · rw [e2, e1]
      intro y hy
      simp only [List.mem_append] at hy ⊢
      rcases hy with h | h | h
      · exact .inl h
      · exact .inr (.inl (List.mem_append.1 (J.fp y h)))
      · exact .inr (.inr h)
    · rw [e2]
      exact nodup_swap hD J.nodup (fun y hy => .inl (J.fp y hy)) hlt
    · intro x hx _
      rw [e1]
      simp only [List.mem_cons, List.not_mem_nil, or_false] at hx
      rcases hx with rfl | rfl | rfl
      · simp
      · simp
      · simp [hbp]
    · simp [ents, J.ent]
  · have hS : ∀ z ∈ [b, p.2.bk, q.2.bk], z = g ∨ z = b ∨ z = p.2.bk ∨ z = q.2.bk := by simp
    have hml : m < (p.2.ss ++ q.2.ss).length := by rw [List.length_append]; omega
    have hblk : ∀ (t : B) (nx1 nx2 : Option Nat) (lk : Int) (ss' : List Sl), Nd w t.bk lk t.ss nx1 0 → Nd w t.bk lk t.ss nx2 0 → Nd w' t.bk lk ss' nx2 0 → Nd w' t.bk lk ss' nx1 0 := fun t nx1 nx2 lk ss' a1 a2 a3 => by
      have h6 : nC lk t.ss nx1 0 = nC lk t.ss nx2 0 := by
        have h7 := a1.blk.symm.trans a2.blk
        simpa using h7
      unfold nC at h6
      have h9 := List.append_cancel_left (List.append_cancel_left h6)
      simp only [List.cons.injEq, pt] at h9
      have h10 : pt nx1 = pt nx2 := h9.1
      refine ⟨?_, a3.le⟩
      have h11 : nC lk ss' nx1 0 = nC lk ss' nx2 0 := by unfold nC; rw [h10]
      rw [h11]; exact a3.blk
    obtain ⟨t1', t2', V⟩ := move_mem u m cp cq (by omega) (by omega) hFp hFq hdpq (by omega) hml (fun y hy hyS => hSmall y hy _ hS hyS) (fun nx1 a1 => hblk p.2 _ _ _ _ a1 cp.nd g2) (fun nx2 a2 => hblk q.2 _ _ _ _ a2 cq.nd g3)
    have hlt1 : t1'.lt0 = p.2.lt0 := lt0_take V.ss1 (by omega) (by omega)
    have hlt2 : t2'.lt0 = (((p.2.ss ++ q.2.ss).drop m).headD z0).t := by unfold B.lt0; rw [V.ss2]
    have hc1 : 8 ≤ t1'.cnt := by unfold B.cnt; rw [V.ss1, List.length_take]; omega
    have hc2 : 8 ≤ t2'.cnt := by unfold B.cnt; rw [V.ss2, List.length_drop, List.length_append]; omega
    have hs1 : sK (p.1, t1') = sK p := by unfold sK; rw [V.bk1]
    have hs2 : sK (t2'.lt0, t2') = { sK q with t := (((p.2.ss ++ q.2.ss).drop m).headD z0).t } := by unfold sK; rw [V.bk2, hlt2]
    have e2 : fps (l + 1) (.nd b (A ++ (p.1, t1') :: (t2'.lt0, t2') :: D)) = (b :: A.flatMap fun p => fps l p.2) ++ ((fps l t1' ++ fps l t2') ++ D.flatMap fun p => fps l p.2) := by simp [fps]
    refine ⟨.nd b (A ++ (p.1, t1') :: (t2'.lt0, t2') :: D), ⟨⟨?_, ?_⟩, rfl, ?_, ?_, ?_, ⟨nd, g1, ?_, Nat.le_refl _⟩, ?_, ?_, u.mono ?_⟩, ?_⟩
    · rw [List.map_append, List.map_cons, List.map_cons, hs1, hs2]; exact g4
    · rw [chain_app]
      have h := hOut _ hS
      exact ⟨by rw [show nxt (fsl l) ((p.1, t1') :: (t2'.lt0, t2') :: D) nx = some (fsl l p.2) by show some _ = some _; rw [V.fs]]; exact chain_upd u cA h.1, V.mem1, V.mem2, chain_upd u cD h.2⟩
    · cases A <;> simp [fsl, V.fs]
    · intro c hc
      simp only [List.mem_append, List.mem_cons] at hc
      rcases hc with hc | rfl | rfl | hc
      · exact ⟨(hF c (by simp [hc])).1, h8 c (by simp [hc]), (hF c (by simp [hc])).2⟩
      · exact ⟨V.fit1, hc1, by rw [hlt1]; exact hlp⟩
      · exact ⟨V.fit2, hc2, rfl⟩
      · exact ⟨(hF c (by simp [hc])).1, h8 c (by simp [hc]), (hF c (by simp [hc])).2⟩
    · simp [B.cnt, B.ss]
    · have h := V.nod
      simp [nods] at h ⊢
      omega
    · rw [e2, e1]
      intro y hy
      simp only [List.mem_append] at hy ⊢
      rcases hy with h | h | h
      · exact .inl h
      · exact .inr (.inl (List.mem_append.1 (V.fp.mem_iff.1 (List.mem_append.2 h))))
      · exact .inr (.inr h)
    · rw [e2]
      exact nodup_swap hD (V.fp.nodup_iff.2 hdpq) (fun y hy => .inl (V.fp.mem_iff.1 hy)) hlt
    · intro x hx _
      rw [e1]
      simp only [List.mem_cons, List.not_mem_nil, or_false] at hx
      rcases hx with rfl | rfl | rfl
      · simp
      · simp [hbp]
      · simp [hbq]
    · have h := V.ent
      simp only [ents, List.flatMap_append, List.flatMap_cons]
      rw [← List.append_assoc (ents l t1'), h, List.append_assoc]
#print axioms mend_any
end Go.Proofs.Yteokjfpppmnebaa
