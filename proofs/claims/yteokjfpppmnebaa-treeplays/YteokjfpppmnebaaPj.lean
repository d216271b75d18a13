/-
  Two kids become one, or slots change over: over data.
-/
import Derived.Test.YteokjfpppmnebaaPi
namespace Go.Proofs.Yteokjfpppmnebaa
open Go.RowKit
set_option linter.unusedVariables false
set_option linter.unusedSimpArgs false
theorem nxt_fsl {l b : Nat} {ks : List KB} (h : 0 < (B.nd b ks).cnt) (nx : Option Nat) : nxt (fsl l) ks nx = some (fsl (l + 1) (.nd b ks)) := by
  cases ks with
  | nil => simp [B.cnt, B.ss] at h
  | cons p r => rfl
structure JoinR (w' : World) (l : Nat) (t1 t2 : B) (nx : Option Nat) (t' : B) : Prop where
  mem : Mem w' l t' nx 0
  bk : t'.bk = t1.bk
  ss : t'.ss = t1.ss ++ t2.ss
  fit : Fit l t'
  ent : ents l t' = ents l t1 ++ ents l t2
  nod : nods l t' + 1 = nods l t1 + nods l t2
  fs : fsl l t' = fsl l t1
  fp : ∀ y ∈ fps l t', y ∈ fps l t1 ++ fps l t2
  nodup : (fps l t').Nodup
theorem join_mem {S : List Nat} {w w' : World} (u : Upd S w w') : ∀ {l : Nat} {t1 t2 : B} {nx : Option Nat}, Mem w l t1 (some (fsl l t2)) 0 → Mem w l t2 nx 0 → 0 < t1.cnt → 0 < t2.cnt → Fit l t1 → Fit l t2 → (fps l t1 ++ fps l t2).Nodup → (∀ y ∈ fps l t1 ++ fps l t2, y ∈ S → y = t1.bk ∨ y = t2.bk) → Nd w' t1.bk (l : Int) (t1.ss ++ t2.ss) (if l = 0 then nx else none) 0 → ∃ t', JoinR w' l t1 t2 nx t'
  | 0, .lf b1 e1, .lf b2 e2, nx, h1, h2, c1, c2, f1, f2, hd, hS, hN => by
    refine ⟨.lf b1 (e1 ++ e2), ?_, rfl, by simp [B.ss], trivial, rfl, rfl, rfl, by simp [fps, B.bk], by simp [fps]⟩
    have h : Nd w' b1 0 ((e1 ++ e2).map sE) nx 0 := by simpa [B.ss, B.bk] using hN
    exact h
  | l + 1, .nd b1 k1, .nd b2 k2, nx, h1, h2, c1, c2, f1, f2, hd, hS, hN => by
    have ef : ∀ b k, fps (l + 1) (.nd b k) = b :: k.flatMap fun p => fps l p.2 := fun b k => rfl
    rw [ef, ef] at hd hS
    rw [List.cons_append, List.nodup_cons, List.nodup_append] at hd
    obtain ⟨hb, d1, d2, d3⟩ := hd
    simp only [List.mem_append, List.mem_cons, not_or] at hb
    refine ⟨.nd b1 (k1 ++ k2), ⟨?_, ?_⟩, rfl, by simp [B.ss], ?_, by simp [ents], by simp [nods]; omega, ?_, ?_, ?_⟩
    · have h : Nd w' b1 ((l + 1 : Nat) : Int) (k1.map sK ++ k2.map sK) none 0 := by simpa [B.ss, B.bk] using hN
      rw [List.map_append]; exact h
    · have hc : chain (fun t nx => Mem w l t nx 0) (fsl l) (k1 ++ k2) nx := chain_app.2 ⟨by rw [nxt_fsl (b := b2) c2]; exact h1.2, h2.2⟩
      have hb2 := (List.nodup_cons.1 d2).1
      have hb2' : b2 ∉ k1.flatMap fun p => fps l p.2 := fun q => d3 b2 q b2 (by simp) rfl
      refine chain_upd u hc (fun y hy e => ?_)
      rw [List.flatMap_append, List.mem_append] at hy
      rcases hS y (by simp only [List.mem_append, List.mem_cons]; exact hy.elim (fun q => .inl (.inr q)) (fun q => .inr (.inr q))) e with q | q
      · simp only [B.bk] at q
        rw [q] at hy
        exact hy.elim hb.1 hb.2.2
      · simp only [B.bk] at q
        rw [q] at hy
        exact hy.elim hb2' hb2
    · intro p hp
      exact (List.mem_append.1 hp).elim (f1 p) (f2 p)
    · cases k1 with
      | nil => simp [B.cnt, B.ss] at c1
      | cons p r => rfl
    · rw [ef, ef, ef, List.flatMap_append]
      intro y hy
      simp only [List.mem_cons, List.mem_append] at hy ⊢
      rcases hy with q | q | q
      · exact .inl (.inl q)
      · exact .inl (.inr q)
      · exact .inr (.inr q)
    · rw [ef, List.flatMap_append, List.nodup_cons, List.nodup_append]
      exact ⟨by simp only [List.mem_append, not_or]; exact ⟨hb.1, hb.2.2⟩, d1, (List.nodup_cons.1 d2).2, fun a ha b hb' => d3 a ha b (by simp [hb'])⟩
structure MoveR (w' : World) (l : Nat) (t1 t2 : B) (nx : Option Nat) (m : Nat) (t1' t2' : B) : Prop where
  mem1 : Mem w' l t1' (some (fsl l t2')) 0
  mem2 : Mem w' l t2' nx 0
  bk1 : t1'.bk = t1.bk
  bk2 : t2'.bk = t2.bk
  ss1 : t1'.ss = (t1.ss ++ t2.ss).take m
  ss2 : t2'.ss = (t1.ss ++ t2.ss).drop m
  fit1 : Fit l t1'
  fit2 : Fit l t2'
  ent : ents l t1' ++ ents l t2' = ents l t1 ++ ents l t2
  nod : nods l t1' + nods l t2' = nods l t1 + nods l t2
  fs : fsl l t1' = fsl l t1
  fp : (fps l t1' ++ fps l t2').Perm (fps l t1 ++ fps l t2)
theorem perm_mid {b1 b2 : Nat} {X Y X' Y' : List Nat} (h : X ++ Y = X' ++ Y') : ((b1 :: X') ++ (b2 :: Y')).Perm ((b1 :: X) ++ (b2 :: Y)) := by
  have h1 : ∀ A C : List Nat, ((b1 :: A) ++ (b2 :: C)).Perm (b2 :: b1 :: (A ++ C)) := fun A C => by
    have := List.perm_middle (a := b2) (l₁ := b1 :: A) (l₂ := C)
    simpa using this
  exact (h1 X' Y').trans (by rw [← h]; exact (h1 X Y).symm)
theorem move_mem {S : List Nat} {w w' : World} (u : Upd S w w') (m : Nat) : ∀ {l : Nat} {t1 t2 : B} {nx : Option Nat}, Mem w l t1 (some (fsl l t2)) 0 → Mem w l t2 nx 0 → 0 < t1.cnt → 0 < t2.cnt → Fit l t1 → Fit l t2 → (fps l t1 ++ fps l t2).Nodup → 0 < m → m < (t1.ss ++ t2.ss).length → (∀ y ∈ fps l t1 ++ fps l t2, y ∈ S → y = t1.bk ∨ y = t2.bk) → (∀ nx1, Nd w t1.bk (l : Int) t1.ss nx1 0 → Nd w' t1.bk (l : Int) ((t1.ss ++ t2.ss).take m) nx1 0) → (∀ nx2, Nd w t2.bk (l : Int) t2.ss nx2 0 → Nd w' t2.bk (l : Int) ((t1.ss ++ t2.ss).drop m) nx2 0) → ∃ t1' t2', MoveR w' l t1 t2 nx m t1' t2'
  | 0, .lf b1 e1, .lf b2 e2, nx, h1, h2, c1, c2, f1, f2, hd, m0, m1, hS, hN1, hN2 => by
    have g1 : Nd w' b1 0 (((e1 ++ e2).take m).map sE) (some b2) 0 := by
      have := hN1 (some b2) h1
      simpa [B.ss, B.bk, List.map_take, List.map_append] using this
    have g2 : Nd w' b2 0 (((e1 ++ e2).drop m).map sE) nx 0 := by
      have := hN2 nx h2
      simpa [B.ss, B.bk, List.map_drop, List.map_append] using this
    exact ⟨.lf b1 ((e1 ++ e2).take m), .lf b2 ((e1 ++ e2).drop m), g1, g2, rfl, rfl, by simp [B.ss, List.map_take], by simp [B.ss, List.map_drop], trivial, trivial, by simp [ents], rfl, rfl, List.Perm.refl _⟩
  | l + 1, .nd b1 k1, .nd b2 k2, nx, h1, h2, c1, c2, f1, f2, hd, m0, m1, hS, hN1, hN2 => by
    have ef : ∀ b k, fps (l + 1) (.nd b k) = b :: k.flatMap fun p => fps l p.2 := fun b k => rfl
    rw [ef, ef] at hd hS
    rw [List.cons_append, List.nodup_cons, List.nodup_append] at hd
    obtain ⟨hb, d1, d2, d3⟩ := hd
    simp only [List.mem_append, List.mem_cons, not_or] at hb
    have hb2 := (List.nodup_cons.1 d2).1
    have hb2' : b2 ∉ k1.flatMap fun p => fps l p.2 := fun q => d3 b2 q b2 (by simp) rfl
    have hm1 : m < (k1 ++ k2).length := by simpa [B.ss] using m1
    obtain ⟨X, Y, hXY, hX⟩ : ∃ X Y, k1 ++ k2 = X ++ Y ∧ X.length = m := ⟨(k1 ++ k2).take m, (k1 ++ k2).drop m, by rw [List.take_append_drop], by rw [List.length_take]; omega⟩
    have e1 : (k1 ++ k2).take m = X := by rw [hXY, ← hX, List.take_left]
    have e2 : (k1 ++ k2).drop m = Y := by rw [hXY, ← hX, List.drop_left]
    have cY : 0 < (B.nd b2 Y).cnt := by
      have := congrArg List.length hXY
      simp [B.cnt, B.ss] at this hm1 ⊢
      cases Y with
      | nil => simp at this; omega
      | cons a r => simp
    have hc : chain (fun t nx => Mem w' l t nx 0) (fsl l) (X ++ Y) nx := by
      rw [← hXY]
      refine chain_upd u (chain_app.2 ⟨by rw [nxt_fsl (b := b2) c2]; exact h1.2, h2.2⟩) (fun y hy e => ?_)
      rw [List.flatMap_append, List.mem_append] at hy
      rcases hS y (by simp only [List.mem_append, List.mem_cons]; exact hy.elim (fun q => .inl (.inr q)) (fun q => .inr (.inr q))) e with q | q
      · simp only [B.bk] at q
        rw [q] at hy
        exact hy.elim hb.1 hb.2.2
      · simp only [B.bk] at q
        rw [q] at hy
        exact hy.elim hb2' hb2
    obtain ⟨hcX, hcY⟩ := chain_app.1 hc
    rw [nxt_fsl (b := b2) cY] at hcX
    have hf : ∀ p ∈ X ++ Y, Fit l p.2 ∧ 8 ≤ p.2.cnt ∧ p.1 = p.2.lt0 := by
      rw [← hXY]
      intro p hp
      exact (List.mem_append.1 hp).elim (f1 p) (f2 p)
    have g1 := hN1 none h1.1
    have g2 := hN2 none h2.1
    have s1 : (B.nd b1 k1).ss ++ (B.nd b2 k2).ss = (k1 ++ k2).map sK := by simp [B.ss]
    rw [s1, ← List.map_take, e1] at g1
    rw [s1, ← List.map_drop, e2] at g2
    refine ⟨.nd b1 X, .nd b2 Y, ⟨g1, hcX⟩, ⟨g2, hcY⟩, rfl, rfl, by rw [s1, ← List.map_take, e1]; rfl, by rw [s1, ← List.map_drop, e2]; rfl, fun p hp => hf p (by simp [hp]), fun p hp => hf p (by simp [hp]), ?_, ?_, ?_, ?_⟩
    · have := congrArg (fun z => z.flatMap fun p => ents l p.2) hXY
      simpa [ents] using this.symm
    · have := congrArg (fun z => (z.map fun p => nods l p.2).sum) hXY
      simp [nods] at this ⊢
      omega
    · cases k1 with
      | nil => simp [B.cnt, B.ss] at c1
      | cons p r =>
        cases X with
        | nil => simp at hX; omega
        | cons p' r' =>
          simp only [List.cons_append, List.cons.injEq] at hXY
          simp [fsl, hXY.1]
    · rw [ef, ef, ef, ef]
      refine perm_mid ?_
      have := congrArg (fun z => z.flatMap fun p => fps l p.2) hXY
      simpa using this
/-- What is left of a node. -/
structure ModR (w w' : World) (g : Nat) (rt : Option Nat) (n nd l : Nat) (t : B) (nx : Option Nat) (t' : B) : Prop where
  mem : Mem w' l t' nx 0
  bk : t'.bk = t.bk
  fs : fsl l t' = fsl l t
  fit : Fit l t'
  cnt : t.cnt ≤ t'.cnt + 1
  tree : ∃ nd', Blk w' g 55 (tC rt n nd') ∧ nd' + nods l t = nd + nods l t' ∧ nd' ≤ nd
  fp : ∀ y ∈ fps l t', y ∈ fps l t
  nodup : (fps l t').Nodup
  upd : Upd (g :: fps l t) w w'
#print axioms join_mem
#print axioms move_mem
end Go.Proofs.Yteokjfpppmnebaa
