/-
  What putting a text into a tree of nodes makes: over data.
-/
import Derived.Test.YteokjfpppmnebaaPc
namespace Go.Proofs.Yteokjfpppmnebaa
open Go.RowKit
set_option linter.unusedVariables false
set_option linter.unusedSimpArgs false
/-- How many texts are ahead of the place that a text belongs to. -/
def pos : Nat → B → ByteArray → Nat
  | 0, .lf _ es, k => sk (es.map sE) k
  | 0, .nd _ _, _ => 0
  | _ + 1, .lf _ _, _ => 0
  | l + 1, .nd _ ks, k => ((ks.take (und (ks.map sK) k)).flatMap fun p => ents l p.2).length + (match ks[und (ks.map sK) k]? with
    | some p => pos l p.2 k
    | none => 0)
theorem cut_kb {ks : List KB} {i : Nat} (h : i < ks.length) : ∃ A p D, ks = A ++ p :: D ∧ A.length = i :=
  ⟨ks.take i, ks[i], ks.drop (i + 1), by rw [List.getElem_cons_drop, List.take_append_drop], by rw [List.length_take]; omega⟩
theorem pos_at {l b : Nat} {A D : List KB} {p : KB} {k : ByteArray} (h : und ((A ++ p :: D).map sK) k = A.length) : pos (l + 1) (.nd b (A ++ p :: D)) k = (A.flatMap fun p => ents l p.2).length + pos l p.2 k := by
  simp only [pos]
  rw [h]
  simp
theorem pos_le : ∀ (l : Nat) (t : B) (k : ByteArray), pos l t k ≤ (ents l t).length
  | 0, .lf _ es, k => by
    have := sk_le (es.map sE) k
    simpa [pos, ents] using this
  | 0, .nd _ _, _ => by simp [pos]
  | _ + 1, .lf _ _, _ => by simp [pos]
  | l + 1, .nd _ ks, k => by
    simp only [pos, ents]
    generalize und (ks.map sK) k = i
    by_cases h : i < ks.length
    · obtain ⟨A, p, D, rfl, rfl⟩ := cut_kb h
      have := pos_le l p.2 k
      simp
      omega
    · rw [List.getElem?_eq_none (by omega), List.take_of_length_le (by omega)]
      simp
theorem ins_mid (X Y Z : List E) (e : E) (p : Nat) (h : p ≤ Y.length) : (X ++ (Y ++ Z)).take (X.length + p) ++ e :: (X ++ (Y ++ Z)).drop (X.length + p) = X ++ ((Y.take p ++ e :: Y.drop p) ++ Z) := by
  have h1 : (X ++ (Y ++ Z)).take (X.length + p) = X ++ Y.take p := by
    rw [List.take_append, List.take_of_length_le (by omega), Nat.add_sub_cancel_left, List.take_append, show p - Y.length = 0 by omega]
    simp
  have h2 : (X ++ (Y ++ Z)).drop (X.length + p) = Y.drop p ++ Z := by
    rw [List.drop_append, List.drop_of_length_le (by omega), Nat.add_sub_cancel_left, List.drop_append, show p - Y.length = 0 by omega]
    simp
  rw [h1, h2]
  simp
theorem nodup_swap {X Y Z Y' : List Nat} {N : Nat} (h : (X ++ (Y ++ Z)).Nodup) (hY : Y'.Nodup) (hin : ∀ y ∈ Y', y ∈ Y ∨ N ≤ y) (hlt : ∀ x ∈ X ++ (Y ++ Z), x < N) : (X ++ (Y' ++ Z)).Nodup := by
  rw [List.nodup_append] at h ⊢
  obtain ⟨h1, h2, h3⟩ := h
  rw [List.nodup_append] at h2
  obtain ⟨h4, h5, h6⟩ := h2
  refine ⟨h1, List.nodup_append.2 ⟨hY, h5, fun a ha b hb e => ?_⟩, fun a ha b hb e => ?_⟩
  · subst e
    rcases hin a ha with q | q
    · exact h6 a q a hb rfl
    · have := hlt a (by simp [hb]); omega
  · subst e
    rcases List.mem_append.1 hb with q | q
    · rcases hin a q with q | q
      · exact h3 a ha a (by simp [q]) rfl
      · have := hlt a (by simp [ha]); omega
    · exact h3 a ha a (by simp [q]) rfl
theorem nodup_mid {X Y : List Nat} {a : Nat} (h : a ∉ X ++ Y) (k : (X ++ Y).Nodup) : (X ++ a :: Y).Nodup := by
  simp only [List.mem_append, not_or] at h
  rw [List.nodup_append] at k ⊢
  refine ⟨k.1, List.nodup_cons.2 ⟨h.2, k.2.1⟩, fun x hx y hy e => ?_⟩
  subst e
  rcases List.mem_cons.1 hy with rfl | hy
  · exact h.1 hx
  · exact k.2.2 x hx x hy rfl
/-- What is left behind put. -/
structure PutR (w w' : World) (g : Nat) (rt : Option Nat) (n nd l : Nat) (t : B) (nx : Option Nat) (key : ByteArray) (x : Int) (t' : B) (r : Option B) : Prop where
  mem : Mem w' l t' (r.elim nx fun q => some (fsl l q)) 0
  memr : ∀ q, r = some q → Mem w' l q nx 0
  bk : t'.bk = t.bk
  fs : fsl l t' = fsl l t
  fit : Fit l t'
  fitr : ∀ q, r = some q → Fit l q ∧ 8 ≤ q.cnt ∧ 8 ≤ t'.cnt
  cnt : r = none → t.cnt ≤ t'.cnt
  ne : 0 < t'.cnt
  ent : ents l t' ++ r.elim [] (ents l) = (ents l t).take (pos l t key) ++ (key, x) :: (ents l t).drop (pos l t key)
  tree : ∃ nd', Blk w' g 55 (tC rt n nd') ∧ nd' + nods l t = nd + nods l t' + r.elim 0 (nods l) ∧ nd' ≤ nd + l + 1
  fp : ∀ y ∈ fps l t' ++ r.elim [] (fps l), y ∈ fps l t ∨ w.heap.size ≤ y
  nodup : (fps l t' ++ r.elim [] (fps l)).Nodup
  upd : Upd (g :: fps l t) w w'
theorem map_cut {A p D} : List.map sK (A ++ p :: D) = A.map sK ++ sK p :: D.map sK := by simp
theorem es_back : ∀ (L : List Sl) (es : List E), L = es.map sE → L = (L.map fun s => (s.t, s.n)).map sE := by
  intro L es h
  subst h
  simp [sE, Function.comp_def]
/-- Kids that no change has reached. -/
theorem chain_upd {S : List Nat} {w w' : World} {l : Nat} (u : Upd S w w') {ks : List KB} {nx : Option Nat} (h : chain (fun t nx => Mem w l t nx 0) (fsl l) ks nx) (hn : ∀ y ∈ ks.flatMap (fun p => fps l p.2), y ∉ S) : chain (fun t nx => Mem w' l t nx 0) (fsl l) ks nx :=
  chain.mono h fun p hp nx hm => Mem.upd u hm fun x hx => hn x (List.mem_flatMap.2 ⟨p, hp, hx⟩)
theorem Mem.text {w : World} {l : Nat} {t : B} {nx : Option Nat} {rd : Int} (h : Mem w l t nx rd) (hc : 0 < t.cnt) : w.cell? ⟨t.bk, 2, none⟩ = some (.string t.lt0) := by
  have hN := h.nd
  obtain ⟨s, r, hs⟩ : ∃ s r, t.ss = s :: r := by
    unfold B.cnt at hc
    cases hq : t.ss with
    | nil => rw [hq] at hc; simp at hc
    | cons s r => exact ⟨s, r, rfl⟩
  have h2 := hN.slot 0 s (pad_at (by rw [hs]; rfl)) 0 (by decide)
  rw [show B.lt0 t = s.t by unfold B.lt0; rw [hs]; rfl]
  exact h2
theorem chain_lt {w : World} {l : Nat} {ks : List KB} {nx : Option Nat} (h : chain (fun t nx => Mem w l t nx 0) (fsl l) ks nx) : ∀ y ∈ ks.flatMap (fun p => fps l p.2), y < w.heap.size := by
  intro y hy
  obtain ⟨p, hp, hx⟩ := List.mem_flatMap.1 hy
  obtain ⟨nx', hm⟩ := chain_mem h p hp
  exact hm.lt y hx
/-- A kid has turned into one, or two; the others are as they were. -/
theorem put_up {w w3 w4 : World} {g : Nat} {rt : Option Nat} {n nd l b : Nat} {A D : List KB} {p : KB} {nx : Option Nat} {key : ByteArray} {x : Int} {t' : B} {r : Option B} (hgl : g < w.heap.size) (hg : g ∉ fps (l + 1) (.nd b (A ++ p :: D))) (hnd : (fps (l + 1) (.nd b (A ++ p :: D))).Nodup) (hM : Mem w (l + 1) (.nd b (A ++ p :: D)) nx 0)
    (h : PutR w w3 g rt n nd l p.2 (nxt (fsl l) D nx) key x t' r) (u : Upd [g, b] w3 w4) : chain (fun t nx => Mem w4 l t nx 0) (fsl l) (A ++ (t'.lt0, t') :: (r.elim [] (fun q => [(q.lt0, q)]) ++ D)) nx ∧ Upd (g :: fps (l + 1) (.nd b (A ++ p :: D))) w w4 ∧ b ∉ fps l t' ++ r.elim [] (fps l) := by
  have hC := hM.2
  rw [chain_app] at hC
  obtain ⟨hA, hp, hD⟩ := hC
  have e1 : fps (l + 1) (.nd b (A ++ p :: D)) = b :: ((A.flatMap fun p => fps l p.2) ++ (fps l p.2 ++ D.flatMap fun p => fps l p.2)) := by simp [fps]
  rw [e1] at hg hnd ⊢
  simp only [List.mem_cons, List.mem_append, not_or] at hg
  obtain ⟨hgb, hgA, hgp, hgD⟩ := hg
  rw [List.nodup_cons, List.nodup_append, List.nodup_append] at hnd
  obtain ⟨hb, h1, ⟨h2, h3, h4⟩, h5⟩ := hnd
  simp only [List.mem_append, not_or] at hb
  have hblt : b < w.heap.size := hM.1.lt
  have hbn : b ∉ fps l t' ++ r.elim [] (fps l) := fun q => by
    rcases h.fp b q with q | q
    · exact hb.2.1 q
    · omega
  have hgn : g ∉ fps l t' ++ r.elim [] (fps l) := fun q => by
    rcases h.fp g q with q | q
    · exact hgp q
    · omega
  have u34 : ∀ y, y < w.heap.size → y ≠ b → y ∉ g :: fps l p.2 → w4.heap[y]? = w.heap[y]? := fun y h6 h7 h8 => (u.block y (Nat.lt_of_lt_of_le h6 h.upd.size) (by simp at h8 ⊢; exact ⟨h8.1, h7⟩)).trans (h.upd.block y h6 h8)
  have uT : Upd (g :: b :: fps l p.2) w w4 := ⟨u.os.trans h.upd.os, u.tape.trans h.upd.tape, u.output.trans h.upd.output, Nat.le_trans h.upd.size u.size, fun y h6 h7 => u34 y h6 (by simp at h7; exact h7.2.1) (by simp at h7 ⊢; exact ⟨h7.1, h7.2.2⟩)⟩
  have cA : chain (fun t nx => Mem w4 l t nx 0) (fsl l) A (nxt (fsl l) (p :: D) nx) := chain_upd uT hA (fun y hy hn => by
    simp only [List.mem_cons] at hn
    rcases hn with rfl | rfl | hn
    · exact hgA hy
    · exact hb.1 hy
    · exact h5 y hy y (by simp [hn]) rfl)
  have cD : chain (fun t nx => Mem w4 l t nx 0) (fsl l) D nx := chain_upd uT hD (fun y hy hn => by
    simp only [List.mem_cons] at hn
    rcases hn with rfl | rfl | hn
    · exact hgD hy
    · exact hb.2.2 hy
    · exact h4 y hn y hy rfl)
  have m1 : Mem w4 l t' (r.elim (nxt (fsl l) D nx) fun q => some (fsl l q)) 0 := h.mem.upd u (fun y hy => by
    simp only [List.mem_cons, List.not_mem_nil, or_false, not_or]
    exact ⟨fun e => hgn (by rw [← e]; simp [hy]), fun e => hbn (by rw [← e]; simp [hy])⟩)
  refine ⟨?_, uT.mono (by simp only [List.mem_cons, List.mem_append]; intro y hy _; rcases hy with q | q | q; exact .inl q; exact .inr (.inl q); exact .inr (.inr (.inr (.inl q)))), hbn⟩
  rw [chain_app]
  have e2 : nxt (fsl l) ((t'.lt0, t') :: (r.elim [] (fun q => [(q.lt0, q)]) ++ D)) nx = nxt (fsl l) (p :: D) nx := by
    show some (fsl l t') = some (fsl l p.2)
    rw [h.fs]
  rw [e2]
  refine ⟨cA, ?_⟩
  cases r with
  | none => exact ⟨m1, cD⟩
  | some q =>
    have m2 : Mem w4 l q (nxt (fsl l) D nx) 0 := (h.memr q rfl).upd u (fun y hy => by
      simp only [List.mem_cons, List.not_mem_nil, or_false, not_or]
      exact ⟨fun e => hgn (by rw [← e]; simp [hy]), fun e => hbn (by rw [← e]; simp [hy])⟩)
    exact ⟨m1, m2, cD⟩
/-- The kids behind it, and what they hold. -/
def kin (A D : List KB) (t' : B) (r : Option B) : List KB := A ++ (t'.lt0, t') :: (r.elim [] (fun q => [(q.lt0, q)]) ++ D)
theorem kin_ents (l b : Nat) {A D : List KB} {t' : B} {r : Option B} : ents (l + 1) (.nd b (kin A D t' r)) = (A.flatMap fun p => ents l p.2) ++ ((ents l t' ++ r.elim [] (ents l)) ++ D.flatMap fun p => ents l p.2) := by
  cases r <;> simp [kin, ents]
theorem kin_fps (l b : Nat) {A D : List KB} {t' : B} {r : Option B} : fps (l + 1) (.nd b (kin A D t' r)) = (b :: A.flatMap fun p => fps l p.2) ++ ((fps l t' ++ r.elim [] (fps l)) ++ D.flatMap fun p => fps l p.2) := by
  cases r <;> simp [kin, fps]
theorem kin_nods (l b : Nat) {A D : List KB} {p : KB} {t' : B} {r : Option B} : nods (l + 1) (.nd b (kin A D t' r)) + nods l p.2 = nods (l + 1) (.nd b (A ++ p :: D)) + nods l t' + r.elim 0 (nods l) := by
  cases r <;> simp [kin, nods] <;> omega
theorem kin_fit {l b : Nat} {A D : List KB} {p : KB} {t' : B} {r : Option B} (hF : Fit (l + 1) (.nd b (A ++ p :: D))) (h1 : Fit l t') (h2 : 8 ≤ t'.cnt) (h3 : ∀ q, r = some q → Fit l q ∧ 8 ≤ q.cnt) : ∀ c ∈ kin A D t' r, Fit l c.2 ∧ 8 ≤ c.2.cnt ∧ c.1 = c.2.lt0 := by
  intro c hc
  simp only [kin, List.mem_append, List.mem_cons] at hc
  rcases hc with hc | rfl | hc | hc
  · exact hF c (by simp [hc])
  · exact ⟨h1, h2, rfl⟩
  · cases r with
    | none => cases hc
    | some q =>
      obtain rfl := List.mem_singleton.1 hc
      exact ⟨(h3 q rfl).1, (h3 q rfl).2, rfl⟩
  · exact hF c (by simp [hc])
theorem kin_fsl (l b : Nat) {A D : List KB} {p : KB} {t' : B} {r : Option B} (h : fsl l t' = fsl l p.2) : fsl (l + 1) (.nd b (kin A D t' r)) = fsl (l + 1) (.nd b (A ++ p :: D)) := by
  cases A <;> simp [kin, fsl, h]
theorem kin_cnt (b : Nat) {A D : List KB} {p : KB} {t' : B} {r : Option B} : (B.nd b (kin A D t' r)).cnt = (B.nd b (A ++ p :: D)).cnt + r.elim 0 (fun _ => 1) := by
  cases r <;> simp [kin, B.cnt, B.ss] <;> omega
theorem kin_ent {l b : Nat} {A D : List KB} {p : KB} {t' : B} {r : Option B} {key : ByteArray} {x : Int} (hu : und ((A ++ p :: D).map sK) key = A.length) (he : ents l t' ++ r.elim [] (ents l) = (ents l p.2).take (pos l p.2 key) ++ (key, x) :: (ents l p.2).drop (pos l p.2 key)) :
    ents (l + 1) (.nd b (kin A D t' r)) = (ents (l + 1) (.nd b (A ++ p :: D))).take (pos (l + 1) (.nd b (A ++ p :: D)) key) ++ (key, x) :: (ents (l + 1) (.nd b (A ++ p :: D))).drop (pos (l + 1) (.nd b (A ++ p :: D)) key) := by
  rw [kin_ents, he, pos_at hu]
  have e : ents (l + 1) (.nd b (A ++ p :: D)) = (A.flatMap fun p => ents l p.2) ++ (ents l p.2 ++ D.flatMap fun p => ents l p.2) := by simp [ents]
  rw [e, ins_mid _ _ _ _ _ (pos_le l p.2 key)]
theorem kin_nodup {w : World} {l b : Nat} {A D : List KB} {p : KB} {nx : Option Nat} {t' : B} {r : Option B} (hM : Mem w (l + 1) (.nd b (A ++ p :: D)) nx 0) (hnd : (fps (l + 1) (.nd b (A ++ p :: D))).Nodup) (h1 : (fps l t' ++ r.elim [] (fps l)).Nodup) (h2 : ∀ y ∈ fps l t' ++ r.elim [] (fps l), y ∈ fps l p.2 ∨ w.heap.size ≤ y) : (fps (l + 1) (.nd b (kin A D t' r))).Nodup ∧ ∀ y ∈ fps (l + 1) (.nd b (kin A D t' r)), y ∈ fps (l + 1) (.nd b (A ++ p :: D)) ∨ w.heap.size ≤ y := by
  have e1 : fps (l + 1) (.nd b (A ++ p :: D)) = (b :: A.flatMap fun p => fps l p.2) ++ (fps l p.2 ++ D.flatMap fun p => fps l p.2) := by simp [fps]
  have hlt := hM.lt
  rw [e1] at hnd hlt ⊢
  rw [kin_fps]
  refine ⟨nodup_swap hnd h1 h2 hlt, fun y hy => ?_⟩
  rw [List.mem_append, List.mem_append] at hy ⊢
  rcases hy with q | q | q
  · exact .inl (.inl q)
  · rcases h2 y q with q | q
    · exact .inl (.inr (.inl q))
    · exact .inr q
  · exact .inl (.inr (.inr q))
/-- The node has room for what the kid has become. -/
theorem putR_room {w w3 w4 : World} {g : Nat} {rt : Option Nat} {n nd l b : Nat} {A D : List KB} {p : KB} {nx : Option Nat} {key : ByteArray} {x : Int} {t' : B} {r : Option B} (hgl : g < w.heap.size) (hg : g ∉ fps (l + 1) (.nd b (A ++ p :: D))) (hnd : (fps (l + 1) (.nd b (A ++ p :: D))).Nodup) (hM : Mem w (l + 1) (.nd b (A ++ p :: D)) nx 0) (hF : Fit (l + 1) (.nd b (A ++ p :: D))) (hu : und ((A ++ p :: D).map sK) key = A.length)
    (h : PutR w w3 g rt n nd l p.2 (nxt (fsl l) D nx) key x t' r) (u : Upd [g, b] w3 w4) (hT : ∃ nd', Blk w4 g 55 (tC rt n nd') ∧ nd' + nods l p.2 = nd + nods l t' + r.elim 0 (nods l) ∧ nd' ≤ nd + l + 1) (hN : Nd w4 b ((l + 1 : Nat) : Int) ((kin A D t' r).map sK) none 0) :
    PutR w w4 g rt n nd (l + 1) (.nd b (A ++ p :: D)) nx key x (.nd b (kin A D t' r)) none := by
  obtain ⟨c, u2, hb⟩ := put_up hgl hg hnd hM h u
  obtain ⟨k1, k2⟩ := kin_nodup (A := A) (D := D) hM hnd h.nodup h.fp
  have h8 : 8 ≤ t'.cnt := by
    cases r with
    | none => have := h.cnt rfl; have := (hF p (by simp)).2.1; omega
    | some q => exact (h.fitr q rfl).2.2
  refine ⟨⟨hN, c⟩, by simp, rfl, kin_fsl l b h.fs, kin_fit hF h.fit h8 (fun q e => ⟨(h.fitr q e).1, (h.fitr q e).2.1⟩), by simp, fun _ => by rw [kin_cnt b (p := p)]; omega, by rw [kin_cnt b (p := p)]; simp [B.cnt, B.ss]; omega, by simpa using kin_ent hu h.ent, ?_, by simpa using k2, by simpa using k1, u2⟩
  obtain ⟨nd', h1, h2, h3⟩ := hT
  have h4 := kin_nods l b (A := A) (D := D) (p := p) (t' := t') (r := r)
  exact ⟨nd', h1, by simp only [Option.elim_none]; omega, by omega⟩
/-- It has not: two nodes. -/
theorem putR_split {w w3 w4 : World} {g : Nat} {rt : Option Nat} {n nd l b rb : Nat} {A D L R : List KB} {p : KB} {nx : Option Nat} {key : ByteArray} {x : Int} {t' : B} {r : Option B} (hgl : g < w.heap.size) (hg : g ∉ fps (l + 1) (.nd b (A ++ p :: D))) (hnd : (fps (l + 1) (.nd b (A ++ p :: D))).Nodup) (hM : Mem w (l + 1) (.nd b (A ++ p :: D)) nx 0) (hF : Fit (l + 1) (.nd b (A ++ p :: D))) (hu : und ((A ++ p :: D).map sK) key = A.length)
    (h : PutR w w3 g rt n nd l p.2 (nxt (fsl l) D nx) key x t' r) (u : Upd [g, b] w3 w4) (hT : ∃ nd', Blk w4 g 55 (tC rt n nd') ∧ nd' + nods l p.2 = nd + nods l t' + r.elim 0 (nods l) + 1 ∧ nd' ≤ nd + l + 2)
    (hLR : L ++ R = kin A D t' r) (hL : 8 ≤ L.length) (hR : 8 ≤ R.length) (hN : Nd w4 b ((l + 1 : Nat) : Int) (L.map sK) none 0) (hNr : Nd w4 rb ((l + 1 : Nat) : Int) (R.map sK) none 0) (hrb : w3.heap.size ≤ rb) :
    PutR w w4 g rt n nd (l + 1) (.nd b (A ++ p :: D)) nx key x (.nd b L) (some (.nd rb R)) := by
  obtain ⟨c, u2, hb⟩ := put_up hgl hg hnd hM h u
  obtain ⟨k1, k2⟩ := kin_nodup (A := A) (D := D) hM hnd h.nodup h.fp
  have h8 : 8 ≤ t'.cnt := by
    cases r with
    | none => have := h.cnt rfl; have := (hF p (by simp)).2.1; omega
    | some q => exact (h.fitr q rfl).2.2
  have hf := kin_fit hF h.fit h8 (fun q e => ⟨(h.fitr q e).1, (h.fitr q e).2.1⟩)
  have hfs := kin_fsl l b (A := A) (D := D) (p := p) (t' := t') (r := r) h.fs
  have hen := kin_ent (b := b) (A := A) (D := D) hu h.ent
  have h4 := kin_nods l b (A := A) (D := D) (p := p) (t' := t') (r := r)
  have hc3 : chain (fun t nx => Mem w3 l t nx 0) (fsl l) (kin A D t' r) nx := (put_up hgl hg hnd hM h (Upd.refl _ w3)).1
  have hl3 := chain_lt hc3
  have hb3 : b < w3.heap.size := Nat.lt_of_lt_of_le hM.1.lt h.upd.size
  rw [show A ++ (t'.lt0, t') :: (r.elim [] (fun q => [(q.lt0, q)]) ++ D) = kin A D t' r from rfl, ← hLR, chain_app] at c
  rw [← hLR] at hf hfs hen h4 k1 k2 hl3
  obtain ⟨q0, R', rfl⟩ : ∃ q0 R', R = q0 :: R' := by cases R with | nil => simp at hR | cons a b => exact ⟨a, b, rfl⟩
  obtain ⟨l0, L', rfl⟩ : ∃ l0 L', L = l0 :: L' := by cases L with | nil => simp at hL | cons a b => exact ⟨a, b, rfl⟩
  have e1 : fps (l + 1) (.nd b (l0 :: L')) ++ fps (l + 1) (.nd rb (q0 :: R')) = (b :: (l0 :: L').flatMap fun p => fps l p.2) ++ (rb :: (q0 :: R').flatMap fun p => fps l p.2) := by simp [fps]
  have e2 : fps (l + 1) (.nd b (l0 :: L' ++ q0 :: R')) = (b :: (l0 :: L').flatMap fun p => fps l p.2) ++ ((q0 :: R').flatMap fun p => fps l p.2) := by simp [fps]
  rw [e2] at k1 k2
  have hrn : rb ∉ (b :: (l0 :: L').flatMap fun p => fps l p.2) ++ ((q0 :: R').flatMap fun p => fps l p.2) := fun q => by
    simp only [List.cons_append, List.mem_cons] at q
    rcases q with q | q
    · omega
    · have := hl3 rb (by rw [List.flatMap_append]; exact q)
      omega
  refine ⟨⟨hN, c.1⟩, fun q e => ?_, rfl, ?_, fun c hc => hf c (by simp only [List.mem_append]; exact .inl hc), fun q e => ?_, by simp, by simp [B.cnt, B.ss], ?_, ?_, ?_, ?_, u2⟩
  · obtain rfl := Option.some.inj e
    exact ⟨hNr, c.2⟩
  · rw [← hfs]; rfl
  · obtain rfl := Option.some.inj e
    exact ⟨fun c hc => hf c (by simp only [List.mem_append]; exact .inr hc), by simpa [B.cnt, B.ss] using hR, by simpa [B.cnt, B.ss] using hL⟩
  · rw [← hen]; simp [ents]
  · obtain ⟨nd', h1, h2, h3⟩ := hT
    refine ⟨nd', h1, ?_, by omega⟩
    have h5 : nods (l + 1) (.nd b (l0 :: L' ++ q0 :: R')) + 1 = nods (l + 1) (.nd b (l0 :: L')) + nods (l + 1) (.nd rb (q0 :: R')) := by simp [nods]; omega
    simp only [Option.elim_some]
    omega
  · simp only [Option.elim_some]
    rw [e1]
    intro y hy
    by_cases hyr : y = rb
    · exact .inr (by have := h.upd.size; omega)
    · refine k2 y ?_
      simp only [List.mem_append, List.mem_cons] at hy ⊢
      rcases hy with q | q | q
      · exact .inl q
      · exact absurd q hyr
      · exact .inr q
  · simp only [Option.elim_some]
    rw [e1]
    exact nodup_mid hrn k1
theorem PutR.last {w w' w'' : World} {g : Nat} {rt : Option Nat} {n nd l : Nat} {t : B} {nx : Option Nat} {key : ByteArray} {x : Int} {t' : B} {r : Option B} (h : PutR w w' g rt n nd l t nx key x t' r) (b : Below w'.heap.size w' w'') : PutR w w'' g rt n nd l t nx key x t' r := by
  obtain ⟨nd', h1, h2⟩ := h.tree
  exact ⟨h.mem.upd (Upd.of_below [] b) (by simp), fun q e => (h.memr q e).upd (Upd.of_below [] b) (by simp), h.bk, h.fs, h.fit, h.fitr, h.cnt, h.ne, h.ent, ⟨nd', h1.below b h1.lt, h2⟩, h.fp, h.nodup, h.upd.trans (Upd.of_below [] b) (by simp)⟩
theorem PutR.base {w0 w w' : World} {g : Nat} {rt : Option Nat} {n nd l : Nat} {t : B} {nx : Option Nat} {key : ByteArray} {x : Int} {t' : B} {r : Option B} (h : PutR w w' g rt n nd l t nx key x t' r) (b : Upd [] w0 w) : PutR w0 w' g rt n nd l t nx key x t' r :=
  ⟨h.mem, h.memr, h.bk, h.fs, h.fit, h.fitr, h.cnt, h.ne, h.ent, h.tree, fun y hy => (h.fp y hy).imp id (fun q => Nat.le_trans b.size q), h.nodup, (b.mono (S' := g :: fps l t) (by simp)).trans h.upd (fun y hy _ => hy)⟩
/-- A leaf with room, a leaf that is full. -/
theorem putR_leaf {w w' : World} {g : Nat} {rt : Option Nat} {n nd b : Nat} {es : List E} {nx : Option Nat} {key : ByteArray} {x : Int} (hb : g ≠ b) (hT : Blk w' g 55 (tC rt n nd)) (hN : Nd w' b 0 ((es.map sE).take (sk (es.map sE) key) ++ sE (key, x) :: (es.map sE).drop (sk (es.map sE) key)) nx 0) (u : w.grownBy w' (some b)) :
    PutR w w' g rt n nd 0 (.lf b es) nx key x (.lf b (es.take (sk (es.map sE) key) ++ (key, x) :: es.drop (sk (es.map sE) key))) none := by
  have hk := sk_le (es.map sE) key
  rw [List.length_map] at hk
  refine ⟨?_, by simp, rfl, rfl, trivial, by simp, fun _ => ?_, ?_, by simp [ents, pos], ⟨nd, hT, by simp [nods], by omega⟩, by simp [fps, B.bk], by simp [fps], (Upd.of_by u).mono (by simp [fps, B.bk])⟩
  · show Nd _ _ _ _ _ _
    simp only [Option.elim_none, List.map_append, List.map_cons, List.map_take, List.map_drop]
    exact hN
  · simp [B.cnt, B.ss]; omega
  · simp [B.cnt, B.ss]; omega
theorem putR_lfull {w w' : World} {g : Nat} {rt : Option Nat} {n nd b r : Nat} {es : List E} {nx : Option Nat} {key : ByteArray} {x : Int} (h : InsF w w' g b r rt n nd 0 (es.map sE) (sk (es.map sE) key) (sE (key, x)) nx 0) (hbl : b < w.heap.size) :
    ∃ L R, PutR w w' g rt n nd 0 (.lf b es) nx key x (.lf b L) (some (.lf r R)) := by
  obtain ⟨L, R, h1, h2, h3, h4, h5, h6, h7, h8⟩ := h
  have e4 : L ++ R = (es.take (sk (es.map sE) key) ++ (key, x) :: es.drop (sk (es.map sE) key)).map sE := by
    rw [h4]; simp [List.map_take, List.map_drop]
  obtain ⟨Y, hY⟩ : ∃ Y, es.take (sk (es.map sE) key) ++ (key, x) :: es.drop (sk (es.map sE) key) = Y := ⟨_, rfl⟩
  rw [hY] at e4
  have hl : L = (Y.take L.length).map sE := by rw [List.map_take, ← e4, List.take_left]
  have hr : R = (Y.drop L.length).map sE := by rw [List.map_drop, ← e4, List.drop_left]
  have h5' := h5
  have h6' := h6
  rw [hr, List.length_map] at h6'
  have h5'' : 8 ≤ (Y.take L.length).length := by rw [hl, List.length_map] at h5'; exact h5'
  rw [if_pos rfl, hl] at h2
  rw [if_pos rfl, hr] at h3
  refine ⟨Y.take L.length, Y.drop L.length, h2, fun q e => by obtain rfl := Option.some.inj e; exact h3, rfl, rfl, trivial, fun q e => by obtain rfl := Option.some.inj e; exact ⟨trivial, by simpa [B.cnt, B.ss] using h6', by simpa [B.cnt, B.ss] using h5''⟩, by simp, ?_, ?_, ⟨nd + 1, h1, by simp [nods], by omega⟩, ?_, ?_, h8.mono (by simp [fps, B.bk])⟩
  · have : 0 < (Y.take L.length).length := by omega
    simpa [B.cnt, B.ss] using this
  · simp only [ents, Option.elim_some, pos]
    rw [List.take_append_drop, ← hY]
  · intro y hy
    simp only [fps, B.bk, Option.elim_some, List.mem_append, List.mem_singleton] at hy ⊢
    rcases hy with rfl | rfl
    · exact .inl rfl
    · exact .inr h7
  · simp only [fps, B.bk, Option.elim_some, List.cons_append, List.nil_append, List.nodup_cons, List.mem_singleton, List.not_mem_nil, not_false_eq_true, List.nodup_nil, and_self, and_true]
    omega
#print axioms putR_split
#print axioms putR_lfull
end Go.Proofs.Yteokjfpppmnebaa
