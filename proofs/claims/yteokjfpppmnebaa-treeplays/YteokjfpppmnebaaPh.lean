/-
  A tree as a whole: add; a number is changed.
-/
import Derived.Test.YteokjfpppmnebaaPg
namespace Go.Proofs.Yteokjfpppmnebaa
open Go.RowKit
set_option linter.unusedVariables false
set_option linter.unusedSimpArgs false
/-- A tree with texts, in memory. -/
structure TreeM (w : World) (g l : Nat) (t : B) : Prop where
  tree : Blk w g 55 (tC (some t.bk) (ents l t).length (nods l t))
  mem : Mem w l t none 0
  fit : Fit l t
  top : if l = 0 then 1 ≤ t.cnt else 2 ≤ t.cnt
  nodup : (fps l t).Nodup
  gn : g ∉ fps l t
theorem TreeM.ok {w : World} {g l : Nat} {t : B} (h : TreeM w g l t) : Ok l t := ⟨h.fit, fun hl => by have := h.top; rw [if_neg (by omega)] at this; omega⟩
theorem TreeM.upd {w w' : World} {g l : Nat} {t : B} {S : List Nat} (h : TreeM w g l t) (u : Upd S w w') (hg : g ∉ S) (hS : ∀ x ∈ fps l t, x ∉ S) : TreeM w' g l t := ⟨h.tree.upd u hg, h.mem.upd u hS, h.fit, h.top, h.nodup, h.gn⟩
/-- A text has come in. -/
structure AddR (w w' : World) (g l : Nat) (t : B) (key : ByteArray) (x : Int) (l' : Nat) (t' : B) : Prop where
  tm : TreeM w' g l' t'
  ent : ents l' t' = (ents l t).take (pos l t key) ++ (key, x) :: (ents l t).drop (pos l t key)
  fp : ∀ y ∈ fps l' t', y ∈ fps l t ∨ w.heap.size ≤ y
  upd : Upd (g :: fps l t) w w'
theorem addR_one {w w' : World} {g l : Nat} {t t' : B} {key : ByteArray} {x : Int} (hgl : g < w.heap.size) (ht : TreeM w g l t) (h : PutR w w' g (some t.bk) (ents l t).length (nods l t) l t none key x t' none) {w2 : World} (u : w'.grownBy w2 (some g)) (hT : Blk w2 g 55 (tC (some t.bk) ((ents l t).length + 1) (nods l t'))) : AddR w w2 g l t key x l t' := by
  have hp := pos_le l t key
  have he : ents l t' = (ents l t).take (pos l t key) ++ (key, x) :: (ents l t).drop (pos l t key) := by simpa using h.ent
  have hgn : g ∉ fps l t' := fun q => by
    rcases h.fp g (by simp [q]) with q | q
    · exact ht.gn q
    · omega
  have hS : ∀ x ∈ fps l t', x ∉ [g] := fun x hx e => hgn (by rw [← List.mem_singleton.1 e]; exact hx)
  refine ⟨⟨?_, (by simpa using h.mem : Mem w' l t' none 0).upd (Upd.of_by u) hS, h.fit, ?_, by simpa using h.nodup, hgn⟩, he, fun y hy => h.fp y (by simp [hy]), h.upd.trans (Upd.of_by u) (by simp)⟩
  · rw [h.bk, he]
    have e : ((ents l t).take (pos l t key) ++ (key, x) :: (ents l t).drop (pos l t key)).length = (ents l t).length + 1 := by simp; omega
    rw [e]; exact hT
  · have := h.cnt rfl
    have h2 := ht.top
    split at h2 <;> rename_i hl
    · rw [if_pos hl]; omega
    · rw [if_neg hl]; omega
theorem addR_two {w w' w2 w3 : World} {g l rb : Nat} {t t' q : B} {key : ByteArray} {x : Int} (hgl : g < w.heap.size) (ht : TreeM w g l t) (h : PutR w w' g (some t.bk) (ents l t).length (nods l t) l t none key x t' (some q)) (u2 : Upd [g] w' w2) (hM : Mem w2 (l + 1) (.nd rb [(t'.lt0, t'), (q.lt0, q)]) none 0) (hrb : w'.heap.size ≤ rb) (u : w2.grownBy w3 (some g))
    (hT : Blk w3 g 55 (tC (some rb) ((ents l t).length + 1) (nods l t' + nods l q + 1))) : AddR w w3 g l t key x (l + 1) (.nd rb [(t'.lt0, t'), (q.lt0, q)]) := by
  have hp := pos_le l t key
  have he : ents (l + 1) (.nd rb [(t'.lt0, t'), (q.lt0, q)]) = (ents l t).take (pos l t key) ++ (key, x) :: (ents l t).drop (pos l t key) := by
    have := h.ent
    simpa [ents] using this
  have ef : fps (l + 1) (.nd rb [(t'.lt0, t'), (q.lt0, q)]) = rb :: (fps l t' ++ fps l q) := by simp [fps]
  have hfp : ∀ y ∈ fps l t' ++ fps l q, y ∈ fps l t ∨ w.heap.size ≤ y := by simpa using h.fp
  have hlt : ∀ y ∈ fps l t' ++ fps l q, y < w'.heap.size := fun y hy => (List.mem_append.1 hy).elim (h.mem.lt y) ((h.memr q rfl).lt y)
  have hgn : g ∉ fps (l + 1) (.nd rb [(t'.lt0, t'), (q.lt0, q)]) := by
    rw [ef]
    intro e
    rcases List.mem_cons.1 e with e | e
    · have := h.upd.size; omega
    · rcases hfp g e with e | e
      · exact ht.gn e
      · omega
  have hS : ∀ x ∈ fps (l + 1) (.nd rb [(t'.lt0, t'), (q.lt0, q)]), x ∉ [g] := fun x hx e => hgn (by rw [← List.mem_singleton.1 e]; exact hx)
  obtain ⟨f1, f2, f3⟩ := h.fitr q rfl
  refine ⟨⟨?_, hM.upd (Upd.of_by u) hS, ?_, by rw [if_neg (by omega)]; simp [B.cnt, B.ss], ?_, hgn⟩, he, ?_, (h.upd.trans u2 (by simp)).trans (Upd.of_by u) (by simp)⟩
  · rw [he]
    have e : ((ents l t).take (pos l t key) ++ (key, x) :: (ents l t).drop (pos l t key)).length = (ents l t).length + 1 := by simp; omega
    have e2 : nods (l + 1) (.nd rb [(t'.lt0, t'), (q.lt0, q)]) = nods l t' + nods l q + 1 := by simp [nods]; omega
    rw [e, e2]; exact hT
  · intro p hp
    simp only [List.mem_cons, List.not_mem_nil, or_false] at hp
    rcases hp with rfl | rfl
    · exact ⟨h.fit, f3, rfl⟩
    · exact ⟨f1, f2, rfl⟩
  · rw [ef, List.nodup_cons]
    exact ⟨fun e => by have := hlt rb e; omega, by simpa using h.nodup⟩
  · rw [ef]
    intro y hy
    rcases List.mem_cons.1 hy with rfl | hy
    · exact .inr (Nat.le_trans h.upd.size hrb)
    · exact hfp y hy
set_option maxRecDepth 8000 in
set_option maxHeartbeats 1000000 in
theorem add_any (g l : Nat) (t : B) (key : ByteArray) (x : Int) (w : World) (ht : TreeM w g l t) (hn : (ents l t).length < 100000000) (hnd : nods l t + l + 2 < 1000000000) :
    Calls Try.prog 27 #[.pointer (some ⟨g, 0, none⟩), .agg (slC ⟨key, x, none⟩).toArray] w fun e w' => e = .returned (.tuple #[]) ∧ Hid (∃ l' t', AddR w w' g l t key x l' t') := by
  obtain ⟨s, HSL⟩ : ∃ s : Sl, Hid ((⟨key, x, none⟩ : Sl) = s) := ⟨_, rfl⟩
  obtain ⟨tb, Htb⟩ : ∃ tb, Hid (t.bk = tb) := ⟨_, rfl⟩
  obtain ⟨n, Hn⟩ : ∃ n, Hid ((ents l t).length = n) := ⟨_, rfl⟩
  obtain ⟨nd, Hnd⟩ : ∃ nd, Hid (nods l t = nd) := ⟨_, rfl⟩
  rw [Hn.out] at hn
  rw [Hnd.out] at hnd
  have HT : Hid (Blk w g 55 (tC (some tb) n nd)) := by have := ht.tree; rw [Htb.out, Hn.out, Hnd.out] at this; exact this
  have HTM : Hid (∀ W, Upd [] w W → TreeM W g l t) := fun W u => ht.upd u (by simp) (by simp)
  have hgl := ht.tree.lt
  have HOK := ht.ok
  have HPut : Hid (∀ W, Upd [] w W → Calls Try.prog 45 #[.pointer (some ⟨g, 0, none⟩), .pointer (some ⟨tb, 0, none⟩), .agg (slC s).toArray] W fun e w' => ∃ t' r, e = .returned (pt (r.map B.bk)) ∧ Hid (PutR W w' g (some t.bk) (ents l t).length (nods l t) l t none key x t' r)) := fun W u => by
    have h := HTM.out W u
    rw [← HSL.out, ← Htb.out]
    exact put_any l t none g (some t.bk) (ents l t).length (nods l t) key x W (by rw [Hnd.out]; omega) h.tree h.mem h.fit HOK.ne h.nodup h.gn
  rw [HSL.out]
  clear ht HOK
  go_enter Try.func27, Try.ntmps27
  go_wp2_with (refine al_box rfl 60 (.tmp 1) rfl (slC s) rfl ?_)
  intro g3 w1 l1 B1 G0
  have HT1 : Hid (Blk w1 g 55 (tC (some tb) n nd)) := HT.out.kept G0 (by simp)
  have HU : Hid (Upd [] w w1) := Upd.of_none _ G0
  have HB3 : Hid (Blk w1 g3 60 (slC s)) := B1
  have c0 : w1.cell? ⟨g, 0, none⟩ = some (.pointer (some ⟨tb, 0, none⟩)) := HT1.out.cell 0
  clear G0 B1 HT
  obtain ⟨C, hC⟩ : ∃ C : World → Prop, C = fun W => Below w1.heap.size w1 W := ⟨_, rfl⟩
  have F1 : Hid (∀ W, C W → W.cell? ⟨g, 0, none⟩ = some (.pointer (some ⟨tb, 0, none⟩))) := fun W hW => by rw [hC] at hW; exact (HT1.out.below hW HT1.out.lt).cell 0
  have F2 : Hid (∀ W, C W → W.rangeAt g3 0 (slC s)) := fun W hW => by rw [hC] at hW; exact (HB3.out.below hW HB3.out.lt).all
  have CG : Hid (∀ w w', C w → Grow w w' → C w') := fun W W' h1 h2 => by rw [hC] at h1 ⊢; exact h1.trans (h2.mono h1.size)
  have CE : Hid (∀ W, C W → Below w1.heap.size w1 W) := fun W h => by rw [hC] at h; exact h
  have C0 : Hid (C { w1 with drawn := w1.drawn + 1 }) := by rw [hC]; exact Below.drew (Below.refl _ _)
  clear hC
  have FU : Hid (∀ W, C W → Upd [] w W) := fun W hW => HU.out.trans (Upd.of_below [] (CE.out W hW)) (by simp)
  go_wp2_with fail
  refine region_grow [6] (by kernel_rfl) ?_
  have hCp : ∀ p : Prop, (∀ W, C W → p) ↔ p := fun p => ⟨fun h => h _ C0.out, fun h _ _ => h⟩
  generalize ({ w1 with drawn := w1.drawn + 1 } : World) = y0 at *
  refine segR 2 [0, 1, 2, 3, 4, 5] rfl (by kernel_rfl) whole_blind CG.out C0.out (by kernel_rfl) ?_
  change wpQuiet _ _ _ _ (_ :: _ :: _ :: _ :: _ :: _ :: []) _
  repeat (first
    | go_big_quiet_skip
    | (go_big_quiet_want
       first
       | (refine q_cell 53 (.inr (.inr rfl)) (.tmp 18) rfl g 0 rfl _ F1.out ?_
          simp only [Act.put, List.setIfInBounds_toArray, List.set_cons_zero, List.set_cons_succ]
          go_big_quiet_on)
       | (refine q_load 60 (.tmp 3) rfl g3 0 rfl (slC s) _ F2.out Try.underlying60 rfl (sSl s) ?_
          simp only [Act.put, List.setIfInBounds_toArray, List.set_cons_zero, List.set_cons_succ]
          go_big_quiet_on)
       | (go_big_quiet_op
          go_big_quiet_on)))
  refine wpQuiet_nil ?_
  refine one_ofR 1 rfl [6] (by kernel_rfl) (by simp) fun j hj => ?_
  obtain rfl := List.mem_singleton.1 hj
  refine ⟨_, rfl, (by rfl), fun y1 hy1 K hK => ?_⟩
  have C1 : Hid (C y1) := CG.out _ _ C0.out hy1
  clear hy1
  refine oper_calls 45 _ _ rfl #[.pointer (some ⟨g, 0, none⟩), .pointer (some ⟨tb, 0, none⟩), .agg (slC s).toArray] (by rw [List.map_toArray]; rfl) (enters Try.func45 (by kernel_rfl) rfl) (fun v w' => ∃ t' r, v = pt (r.map B.bk) ∧ Hid (PutR y1 w' g (some t.bk) (ents l t).length (nods l t) l t none key x t' r)) ((HPut.out y1 (FU.out _ C1.out)).mono (by rintro e w' ⟨t', r, rfl, h⟩; exact ⟨_, rfl, t', r, rfl, h⟩)) ?_
  rintro v w5 ⟨t', r, rfl, H⟩
  refine hK _ _ (.inl (by simp)) ?_
  clear hK K
  simp only [Act.put, List.setIfInBounds_toArray, List.set_cons_zero, List.set_cons_succ]
  have C1E := CE.out _ C1.out
  have HU5 : Hid (Upd [] w y1) := FU.out _ C1.out
  have HP5 : Hid (PutR y1 w5 g (some t.bk) (ents l t).length (nods l t) l t none key x t' r) := H.out
  clear C0 C1 C1E hCp CE CG
  clear F1 F2 FU H HT1 HB3 HU HPut
  have hCp : ∀ p : Prop, (∀ W, Anyw W → p) ↔ p := fun p => anyw_p w p
  refine loneR (C := Anyw) (i := 7) 0 rfl (by kernel_rfl) rfl rfl (fun _ _ _ _ => trivial) trivial ?_
  repeat (first
    | go_big_quiet_skip
    | (go_big_quiet_want
       first
       | (go_big_quiet_op
          go_big_quiet_on)))
  refine wpQuiet_nil ?_
  clear hCp
  refine doneR (by kernel_rfl) fun y6 hy => ?_
  have HP6 : Hid (PutR w y6 g (some t.bk) (ents l t).length (nods l t) l t none key x t' r) := (HP5.out.last hy).base HU5.out
  clear hy HP5 HU5
  have HT0 : Hid (TreeM w g l t) := HTM.out w (Upd.refl _ _)
  clear HTM
  cases r with
  | none =>
    simp only [pt, Option.map_none]
    obtain ⟨nd', h1, h2, h3⟩ := HP6.out.tree
    have hnd' : nd' = nods l t' := by simp only [Option.elim_none] at h2; omega
    subst hnd'
    rw [Htb.out, Hn.out] at h1
    have HT6 : Hid (Blk y6 g 55 (tC (some tb) n (nods l t'))) := h1
    have c1 : y6.cell? ⟨g, 1, none⟩ = some (.int .i64 (n : Int)) := HT6.out.cell 1
    have e1 : wrap64 ((n : Int) + 1) = (n : Int) + 1 := wrap_small (n := n + 1) (by omega) (by omega)
    clear h1 h2 h3
    go_wp2_with (refine st_one rfl 3 (.tmp 33) (.tmp 31) rfl g 1 55 _ (.int .i64 ((n : Int) + 1)) rfl (by first | rfl | exact congrArg _ e1) rfl rfl (by show 1 < 3; decide) HT6.out s3' ?_)
    intro w7 B7 G7
    have HE : Hid (∃ l' t', AddR w w7 g l t key x l' t') := ⟨l, t', addR_one hgl HT0.out HP6.out G7 (by rw [Htb.out, Hn.out]; exact B7)⟩
    clear B7 G7 HP6 HT6 c1 e1
    go_wp2
    go_end0
    exact ⟨rfl, HE.out⟩
  | some q =>
    simp only [pt, Option.map_some]
    obtain ⟨nd', h1, h2, h3⟩ := HP6.out.tree
    obtain ⟨qb, hqb⟩ : ∃ qb, q.bk = qb := ⟨_, rfl⟩
    have K := raise_any g l t' q (ents l t).length nd' (by rw [Hnd.out] at h3; omega) (by omega) y6 (by rw [HP6.out.bk]; exact h1) HP6.out.mem (HP6.out.memr q rfl) HP6.out.ne (by have := (HP6.out.fitr q rfl).2.1; omega) (fun e => by
      rcases HP6.out.fp g (by simpa using e) with e | e
      · exact HT0.out.gn e
      · omega)
    rw [hqb, Hn.out] at K
    rw [hqb]
    have HQ : Hid (nd' = nods l t' + nods l q) := by show _ = _; simp only [Option.elim_some] at h2; omega
    clear h1 h2 h3 hqb
    go_wp2_with fail
    refine K.mono ?_
    clear K
    rintro e w7 ⟨rfl, H⟩
    obtain ⟨rb, h1, h2, h3, h4⟩ := H.out
    have HT7 : Hid (Blk w7 g 55 (tC (some rb) n (nd' + 1))) := h1
    have c1 : w7.cell? ⟨g, 1, none⟩ = some (.int .i64 (n : Int)) := HT7.out.cell 1
    have e1 : wrap64 ((n : Int) + 1) = (n : Int) + 1 := wrap_small (n := n + 1) (by omega) (by omega)
    have HR7 : Hid (Mem w7 (l + 1) (.nd rb [(t'.lt0, t'), (q.lt0, q)]) none 0 ∧ y6.heap.size ≤ rb ∧ Upd [g] y6 w7) := ⟨h2, h3, h4⟩
    clear h1 h2 h3 h4 H
    go_wp2_with (refine st_one rfl 3 (.tmp 33) (.tmp 31) rfl g 1 55 _ (.int .i64 ((n : Int) + 1)) rfl (by first | rfl | exact congrArg _ e1) rfl rfl (by show 1 < 3; decide) HT7.out s3' ?_)
    intro w8 B8 G8
    have HE : Hid (∃ l' t', AddR w w8 g l t key x l' t') := ⟨l + 1, _, addR_two hgl HT0.out HP6.out HR7.out.2.2 HR7.out.1 HR7.out.2.1 G8 (by rw [Hn.out, ← HQ.out]; exact B8)⟩
    clear B8 G8 HP6 HT7 HR7 c1 e1 HQ
    go_wp2
    go_end0
    exact ⟨rfl, HE.out⟩
#print axioms add_any
end Go.Proofs.Yteokjfpppmnebaa
