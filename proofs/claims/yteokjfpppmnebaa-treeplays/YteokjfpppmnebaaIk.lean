/-
  TreeMany.
-/
import Derived.Test.YteokjfpppmnebaaIj
import Derived.Test.YteokjfpppmnebaaPq
import Derived.Test.YteokjfpppmnebaaNk
namespace Go.Proofs.Yteokjfpppmnebaa
open Go.RowKit Go.Shelf
set_option linter.unusedVariables false
set_option linter.unusedSimpArgs false
attribute [local go_sem] Oper.semAt_some
attribute [local go_sem] bo_geq bo_leq
theorem TreeM.sizes {w : World} {g l : Nat} {t : B} (h : TreeM w g l t) : Ok l t ∧ (fps l t).Nodup := ⟨h.ok, h.nodup⟩
theorem range_S (w0 : World) (g : Nat) (T : Option (Nat × B)) (M : List E) (h : TreeS w0 g T M) (hsz : ∀ e ∈ M, e.1.size ≤ 281474976710656) (b3 b4 b5 : Nat) (frm to : ByteArray) (hc : Cap w0 b3 b4 b5 (some ⟨g, 0, none⟩) frm to) (N : Nat → Prop)
    (hN : ∀ x ∈ fpO T, N x) (hNg : N g) (hN3 : N b3) (hN4 : N b4) (hN5 : N b5) : ∃ r, (r = g ∨ r ∈ fpO T) ∧ Gives 34 #[.pointer (some ⟨b3, 0, none⟩), .pointer (some ⟨b4, 0, none⟩), .pointer (some ⟨b5, 0, none⟩)] r N w0 (rngL M frm to) := by
  obtain ⟨tm, rfl, hs⟩ := h
  cases T with
  | none => exact ⟨g, .inl rfl, range_givesN g g b3 b4 b5 frm to N w0 tm hc hNg hN3⟩
  | some lt =>
    obtain ⟨l, t⟩ := lt
    have ht : TreeM w0 g l t := tm
    refine ⟨t.bk, .inr (bk_fps l t), range_gives g l t _ _ b3 b4 b5 frm to N w0 ht.tree ht.mem ht.ok ht.nodup hsz hc hN hNg hN3 hN4 hN5 _ ?_⟩
    show rngL (ents l t) frm to = _
    rw [pos_lb ht.ok hs]
    exact (rng_eq hs frm to).symm
theorem back_S (w0 : World) (g : Nat) (T : Option (Nat × B)) (M : List E) (h : TreeS w0 g T M) (hsz : ∀ e ∈ M, e.1.size ≤ 281474976710656) (b3 b4 b5 : Nat) (frm to : ByteArray) (hc : Cap w0 b3 b4 b5 (some ⟨g, 0, none⟩) frm to) (N : Nat → Prop)
    (hN : ∀ x ∈ fpO T, N x) (hNg : N g) (hN3 : N b3) (hN4 : N b4) (hN5 : N b5) : ∃ r, (r = g ∨ r ∈ fpO T) ∧ Gives 38 #[.pointer (some ⟨b3, 0, none⟩), .pointer (some ⟨b4, 0, none⟩), .pointer (some ⟨b5, 0, none⟩)] r N w0 (rngL M frm to).reverse := by
  obtain ⟨tm, rfl, hs⟩ := h
  cases T with
  | none => exact ⟨g, .inl rfl, back_givesN g g b3 b4 b5 frm to N w0 tm hc hNg hN3⟩
  | some lt =>
    obtain ⟨l, t⟩ := lt
    have ht : TreeM w0 g l t := tm
    exact ⟨t.bk, .inr (bk_fps l t), back_gives g l t _ _ b3 b4 b5 frm to N w0 ht.tree ht.mem ht.ok ht.nodup hsz hc hN hNg hN3 hN4 hN5 _ (back_eq frm to ht.ok hs).symm⟩
def zz (i : Nat) (s : Int) : Int := bits .and .i64 (wrap64 ((i : Int) * s)) 1048575
theorem putL_len {M : List E} {k : ByteArray} {old : Int} {is : Bool} (h : GetL M k old is) (x : Int) : (putL M k x is).length ≤ M.length + 1 := by
  rcases h with ⟨rfl, h⟩ | ⟨rfl, h, _⟩
  · simp [putL]
  · have := lb_le (ksL M) k
    simp [putL]
    omega
theorem TreeS.glt {w : World} {g : Nat} {T : Option (Nat × B)} {M : List E} (h : TreeS w g T M) : g < w.heap.size := by
  have ht := h.tm
  cases T with
  | none => exact Blk.lt ht
  | some x => exact (TreeM.tree ht).lt
theorem TreeS.flt {w : World} {g : Nat} {T : Option (Nat × B)} {M : List E} (h : TreeS w g T M) : ∀ y ∈ fpO T, y < w.heap.size := by
  have ht := h.tm
  cases T with
  | none => simp [fpO]
  | some x => exact Mem.lt (TreeM.mem ht)
theorem TreeS.kp {N : Nat → Prop} {w w' : World} {g : Nat} {T : Option (Nat × B)} {M : List E} (h : TreeS w g T M) (u : Kp N w w') (hg : N g) (hf : ∀ y ∈ fpO T, N y) : TreeS w' g T M := by
  refine ⟨?_, h.ent, h.srt⟩
  have ht := h.tm
  cases T with
  | none => exact Blk.kp ht u hg
  | some x =>
    have hm : TreeM w g x.1 x.2 := ht
    exact ⟨hm.tree.kp u hg, hm.mem.kp u hf, hm.fit, hm.top, hm.nodup, hm.gn⟩
theorem sbool : (Try.prog.info? 4).map (·.size) = some 1 := by kernel_rfl
def lastk (pre : List E) : ByteArray := match pre.getLast? with
  | none => ⟨#[]⟩
  | some e => e.1
theorem lastk_lt {pre : List E} {x : E} {post : List E} (hp : pre.isEmpty = false) (hs : Srt (ksL (pre ++ x :: post))) : blt (lastk pre) x.1 = true := by
  unfold lastk
  cases hg : pre.getLast? with
  | none => rw [List.getLast?_eq_none_iff] at hg; subst hg; cases hp
  | some e =>
    have hm : e ∈ pre := List.mem_of_getLast? hg
    unfold Srt ksL at hs
    rw [List.map_append, List.map_cons, List.pairwise_append] at hs
    exact hs.2.2 e.1 (List.mem_map.2 ⟨e, hm, rfl⟩) x.1 (by simp)
theorem rng_all (M : List E) : rngL M ⟨#[]⟩ ⟨#[]⟩ = M := by
  unfold rngL
  refine List.filter_eq_self.2 fun e _ => ?_
  have h : ∀ l : List UInt8, Op.bytesLess l [] = false := fun l => by cases l <;> rfl
  have h0 : (⟨#[]⟩ : ByteArray).toList = [] := by rw [ByteArray.toList_eq]
  have h2 : blt e.1 ⟨#[]⟩ = false := by unfold blt; rw [h0]; exact h _
  rw [h2, h0]
  rfl
theorem blk_ownT {X Y : World} {row : Option Nat} {r B b : Nat} {t : TypeId} {vs : List Value} (h : Blk X b t vs) (q : X.grownBy Y row) (hq : ∀ k, row = some k → k = r ∨ (B ≤ k ∧ ∃ o : Obj, X.heap[k]? = some o ∧ o.isCells = false)) (hne : b ≠ r) : Blk Y b t vs := by
  refine h.kept q (fun e => ?_)
  rcases hq b e.symm with rfl | ⟨_, o, ho, hc⟩
  · exact hne rfl
  · unfold Blk at h
    rw [h] at ho
    injection ho with ho
    subst ho
    cases hc
theorem word_set {N : Nat → Prop} {B hi b o : Nat} {W : World} (v : Value) (hb : b < B) (hn : ¬ N b) : Word N B hi W (W.setCell ⟨b, o, none⟩ v) :=
  ⟨KeepsFrom.of_grownBy (grown_setCell W ⟨b, o, none⟩ v) (fun j e => by cases e; exact hb), Kp.of_grown (grown_setCell W ⟨b, o, none⟩ v) (fun k e h => by cases e; exact hn h), fun k h1 _ => Below.heap_setCell _ _ _ _ (by show k ≠ b; omega)⟩
theorem Word.trans {N : Nat → Prop} {B hi : Nat} {X Y Z : World} (h : Word N B hi X Y) (k : Word N B hi Y Z) : Word N B hi X Z :=
  ⟨h.from'.trans k.from', h.below.trans k.below, fun i h1 h2 => (k.mid i h1 h2).trans (h.mid i h1 h2)⟩
/-- A tree that the call has made, its variables' blocks ahead of it. -/
structure MI (w W : World) (g : Nat) (T : Option (Nat × B)) (M : List E) : Prop where
  ts : TreeS W g T M
  fp : ∀ y ∈ fpO T, w.heap.size < y
  hg : w.heap.size < g
  res : Blk W w.heap.size 4 [.bool false]
  bl : Below w.heap.size w W
theorem MI.step {w W W' : World} {g : Nat} {T T' : Option (Nat × B)} {M M' : List E} (h : MI w W g T M) (t : TreeS W' g T' M') (hf : ∀ y ∈ fpO T', y ∈ fpO T ∨ W.heap.size ≤ y) (u : Upd (g :: fpO T) W W') : MI w W' g T' M' := by
  have hnot : ∀ x ∈ g :: fpO T, w.heap.size < x := fun x hx => by
    rcases List.mem_cons.1 hx with rfl | hx
    · exact h.hg
    · exact h.fp x hx
  refine ⟨t, fun y hy => (hf y hy).elim (h.fp y) (fun q => Nat.lt_of_lt_of_le h.res.lt q), h.hg, h.res.upd u (fun q => absurd (hnot _ q) (Nat.lt_irrefl _)), Upd.below h.bl u (Nat.le_refl _) (fun x hx => Nat.le_of_lt (hnot x hx))⟩
theorem MI.below {w W W' : World} {g : Nat} {T : Option (Nat × B)} {M : List E} (h : MI w W g T M) (b : Below W.heap.size W W') : MI w W' g T M := by
  have u : Upd [] W W' := Upd.of_below [] b
  exact ⟨h.ts.upd u (by simp) (by simp), h.fp, h.hg, h.res.upd u (by simp), Upd.below h.bl u (Nat.le_refl _) (by simp)⟩
/-- The same, behind a loop: its block for deferred calls lies there. -/
def SI (w W : World) (g : Nat) (T : Option (Nat × B)) (M : List E) (D : Nat) : Prop := MI w W g T M ∧ W.heap[D]? = some (.deferred (some [])) ∧ D ∉ fpO T ∧ D ≠ g ∧ w.heap.size < D
theorem SI.below {w W W' : World} {g : Nat} {T : Option (Nat × B)} {M : List E} {D : Nat} (h : SI w W g T M D) (b : Below W.heap.size W W') : SI w W' g T M D := ⟨MI.below h.1 b, def_below h.2.1 b, h.2.2⟩
theorem SI.step {w W W' : World} {g : Nat} {T T' : Option (Nat × B)} {M M' : List E} {D : Nat} (h : SI w W g T M D) (t : TreeS W' g T' M') (hf : ∀ y ∈ fpO T', y ∈ fpO T ∨ W.heap.size ≤ y) (u : Upd (g :: fpO T) W W') : SI w W' g T' M' D := by
  have hl : D < W.heap.size := (Array.getElem?_eq_some_iff.1 h.2.1).1
  refine ⟨MI.step h.1 t hf u, ?_, fun q => ?_, h.2.2.2⟩
  · rw [u.block D hl (fun q => by
      rcases List.mem_cons.1 q with q | q
      · exact h.2.2.2.1 q
      · exact h.2.2.1 q)]
    exact h.2.1
  · rcases hf D q with q | q
    · exact h.2.2.1 q
    · omega
theorem delL_len (M : List E) (k : ByteArray) (is : Bool) : (delL M k is).length ≤ M.length := by
  cases is with
  | true => exact List.length_eraseIdx_le _ _
  | false => exact Nat.le_refl _
set_option maxRecDepth 100000 in
set_option maxHeartbeats 2000000 in
theorem many_walk (n step off : Int) (w : World) : Calls Try.prog 5 #[.int .i64 n, .int .i64 step, .int .i64 off] w fun e w' => e = .returned (.bool true) ∧ Hid (Below w.heap.size w w') := by
  have hbad : (n < 1) ∨ (¬ n < 1 ∧ 1500 < n) ∨ (¬ n < 1 ∧ ¬ 1500 < n ∧ step < 1) ∨ (¬ n < 1 ∧ ¬ 1500 < n ∧ ¬ step < 1 ∧ 1048576 < step) ∨ (¬ n < 1 ∧ ¬ 1500 < n ∧ ¬ step < 1 ∧ ¬ 1048576 < step ∧ off < 1) ∨ (¬ n < 1 ∧ ¬ 1500 < n ∧ ¬ step < 1 ∧ ¬ 1048576 < step ∧ ¬ off < 1 ∧ 1048576 < off) ∨ (¬ n < 1 ∧ ¬ 1500 < n ∧ ¬ step < 1 ∧ ¬ 1048576 < step ∧ ¬ off < 1 ∧ ¬ 1048576 < off) := by omega
  rcases hbad with h1 | ⟨h1, h2⟩ | ⟨h1, h2, h3⟩ | ⟨h1, h2, h3, h4⟩ | ⟨h1, h2, h3, h4, h5⟩ | ⟨h1, h2, h3, h4, h5, h6⟩ | ⟨h1, h2, h3, h4, h5, h6⟩
  iterate 6
    focus
      have HZ : Hid (Below w.heap.size w (w.alloc (.cells #[.bool false] 4))) := (Below.refl w.heap.size w).alloc (Nat.le_refl _) _
      have HR : Hid (Blk (w.alloc (.cells #[.bool false] 4)) w.heap.size 4 [.bool false]) := blk_new w 4 [.bool false]
      have K := known_any (w.alloc (.cells #[.bool false] 4))
      go_enter Try.func5, Try.ntmps5
      go_wp2_with fail
      refine K.mono ?_
      clear K
      rintro e w1 ⟨rfl, H⟩
      have HR1 : Hid (Blk w1 w.heap.size 4 [.bool false]) := HR.out.below H.out HR.out.lt
      have HZ1 : Hid (Below w.heap.size w w1) := HZ.out.trans (H.out.mono HZ.out.size)
      have c4 : w1.cell? ⟨w.heap.size, 0, none⟩ = some (.bool false) := HR1.out.cell 0
      have f4 : w1.frozen? ⟨w.heap.size, 0, none⟩ = false := HR1.out.frozen 0
      clear H HR HZ
      go_wp2
      exact bodyPost_ret (res_one rfl _ w.heap.size (.bool true) rfl ((HR1.out.set 0 (.bool true)).cell 0)) rfl ⟨rfl, HZ1.out.grown (grown_setCell _ _ _) HZ1.out.size (fun k e => by injection e with e; exact Nat.le_of_eq e)⟩
  obtain ⟨nm, hnm⟩ := Classical.skolem.1 name_ex
  have HNM : Hid (∀ z : Int, (nm z).size ≤ 281474976710656 ∧ ∀ w, Calls Try.prog 19 #[.int .i64 z] w fun e w' => e = .returned (.string (nm z)) ∧ Hid (Below w.heap.size w w')) := hnm
  clear hnm
  have HZ : Hid (Below w.heap.size w (w.alloc (.cells #[.bool false] 4))) := (Below.refl w.heap.size w).alloc (Nat.le_refl _) _
  have HR : Hid (Blk (w.alloc (.cells #[.bool false] 4)) w.heap.size 4 [.bool false]) := blk_new w 4 [.bool false]
  obtain ⟨nn, rfl⟩ : ∃ nn : Nat, n = (nn : Int) := ⟨n.toNat, by omega⟩
  refine (callsIn_wide (n := 3)).1 ?_
  refine callsIn_of_wp_marks Try.func5 rfl trivial ?_ rfl
  simp only [Try.ntmps5, List.size_toArray, List.length_cons, List.length_nil, Nat.reduceAdd, Nat.reduceSub, Array.replicate_succ, Array.replicate_zero, List.push_toArray, List.append_toArray, List.nil_append, List.cons_append]
  refine wpIn_wide.2 ?_
  have K := new_any (w.alloc (.cells #[.bool false] 4))
  go_wp2_with fail
  refine K.mono ?_
  clear K
  rintro e w1 ⟨g, rfl, H⟩
  have hM0 : MI w w1 g none [] := by
    obtain ⟨q1, q2, q3⟩ := H.out
    have hs : w.heap.size < g := by have := HR.out.lt; omega
    exact ⟨⟨q1, rfl, List.Pairwise.nil⟩, by simp [fpO], hs, HR.out.kept q3 (by simp), HZ.out.grown q3 HZ.out.size (by simp)⟩
  have HM0 : Hid (MI w w1 g none []) := hM0
  have hnn : nn ≤ 1500 := by omega
  clear hM0 H HZ HR
  go_wp2_with fail
  go_loopw [9] (fun iv wr => ∃ (i : Nat) (T : Option (Nat × B)) (M : List E), i ≤ nn ∧ iv = .int .i64 (i : Int) ∧ Hid (MI w wr g T M ∧ M.length ≤ i ∧ ∀ a ∈ ksL M, ∃ j, j < i ∧ a = nm (zz j step))) (fun iv _ => nn - (intOf iv).toNat)
  case atStart => exact ⟨0, none, [], Nat.zero_le _, rfl, HM0.out, by simp, by simp⟩
  case round =>
    obtain ⟨i, T, M, hi, rfl, HR⟩ := hrel
    clear HM0
    by_cases hin : i < nn
    · have hin' : (i : Int) < (nn : Int) := by omega
      go_wp2_with fail
      refine ((HNM.out _).2 _).mono ?_
      rintro e w2 ⟨rfl, H2⟩
      have HZZ : Hid (∀ j : Nat, zz j step = bits .and .i64 (wrap64 ((j : Int) * step)) 1048575) := fun _ => rfl
      rw [← HZZ.out i]
      have hts : TreeS w2 g T M := (HR.out.1.below H2.out).ts
      obtain ⟨old, is, hG⟩ := getL_ex hts.srt (nm (zz i step))
      have K := put_M w2 g T M (nm (zz i step)) (HNM.out _).1 (i : Int) old is hG hts (by have := HR.out.2.1; omega)
      have HG : Hid (GetL M (nm (zz i step)) old is) := hG
      have HR2 : Hid (MI w w2 g T M ∧ M.length ≤ i ∧ ∀ a ∈ ksL M, ∃ j, j < i ∧ a = nm (zz j step)) := ⟨HR.out.1.below H2.out, HR.out.2⟩
      clear hts hG HR H2 HZZ
      go_wp2_with fail
      refine K.mono ?_
      clear K
      rintro e w3 ⟨rfl, H3⟩
      have HE : Hid (∃ T' M', MI w w3 g T' M' ∧ M'.length ≤ i + 1 ∧ ∀ a ∈ ksL M', ∃ j, j < i + 1 ∧ a = nm (zz j step)) := by
        obtain ⟨T', q1, q2, q3⟩ := H3.out
        refine ⟨T', _, HR2.out.1.step q1 q2 q3, ?_, fun a ha => ?_⟩
        · have := putL_len HG.out (i : Int)
          have := HR2.out.2.1
          omega
        · rcases (putL_mem HG.out _ a).1 ha with rfl | ha
          · exact ⟨i, by omega, rfl⟩
          · obtain ⟨j, hj, e⟩ := HR2.out.2.2 a ha
            exact ⟨j, by omega, e⟩
      clear H3 HR2 HG
      go_wp2
      obtain ⟨T', M', hE⟩ := HE.out
      go_roundw
      case rel => exact ⟨i + 1, T', M', by omega, by go_num, hE⟩
      case measure => simp [intOf]; omega
    · obtain rfl : i = nn := by omega
      have hl : M.length ≤ 1500 := by have := HR.out.2.1; omega
      have HKS : Hid ((∀ a ∈ ksL M, ∃ j, j < i ∧ a = nm (zz j step)) ∧ M.length ≤ 1500) := ⟨HR.out.2.2, hl⟩
      have HM1 : Hid (MI w wr g T M) := HR.out.1
      have hl2 : (entO T).length < 100000000 := by rw [HM1.out.ts.ent]; omega
      have K := shaped_any g T wr HM1.out.ts.tm hl2
      clear HR hl2
      go_wp2_with fail
      refine K.mono ?_
      clear K
      rintro e w2 ⟨rfl, H2⟩
      have HM2 : Hid (MI w w2 g T M) := HM1.out.below H2.out
      clear HM1 H2
      go_wp2_with (refine al_zero rfl 9 rfl [.string ⟨#[]⟩] (by kernel_rfl) ?_)
      intro b10 w3 l3 B3 G3
      go_wp2_with (refine al_zero rfl 4 rfl [.bool false] (by kernel_rfl) ?_)
      intro b11 w4 l4 B4 G4
      have n1 : b10 ≠ b11 := by have := B3.lt; omega
      have B3 := B3.kept G4 (by simp)
      have HB4 : Hid (Below w2.heap.size w2 w4) := ((Below.refl w2.heap.size w2).grown G3 (Nat.le_refl _) (by simp)).grown G4 G3.size (by simp)
      have m11 : w2.heap.size ≤ b11 := Nat.le_trans G3.size l4
      clear G3 G4 l4
      go_wp2_with (refine st_one rfl 9 (.tmp 10) (.const (.string ⟨#[]⟩)) rfl b10 0 9 [.string ⟨#[]⟩] (.string ⟨#[]⟩) rfl rfl rfl rfl (by show 0 < 1; decide) B3 s9' ?_)
      intro w5 B5 G5
      have B4 := B4.kept G5 (by simpa using (Ne.symm n1))
      have HB5 : Hid (Below w2.heap.size w2 w5) := HB4.out.grown G5 HB4.out.size (fun k e => by injection e with e; omega)
      clear B3 G5 HB4
      go_wp2_with (refine st_one rfl 4 (.tmp 11) (.const (.bool true)) rfl b11 0 4 [.bool false] (.bool true) rfl rfl rfl rfl (by show 0 < 1; decide) B4 sbool ?_)
      intro w6 B6 G6
      have B5 := B5.kept G6 (by simpa using n1)
      have HB6 : Hid (Below w2.heap.size w2 w6) := HB5.out.grown G6 HB5.out.size (fun k e => by injection e with e; omega)
      clear B4 G6 HB5
      go_wp2_with (refine al_zero rfl 3 rfl [.int .i64 0] (by kernel_rfl) ?_)
      intro b12 w7 l7 B7 G7
      have n2 : b10 ≠ b12 := by have := B5.lt; omega
      have n3 : b11 ≠ b12 := by have := B6.lt; omega
      have m12 : w2.heap.size ≤ b12 := Nat.le_trans HB6.out.size l7
      have B5 := B5.kept G7 (by simp)
      have B6 := B6.kept G7 (by simp)
      have HB7 : Hid (Below w2.heap.size w2 w7) := HB6.out.grown G7 HB6.out.size (by simp)
      clear G7 HB6 l7
      go_wp2_with (refine st_one rfl 3 (.tmp 12) (.const (.int .i64 0)) rfl b12 0 3 [.int .i64 0] (.int .i64 0) rfl rfl rfl rfl (by show 0 < 1; decide) B7 s3' ?_)
      intro w8 B8 G8
      have HV : Hid (Blk w8 b10 9 [.string ⟨#[]⟩] ∧ Blk w8 b11 4 [.bool true] ∧ Blk w8 b12 3 [.int .i64 0]) := ⟨B5.kept G8 (by simpa using n2), B6.kept G8 (by simpa using n3), B8⟩
      have HB8 : Hid (Below w2.heap.size w2 w8) := HB7.out.grown G8 HB7.out.size (fun k e => by injection e with e; omega)
      have HM8 : Hid (MI w w8 g T M) := HM2.out.below HB8.out
      have HS2 : Hid (g < w2.heap.size ∧ ∀ y ∈ fpO T, y < w2.heap.size) := ⟨HM2.out.ts.glt, HM2.out.ts.flt⟩
      clear B5 B6 B7 B8 G8 HB7 HB8 HM2
      have K := range_any (some ⟨g, 0, none⟩) ⟨#[]⟩ ⟨#[]⟩ (by decide) (by decide) w8
      go_wp2_with fail
      refine K.mono ?_
      clear K
      rintro e w9 ⟨b3, b4, b5, rfl, H9⟩
      obtain ⟨hc9, hb9, hb3, hb4, hb5⟩ := H9.out
      have HV9 : Hid (Blk w9 b10 9 [.string ⟨#[]⟩] ∧ Blk w9 b11 4 [.bool true] ∧ Blk w9 b12 3 [.int .i64 0]) := ⟨HV.out.1.below hb9 HV.out.1.lt, HV.out.2.1.below hb9 HV.out.2.1.lt, HV.out.2.2.below hb9 HV.out.2.2.lt⟩
      have HM9 : Hid (MI w w9 g T M) := HM8.out.below hb9
      have hv10 := HV.out.1.lt
      have hv11 := HV.out.2.1.lt
      have hv12 := HV.out.2.2.lt
      obtain ⟨N, hN⟩ : ∃ N : Nat → Prop, N = fun k => k ∈ fpO T ∨ k = g ∨ k = b3 ∨ k = b4 ∨ k = b5 := ⟨_, rfl⟩
      have hNf : ∀ x ∈ fpO T, N x := fun x hx => by rw [hN]; exact .inl hx
      have hNg : N g := by rw [hN]; exact .inr (.inl rfl)
      have hN3 : N b3 := by rw [hN]; exact .inr (.inr (.inl rfl))
      have hN4 : N b4 := by rw [hN]; exact .inr (.inr (.inr (.inl rfl)))
      have hN5 : N b5 := by rw [hN]; exact .inr (.inr (.inr (.inr rfl)))
      have hsz : ∀ e ∈ M, e.1.size ≤ 281474976710656 := fun e he => by
        obtain ⟨j, _, ej⟩ := HKS.out.1 e.1 (List.mem_map.2 ⟨e, he, rfl⟩)
        rw [ej]
        exact (HNM.out _).1
      obtain ⟨r, hr, hgv⟩ := range_S w9 g T M HM9.out.ts hsz b3 b4 b5 ⟨#[]⟩ ⟨#[]⟩ hc9 N hNf hNg hN3 hN4 hN5
      rw [rng_all] at hgv
      have hNlt : ∀ k, N k → k < w9.heap.size := fun k hk => by
        rw [hN] at hk
        rcases hk with h | rfl | rfl | rfl | rfl
        · exact HM9.out.ts.flt k h
        · exact HM9.out.ts.glt
        · exact hc9.t.lt
        · exact hc9.x.lt
        · exact hc9.y.lt
      have hrl : r < w2.heap.size := by
        rcases hr with rfl | h
        · exact HS2.out.1
        · exact HS2.out.2 r h
      have hrw : w.heap.size < r := by
        rcases hr with rfl | h
        · exact HM9.out.hg
        · exact HM9.out.fp r h
      have hnN : ∀ b, w2.heap.size ≤ b → b < w8.heap.size → ¬ N b := fun b h1 h2 h3 => by
        rw [hN] at h3
        have h4 := HS2.out
        rcases h3 with h | rfl | rfl | rfl | rfl
        · have := h4.2 b h; omega
        · omega
        · omega
        · omega
        · omega
      have hnN0 : ¬ N w.heap.size := fun h3 => by
        have h5 := HM9.out.hg
        have h6 := HM8.out.res.lt
        rw [hN] at h3
        rcases h3 with h | h | h | h | h
        · have := HM9.out.fp _ h; omega
        · omega
        · omega
        · omega
        · omega
      have hs8 : w8.heap.size ≤ w9.heap.size := hb9.size
      have hw2 : w.heap.size < w2.heap.size := by have := HS2.out.1; have := HM9.out.hg; omega
      go_wp2_with fail
      -- what the loop's rounds hold
      obtain ⟨IV, hIV⟩ : ∃ IV : List E → World → Prop, IV = fun pre W => Blk W w.heap.size 4 [.bool false] ∧ Blk W b10 9 [.string (lastk pre)] ∧ Blk W b11 4 [.bool pre.isEmpty] ∧ Blk W b12 3 [.int .i64 (pre.length : Int)] ∧ Below w.heap.size w W := ⟨_, rfl⟩
      have hIVo : OwnT r w9.heap.size IV := fun s X Y row hs q hq => by
        rw [hIV] at hs ⊢
        obtain ⟨q1, q2, q3, q4, q5⟩ := hs
        exact ⟨blk_ownT q1 q hq (by omega), blk_ownT q2 q hq (by omega), blk_ownT q3 q hq (by omega), blk_ownT q4 q hq (by omega), q5.grown q q5.size (fun k e => by
          rcases hq k e with rfl | ⟨h, _⟩ <;> omega)⟩
      have hIV0 : IV [] w9 := by rw [hIV]; exact ⟨HM9.out.res, HV9.out.1, HV9.out.2.1, HV9.out.2.2, HM9.out.bl⟩
      have HW1 : Hid (∀ b, b = w.heap.size ∨ b = b10 ∨ b = b11 ∨ b = b12 → b < w9.heap.size ∧ ¬ N b) := fun b hb => by
        rcases hb with rfl | rfl | rfl | rfl
        · exact ⟨by omega, hnN0⟩
        · exact ⟨by omega, hnN _ (by omega) (by omega)⟩
        · exact ⟨by omega, hnN _ (by omega) (by omega)⟩
        · exact ⟨by omega, hnN _ (by omega) (by omega)⟩
      have HAP : Hid (b10 ≠ b11 ∧ b10 ≠ b12 ∧ b11 ≠ b12 ∧ b10 ≠ w.heap.size ∧ b11 ≠ w.heap.size ∧ b12 ≠ w.heap.size) := ⟨n1, n2, n3, by omega, by omega, by omega⟩
      have HL0 : Hid (w.heap.size ≤ b10 ∧ w.heap.size ≤ b11 ∧ w.heap.size ≤ b12) := ⟨by omega, by omega, by omega⟩
      have HIV : Hid (IV = fun pre W => Blk W w.heap.size 4 [.bool false] ∧ Blk W b10 9 [.string (lastk pre)] ∧ Blk W b11 4 [.bool pre.isEmpty] ∧ Blk W b12 3 [.int .i64 (pre.length : Int)] ∧ Below w.heap.size w W) := hIV
      have HSR : Hid (Srt (ksL M)) := HM9.out.ts.srt
      refine (wpIn_wide (n := 3)).1 ?_
      refine range_law (gf := 34) (lb := #[.pointer (some ⟨b3, 0, none⟩), .pointer (some ⟨b4, 0, none⟩), .pointer (some ⟨b5, 0, none⟩)]) rfl (enters Try.func34 (by kernel_rfl) rfl) hgv (by omega) hNlt (Kp.refl _ _) rfl
        (fun _ => IV) (fun _ _ _ _ => False) (fun _ => hIVo) (fun _ _ _ _ _ _ hs _ _ => hs) (fun _ _ => hIV0) ?round ?done ?stop
      case stop => exact fun _ _ _ _ _ _ _ h => h.elim
      case round =>
        intro hh k l pre x W hx
        clear hIV hIVo hIV0 hgv hr hNf hNg hN3 hN4 hN5 hsz hNlt hrl hrw hnN hnN0 hs8 hw2 hN hc9 hb9 hb3 hb4 hb5 hv10 hv11 hv12 HM9 HV9 HM8 HV HS2 H9
        gi_wp2_with fail
        refine ⟨(by first | rfl | trivial), fun W2 _ hI => ?_⟩
        rw [HIV.out] at hI
        obtain ⟨v0, v1, v2, v3, v4⟩ := hI
        obtain ⟨lk, Hlk⟩ : ∃ lk, Hid (lastk pre = lk) := ⟨_, rfl⟩
        rw [Hlk.out] at v1
        have f1 : W2.frozen? ⟨b10, 0, none⟩ = false := v1.frozen 0
        have f2 : W2.frozen? ⟨b11, 0, none⟩ = false := v2.frozen 0
        have f3 : W2.frozen? ⟨b12, 0, none⟩ = false := v3.frozen 0
        have c1 : W2.cell? ⟨b10, 0, none⟩ = some (.string lk) := v1.cell 0
        have c3 : W2.cell? ⟨b12, 0, none⟩ = some (.int .i64 (pre.length : Int)) := v3.cell 0
        have HI2 : Hid (IV pre W2) := by rw [HIV.out]; exact ⟨v0, by rw [Hlk.out]; exact v1, v2, v3, v4⟩
        have hlen : pre.length < 2000 := by
          obtain ⟨post, e⟩ := hx
          have := HKS.out.2
          rw [e] at this
          simp at this
          omega
        have e1 : wrap64 ((pre.length : Int) + 1) = (pre.length : Int) + 1 := wrap_small (n := pre.length + 1) (by omega) (by omega)
        have HFin : Hid (∀ W3, (W3 = ((W2.setCell ⟨b10, 0, none⟩ (.string x.1)).setCell ⟨b11, 0, none⟩ (.bool false)).setCell ⟨b12, 0, none⟩ (.int .i64 ((pre.length : Int) + 1))) → Word N w9.heap.size hh W2 W3 ∧ IV (pre ++ [x]) W3) := by
          rintro W3 rfl
          have a1 := HW1.out b10 (.inr (.inl rfl))
          have a2 := HW1.out b11 (.inr (.inr (.inl rfl)))
          have a3 := HW1.out b12 (.inr (.inr (.inr rfl)))
          have ap := HAP.out
          refine ⟨((word_set _ a1.1 a1.2).trans (word_set _ a2.1 a2.2)).trans (word_set _ a3.1 a3.2), ?_⟩
          rw [HIV.out]
          have k1 := v1.set 0 (.string x.1)
          refine ⟨((v0.setOther (a := ⟨b10, 0, none⟩) ap.2.2.2.1 _).setOther (a := ⟨b11, 0, none⟩) ap.2.2.2.2.1 _).setOther (a := ⟨b12, 0, none⟩) ap.2.2.2.2.2 _, ?_, ?_, ?_, ?_⟩
          · have k2 := (k1.setOther (a := ⟨b11, 0, none⟩) (Ne.symm ap.1) (.bool false)).setOther (a := ⟨b12, 0, none⟩) (Ne.symm ap.2.1) (.int .i64 ((pre.length : Int) + 1))
            have e : lastk (pre ++ [x]) = x.1 := by unfold lastk; simp
            rw [e]
            exact k2
          · have k2 := ((v2.setOther (a := ⟨b10, 0, none⟩) ap.1 (.string x.1)).set 0 (.bool false)).setOther (a := ⟨b12, 0, none⟩) (Ne.symm ap.2.2.1) (.int .i64 ((pre.length : Int) + 1))
            have e : (pre ++ [x]).isEmpty = false := by simp
            rw [e]
            exact k2
          · have k2 := ((v3.setOther (a := ⟨b10, 0, none⟩) ap.2.1 (.string x.1)).setOther (a := ⟨b11, 0, none⟩) ap.2.2.1 (.bool false)).set 0 (.int .i64 ((pre.length : Int) + 1))
            rw [List.length_append]
            exact k2
          · have h0 := HL0.out
            exact ((v4.grown (grown_setCell _ ⟨b10, 0, none⟩ _) v4.size (fun k e => by cases e; exact h0.1)).grown (grown_setCell _ ⟨b11, 0, none⟩ _) (by simp [World.setCell]; exact v4.size) (fun k e => by cases e; exact h0.2.1)).grown (grown_setCell _ ⟨b12, 0, none⟩ _) (by simp [World.setCell]; exact v4.size) (fun k e => by cases e; exact h0.2.2)
        have hcase : (pre.isEmpty = true) ∨ (pre.isEmpty = false ∧ Op.bytesLess x.1.toList lk.toList = false ∧ (x.1.toList == lk.toList) = false) := by
          cases hp : pre.isEmpty with
          | true => exact .inl rfl
          | false =>
            refine .inr ⟨rfl, ?_⟩
            have hb : blt lk x.1 = true := by
              rw [← Hlk.out]
              obtain ⟨post, e⟩ := hx
              have hs := HSR.out
              rw [e] at hs
              exact lastk_lt hp hs
            refine ⟨blt_asym hb, ?_⟩
            cases hq : (x.1.toList == lk.toList) with
            | false => rfl
            | true =>
              have := ba_eq (by simpa using hq : x.1.toList = lk.toList)
              rw [this, blt_irr] at hb
              cases hb
        have c2' : W2.cell? ⟨b11, 0, none⟩ = some (.bool pre.isEmpty) := v2.cell 0
        clear v0 v1 v2 v3 v4 Hlk HIV HSR HW1 HL0 HKS HNM
        obtain ⟨q1, q2, q3, q4, q5, q6⟩ := HAP.out
        rcases hcase with hp | ⟨hp, hp2, hp3⟩
        all_goals
          have c2 := c2'
          rw [hp] at c2
          clear c2' hp HI2
          gi_wp2_with fail
          exact HFin.out _ rfl
      case done =>
        intro D hh W hD hI hk hdf
        have hI' : IV M W := hI
        rw [hIV] at hI'
        obtain ⟨v0, v1, v2, v3, v4⟩ := hI'
        have hts : TreeS W g T M := HM9.out.ts.kp hk hNg hNf
        have HMD : Hid (MI w W g T M ∧ W.heap[D]? = some (.deferred (some [])) ∧ D ∉ fpO T ∧ D ≠ g ∧ w.heap.size < D) := by
          have h1 := hD
          refine ⟨⟨hts, HM9.out.fp, HM9.out.hg, v0, v4⟩, hdf, fun h => ?_, fun h => ?_, by omega⟩
          · have := HM9.out.ts.flt _ h; omega
          · have := HM9.out.ts.glt; omega
        have c3 : W.cell? ⟨b12, 0, none⟩ = some (.int .i64 (M.length : Int)) := v3.cell 0
        have HV3 : Hid (Blk W b12 3 [.int .i64 (M.length : Int)]) := v3
        clear hIV hIVo hIV0 hgv hr hNf hNg hN3 hN4 hN5 hsz hNlt hrl hrw hnN hnN0 hs8 hw2 hN hc9 hb9 hb3 hb4 hb5 hv10 hv11 hv12 HM9 HV9 HM8 HV HS2 H9 hI v0 v1 v2 v3 v4 hk hdf hts HW1 HAP HL0 HIV hD HSR
        obtain ⟨C, hC⟩ : ∃ C : World → Prop, C = fun V => Below W.heap.size W V := ⟨_, rfl⟩
        have C0 : Hid (C { W with drawn := W.drawn + 1 }) := by rw [hC]; exact Below.drew (Below.refl _ _)
        have CO : Hid (∀ V, C V → Below W.heap.size W V) := fun V g => by rw [hC] at g; exact g
        have F1 : Hid (∀ V, C V → V.cell? ⟨b12, 0, none⟩ = some (.int .i64 (M.length : Int))) := fun V hV => (HV3.out.below (CO.out V hV) HV3.out.lt).cell 0
        have F2 : Hid (∀ V, C V → Calls Try.prog 16 #[.pointer (some ⟨g, 0, none⟩)] V fun e w' => e = .returned (.int .i64 (M.length : Int)) ∧ C w') := fun V hV => by
          have h := lenO_any g T V (HMD.out.1.below (CO.out V hV)).ts.tm
          rw [HMD.out.1.ts.ent] at h
          refine h.mono ?_
          rintro e w' ⟨rfl, rfl⟩
          exact ⟨rfl, hV⟩
        clear hC c3 HV3
        dsimp only [Exit.inBlock, Exit.then]
        go_wp2_with fail
        have hCp : ∀ p : Prop, (∀ W, C W → p) ↔ p := fun p => ⟨fun h => h _ C0.out, fun h _ _ => h⟩
        refine wp_region_quiet (C := C) (by kernel_rfl) (by kernel_rfl) C0.out ?_
        change wpQuiet _ _ _ _ (_ :: _ :: _ :: _ :: []) _
        repeat (first
          | go_big_quiet_skip
          | (go_big_quiet_want
             first
             | (refine q_cell 3 (.inl rfl) (.tmp 12) rfl b12 0 rfl _ F1.out ?_
                simp only [Act.put, List.setIfInBounds_toArray, List.set_cons_zero, List.set_cons_succ]
                go_big_quiet_on)
             | (refine q_callv 16 _ _ rfl #[.pointer (some ⟨g, 0, none⟩)] (by rw [List.map_toArray]; rfl) (enters Try.func16 (by kernel_rfl) rfl) _ F2.out ?_
                simp only [Act.put, List.setIfInBounds_toArray, List.set_cons_zero, List.set_cons_succ]
                go_big_quiet_on)
             | (go_big_quiet_op
                go_big_quiet_on)))
        refine wpQuiet_nil ?_
        intro w10 h10
        have hb10 := CO.out _ h10
        have HMA : Hid (MI w w10 g T M ∧ w10.heap[D]? = some (.deferred (some [])) ∧ D ∉ fpO T ∧ D ≠ g ∧ w.heap.size < D) := ⟨HMD.out.1.below hb10, def_below HMD.out.2.1 hb10, HMD.out.2.2⟩
        clear hb10 h10 hCp C0 CO F1 F2 HMD
        go_wp2_with fail
        go_loopw [14] (fun iv wr => ∃ (k : Nat) (T : Option (Nat × B)) (M : List E), k ≤ i ∧ iv = .int .i64 (k : Int) ∧ Hid (SI w wr g T M D ∧ (∀ a ∈ ksL M, ∃ j, j < i ∧ a = nm (zz j step)) ∧ M.length ≤ 1500)) (fun iv _ => i - (intOf iv).toNat)
        case atStart => exact ⟨0, T, M, Nat.zero_le _, rfl, HMA.out, HKS.out⟩
        case round =>
          obtain ⟨k, T, M, hki, rfl, HR⟩ := hrel
          clear HMA HKS
          by_cases hkn : k < i
          · have hkn' : (k : Int) < (i : Int) := by omega
            go_wp2_with fail
            refine ((HNM.out _).2 _).mono ?_
            rintro e w12 ⟨rfl, H2⟩
            have HZZ : Hid (∀ j : Nat, zz j off = bits .and .i64 (wrap64 ((j : Int) * off)) 1048575) := fun _ => rfl
            rw [← HZZ.out k]
            have hsi : SI w w12 g T M D := HR.out.1.below H2.out
            obtain ⟨old, is, hG⟩ := getL_ex hsi.1.ts.srt (nm (zz k off))
            have K := del_M w12 g T M (nm (zz k off)) old is hG hsi.1.ts (by have := HR.out.2.2; omega)
            have HG : Hid (GetL M (nm (zz k off)) old is) := hG
            have HR2 : Hid (SI w w12 g T M D ∧ (∀ a ∈ ksL M, ∃ j, j < i ∧ a = nm (zz j step)) ∧ M.length ≤ 1500) := ⟨hsi, HR.out.2⟩
            clear hsi hG HR H2 HZZ
            go_wp2_with fail
            refine K.mono ?_
            clear K
            rintro e w13 ⟨rfl, H3⟩
            have HE : Hid (∃ T' M', SI w w13 g T' M' D ∧ (∀ a ∈ ksL M', ∃ j, j < i ∧ a = nm (zz j step)) ∧ M'.length ≤ 1500) := by
              obtain ⟨T', q1, q2, q3⟩ := H3.out
              refine ⟨T', _, HR2.out.1.step q1 q2 q3, fun a ha => HR2.out.2.1 a (delL_mem HR2.out.1.1.ts.srt HG.out ha).1, Nat.le_trans (delL_len M _ is) HR2.out.2.2⟩
            clear H3 HR2 HG
            go_wp2
            obtain ⟨T', M', hE⟩ := HE.out
            go_roundw
            case rel => exact ⟨k + 1, T', M', by omega, by go_num, hE⟩
            case measure => simp [intOf]; omega
          · obtain rfl : k = i := by omega
            have hl2 : (entO T).length < 100000000 := by rw [HR.out.1.1.ts.ent]; have := HR.out.2.2; omega
            have K := shaped_any g T wr HR.out.1.1.ts.tm hl2
            clear hl2
            go_wp2_with fail
            refine K.mono ?_
            clear K
            rintro e w14 ⟨rfl, H2⟩
            have HRA : Hid (SI w w14 g T M D ∧ (∀ a ∈ ksL M, ∃ j, j < k ∧ a = nm (zz j step)) ∧ M.length ≤ 1500) := ⟨HR.out.1.below H2.out, HR.out.2⟩
            clear HR H2
            go_wp2_with fail
            go_loopw [15] (fun iv wr => ∃ (q : Nat) (T : Option (Nat × B)) (M : List E), q ≤ k ∧ iv = .int .i64 (q : Int) ∧ Hid (SI w wr g T M D ∧ (∀ a ∈ ksL M, ∃ j, q ≤ j ∧ j < k ∧ a = nm (zz j step)) ∧ M.length ≤ 1500)) (fun iv _ => k - (intOf iv).toNat)
            case atStart =>
              refine ⟨0, T, M, Nat.zero_le _, rfl, HRA.out.1, fun a ha => ?_, HRA.out.2.2⟩
              obtain ⟨j, h1, h2⟩ := HRA.out.2.1 a ha
              exact ⟨j, Nat.zero_le _, h1, h2⟩
            case round =>
              obtain ⟨q, T, M, hqk, rfl, HR⟩ := hrel
              clear HRA
              by_cases hqn : q < k
              · have hqn' : (q : Int) < (k : Int) := by omega
                go_wp2_with fail
                refine ((HNM.out _).2 _).mono ?_
                rintro e w12 ⟨rfl, H2⟩
                have HZZ : Hid (∀ j : Nat, zz j step = bits .and .i64 (wrap64 ((j : Int) * step)) 1048575) := fun _ => rfl
                rw [← HZZ.out q]
                have hsi : SI w w12 g T M D := HR.out.1.below H2.out
                obtain ⟨old, is, hG⟩ := getL_ex hsi.1.ts.srt (nm (zz q step))
                have K := del_M w12 g T M (nm (zz q step)) old is hG hsi.1.ts (by have := HR.out.2.2; omega)
                have HG : Hid (GetL M (nm (zz q step)) old is) := hG
                have HR2 : Hid (SI w w12 g T M D ∧ (∀ a ∈ ksL M, ∃ j, q ≤ j ∧ j < k ∧ a = nm (zz j step)) ∧ M.length ≤ 1500) := ⟨hsi, HR.out.2⟩
                clear hsi hG HR H2 HZZ
                go_wp2_with fail
                refine K.mono ?_
                clear K
                rintro e w13 ⟨rfl, H3⟩
                have HE : Hid (∃ T' M', SI w w13 g T' M' D ∧ (∀ a ∈ ksL M', ∃ j, q + 1 ≤ j ∧ j < k ∧ a = nm (zz j step)) ∧ M'.length ≤ 1500) := by
                  obtain ⟨T', q1, q2, q3⟩ := H3.out
                  refine ⟨T', _, HR2.out.1.step q1 q2 q3, fun a ha => ?_, Nat.le_trans (delL_len M _ is) HR2.out.2.2⟩
                  obtain ⟨d1, d2⟩ := delL_mem HR2.out.1.1.ts.srt HG.out ha
                  obtain ⟨j, h1, h2, h3⟩ := HR2.out.2.1 a d1
                  have : j ≠ q := fun e => d2 (by rw [h3, e])
                  exact ⟨j, by omega, h2, h3⟩
                clear H3 HR2 HG
                go_wp2
                obtain ⟨T', M', hE⟩ := HE.out
                go_roundw
                case rel => exact ⟨q + 1, T', M', by omega, by go_num, hE⟩
                case measure => simp [intOf]; omega
              · obtain rfl : q = k := by omega
                obtain rfl : M = [] := by
                  cases M with
                  | nil => rfl
                  | cons e r =>
                    obtain ⟨j, h1, h2, _⟩ := HR.out.2.1 e.1 (by simp)
                    omega
                have HSI : Hid (SI w wr g T [] D) := HR.out.1
                have hent : entO T = [] := HSI.out.1.ts.ent
                have K1 := lenO_any g T wr HSI.out.1.ts.tm
                rw [hent] at K1
                have K2 := shaped_any g T wr HSI.out.1.ts.tm (by rw [hent]; decide)
                clear HR hent
                go_wp2_with fail
                refine K1.mono ?_
                clear K1
                rintro e w15 ⟨rfl, hww⟩
                have hww' := hww.symm
                subst hww'
                clear hww
                go_wp2_with fail
                refine K2.mono ?_
                clear K2
                rintro e w16 ⟨rfl, H2⟩
                have HS3 : Hid (SI w w16 g T [] D) := HSI.out.below H2.out
                have K3 := known_any w16
                clear HSI H2
                go_wp2_with fail
                refine K3.mono ?_
                clear K3
                rintro e w17 ⟨rfl, H2⟩
                have HS4 : Hid (SI w w17 g T [] D) := HS3.out.below H2.out
                have c4 : w17.cell? ⟨w.heap.size, 0, none⟩ = some (.bool false) := HS4.out.1.res.cell 0
                have f4 : w17.frozen? ⟨w.heap.size, 0, none⟩ = false := HS4.out.1.res.frozen 0
                clear HS3 H2
                go_wp2
                have G6 := grown_setCell w17 ⟨w.heap.size, 0, none⟩ (.bool true)
                have B6 : Blk (w17.setCell ⟨w.heap.size, 0, none⟩ (.bool true)) w.heap.size 4 [.bool true] := HS4.out.1.res.set 0 (.bool true)
                have D6 := HS4.out.2.1
                have hDw := HS4.out.2.2.2.2
                rw [← G6.block D (Array.getElem?_eq_some_iff.1 D6).1 (by simp; omega)] at D6
                have Z6 := HS4.out.1.bl.grown G6 HS4.out.1.bl.size (fun k e => by injection e with e; exact Nat.le_of_eq e)
                have G8 := grownBy_putObj' (w17.setCell ⟨w.heap.size, 0, none⟩ (.bool true)) D (.deferred none)
                have B8 := B6.kept G8 (by simp; omega)
                have Z8 := Z6.grown G8 Z6.size (fun k e => by injection e with e; omega)
                refine ⟨by simp, .inl ⟨_, _, rfl, run_takeDeferred D6, ?_⟩⟩
                exact ⟨_, res_one rfl _ w.heap.size (.bool true) rfl (B8.cell 0), rfl, Z8⟩
#print axioms many_walk
end Go.Proofs.Yteokjfpppmnebaa
