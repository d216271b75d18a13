/-
  (*store).copied.
-/
import Derived.Test.YtmpnceicodfifaaGreatCpd
namespace Go.Proofs.YtmpnceicodfifaaGreat
open Go.RowKit Go.Maps
set_option linter.unusedVariables false
/-- A store that is being copied into. -/
structure Cs (w wr : World) (bs' bm' r : Nat) (room used : Int) (ix ixn : List (Nm × Nat)) (ct ctn : Nat → File) (left : Lit → Bool) : Prop where
  inn : Inn 0 wr bs' bm' room used (-1) ixn ctn
  below : Below w.heap.size w wr
  foot : ∀ i, foot bs' bm' ixn ctn i → w.heap.size ≤ i ∧ i ≠ r
  mem : ∀ p, p ∈ view ixn ctn ↔ (p ∈ view ix ct ∧ left (.string p.1) = false)
theorem mem_view {ix : List (Nm × Nat)} {ct : Nat → File} {p : Nm × Nat} (h : p ∈ ix) : (p.1, fl (ct p.2)) ∈ view ix ct := List.mem_map.2 ⟨p, h, rfl⟩
theorem below_set {B b : Nat} {w : World} (hb : B ≤ b) (j : Nat) (sp : Option Nat) (v : Value) : Below B w (w.setCell ⟨b, j, none⟩ v) :=
  have k : Kept (fun i => i = b) w (w.setCell ⟨b, j, none⟩ v) := Kept.setCell (S := fun i => i = b) w ⟨b, j, none⟩ _ rfl
  ⟨k.os, k.tape, k.output, k.size, fun i hi => by
    by_cases h : i < w.heap.size
    · exact k.block i h (by omega)
    · rw [Array.getElem?_eq_none (by have := k.size; simp; omega), Array.getElem?_eq_none (by omega)]⟩
def ct0 : Nat → File := fun _ => ⟨.slice none 0 0, [], 0⟩
set_option maxHeartbeats 1000000 in
theorem empty_any (room : Int) (w : World) : Calls Tryz.prog 17 #[.int .i64 room] w fun e w' => e = .returned (.pointer (some ⟨w.heap.size + 1, 0, none⟩)) ∧ Hid (Inn 0 w' (w.heap.size + 1) w.heap.size room 0 (-1) [] ct0 ∧ Below w.heap.size w w' ∧ w'.heap.size = w.heap.size + 2) := by
  have hmm := @run_makeMap Tryz.prog
  have fin : ∀ W, W = (w.alloc (.map #[] 0)).alloc (.cells #[.int .i32 0, .int .u32 0, .int .i64 room, .int .i64 0, .int .i64 (-1), .map (some w.heap.size)] 84) →
      Inn 0 W (w.heap.size + 1) w.heap.size room 0 (-1) [] ct0 ∧ Below w.heap.size w W ∧ W.heap.size = w.heap.size + 2 := by
    rintro W rfl
    have bm := (World.ownsMap_made w Tryz.prog 9 fileElem).alloc (.cells #[.int .i32 0, .int .u32 0, .int .i64 room, .int .i64 0, .int .i64 (-1), .map (some w.heap.size)] 84)
    have bs := blk_new (w.alloc (.map #[] 0)) 84 (head 0 room 0 (-1) w.heap.size)
    refine ⟨⟨by simpa [head] using bs, bm, by simp, by simp, by simp, by simp⟩, ((Below.refl _ _).alloc (Nat.le_refl _) _).alloc (by simp) _, by simp⟩
  have HF : Hid _ := fin
  clear fin
  go_enter Tryz.func17, Tryz.ntmps17
  go_wp2
  go_ret
  exact ⟨rfl, HF.out _ rfl⟩
theorem ris_view {ix : List (Nm × Nat)} (ct : Nat → File) (h : Ris ix) : Ris (view ix ct) := List.pairwise_map.2 h
/-- One more file is copied. -/
theorem Cs.next {w w1 W6 w7 : World} {bs' r : Nat} {room used : Int} {ix ixn : List (Nm × Nat)} {ct ctn : Nat → File} {left : Lit → Bool} {x : ByteArray} {f f' : Nat} {v : Value} (h : Cs w w1 bs' w.heap.size r room used ix ixn ct ctn left) (hone : (ix.map (·.1)).Nodup)
    (hf : (x.data.toList, f) ∈ ix) (hlx : left (.string x.data.toList) = true) (b6 : Below w1.heap.size w1 W6) (hr : r < w1.heap.size) (hr2 : r ≠ w.heap.size) (hn1 : w.heap.size < w1.heap.size) (hf' : w1.heap.size ≤ f') (hgr : W6.grownBy w7 (some w.heap.size))
    (hm : w7.ownsMap Tryz.prog 9 fileElem w.heap.size (ixn.length + 1) ((dat ixn).put (.string x.data.toList) (.lit (.int .i64 (f' : Int)))))
    (hb : Blk W6 f' 86 [v, .int .u32 ((ct f).k : Int)]) (ho : Own W6 w1.heap.size v (ct f).b) :
    Cs w w7 bs' w.heap.size r room used ix (ins (x.data.toList, f') ixn) ct (upd ctn f' ⟨v, (ct f).b, (ct f).k⟩) (fun z => left z && !z.sameKey (.string x.data.toList)) := by
  have k7 : Kept (fun i => i = w.heap.size) W6 w7 := Kept.of_grown hgr (fun i e => by cases e; rfl)
  have hold : ∀ p ∈ ixn, p.2 ≠ f' := fun p hp => by have := (h.inn.file p hp).lt; omega
  have hg : get ixn x.data.toList = none := by
    cases e : get ixn x.data.toList with
    | none => rfl
    | some g =>
      have := ((h.mem _).1 (mem_view (ct := ctn) (mem_of_get e))).2
      simp only at this
      rw [hlx] at this; cases this
  refine ⟨(h.inn.keptBy (Kept.of_below (S := fun _ => False) b6) (fun _ _ h => h)).file_lay _ hg hold k7 hm (hb.keptBy k7 (by omega)) ((own_mono0 ho).keptBy k7 (fun g hg e => by have := (own_lt ho hg).1; omega)) (fun p hp g hg e => ?_), ?_, fun i hi => ?_, fun p => ?_⟩
  · have h1 := (own_lt ho hg).1
    have h2 := (own_lt (h.inn.row p hp) e).2
    omega
  · refine (h.below.trans (b6.mono (Nat.le_of_lt hn1))).trans ⟨k7.os, k7.tape, k7.output, k7.size, fun i hi => k7.block i ?_ (by omega)⟩
    have := b6.size
    omega
  · rcases foot_lay hold hi with e | e | e
    · exact h.foot i e
    · omega
    · have := (own_lt ho e).1
      omega
  · have e1 : view (ins (x.data.toList, f') ixn) (upd ctn f' ⟨v, (ct f).b, (ct f).k⟩) = ins (x.data.toList, fl (ct f)) (view ixn ctn) := by
      rw [view_ins, upd_same, view_other _ hold]; rfl
    rw [e1, mem_ins, h.mem]
    constructor
    · rintro (rfl | ⟨h1, h2⟩)
      · exact ⟨mem_view hf, by simp [Lit.sameKey]⟩
      · exact ⟨h1, by rw [h2]; rfl⟩
    · rintro ⟨h1, h2⟩
      by_cases e : p.1 = x.data.toList
      · left
        obtain ⟨q, hq, rfl⟩ := List.mem_map.1 h1
        have := fst_inj hone hq hf e
        rw [this]
      · right
        refine ⟨h1, ?_⟩
        have e2 : (Lit.string p.1).sameKey (.string x.data.toList) = false := by simpa [Lit.sameKey] using e
        rw [e2] at h2
        simpa using h2
set_option maxHeartbeats 4000000 in
set_option maxRecDepth 8000 in
theorem copied_any {lk : Int} {w : World} {bs bm : Nat} {room fuse : Int} {ix : List (Nm × Nat)} {ct : Nat → File} (h : Inn lk w bs bm room (tot ix ct) fuse ix ct) (hl : ix.length ≤ 4096) (ht : tot ix ct ≤ 1073741824) :
    Calls Tryz.prog 20 #[.pointer (some ⟨bs, 0, none⟩)] w fun e w' => ∃ bs' bm' ix' ct', e = .returned (.pointer (some ⟨bs', 0, none⟩)) ∧ Hid (Inn 0 w' bs' bm' room (tot ix ct) (-1) ix' ct' ∧ view ix' ct' = view ix ct ∧ (∀ i, foot bs' bm' ix' ct' i → w.heap.size ≤ i) ∧ Below w.heap.size w w') := by
  have c2 : w.cell? ⟨bs, 2, none⟩ = some (.int .i64 room) := h.blk.cell 2
  have c3 : w.cell? ⟨bs, 3, none⟩ = some (.int .i64 (tot ix ct : Nat)) := h.blk.cell 3
  have c5 : w.cell? ⟨bs, 5, none⟩ = some (.map (some bm)) := h.blk.cell 5
  have hbs := cell_lt c2
  have HH : Hid (Inn lk w bs bm room (tot ix ct) fuse ix ct) := h
  clear h
  go_enter Tryz.func20, Tryz.ntmps20
  go_wp2_with (first
    | (go_at_call 17; refine (empty_any room w).mono ?_; rintro e w1 ⟨rfl, h1⟩; obtain ⟨i1, b1, s1⟩ := h1.out; have d3 := i1.blk.cell 3; have z3 := i1.blk.frozen 3; have c3' := (b1.cell (p := ⟨bs, 3, none⟩) hbs).trans c3; have c5' := (b1.cell (p := ⟨bs, 5, none⟩) hbs).trans c5; have i2 := i1.set 3 (.int .i64 (tot ix ct : Nat)) (room' := room) (used' := (tot ix ct : Nat)) (fuse' := -1) (lk' := 0) rfl; have b2 : Below w.heap.size w (w1.setCell ⟨w.heap.size + 1, 3, none⟩ (.int .i64 (tot ix ct : Nat))) := (b1.trans (below_set (by omega) _ none _)); have H2 : Hid (Inn 0 (w1.setCell ⟨w.heap.size + 1, 3, none⟩ (.int .i64 (tot ix ct : Nat))) (w.heap.size + 1) w.heap.size room (tot ix ct : Nat) (-1) [] ct0 ∧ Below w.heap.size w (w1.setCell ⟨w.heap.size + 1, 3, none⟩ (.int .i64 (tot ix ct : Nat)))) := ⟨i2, b2⟩; have HM : Hid ((w1.setCell ⟨w.heap.size + 1, 3, none⟩ (.int .i64 (tot ix ct : Nat))).ownsMap Tryz.prog 9 fileElem bm ix.length (dat ix)) := ownsMap_keptBy HH.out.map (Kept.of_below (S := fun _ => False) b2) (fun h => h); have hs2 : (w1.setCell ⟨w.heap.size + 1, 3, none⟩ (.int .i64 (tot ix ct : Nat))).heap.size = w.heap.size + 2 := (by simp [s1]); clear h1 i1 b1 i2 b2)
    | (at_range; go_must (refine wpList_range_own _ rfl _ 82 rfl 9 74 law9 Tryz.underlying82 _ bm ix.length _ rfl HM.out ?_; intro w3 hrg0 hg0 hs0)))
  rw [hs2] at hrg0 hs0 ⊢
  have b3 : Below w.heap.size w w3 := by
    have k := Kept.of_grown (S := fun _ => False) hg0 (by simp)
    exact H2.out.2.trans ⟨k.os, k.tape, k.output, k.size, fun i hi => k.block i (by omega) (fun h => h)⟩
  have H3 : Hid (w3.ranges Tryz.prog 9 fileElem bm (w.heap.size + 2) ix.length (dat ix) (Maps.has (dat ix)) (Maps.size (dat ix)) ∧ Cs w w3 (w.heap.size + 1) w.heap.size (w.heap.size + 2) room (tot ix ct : Nat) ix [] ct ct0 (Maps.has (dat ix))) := by
    refine ⟨hrg0, H2.out.1.keptBy (Kept.of_grown (S := fun _ => False) hg0 (by simp)) (fun _ _ h => h), b3, fun i hi => ?_, fun p => ⟨fun hp => (by cases hp), fun ⟨hp, hf⟩ => ?_⟩⟩
    · rcases hi with e | e | ⟨p, hp, _⟩
      · omega
      · omega
      · cases hp
    · exfalso
      obtain ⟨q, hq, rfl⟩ := List.mem_map.1 hp
      have : Maps.has (dat ix) (.string q.1) = true := by
        unfold dat
        rw [Maps.has_eq, List.any_eq_true]
        exact ⟨ent q, List.mem_map.2 ⟨q, hq, rfl⟩, by simp [ent, Lit.sameKey]⟩
      simp only at hf
      rw [this] at hf; cases hf
  have hsz : Maps.size (dat ix) = ix.length := size_dat ix
  rw [hsz] at H3
  clear hrg0 hg0 hs0 hs2 H2 HM d3 z3 c3' c5' b3 s1 c2 c3 c5 hsz
  go_frame
  go_loopw [4] (fun _ wr => ∃ (left : Lit → Bool) (cnt : Nat) (ixn : List (Nm × Nat)) (ctn : Nat → File), wr.ranges Tryz.prog 9 fileElem bm (w.heap.size + 2) ix.length (dat ix) left cnt ∧ Cs w wr (w.heap.size + 1) w.heap.size (w.heap.size + 2) room (tot ix ct : Nat) ix ixn ct ctn left ∧ ixn.length + cnt ≤ ix.length)
    (fun _ wr => wr.rangeLeft bm (w.heap.size + 2))
  case atStart => exact ⟨_, _, [], ct0, H3.out.1, H3.out.2, by simp⟩
  case round =>
    obtain ⟨left, cnt, ixn, ctn, hrg, hcs, hcn⟩ := hrel
    have HC : Hid (Cs w wr (w.heap.size + 1) w.heap.size (w.heap.size + 2) room (tot ix ct : Nat) ix ixn ct ctn left) := hcs
    clear hcs H3
    go_wp2_with (at_next; refine next_keys rfl _ rfl bm (w.heap.size + 2) ix.length cnt ix left rfl hrg ?_ ?_)
    · intro HL
      clear hrg
      go_wp2
      go_ret
      refine ⟨_, _, _, _, rfl, HC.out.inn, ?_, fun i hi => (HC.out.foot i hi).1, HC.out.below⟩
      refine ris_ext (ris_view _ HC.out.inn.ris) (ris_view _ HH.out.ris) fun p => ?_
      rw [HC.out.mem]
      exact ⟨fun h => h.1, fun h => ⟨h, HL.out _⟩⟩
    · intro x f w1 cnt1 HM hen
      obtain ⟨hkx, hg, hlx, hrg1, hlt, hg1⟩ := HM.out
      have kr : Kept (fun i => i = w.heap.size + 2) wr w1 := Kept.of_grown hg1 (fun i e => by cases e; rfl)
      have bw1 : Below w.heap.size w w1 := HC.out.below.trans ⟨kr.os, kr.tape, kr.output, kr.size, fun i hi => kr.block i (Nat.lt_of_lt_of_le hi HC.out.below.size) (by omega)⟩
      have cs1 : Cs w w1 (w.heap.size + 1) w.heap.size (w.heap.size + 2) room (tot ix ct : Nat) ix ixn ct ctn left := ⟨HC.out.inn.keptBy kr (fun i hi e => (HC.out.foot i hi).2 e), bw1, HC.out.foot, HC.out.mem⟩
      have src := HH.out.keptBy (Kept.of_below (S := fun _ => False) bw1) (fun _ _ h => h)
      have hf := mem_of_get hg
      have hlf := le_tot (ct := ct) hf
      simp only at hlf
      obtain ⟨ax, cc, ev, hc, hn, B, O⟩ := src.see hf
      obtain ⟨ax', cx', ev', hby, hnil'⟩ := own_src O
      injection ev' with e1 e2 e3
      subst e1 e3
      have d5 : w1.cell? ⟨w.heap.size + 1, 5, none⟩ = some (.map (some w.heap.size)) := cs1.inn.blk.cell 5
      have f0 : w1.cell? ⟨f, 0, none⟩ = some (.slice ax (ct f).b.length cc) := B.cell 0
      have f1 : w1.cell? ⟨f, 1, none⟩ = some (.int .u32 ((ct f).k : Int)) := B.cell 1
      have HX : Hid (Cs w w1 (w.heap.size + 1) w.heap.size (w.heap.size + 2) room (tot ix ct : Nat) ix ixn ct ctn left ∧ keyOf Tryz.prog 9 (.string x) = some (.string x.data.toList) ∧ (x.data.toList, f) ∈ ix ∧ left (.string x.data.toList) = true ∧ w1.ranges Tryz.prog 9 fileElem bm (w.heap.size + 2) ix.length (dat ix) (fun z => left z && !z.sameKey (.string x.data.toList)) cnt1) := ⟨cs1, hkx, hf, hlx, hrg1⟩
      have HML : Hid (wr.rangeLeft bm (w.heap.size + 2) = cnt) := hrg.left_eq
      have d0 : Hid (Below w1.heap.size w1 { w1 with drawn := w1.drawn + 1 }) := ⟨rfl, rfl, rfl, Nat.le_refl _, fun _ _ => rfl⟩
      obtain ⟨C, hCd⟩ : ∃ C : World → Prop, C = fun W => Below w1.heap.size w1 W := ⟨_, rfl⟩
      have kc : Hid (∀ W, C W → W.cell? ⟨w.heap.size + 1, 5, none⟩ = some (.map (some w.heap.size))) := fun W h => by
        rw [hCd] at h
        exact (Below.cell h (p := ⟨w.heap.size + 1, 5, none⟩) (cell_lt d5)).trans d5
      have kf : Hid (∀ W, C W → W.cell? ⟨f, 0, none⟩ = some (.slice ax (ct f).b.length cc)) := fun W h => by
        rw [hCd] at h
        exact (Below.cell h (p := ⟨f, 0, none⟩) (cell_lt f0)).trans f0
      have kg : Hid (∀ W, C W → W.cell? ⟨f, 1, none⟩ = some (.int .u32 ((ct f).k : Int))) := fun W h => by
        rw [hCd] at h
        exact (Below.cell h (p := ⟨f, 1, none⟩) (cell_lt f1)).trans f1
      have kb : Hid (∀ W, Below w1.heap.size w1 W → C W) := fun W h => by rw [hCd]; exact h
      have ky : Hid (∀ W, Below w1.heap.size w1 W → Byt W ax (ct f).b) := fun W h => hby.below h
      have z0 : Hid (C { w1 with drawn := w1.drawn + 1 }) := kb.out _ d0.out
      have hCp : ∀ p : Prop, (∀ W, C W → p) ↔ p := fun p => ⟨fun h => h _ z0.out, fun h _ _ => h⟩
      clear HM hkx hg hlx hrg1 hg1 hrg kr bw1 cs1 src hf B O hby hCd d5 f0 f1 ev HC
      go_wp2
      refine region_calm C 16 (by kernel_rfl) ?_
      generalize ({ w1 with drawn := w1.drawn + 1 } : World) = W0 at *
      refine seg 4 [0, 1, 2, 3, 4, 5, 6, 7, 8, 10, 11, 12, 13] rfl (by kernel_rfl) whole_blind z0.out (by kernel_rfl) ?_
      change wpQuiet _ _ _ _ (_ :: _ :: _ :: _ :: _ :: _ :: _ :: _ :: _ :: _ :: _ :: _ :: _ :: []) _
      repeat (first
        | go_big_quiet_skip
        | (go_big_quiet_want
           first
           | (refine q_loadm (.tmp 30) rfl (w.heap.size + 1) 5 rfl _ kc.out ?_
              simp only [Act.put, List.setIfInBounds_toArray, List.set_cons_zero, List.set_cons_succ]
              go_big_quiet_on)
           | (refine q_load 32 (.tmp 35) rfl f 0 rfl _ _ _ (.inl rfl) kf.out ?_
              simp only [Act.put, List.setIfInBounds_toArray, List.set_cons_zero, List.set_cons_succ]
              go_big_quiet_on)
           | (refine q_loadu (.tmp 40) rfl f 1 rfl _ kg.out ?_
              simp only [Act.put, List.setIfInBounds_toArray, List.set_cons_zero, List.set_cons_succ]
              go_big_quiet_on)
           | (go_big_quiet_op
              go_big_quiet_on)))
      refine wpQuiet_nil ?_
      refine lone_do (i := 9) 3 rfl (by kernel_rfl) rfl (by rfl) ?_
      intro K hK
      have s0 : w1.heap.size ≤ W0.heap.size := d0.out.size
      refine oper_callv 49 #[.tmp 36] #[32] rfl #[.slice ax (ct f).b.length cc] (by rw [List.map_toArray]; rfl) enters49 (fun v W => Own W W0.heap.size v (ct f).b ∧ Below W0.heap.size W0 W) (bclone_any ax cc (ct f).b W0 (ky.out _ d0.out) hnil' (by omega)) ?_
      rintro v5 w5 ⟨o5, g5⟩
      have b5 : Below w1.heap.size w1 w5 := d0.out.trans (g5.mono s0)
      have s5 := b5.size
      refine hK _ _ (kb.out _ b5) ?_
      clear hK K
      obtain ⟨p5, c5, rfl, _⟩ := o5.shape
      simp only [Act.put, List.setIfInBounds_toArray, List.set_cons_zero, List.set_cons_succ]
      refine lone_calm (i := 14) 2 rfl (by kernel_rfl) rfl rfl (kb.out _ b5) ?_
      repeat (first
        | go_big_quiet_skip
        | (go_big_quiet_want
           go_big_quiet_op
           go_big_quiet_on))
      refine wpQuiet_nil ?_
      refine lone_do (i := 15) 1 rfl (by kernel_rfl) rfl (by rfl) ?_
      intro K hK
      refine oper_box86 (.tmp 42) rfl p5 (ct f).b.length c5 ((ct f).k : Int) rfl ?_
      have b6 : Below w1.heap.size w1 (w5.alloc (.cells #[.slice p5 (ct f).b.length c5, .int .u32 ((ct f).k : Int)] 86)) := b5.alloc s5 _
      refine hK _ _ (kb.out _ b6) ?_
      clear hK K
      simp only [Act.put, List.setIfInBounds_toArray, List.set_cons_zero, List.set_cons_succ]
      refine lone_last (i := 16) 0 rfl rfl (by kernel_rfl) rfl (by rfl) ?_
      intro K hK
      obtain ⟨cs1, hkx, hf, hlx, hrg1⟩ := HX.out
      have inn6 := cs1.inn.keptBy (Kept.of_below (S := fun _ => False) b6) (fun _ _ h => h)
      have hixn : ixn.length < maxLen := by unfold maxLen; omega
      obtain ⟨w7, hu1, hu2, hu3⟩ := inn6.map.update law9 Tryz.underlying82 hixn hkx (fileElem_some w5.heap.size)
      refine oper_mapUp (.tmp 31) (.tmp 32) (.tmp 43) rfl _ _ _ rfl rfl rfl hu1 ?_
      refine hK _ _ ?_
      clear hK K
      simp only [Act.put]
      refine anyC_done (by kernel_rfl) ⟨rfl, ?_⟩
      have hr1 := hrg1.lt
      have o6 : Own (w5.alloc (.cells #[.slice p5 (ct f).b.length c5, .int .u32 ((ct f).k : Int)] 86)) w1.heap.size (.slice p5 (ct f).b.length c5) (ct f).b := (own_le o5 s0).alloc _
      have HN : Hid (Cs w w7 (w.heap.size + 1) w.heap.size (w.heap.size + 2) room (tot ix ct : Nat) ix (ins (x.data.toList, w5.heap.size) ixn) ct (upd ctn w5.heap.size ⟨.slice p5 (ct f).b.length c5, (ct f).b, (ct f).k⟩) (fun z => left z && !z.sameKey (.string x.data.toList))) :=
        cs1.next HH.out.one hf hlx b6 hr1 (by omega) (by omega) s5 hu3 hu2 (blk_new w5 86 _) o6
      have hbm : bm < w.heap.size := HH.out.foot_lt (.inr (.inl rfl))
      have k7 : Kept (fun i => i = w.heap.size) (w5.alloc (.cells #[.slice p5 (ct f).b.length c5, .int .u32 ((ct f).k : Int)] 86)) w7 := Kept.of_grown hu3 (fun i e => by cases e; rfl)
      have HRG : Hid (w7.ranges Tryz.prog 9 fileElem bm (w.heap.size + 2) ix.length (dat ix) (fun z => left z && !z.sameKey (.string x.data.toList)) cnt1) := by
        have s6 := b6.size
        refine ranges_blocks hrg1 ?_ ?_
        · rw [k7.block bm (by omega) (by omega)]; exact b6.block bm (by omega)
        · rw [k7.block _ (by omega) (by omega)]; exact b6.block _ hr1
      have hlen : (ins (x.data.toList, w5.heap.size) ixn).length + cnt1 ≤ ix.length := by rw [length_ins]; omega
      have hm7 := HRG.out.left_eq
      clear cs1 hkx hf hlx hrg1 inn6 hu1 hu2 hu3 b6 b5 o5 g5 o6 k7 kc kf kg kb ky z0 hCp HX d0
      go_wp2
      go_roundw
      case rel => exact ⟨_, cnt1, _, _, HRG.out, HN.out, hlen⟩
      case measure => rw [hm7, HML.out]; exact hlt
end Go.Proofs.YtmpnceicodfifaaGreat
