/-
  (*Disk).do, over the store in memory.
-/
import Derived.Test.YtmpnceicodfifaaGreatDoo
namespace Go.Proofs.YtmpnceicodfifaaGreat
open Go.RowKit Go.Maps
theorem Inn.foot_lt {lk : Int} {w : World} {bs bm : Nat} {room used fuse : Int} {ix : List (Nm × Nat)} {ct : Nat → File} (h : Inn lk w bs bm room used fuse ix ct) {i : Nat} (hi : foot bs bm ix ct i) : i < w.heap.size := by
  rcases hi with rfl | rfl | ⟨p, hp, rfl | hg⟩
  · exact h.blk.lt
  · exact h.map.lt
  · exact (h.file p hp).lt
  · obtain ⟨_, hv⟩ := (h.row p hp).blk hg
    exact hv.lt
def fuseAfter (fuse err : Int) : Int := if err = 0 ∧ 0 < fuse then fuse - 1 else fuse
theorem Inn.burnt {lk : Int} {w : World} {bs bm : Nat} {room used fuse : Int} {ix : List (Nm × Nat)} {ct : Nat → File} (h : Inn lk w bs bm room used fuse ix ct) (err : Int) : Inn lk (Burnt bs fuse err w) bs bm room used (fuseAfter fuse err) ix ct := by
  unfold Burnt fuseAfter
  split
  · exact h.set 4 _ rfl
  · exact h
theorem kept_burnt {S : Nat → Prop} {bs : Nat} (hS : S bs) (fuse err : Int) (w : World) : Kept S w (Burnt bs fuse err w) := by
  unfold Burnt
  split
  · exact Kept.setCell w _ _ hS
  · exact Kept.refl _ _
/-- What a step of the store leaves, beside what it answers. -/
structure Step (w w' : World) (bs bm : Nat) (ix : List (Nm × Nat)) (ct : Nat → File) (ix' : List (Nm × Nat)) (ct' : Nat → File) : Prop where
  kept : Kept (foot bs bm ix ct) w w'
  new : ∀ i, foot bs bm ix' ct' i → foot bs bm ix ct i ∨ w.heap.size ≤ i
theorem Step.refl (w : World) (bs bm : Nat) (ix : List (Nm × Nat)) (ct : Nat → File) : Step w w bs bm ix ct ix ct := ⟨Kept.refl _ _, fun _ h => .inl h⟩
theorem Step.trans {w1 w2 w3 : World} {bs bm : Nat} {ix1 ix2 ix3 : List (Nm × Nat)} {ct1 ct2 ct3 : Nat → File} (h : Step w1 w2 bs bm ix1 ct1 ix2 ct2) (k : Step w2 w3 bs bm ix2 ct2 ix3 ct3) : Step w1 w3 bs bm ix1 ct1 ix3 ct3 :=
  ⟨h.kept.trans k.kept fun i hi h2 => (h.new i h2).resolve_right (by omega), fun i h3 => by
    rcases k.new i h3 with h2 | h2
    · exact h.new i h2
    · exact .inr (Nat.le_trans h.kept.size h2)⟩
theorem Step.of_kept {S : Nat → Prop} {w w' : World} {bs bm : Nat} {ix : List (Nm × Nat)} {ct : Nat → File} (h : Kept S w w') (hS : ∀ i, i < w.heap.size → S i → foot bs bm ix ct i) : Step w w' bs bm ix ct ix ct := ⟨h.mono hS, fun _ h => .inl h⟩
/-- What one of the five has done: dead, a name that is none, or its own. -/
def Res (fuse : Int) (ns : List ByteArray) (used : Int) (ix : List (Nm × Nat)) (ct : Nat → File) (Φ : Int → Int → List (Nm × Nat) → (Nat → File) → Prop) (err used' : Int) (ix' : List (Nm × Nat)) (ct' : Nat → File) : Prop :=
  if fuse = 0 then err = 20 ∧ used' = used ∧ ix' = ix ∧ ct' = ct else if ns.any bad = true then err = 1 ∧ used' = used ∧ ix' = ix ∧ ct' = ct else Φ err used' ix' ct'
set_option maxHeartbeats 1000000 in
theorem do_closure (w : World) (bs bm g c k : Nat) (room used fuse : Int) (ix : List (Nm × Nat)) (ct : Nat → File) (caps : List Value) (ns : List ByteArray) (hl : ns.length < 1000) (hin : Inn 0 w bs bm room used fuse ix ct) (hf1 : -1 ≤ fuse) (hf2 : fuse < 9223372036854775808)
    (hg : g < w.heap.size) (hgs : g ≠ bs) (ht : Txts w g ns) (hent : ∀ (args : Array Value) (w : World), (callFunc k args).run Tryz.prog w = .ok (.enter k args) w) (Φ : Int → Int → List (Nm × Nat) → (Nat → File) → Prop)
    (hact : ns.any bad = false → ∀ w1, Inn 1 w1 bs bm room used fuse ix ct → Kept (fun i => i = bs) w w1 → Calls Tryz.prog k (.pointer (some ⟨bs, 0, none⟩) :: caps).toArray w1 fun e w2 => ∃ (err used' : Int) (ix' : List (Nm × Nat)) (ct' : Nat → File),
      e = .returned (.int .i64 err) ∧ Inn 1 w2 bs bm room used' fuse ix' ct' ∧ Step w1 w2 bs bm ix ct ix' ct' ∧ Φ err used' ix' ct')
    (W : World) (hW : W = ((w.alloc (.cells #[.func (.func k) #[] caps.toArray] 59)).alloc (.cells #[.slice (some ⟨g, 0, none⟩) ns.length c] 70)).alloc (.cells #[.int .i64 1] 26)) :
    Calls Tryz.prog 52 #[.pointer (some ⟨bs, 0, none⟩), .pointer (some ⟨w.heap.size + 1 + 1, 0, none⟩), .pointer (some ⟨w.heap.size + 1, 0, none⟩), .pointer (some ⟨w.heap.size, 0, none⟩)] (W.setCell ⟨bs, 0, none⟩ (.int .i32 1)) fun e w1 =>
      e = .returned (.tuple #[]) ∧ w1.cell? ⟨bs, 0, none⟩ = some (.int .i32 1) ∧ w1.frozen? ⟨bs, 0, none⟩ = false ∧ ∃ (err used' : Int) (ix' : List (Nm × Nat)) (ct' : Nat → File),
        w1.cell? ⟨w.heap.size + 1 + 1, 0, none⟩ = some (.int .i64 err) ∧ Inn 1 w1 bs bm room used' (fuseAfter fuse err) ix' ct' ∧ Step w w1 bs bm ix ct ix' ct' ∧ Res fuse ns used ix ct Φ err used' ix' ct' := by
  have hbs := hin.blk.lt
  have k0 : Kept (fun _ => False) w W := by
    rw [hW]
    exact ((Kept.alloc _ w _).trans (Kept.alloc _ _ _) (fun _ _ h => h)).trans (Kept.alloc (fun _ => False) _ _) (fun _ _ h => h)
  have i0 : Inn 0 W bs bm room used fuse ix ct := hin.keptBy k0 (fun _ _ h => h)
  have i1 : Inn 1 (W.setCell ⟨bs, 0, none⟩ (.int .i32 1)) bs bm room used fuse ix ct := i0.set 0 _ rfl
  have k1 : Kept (fun i => i = bs) w (W.setCell ⟨bs, 0, none⟩ (.int .i32 1)) := (k0.mono (fun _ _ h => h.elim)).trans (Kept.setCell (S := fun i => i = bs) W ⟨bs, 0, none⟩ _ rfl) (fun _ _ h => h)
  have sz : W.heap.size = w.heap.size + 3 := by rw [hW]; simp
  have ba : Blk W w.heap.size 59 [.func (.func k) #[] caps.toArray] := by rw [hW]; exact ((blk_new w 59 [.func (.func k) #[] caps.toArray]).alloc _).alloc _
  have bn : Blk W (w.heap.size + 1) 70 [.slice (some ⟨g, 0, none⟩) ns.length c] := by
    have := blk_new (w.alloc (.cells #[.func (.func k) #[] caps.toArray] 59)) 70 [.slice (some ⟨g, 0, none⟩) ns.length c]
    rw [hW]; simpa using this.alloc _
  have be : Blk W (w.heap.size + 1 + 1) 26 [.int .i64 1] := by
    have := blk_new ((w.alloc (.cells #[.func (.func k) #[] caps.toArray] 59)).alloc (.cells #[.slice (some ⟨g, 0, none⟩) ns.length c] 70)) 26 [.int .i64 1]
    rw [hW]; simpa using this
  have htW : Txts W g ns := fun j s hj => by
    have := ht j s hj
    rw [← this]
    exact World.cell?_of_block (k0.block g hg (fun h => h))
  clear hW k0 i0 ht
  replace ba := ba.setOther (a := ⟨bs, 0, none⟩) (by simp; omega) (.int .i32 1)
  replace bn := bn.setOther (a := ⟨bs, 0, none⟩) (by simp; omega) (.int .i32 1)
  replace be := be.setOther (a := ⟨bs, 0, none⟩) (by simp; omega) (.int .i32 1)
  replace htW : Txts (W.setCell ⟨bs, 0, none⟩ (.int .i32 1)) g ns := fun j s hj => by
    have := htW j s hj
    rw [← this]
    exact World.cell?_of_block (Below.heap_setCell _ _ _ _ hgs)
  have sz1 : (W.setCell ⟨bs, 0, none⟩ (.int .i32 1)).heap.size = w.heap.size + 3 := by simpa using sz
  clear sz
  generalize W.setCell ⟨bs, 0, none⟩ (.int .i32 1) = V at *
  have c4 : V.cell? ⟨bs, 4, none⟩ = some (.int .i64 fuse) := i1.blk.cell 4
  have hnf : ∀ i, foot bs bm ix ct i → i ≠ w.heap.size + 1 + 1 := fun i hi => by have := hin.foot_lt hi; omega
  -- a cell of the call's own is written
  have own : ∀ v : Value, Inn 1 (V.setCell ⟨w.heap.size + 1 + 1, 0, none⟩ v) bs bm room used fuse ix ct ∧ Step w (V.setCell ⟨w.heap.size + 1 + 1, 0, none⟩ v) bs bm ix ct ix ct := fun v => by
    have kk : Kept (fun i => i = w.heap.size + 1 + 1) V (V.setCell ⟨w.heap.size + 1 + 1, 0, none⟩ v) := Kept.setCell V _ v rfl
    refine ⟨i1.keptBy kk hnf, Step.of_kept (k1.trans (T := fun i => i = w.heap.size + 1 + 1) kk (fun i hi e => by omega)) (fun i _ e => .inl e)⟩
  have see : ∀ w1, Inn 1 w1 bs bm room used fuse ix ct → w1.cell? ⟨bs, 0, none⟩ = some (.int .i32 1) ∧ w1.frozen? ⟨bs, 0, none⟩ = false := fun w1 h => ⟨h.blk.cell 0, h.blk.frozen 0⟩
  by_cases hz : fuse = 0
  · subst hz
    refine (do1_dead bs _ _ _ V c4 (be.cell 0) (be.frozen 0)).mono ?_
    rintro e w1 ⟨rfl, rfl⟩
    obtain ⟨o1, o2⟩ := own (.int .i64 20)
    refine ⟨rfl, (see _ o1).1, (see _ o1).2, 20, used, ix, ct, (be.set 0 _).cell 0, ?_, o2, ?_⟩
    · simpa [fuseAfter] using o1
    · simp [Res]
  · cases hb : ns.any bad
    · refine (do1_good bs _ _ _ g c k caps fuse ns hl V c4 hz (bn.cell 0) (ba.cell 0) htW hb hent hf1 hf2 (by omega)
        (fun err w2 => ∃ (used' : Int) (ix' : List (Nm × Nat)) (ct' : Nat → File), Inn 1 w2 bs bm room used' fuse ix' ct' ∧ Step V w2 bs bm ix ct ix' ct' ∧ Φ err used' ix' ct') ?_).mono ?_
      · refine (hact hb V i1 k1).mono ?_
        rintro e w2 ⟨err, used', ix', ct', rfl, q1, q2, q3⟩
        have be2 := be.keptBy q2.kept (fun h => hnf _ h rfl)
        exact ⟨err, rfl, q1.blk.cell 4, q1.blk.frozen 4, ⟨1, be2.cell 0⟩, be2.frozen 0, used', ix', ct', q1, q2, q3⟩
      · rintro e w1 ⟨rfl, err, w2, ⟨used', ix', ct', q1, q2, q3⟩, rfl⟩
        have be2 := be.keptBy q2.kept (fun h => hnf _ h rfl)
        have hnf2 : ∀ i, foot bs bm ix' ct' i → i ≠ w.heap.size + 1 + 1 := fun i hi => by
          rcases q2.new i hi with h | h
          · exact hnf i h
          · omega
        have kk : Kept (fun i => i = w.heap.size + 1 + 1) w2 (w2.setCell ⟨w.heap.size + 1 + 1, 0, none⟩ (.int .i64 err)) := Kept.setCell w2 _ _ rfl
        have q4 := (q1.keptBy kk hnf2).burnt err
        have be3 := be2.set 0 (.int .i64 err)
        have kb : Kept (fun i => i = bs) (w2.setCell ⟨w.heap.size + 1 + 1, 0, none⟩ (.int .i64 err)) (Burnt bs fuse err (w2.setCell ⟨w.heap.size + 1 + 1, 0, none⟩ (.int .i64 err))) := kept_burnt (S := fun i => i = bs) rfl _ _ _
        have be4 := be3.keptBy kb (by omega)
        refine ⟨rfl, q4.blk.cell 0, q4.blk.frozen 0, err, used', ix', ct', be4.cell 0, q4, ?_, ?_⟩
        · have s1 : Step w V bs bm ix ct ix ct := Step.of_kept k1 (fun i _ e => .inl e)
          have hk2 : Kept (foot bs bm ix ct) w (w2.setCell ⟨w.heap.size + 1 + 1, 0, none⟩ (.int .i64 err)) := (s1.trans q2).kept.trans kk (fun i hi e => by omega)
          exact ⟨hk2.trans kb (fun i _ e => .inl e), (s1.trans q2).new⟩
        · simp only [Res, hz, hb, if_false]
          simpa using q3
    · refine (do1_bad bs _ _ _ g c fuse ns hl V c4 hz (be.cell 0) (be.frozen 0) (bn.cell 0) htW hb).mono ?_
      rintro e w1 ⟨rfl, rfl⟩
      obtain ⟨o1, o2⟩ := own (.int .i64 1)
      refine ⟨rfl, (see _ o1).1, (see _ o1).2, 1, used, ix, ct, (be.set 0 _).cell 0, ?_, o2, ?_⟩
      · simpa [fuseAfter] using o1
      · simp [Res, hz, hb]
set_option maxHeartbeats 1000000 in
theorem do_any (w : World) (bd bs bm g c k : Nat) (room used fuse : Int) (ix : List (Nm × Nat)) (ct : Nat → File) (caps : List Value) (ns : List ByteArray) (hl : ns.length < 1000) (hd : Blk w bd 49 [.pointer (some ⟨bs, 0, none⟩)]) (hin : Inn 0 w bs bm room used fuse ix ct)
    (hf1 : -1 ≤ fuse) (hf2 : fuse < 9223372036854775808) (hg : g < w.heap.size) (hgs : g ≠ bs) (ht : Txts w g ns) (hent : ∀ (args : Array Value) (w : World), (callFunc k args).run Tryz.prog w = .ok (.enter k args) w) (Φ : Int → Int → List (Nm × Nat) → (Nat → File) → Prop)
    (hact : ns.any bad = false → ∀ w1, Inn 1 w1 bs bm room used fuse ix ct → Kept (fun i => i = bs) w w1 → Calls Tryz.prog k (.pointer (some ⟨bs, 0, none⟩) :: caps).toArray w1 fun e w2 => ∃ (err used' : Int) (ix' : List (Nm × Nat)) (ct' : Nat → File),
      e = .returned (.int .i64 err) ∧ Inn 1 w2 bs bm room used' fuse ix' ct' ∧ Step w1 w2 bs bm ix ct ix' ct' ∧ Φ err used' ix' ct') :
    Calls Tryz.prog 21 #[.pointer (some ⟨bd, 0, none⟩), .func (.func k) #[] caps.toArray, .slice (some ⟨g, 0, none⟩) ns.length c] w fun e w' => ∃ (err used' : Int) (ix' : List (Nm × Nat)) (ct' : Nat → File),
      e = .returned (.int .i64 err) ∧ Inn 0 w' bs bm room used' (fuseAfter fuse err) ix' ct' ∧ Step w w' bs bm ix ct ix' ct' ∧ Res fuse ns used ix ct Φ err used' ix' ct' := by
  obtain ⟨W, hW⟩ : ∃ W, W = ((w.alloc (.cells #[.func (.func k) #[] caps.toArray] 59)).alloc (.cells #[.slice (some ⟨g, 0, none⟩) ns.length c] 70)).alloc (.cells #[.int .i64 1] 26) := ⟨_, rfl⟩
  have HC := do_closure w bs bm g c k room used fuse ix ct caps ns hl hin hf1 hf2 hg hgs ht hent Φ hact W hW
  have hdW : Blk W bd 49 [.pointer (some ⟨bs, 0, none⟩)] := by rw [hW]; exact ((hd.alloc _).alloc _).alloc _
  have hbW : Blk W bs 84 (head 0 room used fuse bm) := by rw [hW]; exact ((hin.blk.alloc _).alloc _).alloc _
  have HW : Hid (Calls Tryz.prog 18 #[.pointer (some ⟨bd, 0, none⟩), .func (.func 52) #[] #[.pointer (some ⟨w.heap.size + 1 + 1, 0, none⟩), .pointer (some ⟨w.heap.size + 1, 0, none⟩), .pointer (some ⟨w.heap.size, 0, none⟩)]] W fun e w' => e = .returned (.tuple #[]) ∧
      ∃ (err used' : Int) (ix' : List (Nm × Nat)) (ct' : Nat → File), w'.cell? ⟨w.heap.size + 1 + 1, 0, none⟩ = some (.int .i64 err) ∧ Inn 0 w' bs bm room used' (fuseAfter fuse err) ix' ct' ∧ Step w w' bs bm ix ct ix' ct' ∧ Res fuse ns used ix ct Φ err used' ix' ct') := by
    refine (with_any bd bs W 52 [.pointer (some ⟨w.heap.size + 1 + 1, 0, none⟩), .pointer (some ⟨w.heap.size + 1, 0, none⟩), .pointer (some ⟨w.heap.size, 0, none⟩)] _ enters46 (hdW.cell 0) (hdW.ne hbW (by decide)) (hbW.cell 0) (hbW.frozen 0) HC).mono ?_
    rintro e w' ⟨rfl, w1, ⟨err, used', ix', ct', h1, h2, h3, h4⟩, rfl⟩
    have hbs := hin.blk.lt
    refine ⟨rfl, err, used', ix', ct', ?_, h2.set 0 _ rfl, ⟨h3.kept.trans (Kept.setCell (S := fun i => i = bs) w1 ⟨bs, 0, none⟩ _ rfl) (fun i _ e => .inl e), h3.new⟩, h4⟩
    rw [World.cell?_setCell_other _ _ _ _ (fun e => by cases e; omega)]
    exact h1
  clear HC hdW hbW hact hin hd ht
  have hmf := hmf
  go_enter Tryz.func21, Tryz.ntmps21
  go_wp2_with (go_at_call 18; rw [← hW]; refine HW.out.mono ?_; rintro e w' ⟨rfl, err, used', ix', ct', h1, h2⟩)
  have H2 : Hid _ := h2
  clear h2 HW hW
  go_wp2
  go_ret
  exact ⟨err, used', ix', ct', rfl, H2.out⟩
#print axioms do_any
end Go.Proofs.YtmpnceicodfifaaGreat
