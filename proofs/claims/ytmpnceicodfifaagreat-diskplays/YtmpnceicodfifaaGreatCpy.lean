/-
  Copy on a disk in memory.
-/
import Derived.Test.YtmpnceicodfifaaGreatCpe
namespace Go.Proofs.YtmpnceicodfifaaGreat
open Go.RowKit Go.Maps
set_option linter.unusedVariables false
theorem enters19 : ∀ (args : Array Value) (w : World), (callFunc 19 args).run Tryz.prog w = .ok (.enter 19 args) w := enters Tryz.func19 (by kernel_rfl) rfl
theorem fine_copy {a : Ab} (h : Fine a) : Fine ⟨a.room, -1, a.fs⟩ := ⟨h.room0, h.room1, by simp, by simp, h.fs⟩
set_option maxHeartbeats 1000000 in
theorem copy_disk {w : World} {bd : Nat} {S : Nat → Prop} {a : Ab} (h : Disk w bd S a) :
    Calls Tryz.prog 8 #[.pointer (some ⟨bd, 0, none⟩)] w fun e w' => ∃ bn S', e = .returned (.pointer (some ⟨bn, 0, none⟩)) ∧ Hid (Disk w' bn S' ⟨a.room, -1, a.fs⟩ ∧ (∀ i, S' i → w.heap.size ≤ i) ∧ Disk w' bd S a ∧ Kept S w w') := by
  have kW : Kept (fun _ => False) w (w.alloc (.cells #[.pointer none] 25)) := Kept.alloc _ w _
  have dW := h.alloc (.cells #[.pointer none] 25)
  have b0 := blk_new w 25 [.pointer none]
  have hT : ∀ i, S i → ¬ i = w.heap.size := fun i hi => by have := h.lt hi; omega
  have HD : Hid (Calls Tryz.prog 18 #[.pointer (some ⟨bd, 0, none⟩), .func (.func 19) #[] #[.pointer (some ⟨w.heap.size, 0, none⟩)]] (w.alloc (.cells #[.pointer none] 25)) fun e w' => e = .returned (.tuple #[]) ∧ ∃ bn S', w'.cell? ⟨w.heap.size, 0, none⟩ = some (.pointer (some ⟨bn, 0, none⟩)) ∧ Hid (Disk w' bn S' ⟨a.room, -1, a.fs⟩ ∧ (∀ i, S' i → w.heap.size ≤ i) ∧ Disk w' bd S a ∧ Kept S w w')) := by
    refine (with_disk dW 19 [.pointer (some ⟨w.heap.size, 0, none⟩)] enters19 a h.1 (fun i => i = w.heap.size) hT (fun W S' => S' = S ∧ ∃ bn S2, W.cell? ⟨w.heap.size, 0, none⟩ = some (.pointer (some ⟨bn, 0, none⟩)) ∧ Disk W bn S2 ⟨a.room, -1, a.fs⟩ ∧ ∀ i, S2 i → w.heap.size < i) ?_ ?_).mono ?_
    · rintro W S' bs hb ⟨rfl, bn, S2, hc, hd, hn⟩
      have hbl := h.lt hb
      refine ⟨rfl, bn, S2, ?_, hd.keptBy (Kept.setCell (S := fun i => i = bs) W ⟨bs, 0, none⟩ _ rfl) (fun i hi e => by have := hn i hi; omega), hn⟩
      rw [World.cell?_setCell_other _ _ _ _ (fun e => hT _ hb (by cases e <;> rfl))]
      exact hc
    · intro bs bm ix ct hv hS w1 i1 k1 hSb
      have b1 := b0.keptBy k1 (fun e => hT _ hSb e.symm)
      have hlen : ix.length ≤ 4096 := by have := h.1.fs.files; rw [hv, length_view] at this; exact this
      have htot : tot ix ct ≤ 1073741824 := by
        have h1 := h.1.fs.used
        have h2 := h.1.room1
        rw [hv, total_view] at h1
        omega
      have s1 : w.heap.size < w1.heap.size := b1.lt
      have HC : Hid (Calls Tryz.prog 20 #[.pointer (some ⟨bs, 0, none⟩)] w1 fun e w' => ∃ bs' bm' ix' ct', e = .returned (.pointer (some ⟨bs', 0, none⟩)) ∧ Hid (Inn 0 w' bs' bm' a.room (tot ix ct) (-1) ix' ct' ∧ view ix' ct' = view ix ct ∧ (∀ i, foot bs' bm' ix' ct' i → w1.heap.size ≤ i) ∧ Below w1.heap.size w1 w')) := copied_any i1 hlen htot
      have HI : Hid (Inn 1 w1 bs bm a.room (tot ix ct) a.fuse ix ct ∧ a.fs = view ix ct ∧ (S = fun i => i = bd ∨ foot bs bm ix ct i) ∧ Blk w1 w.heap.size 25 [.pointer none] ∧ Fine a) := ⟨i1, hv, hS, b1, h.1⟩
      clear i1 k1 hv hS hSb b1 dW kW b0 h
      have HT : Hid (∀ i, S i → ¬ i = w.heap.size) := hT
      clear hT
      go_enter Tryz.func19, Tryz.ntmps19
      go_wp2_with (go_at_call 20; refine HC.out.mono ?_; rintro e w2 ⟨bs', bm', ix', ct', rfl, hp⟩; have b2 := HI.out.2.2.2.1.below hp.out.2.2.2 s1; have c2 := b2.cell 0; have z2 := b2.frozen 0; have s2 := hp.out.2.2.2.size; have s3 : w.heap.size < w2.heap.size := (by omega); have z3 := (b2.alloc (.cells #[.pointer (some ⟨bs', 0, none⟩)] 49)).frozen 0; clear b2)
      go_end0
      obtain ⟨i2, hvw, hft, bl2⟩ := hp.out
      obtain ⟨i1, hv, hS, b1, hfine⟩ := HI.out
      have b2 := b1.below bl2 s1
      have k3 : Kept (fun i => i = w.heap.size) w2 ((w2.setCell ⟨w.heap.size, 0, none⟩ (.pointer (some ⟨w2.heap.size, 0, none⟩))).alloc (.cells #[.pointer (some ⟨bs', 0, none⟩)] 49)) :=
        (Kept.setCell (S := fun i => i = w.heap.size) w2 ⟨w.heap.size, 0, none⟩ _ rfl).trans (Kept.alloc (fun i => i = w.heap.size) _ _) (fun _ _ e => e)
      have k4 : Kept (fun i => i = w.heap.size) w1 ((w2.setCell ⟨w.heap.size, 0, none⟩ (.pointer (some ⟨w2.heap.size, 0, none⟩))).alloc (.cells #[.pointer (some ⟨bs', 0, none⟩)] 49)) := (Kept.of_below (S := fun i => i = w.heap.size) bl2).trans k3 (fun _ _ e => e)
      refine ⟨rfl, ix, ct, i1.keptBy k4 (fun i hi => HT.out i (by rw [hS]; exact .inr hi)), hv, k4.mono (fun _ _ e => Or.inr e), fun i e => Or.inl e, hS.symm, w2.heap.size, fun i => i = w2.heap.size ∨ foot bs' bm' ix' ct' i, ?_, ⟨fine_copy hfine, bs', bm', ix', ct', ?_, ?_, ?_, rfl⟩, ?_⟩
      · exact ((b2.set 0 _).alloc _).cell 0
      · have := blk_new (w2.setCell ⟨w.heap.size, 0, none⟩ (.pointer (some ⟨w2.heap.size, 0, none⟩))) 49 [.pointer (some ⟨bs', 0, none⟩)]
        simpa using this
      · have ht : tot ix' ct' = tot ix ct := by rw [← total_view, ← total_view, hvw]
        simp only
        rw [ht]
        exact i2.keptBy k3 (fun i hi e => by have := hft i hi; omega)
      · simp only
        rw [hv, hvw]
      · rintro i (e | e)
        · omega
        · have := hft i e; omega
    · rintro e w' ⟨rfl, S', d', k', n', rfl, bn, S2, hc, hd, hn⟩
      exact ⟨rfl, bn, S2, hc, hd, fun i hi => Nat.le_of_lt (hn i hi), d', (kW.mono fun _ _ e => e.elim).trans k' (fun i hi e => e.resolve_right (by omega))⟩
  clear kW dW b0 h hT
  have hmf := hmf
  go_enter Tryz.func8, Tryz.ntmps8
  go_wp2_with (go_at_call 18; refine HD.out.mono ?_; rintro e w' ⟨rfl, bn, S', hc, hp⟩)
  go_ret
  exact ⟨bn, S', rfl, hp⟩
#print axioms copy_disk
end Go.Proofs.YtmpnceicodfifaaGreat
