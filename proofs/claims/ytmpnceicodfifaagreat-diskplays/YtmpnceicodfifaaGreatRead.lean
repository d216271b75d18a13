/-
  Read on a disk in memory.
-/
import Derived.Test.YtmpnceicodfifaaGreatMore
namespace Go.Proofs.YtmpnceicodfifaaGreat
open Go.RowKit Go.Maps
theorem Own.mono {w : World} {base base' : Nat} {v : Value} {l : List Nat} (h : Own w base v l) (hb : base' ≤ base) : Own w base' v l := by
  rcases h with ⟨h0, h1 | ⟨g, cap, cur, e, h2, h3⟩⟩
  · exact ⟨h0, .inl h1⟩
  · exact ⟨h0, .inr ⟨g, cap, cur, e, Nat.le_trans hb h2, h3⟩⟩
theorem Told.mono {w : World} {base base' : Nat} {v : Value} {err : Int} {x : Option Fl} (h : Told w base v err x) (hb : base' ≤ base) : Told w base' v err x := by
  cases x with
  | none => exact h
  | some y => exact ⟨Own.mono h.1 hb, h.2⟩
set_option maxHeartbeats 1000000 in
theorem read_disk {w : World} {bd : Nat} {S : Nat → Prop} {a : Ab} (h : Disk w bd S a) (s : ByteArray) (hs : s.size ≤ maxLen) :
    Calls Tryz.prog 15 #[.pointer (some ⟨bd, 0, none⟩), .string s] w fun e w' => ∃ v err, e = .returned (.tuple #[v, .int .i64 err]) ∧ Told w' w.heap.size v err (get a.fs s.data.toList) ∧ Disk w' bd S a ∧ Kept S w w' := by
  obtain ⟨W, hW⟩ : ∃ W, W = ((w.alloc (.cells #[.string s] 9)).alloc (.cells #[.slice none 0 0] 32)).alloc (.cells #[.int .i64 7] 26) := ⟨_, rfl⟩
  have kW : Kept (fun _ => False) w W := by
    rw [hW]
    exact ((Kept.alloc _ w _).trans (Kept.alloc _ _ _) (fun _ _ h => h)).trans (Kept.alloc (fun _ => False) _ _) (fun _ _ h => h)
  have dW : Disk W bd S a := h.keptBy kW (fun _ _ h => h)
  have sz : W.heap.size = w.heap.size + 3 := by rw [hW]; simp
  have b0 : Blk W w.heap.size 9 [.string s] := by rw [hW]; exact ((blk_new w 9 [.string s]).alloc _).alloc _
  have b1 : Blk W (w.heap.size + 1) 32 [.slice none 0 0] := by
    have := blk_new (w.alloc (.cells #[.string s] 9)) 32 [.slice none 0 0]
    rw [hW]; simpa using this.alloc _
  have b2 : Blk W (w.heap.size + 1 + 1) 26 [.int .i64 7] := by
    have := blk_new ((w.alloc (.cells #[.string s] 9)).alloc (.cells #[.slice none 0 0] 32)) 26 [.int .i64 7]
    rw [hW]; simpa using this
  have hT : ∀ i, S i → ¬ (i = w.heap.size + 1 ∨ i = w.heap.size + 1 + 1) := fun i hi => by have := h.lt hi; omega
  have HD : Hid (Calls Tryz.prog 18 #[.pointer (some ⟨bd, 0, none⟩), .func (.func 48) #[] #[.pointer (some ⟨w.heap.size, 0, none⟩), .pointer (some ⟨w.heap.size + 1, 0, none⟩), .pointer (some ⟨w.heap.size + 1 + 1, 0, none⟩)]] W fun e w' => e = .returned (.tuple #[]) ∧
      ∃ v err, w'.cell? ⟨w.heap.size + 1, 0, none⟩ = some v ∧ w'.cell? ⟨w.heap.size + 1 + 1, 0, none⟩ = some (.int .i64 err) ∧ (∃ x y z, v = .slice x y z) ∧ Hid (∀ q, Told (w'.drewN q) w.heap.size v err (get a.fs s.data.toList) ∧ Disk (w'.drewN q) bd S a ∧ Kept S w (w'.drewN q))) := by
    refine (with_disk dW 48 [.pointer (some ⟨w.heap.size, 0, none⟩), .pointer (some ⟨w.heap.size + 1, 0, none⟩), .pointer (some ⟨w.heap.size + 1 + 1, 0, none⟩)] enters32 a h.1 (fun i => i = w.heap.size + 1 ∨ i = w.heap.size + 1 + 1) hT
      (fun V S' => S' = S ∧ ∃ v err, Told V W.heap.size v err (get a.fs s.data.toList) ∧ V.cell? ⟨w.heap.size + 1, 0, none⟩ = some v ∧ V.cell? ⟨w.heap.size + 1 + 1, 0, none⟩ = some (.int .i64 err)) ?_ ?_).mono ?_
    · rintro V S' bs hb ⟨rfl, v, err, ht, h1, h2⟩
      have hl := h.lt hb
      refine ⟨rfl, v, err, ht.keptBy (Kept.setCell (S := fun i => i = bs) V ⟨bs, 0, none⟩ _ rfl) (fun i e => by omega), ?_, ?_⟩
      · rw [World.cell?_setCell_other _ _ _ _ (fun e => by cases e; omega)]; exact h1
      · rw [World.cell?_setCell_other _ _ _ _ (fun e => by cases e; omega)]; exact h2
    · intro bs bm ix ct hv hS w1 i1 k1 hSb
      have hl := h.lt hSb
      have hf := h.1
      have hu := hf.fs.used
      rw [hv, total_view] at hu
      have hr := hf.room1
      refine (read1_any i1 _ _ _ s hs (b0.keptBy k1 (by omega)) (b1.keptBy k1 (by omega)) (b2.keptBy k1 (by omega)) (fun f hg => ?_)).mono ?_
      · have := le_tot (ct := ct) (mem_of_get hg)
        simp only at this
        omega
      · rintro e w2 ⟨rfl, v, err, t, q1, q2, q3⟩
        refine ⟨rfl, ix, ct, i1.keptBy q3 (fun i hi => hT i (by rw [hS]; exact .inr hi)), hv, q3.mono fun _ _ e => .inr e, fun i e => .inl e, hS.symm, v, err, ?_, q1, q2⟩
        rw [hv, view_get]
        exact t.mono k1.size
    · rintro e w' ⟨rfl, S', d', k', n', rfl, v, err, t, q1, q2⟩
      refine ⟨rfl, v, err, q1, q2, t.shape, fun q => ?_⟩
      have kd : Kept (fun _ => False) w' (w'.drewN q) := ⟨rfl, rfl, rfl, Nat.le_refl _, fun _ _ _ => rfl⟩
      refine ⟨(t.mono (by omega)).keptBy kd (fun _ h => h.elim), d'.keptBy kd (fun _ _ h => h), ?_⟩
      exact ((kW.mono fun _ _ e => e.elim).trans k' (fun i hi e => e.resolve_right (by omega))).trans kd (fun _ _ h => h.elim)
  clear kW dW b0 b1 b2 h hT sz hs
  have hmf := hmf
  go_enter Tryz.func15, Tryz.ntmps15
  go_wp2_with (go_at_call 18; rw [← hW]; refine HD.out.mono ?_; rintro e w' ⟨rfl, v, err, q1, q2, ⟨x, y, z, rfl⟩, hp⟩)
  clear hW
  go_quiet (fail)
  go_wp2
  refine bodyPost_ret (results_tmp2 rfl _ _ _) rfl ?_
  exact ⟨_, err, rfl, hp.out _⟩
#print axioms read_disk
end Go.Proofs.YtmpnceicodfifaaGreat
