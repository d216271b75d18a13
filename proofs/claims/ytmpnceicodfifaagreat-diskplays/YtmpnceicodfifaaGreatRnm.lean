/-
  Rename on a disk in memory.
-/
import Derived.Test.YtmpnceicodfifaaGreatRen
namespace Go.Proofs.YtmpnceicodfifaaGreat
open Go.RowKit Go.Maps
theorem enters39 : ∀ (args : Array Value) (w : World), (callFunc 65 args).run Tryz.prog w = .ok (.enter 65 args) w := enters Tryz.func65 (by kernel_rfl) rfl
set_option maxHeartbeats 1000000 in
theorem rename_disk {w : World} {bd : Nat} {S : Nat → Prop} {a : Ab} (h : Disk w bd S a) (s t : ByteArray) :
    Calls Tryz.prog 33 #[.pointer (some ⟨bd, 0, none⟩), .string s, .string t] w fun e w' => e = .returned (.int .i64 (aDo [s, t] (aRename s.data.toList t.data.toList) a).1) ∧ ∃ S', Disk w' bd S' (aDo [s, t] (aRename s.data.toList t.data.toList) a).2 ∧ Went w w' S S' := by
  obtain ⟨W, hW⟩ : ∃ W, W = ((w.alloc (.cells #[.string s] 9)).alloc (.cells #[.string t] 9)).alloc (.cells #[.string s, .string t] 9) := ⟨_, rfl⟩
  have kW : Kept (fun _ => False) w W := by
    rw [hW]
    exact ((Kept.alloc _ w _).trans (Kept.alloc _ _ _) (fun _ _ h => h)).trans (Kept.alloc (fun _ => False) _ _) (fun _ _ h => h)
  have dW : Disk W bd S a := h.keptBy kW (fun _ _ h => h)
  have b0 : Blk W w.heap.size 9 [.string s] := by rw [hW]; exact ((blk_new w 9 [.string s]).alloc _).alloc _
  have b1 : Blk W (w.heap.size + 1) 9 [.string t] := by
    have := blk_new (w.alloc (.cells #[.string s] 9)) 9 [.string t]
    rw [hW]; simpa using this.alloc _
  have b2 : Blk W (w.heap.size + 1 + 1) 9 ([s, t].map Value.string) := by
    have := blk_new ((w.alloc (.cells #[.string s] 9)).alloc (.cells #[.string t] 9)) 9 [.string s, .string t]
    rw [hW]; simpa using this
  have HD : Hid (Calls Tryz.prog 21 #[.pointer (some ⟨bd, 0, none⟩), .func (.func 65) #[] #[.pointer (some ⟨w.heap.size, 0, none⟩), .pointer (some ⟨w.heap.size + 1, 0, none⟩)], .slice (some ⟨w.heap.size + 1 + 1, 0, none⟩) 2 2] W fun e w' =>
      e = .returned (.int .i64 (aDo [s, t] (aRename s.data.toList t.data.toList) a).1) ∧ ∃ S', Disk w' bd S' (aDo [s, t] (aRename s.data.toList t.data.toList) a).2 ∧ Went W w' S S') := by
    refine do_disk dW 65 (w.heap.size + 1 + 1) 2 [.pointer (some ⟨w.heap.size, 0, none⟩), .pointer (some ⟨w.heap.size + 1, 0, none⟩)] [s, t] (by simp) b2.lt (fun e => by have := h.lt e; omega) (txts_one b2) enters39 (aRename s.data.toList t.data.toList) (h.1.fs.rename _ _) ?_
    intro bs bm ix ct hv hb w1 i1 k1 hS
    have hlt := h.lt hS
    have hf := h.1
    have c0 := (b0.keptBy k1 (by omega)).cell 0
    have c1 := (b1.keptBy k1 (by omega)).cell 0
    have hst : s.size ≤ 64 ∧ t.size ≤ 64 := by
      simp [bad] at hb
      omega
    have HE : Hid (Calls Tryz.prog 66 #[.pointer (some ⟨bs, 0, none⟩), .string s, .string t] w1 fun e w2 => ∃ (err : Int) (ix' : List (Nm × Nat)) (ct' : Nat → File),
        e = .returned (.int .i64 err) ∧ Inn 1 w2 bs bm a.room (tot ix' ct') a.fuse ix' ct' ∧ Step w1 w2 bs bm ix ct ix' ct' ∧ (err, view ix' ct') = aRename s.data.toList t.data.toList a.fs) := by
      have hu := hf.fs.used
      have hr := hf.room1
      have hl := hf.fs.files
      rw [hv, total_view] at hu
      rw [hv, length_view] at hl
      rw [hv]
      exact rename_any i1 s t (by unfold maxLen; omega) (by omega) (by omega) hl
    clear hv hb i1 k1 hS hlt hf
    simp only [List.getElem?_cons_zero] at c0 c1
    clear dW b0 b1 b2 hW kW h
    go_enter Tryz.func65, Tryz.ntmps65
    go_wp2_with (go_at_call 66; refine HE.out.mono ?_; rintro e w2 ⟨err, ix', ct', rfl, hp⟩)
    go_ret
    exact ⟨err, ix', ct', rfl, hp⟩
  have HK : Hid (Kept (fun _ => False) w W) := kW
  clear kW dW b0 b1 b2 h
  have hmf := hmf
  go_enter Tryz.func33, Tryz.ntmps33
  go_wp2_with (go_at_call 21; rw [← hW]; refine HD.out.mono ?_; rintro e w' ⟨rfl, S', d', g'⟩)
  go_ret
  refine ⟨rfl, S', d', ?_⟩
  exact Went.trans (Went.of_kept HK.out (fun _ _ h => h.elim)) g'
#print axioms rename_disk
end Go.Proofs.YtmpnceicodfifaaGreat
