/-
  Sync, Crash, Read, Used, Fuse and New on a disk in memory.
-/
import Derived.Test.YtmpnceicodfifaaGreatDisk
namespace Go.Proofs.YtmpnceicodfifaaGreat
open Go.RowKit Go.Maps
theorem disk_out {w : World} {bd bs bm : Nat} {lk : Int} {room used fuse : Int} {ix : List (Nm × Nat)} {ct : Nat → File} (h1 : Blk w bd 49 [.pointer (some ⟨bs, 0, none⟩)]) (h2 : Inn lk w bs bm room used fuse ix ct) : ¬ foot bs bm ix ct bd := by
  rintro (e | e | ⟨p, hp, e | e⟩)
  · exact h1.ne h2.blk (by decide) e
  · exact ownsMap_ne h2.map h1 e
  · exact h1.ne (h2.file p hp) (by decide) e
  · obtain ⟨_, hv⟩ := (h2.row p hp).blk e
    exact h1.ne hv (by decide) rfl
theorem with_disk {w : World} {bd : Nat} {S : Nat → Prop} {a : Ab} (h : Disk w bd S a) (k : Nat) (caps : List Value) (hent : ∀ (args : Array Value) (w : World), (callFunc k args).run Tryz.prog w = .ok (.enter k args) w) (a' : Ab) (hF : Fine a') (T : Nat → Prop) (hT : ∀ i, S i → ¬ T i)
    (R : World → (Nat → Prop) → Prop) (hR : ∀ W S' bs, S' bs → R W S' → R (W.setCell ⟨bs, 0, none⟩ (.int .i32 0)) S')
    (hact : ∀ bs bm ix ct, a.fs = view ix ct → (S = fun i => i = bd ∨ foot bs bm ix ct i) → ∀ w1, Inn 1 w1 bs bm a.room (tot ix ct) a.fuse ix ct → Kept (fun i => i = bs) w w1 → S bs → Calls Tryz.prog k (.pointer (some ⟨bs, 0, none⟩) :: caps).toArray w1 fun e w2 => e = .returned (.tuple #[]) ∧ ∃ (ix' : List (Nm × Nat)) (ct' : Nat → File),
      Inn 1 w2 bs bm a'.room (tot ix' ct') a'.fuse ix' ct' ∧ a'.fs = view ix' ct' ∧ Kept (fun i => foot bs bm ix ct i ∨ T i) w1 w2 ∧ (∀ i, foot bs bm ix' ct' i → foot bs bm ix ct i ∨ w.heap.size ≤ i) ∧ R w2 (fun i => i = bd ∨ foot bs bm ix' ct' i)) :
    Calls Tryz.prog 18 #[.pointer (some ⟨bd, 0, none⟩), .func (.func k) #[] caps.toArray] w fun e w' => e = .returned (.tuple #[]) ∧ ∃ S', Disk w' bd S' a' ∧ Kept (fun i => S i ∨ T i) w w' ∧ (∀ i, S' i → S i ∨ w.heap.size ≤ i) ∧ R w' S' := by
  obtain ⟨hf, bs, bm, ix, ct, h1, h2, h3, hS⟩ := h
  have hSb : S bs := by rw [hS]; exact .inr (.inl rfl)
  have hSd : S bd := by rw [hS]; exact .inl rfl
  have i1 : Inn 1 (w.setCell ⟨bs, 0, none⟩ (.int .i32 1)) bs bm a.room (tot ix ct) a.fuse ix ct := h2.set 0 _ rfl
  have k1 : Kept (fun i => i = bs) w (w.setCell ⟨bs, 0, none⟩ (.int .i32 1)) := Kept.setCell (S := fun i => i = bs) w ⟨bs, 0, none⟩ _ rfl
  refine (with_any bd bs w k caps (fun w2 => ∃ (ix' : List (Nm × Nat)) (ct' : Nat → File), Inn 1 w2 bs bm a'.room (tot ix' ct') a'.fuse ix' ct' ∧ a'.fs = view ix' ct' ∧ Kept (fun i => foot bs bm ix ct i ∨ T i) (w.setCell ⟨bs, 0, none⟩ (.int .i32 1)) w2 ∧
      (∀ i, foot bs bm ix' ct' i → foot bs bm ix ct i ∨ w.heap.size ≤ i) ∧ R w2 (fun i => i = bd ∨ foot bs bm ix' ct' i)) hent (h1.cell 0) (h1.ne h2.blk (by decide)) (h2.blk.cell 0) (h2.blk.frozen 0) ?_).mono ?_
  · refine (hact bs bm ix ct h3 hS _ i1 k1 hSb).mono ?_
    rintro e w2 ⟨rfl, ix', ct', q1, q2, q3, q4, q5⟩
    exact ⟨rfl, q1.blk.cell 0, q1.blk.frozen 0, ix', ct', q1, q2, q3, q4, q5⟩
  · rintro e w' ⟨rfl, w2, ⟨ix', ct', q1, q2, q3, q4, q5⟩, rfl⟩
    have hbd := disk_out h1 h2
    have ku : Kept (fun i => i = bs) w2 (w2.setCell ⟨bs, 0, none⟩ (.int .i32 0)) := Kept.setCell (S := fun i => i = bs) w2 ⟨bs, 0, none⟩ _ rfl
    have d1 : Blk (w.setCell ⟨bs, 0, none⟩ (.int .i32 1)) bd 49 [.pointer (some ⟨bs, 0, none⟩)] := h1.keptBy k1 (h1.ne h2.blk (by decide))
    have d2 : Blk w2 bd 49 [.pointer (some ⟨bs, 0, none⟩)] := d1.keptBy q3 (by rintro (e | e); exact hbd e; exact hT bd hSd e)
    have d3 := d2.keptBy ku (h1.ne h2.blk (by decide))
    have kT : Kept (fun i => S i ∨ T i) w w2 := ((k1.mono fun i _ e => .inl (e ▸ hSb)).trans q3 (fun i _ e => by
      rcases e with e | e
      · left; rw [hS]; exact .inr e
      · exact .inr e))
    refine ⟨rfl, fun i => i = bd ∨ foot bs bm ix' ct' i, ⟨hF, bs, bm, ix', ct', d3, q1.set 0 _ rfl, q2, rfl⟩, kT.trans ku (fun i _ e => .inl (e ▸ hSb)), fun i hi => ?_, hR _ _ _ (.inr (.inl rfl)) q5⟩
    rcases hi with e | e
    · left; rw [e]; exact hSd
    · rcases q4 i e with e | e
      · left; rw [hS]; exact .inr e
      · exact .inr e
#print axioms with_disk
set_option maxHeartbeats 1000000 in
theorem sync_disk {w : World} {bd : Nat} {S : Nat → Prop} {a : Ab} (h : Disk w bd S a) (s : ByteArray) :
    Calls Tryz.prog 14 #[.pointer (some ⟨bd, 0, none⟩), .string s] w fun e w' => e = .returned (.int .i64 (aDo [s] (aSync s.data.toList) a).1) ∧ ∃ S', Disk w' bd S' (aDo [s] (aSync s.data.toList) a).2 ∧ Went w w' S S' := by
  obtain ⟨W, hW⟩ : ∃ W, W = (w.alloc (.cells #[.string s] 9)).alloc (.cells #[.string s] 9) := ⟨_, rfl⟩
  have kW : Kept (fun _ => False) w W := by
    rw [hW]
    exact (Kept.alloc _ w _).trans (Kept.alloc (fun _ => False) _ _) (fun _ _ h => h)
  have dW : Disk W bd S a := h.keptBy kW (fun _ _ h => h)
  have b0 : Blk W w.heap.size 9 [.string s] := by rw [hW]; exact (blk_new w 9 [.string s]).alloc _
  have b2 : Blk W (w.heap.size + 1) 9 ([s].map Value.string) := by
    have := blk_new (w.alloc (.cells #[.string s] 9)) 9 [.string s]
    rw [hW]; simpa using this
  have HD : Hid (Calls Tryz.prog 21 #[.pointer (some ⟨bd, 0, none⟩), .func (.func 46) #[] #[.pointer (some ⟨w.heap.size, 0, none⟩)], .slice (some ⟨w.heap.size + 1, 0, none⟩) 1 1] W fun e w' =>
      e = .returned (.int .i64 (aDo [s] (aSync s.data.toList) a).1) ∧ ∃ S', Disk w' bd S' (aDo [s] (aSync s.data.toList) a).2 ∧ Went W w' S S') := by
    refine do_disk dW 46 (w.heap.size + 1) 1 [.pointer (some ⟨w.heap.size, 0, none⟩)] [s] (by simp) b2.lt (fun e => by have := h.lt e; omega) (txts_one b2) enters27 (aSync s.data.toList) (h.1.fs.sync _) ?_
    intro bs bm ix ct hv hb w1 i1 k1 hS
    have hlt := h.lt hS
    have hf := h.1
    have c0 := (b0.keptBy k1 (by omega)).cell 0
    have hs64 : s.size ≤ 64 := by
      simp [bad] at hb
      omega
    have HE : Hid (Calls Tryz.prog 47 #[.pointer (some ⟨bs, 0, none⟩), .string s] w1 fun e w2 => ∃ (err : Int) (ix' : List (Nm × Nat)) (ct' : Nat → File),
        e = .returned (.int .i64 err) ∧ Inn 1 w2 bs bm a.room (tot ix' ct') a.fuse ix' ct' ∧ Step w1 w2 bs bm ix ct ix' ct' ∧ (err, view ix' ct') = aSync s.data.toList a.fs) := by
      have hu := hf.fs.used
      rw [hv, total_view] at hu
      refine (ssync_any i1 s (by unfold maxLen; omega) (fun f hg => ?_)).mono ?_
      · have := le_tot (ct := ct) (mem_of_get hg)
        simp only at this
        have := hf.room1
        omega
      · rintro e w2 ⟨err, ct', rfl, q1, q2, q3⟩
        rw [hv]
        unfold aSync
        rw [view_get]
        cases hg : get ix s.data.toList with
        | none =>
          rw [hg] at q3
          obtain ⟨rfl, rfl⟩ := q3
          exact ⟨_, _, _, rfl, q1, q2, rfl⟩
        | some f =>
          rw [hg] at q3
          obtain ⟨rfl, rfl⟩ := q3
          have hf' := mem_of_get hg
          have ht := tot_upd (ct := ct) ⟨(ct f).v, (ct f).b, (ct f).b.length⟩ i1.two (List.mem_map.2 ⟨_, hf', rfl⟩)
          simp only at ht
          have ht' : tot ix (upd ct f ⟨(ct f).v, (ct f).b, (ct f).b.length⟩) = tot ix ct := by omega
          refine ⟨_, _, _, rfl, by rw [ht']; exact q1, q2, ?_⟩
          rw [view_upd i1.one i1.two hf']
          rfl
    clear hv hb i1 k1 hS hlt hf
    simp only [List.getElem?_cons_zero] at c0
    clear dW b0 b2 hW kW h
    go_enter Tryz.func46, Tryz.ntmps46
    go_wp2_with (go_at_call 47; refine HE.out.mono ?_; rintro e w2 ⟨err, ix', ct', rfl, hp⟩)
    go_ret
    exact ⟨err, ix', ct', rfl, hp⟩
  have HK : Hid (Kept (fun _ => False) w W) := kW
  clear kW dW b0 b2 h
  have hmf := hmf
  go_enter Tryz.func14, Tryz.ntmps14
  go_wp2_with (go_at_call 21; rw [← hW]; refine HD.out.mono ?_; rintro e w' ⟨rfl, S', d', g'⟩)
  go_ret
  refine ⟨rfl, S', d', ?_⟩
  exact Went.trans (Went.of_kept HK.out (fun _ _ h => h.elim)) g'
end Go.Proofs.YtmpnceicodfifaaGreat
