/-
  Truncate on a disk in memory.
-/
import Derived.Test.YtmpnceicodfifaaGreatRnm
namespace Go.Proofs.YtmpnceicodfifaaGreat
open Go.RowKit Go.Maps
set_option linter.unusedVariables false
set_option maxRecDepth 8000 in
set_option maxHeartbeats 1000000 in
theorem truncate_any {lk : Int} {w : World} {bs bm : Nat} {room fuse : Int} {ix : List (Nm × Nat)} {ct : Nat → File} (h : Inn lk w bs bm room (tot ix ct) fuse ix ct) (s : ByteArray) (n : Int) (hs : s.size ≤ maxLen) (hu2 : tot ix ct ≤ 1073741824) :
    Calls Tryz.prog 64 #[.pointer (some ⟨bs, 0, none⟩), .string s, .int .i64 n] w fun e w' => ∃ (err : Int) (ix' : List (Nm × Nat)) (ct' : Nat → File), e = .returned (.int .i64 err) ∧ Inn lk w' bs bm room (tot ix' ct') fuse ix' ct' ∧ Step w w' bs bm ix ct ix' ct' ∧ (err, view ix' ct') = aTrunc s.data.toList n (view ix ct) := by
  have hlk := h.lookup hs
  have c5 : w.cell? ⟨bs, 5, none⟩ = some (.map (some bm)) := h.blk.cell 5
  unfold aTrunc
  rw [view_get]
  cases hg : get ix s.data.toList with
  | none =>
    rw [hg] at hlk
    simp only [Option.map_none] at hlk ⊢
    have HH : Hid (Inn lk w bs bm room (tot ix ct) fuse ix ct) := h
    clear h hs
    go_enter Tryz.func64, Tryz.ntmps64
    go_wp2
    go_ret
    exact ⟨7, ix, ct, rfl, HH.out, Step.refl _ _ _ _ _, rfl⟩
  | some f =>
    rw [hg] at hlk
    simp only [Option.map_some] at hlk ⊢
    have hmem := mem_of_get hg
    have hle := le_tot (ct := ct) hmem
    simp only at hle
    obtain ⟨a, c, ev, hc, hn, B, O⟩ := h.see hmem
    have f0 : w.cell? ⟨f, 0, none⟩ = some (.slice a (ct f).b.length c) := B.cell 0
    have hfl : (fl (ct f)).b = (ct f).b := rfl
    rw [hfl]
    by_cases h0 : n < 0
    · rw [if_pos (.inl h0)]
      have HH : Hid (Inn lk w bs bm room (tot ix ct) fuse ix ct) := h
      clear h hs O B ev
      go_enter Tryz.func64, Tryz.ntmps64
      go_wp2
      go_ret
      exact ⟨1, ix, ct, rfl, HH.out, Step.refl _ _ _ _ _, rfl⟩
    by_cases h1 : n > ((ct f).b.length : Nat)
    · rw [if_pos (.inr h1)]
      have HH : Hid (Inn lk w bs bm room (tot ix ct) fuse ix ct) := h
      have h1' : (((ct f).b.length : Nat) : Int) < n := h1
      obtain ⟨AA, HA⟩ : ∃ AA, Hid (AA = ((1 : Int), view ix ct)) := ⟨_, rfl⟩
      rw [← HA.out]
      clear h hs O B ev h1
      go_enter Tryz.func64, Tryz.ntmps64
      go_wp2
      go_ret
      exact ⟨1, rfl, ix, ct, HH.out, Step.refl _ _ _ _ _, HA.out.symm⟩
    rw [if_neg (by omega)]
    obtain ⟨m, rfl⟩ := Int.eq_ofNat_of_zero_le (by omega : 0 ≤ n)
    have hm : m ≤ (ct f).b.length := by omega
    have HD : Hid (Calls Tryz.prog 57 #[.pointer (some ⟨bs, 0, none⟩), .pointer (some ⟨f, 0, none⟩), .int .i64 (m : Int)] w fun e w' => e = .returned (.tuple #[]) ∧ Hid (∃ (ct' : Nat → File), Inn lk w' bs bm room (tot ix ct') fuse ix ct' ∧ Step w w' bs bm ix ct ix ct' ∧ view ix ct' = fupd s.data.toList ⟨(ct f).b.take m, min (ct f).k m⟩ (view ix ct))) := by
      refine (scut_any h hmem m hm (by omega) (by omega) (by omega)).mono ?_
      rintro e w' ⟨rfl, v, q1, q2, _⟩
      have ht := tot_upd (ct := ct) ⟨v, (ct f).b.take m, min (ct f).k m⟩ h.two (List.mem_map.2 ⟨_, hmem, rfl⟩)
      simp only [List.length_take] at ht
      have e1 : ((tot ix ct : Nat) : Int) - (((ct f).b.length : Nat) - (m : Nat)) = (tot ix (upd ct f ⟨v, (ct f).b.take m, min (ct f).k m⟩) : Nat) := by omega
      rw [e1] at q1
      exact ⟨rfl, _, q1, q2, view_upd h.one h.two hmem _⟩
    have hm' : (m : Int) ≤ ((ct f).b.length : Nat) := by omega
    clear h hs hle O B ev h1
    go_enter Tryz.func64, Tryz.ntmps64
    go_wp2_with (go_at_call 57; refine HD.out.mono ?_; rintro e w' ⟨rfl, hp⟩)
    go_ret
    obtain ⟨ct', q1, q2, q3⟩ := hp.out
    exact ⟨0, ix, ct', rfl, q1, q2, by rw [q3]; rfl⟩
theorem FineF.trunc {room : Int} {fs : List (Nm × Fl)} (h : FineF room fs) (nm : Nm) (n : Int) : FineF room (aTrunc nm n fs).2 := by
  unfold aTrunc
  cases hg : get fs nm with
  | none => exact h
  | some x =>
    simp only
    split
    · exact h
    · rename_i h1
      have hx := mem_of_get hg
      have hl := h.lasts _ hx
      have hu := h.used
      simp only at hl
      exact h.upd _ hg (by simp only [List.length_take]; omega) (by simp only [List.length_take]; omega) (fun z hz => h.oct _ hx z (List.mem_of_mem_take hz))
theorem enters63 : ∀ (args : Array Value) (w : World), (callFunc 63 args).run Tryz.prog w = .ok (.enter 63 args) w := enters Tryz.func63 (by kernel_rfl) rfl
set_option maxHeartbeats 1000000 in
theorem truncate_disk {w : World} {bd : Nat} {S : Nat → Prop} {a : Ab} (h : Disk w bd S a) (s : ByteArray) (n : Int) :
    Calls Tryz.prog 31 #[.pointer (some ⟨bd, 0, none⟩), .string s, .int .i64 n] w fun e w' => e = .returned (.int .i64 (aDo [s] (aTrunc s.data.toList n) a).1) ∧ ∃ S', Disk w' bd S' (aDo [s] (aTrunc s.data.toList n) a).2 ∧ Went w w' S S' := by
  obtain ⟨W, hW⟩ : ∃ W, W = ((w.alloc (.cells #[.string s] 9)).alloc (.cells #[.int .i64 n] 3)).alloc (.cells #[.string s] 9) := ⟨_, rfl⟩
  have kW : Kept (fun _ => False) w W := by
    rw [hW]
    exact ((Kept.alloc _ w _).trans (Kept.alloc _ _ _) (fun _ _ h => h)).trans (Kept.alloc (fun _ => False) _ _) (fun _ _ h => h)
  have dW : Disk W bd S a := h.keptBy kW (fun _ _ h => h)
  have b0 : Blk W w.heap.size 9 [.string s] := by rw [hW]; exact ((blk_new w 9 [.string s]).alloc _).alloc _
  have b1 : Blk W (w.heap.size + 1) 3 [.int .i64 n] := by
    have := blk_new (w.alloc (.cells #[.string s] 9)) 3 [.int .i64 n]
    rw [hW]; simpa using this.alloc _
  have b2 : Blk W (w.heap.size + 1 + 1) 9 ([s].map Value.string) := by
    have := blk_new ((w.alloc (.cells #[.string s] 9)).alloc (.cells #[.int .i64 n] 3)) 9 [.string s]
    rw [hW]; simpa using this
  have HD : Hid (Calls Tryz.prog 21 #[.pointer (some ⟨bd, 0, none⟩), .func (.func 63) #[] #[.pointer (some ⟨w.heap.size, 0, none⟩), .pointer (some ⟨w.heap.size + 1, 0, none⟩)], .slice (some ⟨w.heap.size + 1 + 1, 0, none⟩) 1 1] W fun e w' =>
      e = .returned (.int .i64 (aDo [s] (aTrunc s.data.toList n) a).1) ∧ ∃ S', Disk w' bd S' (aDo [s] (aTrunc s.data.toList n) a).2 ∧ Went W w' S S') := by
    refine do_disk dW 63 (w.heap.size + 1 + 1) 1 [.pointer (some ⟨w.heap.size, 0, none⟩), .pointer (some ⟨w.heap.size + 1, 0, none⟩)] [s] (by simp) b2.lt (fun e => by have := h.lt e; omega) (txts_one b2) enters63 (aTrunc s.data.toList n) (h.1.fs.trunc _ _) ?_
    intro bs bm ix ct hv hb w1 i1 k1 hS
    have hlt := h.lt hS
    have hf := h.1
    have c0 := (b0.keptBy k1 (by omega)).cell 0
    have c1 := (b1.keptBy k1 (by omega)).cell 0
    have hs64 : s.size ≤ 64 := by
      simp [bad] at hb
      omega
    have HE : Hid (Calls Tryz.prog 64 #[.pointer (some ⟨bs, 0, none⟩), .string s, .int .i64 n] w1 fun e w2 => ∃ (err : Int) (ix' : List (Nm × Nat)) (ct' : Nat → File),
        e = .returned (.int .i64 err) ∧ Inn 1 w2 bs bm a.room (tot ix' ct') a.fuse ix' ct' ∧ Step w1 w2 bs bm ix ct ix' ct' ∧ (err, view ix' ct') = aTrunc s.data.toList n a.fs) := by
      have hu := hf.fs.used
      have hr := hf.room1
      rw [hv, total_view] at hu
      rw [hv]
      exact truncate_any i1 s n (by unfold maxLen; omega) (by omega)
    clear hv hb i1 k1 hS hlt hf
    simp only [List.getElem?_cons_zero] at c0 c1
    clear dW b0 b1 b2 hW kW h
    go_enter Tryz.func63, Tryz.ntmps63
    go_wp2_with (go_at_call 64; refine HE.out.mono ?_; rintro e w2 ⟨err, ix', ct', rfl, hp⟩)
    go_ret
    exact ⟨err, ix', ct', rfl, hp⟩
  have HK : Hid (Kept (fun _ => False) w W) := kW
  clear kW dW b0 b1 b2 h
  have hmf := hmf
  go_enter Tryz.func31, Tryz.ntmps31
  go_wp2_with (go_at_call 21; rw [← hW]; refine HD.out.mono ?_; rintro e w' ⟨rfl, S', d', g'⟩)
  go_ret
  refine ⟨rfl, S', d', ?_⟩
  exact Went.trans (Went.of_kept HK.out (fun _ _ h => h.elim)) g'
#print axioms truncate_disk
end Go.Proofs.YtmpnceicodfifaaGreat
