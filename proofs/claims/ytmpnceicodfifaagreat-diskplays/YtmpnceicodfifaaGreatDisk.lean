/-
  A disk in memory, and Append, Sync, Crash, Read, New on it.
-/
import Derived.Test.YtmpnceicodfifaaGreatAbs
namespace Go.Proofs.YtmpnceicodfifaaGreat
open Go.RowKit Go.Maps
/-- A disk: what it holds, and its blocks. -/
def Disk (w : World) (bd : Nat) (S : Nat → Prop) (a : Ab) : Prop :=
  Fine a ∧ ∃ bs bm ix ct, Blk w bd 49 [.pointer (some ⟨bs, 0, none⟩)] ∧ Inn 0 w bs bm a.room (tot ix ct) a.fuse ix ct ∧ a.fs = view ix ct ∧ S = fun i => i = bd ∨ foot bs bm ix ct i
/-- What a call on a disk leaves. -/
structure Went (w w' : World) (S S' : Nat → Prop) : Prop where
  kept : Kept S w w'
  new : ∀ i, S' i → S i ∨ w.heap.size ≤ i
theorem Went.trans {w1 w2 w3 : World} {S1 S2 S3 : Nat → Prop} (h : Went w1 w2 S1 S2) (k : Went w2 w3 S2 S3) : Went w1 w3 S1 S3 :=
  ⟨h.kept.trans k.kept fun i hi h2 => (h.new i h2).resolve_right (by omega), fun i h3 => by
    rcases k.new i h3 with h2 | h2
    · exact h.new i h2
    · exact .inr (Nat.le_trans h.kept.size h2)⟩
theorem Went.refl (w : World) (S : Nat → Prop) : Went w w S S := ⟨Kept.refl _ _, fun _ h => .inl h⟩
theorem Went.of_kept {T S : Nat → Prop} {w w' : World} (h : Kept T w w') (hT : ∀ i, i < w.heap.size → T i → S i) : Went w w' S S := ⟨h.mono hT, fun _ h => .inl h⟩
theorem Disk.keptBy {w w' : World} {bd : Nat} {S T : Nat → Prop} {a : Ab} (h : Disk w bd S a) (hk : Kept T w w') (hn : ∀ i, S i → ¬ T i) : Disk w' bd S a := by
  obtain ⟨hf, bs, bm, ix, ct, h1, h2, h3, rfl⟩ := h
  exact ⟨hf, bs, bm, ix, ct, h1.keptBy hk (hn _ (.inl rfl)), h2.keptBy hk (fun i hi => hn _ (.inr hi)), h3, rfl⟩
theorem Disk.lt {w : World} {bd : Nat} {S : Nat → Prop} {a : Ab} (h : Disk w bd S a) {i : Nat} (hi : S i) : i < w.heap.size := by
  obtain ⟨hf, bs, bm, ix, ct, h1, h2, h3, rfl⟩ := h
  rcases hi with rfl | hi
  · exact h1.lt
  · exact h2.foot_lt hi
theorem Disk.alloc {w : World} {bd : Nat} {S : Nat → Prop} {a : Ab} (h : Disk w bd S a) (o : Obj) : Disk (w.alloc o) bd S a := h.keptBy (Kept.alloc (fun _ => False) w o) (fun _ _ h => h)
theorem do_disk {w : World} {bd : Nat} {S : Nat → Prop} {a : Ab} (h : Disk w bd S a) (k g c : Nat) (caps : List Value) (ns : List ByteArray) (hl : ns.length < 1000) (hg : g < w.heap.size) (hgs : ¬ S g) (ht : Txts w g ns)
    (hent : ∀ (args : Array Value) (w : World), (callFunc k args).run Tryz.prog w = .ok (.enter k args) w) (act : List (Nm × Fl) → Int × List (Nm × Fl)) (hfine : FineF a.room (act a.fs).2)
    (hact : ∀ bs bm ix ct, a.fs = view ix ct → ns.any bad = false → ∀ w1, Inn 1 w1 bs bm a.room (tot ix ct) a.fuse ix ct → Kept (fun i => i = bs) w w1 → S bs → Calls Tryz.prog k (.pointer (some ⟨bs, 0, none⟩) :: caps).toArray w1 fun e w2 => ∃ (err : Int) (ix' : List (Nm × Nat)) (ct' : Nat → File),
      e = .returned (.int .i64 err) ∧ Inn 1 w2 bs bm a.room (tot ix' ct') a.fuse ix' ct' ∧ Step w1 w2 bs bm ix ct ix' ct' ∧ (err, view ix' ct') = act a.fs) :
    Calls Tryz.prog 21 #[.pointer (some ⟨bd, 0, none⟩), .func (.func k) #[] caps.toArray, .slice (some ⟨g, 0, none⟩) ns.length c] w fun e w' => e = .returned (.int .i64 (aDo ns act a).1) ∧ ∃ S', Disk w' bd S' (aDo ns act a).2 ∧ Went w w' S S' := by
  have hF := h.1.do ns act hfine
  obtain ⟨hf, bs, bm, ix, ct, h1, h2, h3, rfl⟩ := h
  have hgb : g ≠ bs := fun e => hgs (.inr (.inl e))
  refine (do_any w bd bs bm g c k a.room (tot ix ct) a.fuse ix ct caps ns hl h1 h2 hf.fuse0 hf.fuse1 hg hgb ht hent (fun err used' ix' ct' => used' = tot ix' ct' ∧ (err, view ix' ct') = act a.fs) ?_).mono ?_
  · intro hb w1 i1 k1
    refine (hact bs bm ix ct h3 hb w1 i1 k1 (.inr (.inl rfl))).mono ?_
    rintro e w2 ⟨err, ix', ct', rfl, q1, q2, q3⟩
    exact ⟨err, _, ix', ct', rfl, q1, q2, rfl, q3⟩
  · rintro e w' ⟨err, used', ix', ct', rfl, q1, q2, q3⟩
    have hbd : ¬ foot bs bm ix ct bd := by
      rintro (e | e | ⟨p, hp, e | e⟩)
      · exact h1.ne h2.blk (by decide) e
      · exact ownsMap_ne h2.map h1 e
      · exact h1.ne (h2.file p hp) (by decide) e
      · obtain ⟨_, hv⟩ := (h2.row p hp).blk e
        exact h1.ne hv (by decide) rfl
    have h1' := h1.keptBy q2.kept hbd
    have went : Went w w' (fun i => i = bd ∨ foot bs bm ix ct i) (fun i => i = bd ∨ foot bs bm ix' ct' i) :=
      ⟨q2.kept.mono fun _ _ e => .inr e, fun i hi => by
        rcases hi with e | e
        · exact .inl (.inl e)
        · rcases q2.new i e with e | e
          · exact .inl (.inr e)
          · exact .inr e⟩
    unfold Res at q3
    unfold aDo at hF ⊢
    by_cases hz : a.fuse = 0
    · rw [if_pos hz] at q3
      obtain ⟨rfl, rfl, rfl, rfl⟩ := q3
      rw [if_pos hz]
      refine ⟨rfl, _, ⟨hf, bs, bm, ix', ct', h1', ?_, h3, rfl⟩, went⟩
      have : fuseAfter a.fuse 20 = a.fuse := by unfold fuseAfter; simp
      rw [this] at q1
      exact q1
    · rw [if_neg hz] at q3
      rw [if_neg hz] at hF
      rw [if_neg hz]
      by_cases hb : ns.any bad = true
      · rw [if_pos hb] at q3
        obtain ⟨rfl, rfl, rfl, rfl⟩ := q3
        rw [if_pos hb]
        refine ⟨rfl, _, ⟨hf, bs, bm, ix', ct', h1', ?_, h3, rfl⟩, went⟩
        have : fuseAfter a.fuse 1 = a.fuse := by unfold fuseAfter; simp
        rw [this] at q1
        exact q1
      · rw [if_neg hb] at q3
        rw [if_neg hb] at hF
        rw [if_neg hb]
        obtain ⟨rfl, q3⟩ := q3
        rw [← q3] at hF ⊢
        exact ⟨rfl, _, ⟨hF, bs, bm, ix', ct', h1', q1, rfl, rfl⟩, went⟩
#print axioms do_disk
theorem enters25 : ∀ (args : Array Value) (w : World), (callFunc 22 args).run Tryz.prog w = .ok (.enter 22 args) w := enters Tryz.func22 (by kernel_rfl) rfl
theorem enters27 : ∀ (args : Array Value) (w : World), (callFunc 46 args).run Tryz.prog w = .ok (.enter 46 args) w := enters Tryz.func46 (by kernel_rfl) rfl
theorem txts_one {w : World} {g : Nat} {t : TypeId} {ss : List ByteArray} (h : Blk w g t (ss.map Value.string)) : Txts w g ss := fun i s hs => by
  rw [h.cell, List.getElem?_map, hs]; rfl
/-- What a slice of bytes that is handed in is. -/
structure Src (w : World) (S : Nat → Prop) (a0 : Option Addr) (cap : Nat) (l : List Nat) : Prop where
  byt : Byt w a0 l
  nil : a0 = none → cap = 0
  out : ∀ b off, a0 = some ⟨b, off, none⟩ → l ≠ [] → ¬ S b
  oct : Oct l
set_option maxHeartbeats 1000000 in
theorem append_disk {w : World} {bd : Nat} {S : Nat → Prop} {a : Ab} (h : Disk w bd S a) (s : ByteArray) (a0 : Option Addr) (cap : Nat) (l : List Nat) (hsrc : Src w S a0 cap l) :
    Calls Tryz.prog 10 #[.pointer (some ⟨bd, 0, none⟩), .string s, .slice a0 l.length cap] w fun e w' => e = .returned (.int .i64 (aDo [s] (aExt a.room s.data.toList l) a).1) ∧ ∃ S', Disk w' bd S' (aDo [s] (aExt a.room s.data.toList l) a).2 ∧ Went w w' S S' := by
  obtain ⟨W, hW⟩ : ∃ W, W = ((w.alloc (.cells #[.string s] 9)).alloc (.cells #[.slice a0 l.length cap] 32)).alloc (.cells #[.string s] 9) := ⟨_, rfl⟩
  have kW : Kept (fun _ => False) w W := by
    rw [hW]
    exact ((Kept.alloc _ w _).trans (Kept.alloc _ _ _) (fun _ _ h => h)).trans (Kept.alloc (fun _ => False) _ _) (fun _ _ h => h)
  have dW : Disk W bd S a := h.keptBy kW (fun _ _ h => h)
  have b0 : Blk W w.heap.size 9 [.string s] := by rw [hW]; exact ((blk_new w 9 [.string s]).alloc _).alloc _
  have b1 : Blk W (w.heap.size + 1) 32 [.slice a0 l.length cap] := by
    have := blk_new (w.alloc (.cells #[.string s] 9)) 32 [.slice a0 l.length cap]
    rw [hW]; simpa using this.alloc _
  have b2 : Blk W (w.heap.size + 1 + 1) 9 ([s].map Value.string) := by
    have := blk_new ((w.alloc (.cells #[.string s] 9)).alloc (.cells #[.slice a0 l.length cap] 32)) 9 [.string s]
    rw [hW]; simpa using this
  have hbW : Byt W a0 l := hsrc.byt.keptBy kW (fun _ _ _ _ h => h)
  have HD : Hid (Calls Tryz.prog 21 #[.pointer (some ⟨bd, 0, none⟩), .func (.func 22) #[] #[.pointer (some ⟨w.heap.size, 0, none⟩), .pointer (some ⟨w.heap.size + 1, 0, none⟩)], .slice (some ⟨w.heap.size + 1 + 1, 0, none⟩) 1 1] W fun e w' =>
      e = .returned (.int .i64 (aDo [s] (aExt a.room s.data.toList l) a).1) ∧ ∃ S', Disk w' bd S' (aDo [s] (aExt a.room s.data.toList l) a).2 ∧ Went W w' S S') := by
    refine do_disk dW 22 (w.heap.size + 1 + 1) 1 [.pointer (some ⟨w.heap.size, 0, none⟩), .pointer (some ⟨w.heap.size + 1, 0, none⟩)] [s] (by simp) b2.lt (fun e => by have := h.lt e; omega) (txts_one b2) enters25 (aExt a.room s.data.toList l) (h.1.fs.ext _ _ hsrc.oct) ?_
    intro bs bm ix ct hv hb w1 i1 k1 hS
    have hlt := h.lt hS
    have hf := h.1
    have c0 := (b0.keptBy k1 (by omega)).cell 0
    have c1 := (b1.keptBy k1 (by omega)).cell 0
    have hs64 : s.size ≤ 64 := by
      simp [bad] at hb
      omega
    have hby : Byt w1 a0 l := hbW.keptBy k1 (fun b off e hl e2 => hsrc.out b off e hl (e2 ▸ hS))
    have HE : Hid (Calls Tryz.prog 23 #[.pointer (some ⟨bs, 0, none⟩), .string s, .slice a0 l.length cap] w1 fun e w2 => ∃ (err : Int) (ix' : List (Nm × Nat)) (ct' : Nat → File),
        e = .returned (.int .i64 err) ∧ Inn 1 w2 bs bm a.room (tot ix' ct') a.fuse ix' ct' ∧ Step w1 w2 bs bm ix ct ix' ct' ∧ (err, view ix' ct') = aExt a.room s.data.toList l a.fs) := by
      have hu := hf.fs.used
      rw [hv, total_view] at hu
      refine (extend_any i1 s (by omega) a0 cap l hby hsrc.nil (by omega) (by omega) hf.room1 (fun f hg => ?_) (by have := hf.fs.files; rw [hv, length_view] at this; exact this)).mono ?_
      · have := le_tot (ct := ct) (mem_of_get hg)
        simp only at this
        have := hf.room1
        omega
      · rintro e w2 ⟨err, used', ix', ct', rfl, q1, q2, q3⟩
        obtain ⟨rfl, q4⟩ := q3.seen i1
        rw [hv]
        exact ⟨err, ix', ct', rfl, q1, q2, q4⟩
    clear hby hv hb i1 k1 hS hlt hf
    simp only [List.getElem?_cons_zero] at c0 c1
    clear dW b0 b1 b2 hbW hsrc hW kW h
    go_enter Tryz.func22, Tryz.ntmps22
    go_wp2_with (go_at_call 23; refine HE.out.mono ?_; rintro e w2 ⟨err, ix', ct', rfl, hp⟩)
    go_ret
    exact ⟨err, ix', ct', rfl, hp⟩
  have HK : Hid (Kept (fun _ => False) w W) := kW
  clear kW dW b0 b1 b2 hbW hsrc h
  have hmf := hmf
  go_enter Tryz.func10, Tryz.ntmps10
  go_wp2_with (go_at_call 21; rw [← hW]; refine HD.out.mono ?_; rintro e w' ⟨rfl, S', d', g'⟩)
  go_ret
  refine ⟨rfl, S', d', ?_⟩
  exact Went.trans (Went.of_kept HK.out (fun _ _ h => h.elim)) g'
#print axioms append_disk
end Go.Proofs.YtmpnceicodfifaaGreat
