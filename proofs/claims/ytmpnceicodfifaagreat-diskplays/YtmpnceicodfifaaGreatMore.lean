/-
  Crash, Fuse, Used, New on a disk in memory; bytes.Clone.
-/
import Derived.Test.YtmpnceicodfifaaGreatMeth
namespace Go.Proofs.YtmpnceicodfifaaGreat
open Go.RowKit Go.Maps
theorem enters30 : ∀ (args : Array Value) (w : World), (callFunc 24 args).run Tryz.prog w = .ok (.enter 24 args) w := enters Tryz.func24 (by kernel_rfl) rfl
theorem enters32 : ∀ (args : Array Value) (w : World), (callFunc 48 args).run Tryz.prog w = .ok (.enter 48 args) w := enters Tryz.func48 (by kernel_rfl) rfl
theorem enters34 : ∀ (args : Array Value) (w : World), (callFunc 70 args).run Tryz.prog w = .ok (.enter 70 args) w := enters Tryz.func70 (by kernel_rfl) rfl
theorem enters43 : ∀ (args : Array Value) (w : World), (callFunc 73 args).run Tryz.prog w = .ok (.enter 73 args) w := enters Tryz.func73 (by kernel_rfl) rfl
theorem view_crash {d : Nat} {ix : List (Nm × Nat)} {ct ct' : Nat → File} (h : ∀ p ∈ ix, Crashed d ct ct' p) : view ix ct' = aCrash d (view ix ct) := by
  unfold view aCrash
  rw [List.map_map]
  refine List.map_congr_left fun p hp => ?_
  obtain ⟨h1, h2⟩ := h p hp
  simp only [Function.comp, fl, h1, h2]
  rfl
set_option maxHeartbeats 1000000 in
theorem crash1_any (bs n : Nat) (d : Int) (w : World) (c0 : w.cell? ⟨n, 0, none⟩ = some (.int .i64 d)) (Q : World → Prop) (h : Calls Tryz.prog 25 #[.pointer (some ⟨bs, 0, none⟩), .int .i64 (d.toNat : Int)] w fun e w' => e = .returned (.tuple #[]) ∧ Q w') :
    Calls Tryz.prog 24 #[.pointer (some ⟨bs, 0, none⟩), .pointer (some ⟨n, 0, none⟩)] w fun e w' => e = .returned (.tuple #[]) ∧ Q w' := by
  by_cases hd : d < 0
  · have e : ((d.toNat : Nat) : Int) = 0 := by omega
    rw [e] at h
    have HH : Hid (Calls Tryz.prog 25 #[.pointer (some ⟨bs, 0, none⟩), .int .i64 0] w fun e w' => e = .returned (.tuple #[]) ∧ Q w') := h
    clear h e
    go_enter Tryz.func24, Tryz.ntmps24
    go_wp2_with (go_at_call 25; refine HH.out.mono ?_; rintro e w' ⟨rfl, hq⟩)
    go_end0
    exact ⟨rfl, hq⟩
  · have e : ((d.toNat : Nat) : Int) = d := by omega
    rw [e] at h
    have HH : Hid (Calls Tryz.prog 25 #[.pointer (some ⟨bs, 0, none⟩), .int .i64 d] w fun e w' => e = .returned (.tuple #[]) ∧ Q w') := h
    clear h e
    go_enter Tryz.func24, Tryz.ntmps24
    go_wp2_with (go_at_call 25; refine HH.out.mono ?_; rintro e w' ⟨rfl, hq⟩)
    go_end0
    exact ⟨rfl, hq⟩
set_option maxHeartbeats 1000000 in
theorem crash_disk {w : World} {bd : Nat} {S : Nat → Prop} {a : Ab} (h : Disk w bd S a) (d : Int) :
    Calls Tryz.prog 11 #[.pointer (some ⟨bd, 0, none⟩), .int .i64 d] w fun e w' => e = .returned (.tuple #[]) ∧ ∃ S', Disk w' bd S' ⟨a.room, -1, aCrash d.toNat a.fs⟩ ∧ Went w w' S S' := by
  have kW : Kept (fun _ => False) w (w.alloc (.cells #[.int .i64 d] 3)) := Kept.alloc _ w _
  have dW := h.alloc (.cells #[.int .i64 d] 3)
  have b0 := blk_new w 3 [.int .i64 d]
  have hF : Fine ⟨a.room, -1, aCrash d.toNat a.fs⟩ := ⟨h.1.room0, h.1.room1, by simp, by simp, h.1.fs.crash _⟩
  have HD : Hid (Calls Tryz.prog 18 #[.pointer (some ⟨bd, 0, none⟩), .func (.func 24) #[] #[.pointer (some ⟨w.heap.size, 0, none⟩)]] (w.alloc (.cells #[.int .i64 d] 3)) fun e w' => e = .returned (.tuple #[]) ∧ ∃ S', Disk w' bd S' ⟨a.room, -1, aCrash d.toNat a.fs⟩ ∧ Went w w' S S') := by
    refine (with_disk dW 24 [.pointer (some ⟨w.heap.size, 0, none⟩)] enters30 _ hF (fun _ => False) (fun _ _ h => h) (fun _ _ => True) (fun _ _ _ _ _ => trivial) ?_).mono ?_
    · intro bs bm ix ct hv hS w1 i1 k1 hSb
      have hlt := h.lt hSb
      refine crash1_any bs _ d w1 ((b0.keptBy k1 (by omega)).cell 0) _ ?_
      have hf := h.1
      have hu := hf.fs.used
      rw [hv, total_view] at hu
      have hr := hf.room1
      refine (crash_any i1 d.toNat (fun p hp => ?_) (by omega)).mono ?_
      · have hm : (p.1, fl (ct p.2)) ∈ a.fs := by rw [hv]; exact List.mem_map.2 ⟨p, hp, rfl⟩
        exact hf.fs.lasts _ hm
      · rintro e w2 ⟨rfl, ct', q1, q2, q3⟩
        refine ⟨rfl, ix, ct', q1, ?_, q2.kept.mono fun _ _ e => .inl e, fun i hi => ?_, trivial⟩
        · simp only
          rw [hv, view_crash q3]
        · rcases q2.new i hi with e | e
          · exact .inl e
          · exact .inr (Nat.le_trans k1.size e)
    · rintro e w' ⟨rfl, S', d', k', n', _⟩
      refine ⟨rfl, S', d', ⟨(kW.mono fun _ _ e => e.elim).trans k' (fun i _ e => e.resolve_right (fun h => h)), fun i hi => ?_⟩⟩
      rcases n' i hi with e | e
      · exact .inl e
      · right; simp at e; omega
  clear kW dW b0 hF h
  have hmf := hmf
  go_enter Tryz.func11, Tryz.ntmps11
  go_wp2_with (go_at_call 18; refine HD.out.mono ?_; rintro e w' ⟨rfl, hp⟩)
  go_end0
  exact ⟨rfl, hp⟩
set_option maxHeartbeats 1000000 in
set_option maxRecDepth 8000 in
theorem bclone_any (x : Option Addr) (c : Nat) (l : List Nat) (w : World) (hb : Byt w x l) (hn : x = none → c = 0) (hl : l.length ≤ 4294967296) :
    Calls Tryz.prog 49 #[.slice x l.length c] w fun e w' => ∃ v, e = .returned v ∧ Own w' w.heap.size v l ∧ Below w.heap.size w w' := by
  cases x with
  | none =>
    have e : l = [] := by
      rcases hb with e | ⟨_, _, e, _⟩
      · exact e
      · cases e
    subst e
    obtain rfl := hn rfl
    have heq : ∀ W, (binOp .eql 32 (.slice none 0 0) (.slice none 0 0)).run Tryz.prog W = .ok (.bool true) W := fun W => Lib.run_eql_slice_nil W 32 5 none 0 0 0 0 Tryz.underlying32
    go_enter Tryz.func49, Tryz.ntmps49
    go_wp2
    go_ret
    exact ⟨_, rfl, ⟨by simp [vals], .inl ⟨rfl, rfl⟩⟩, Below.refl _ _⟩
  | some ad =>
    have b0 : Below w.heap.size w (w.alloc (.cells #[] 5)) := (Below.refl _ _).alloc (Nat.le_refl _) _
    have hc0 : Hid (Byt (w.alloc (.cells #[] 5)) (some ad) l) := hb.below b0
    have oe : Hid (Own (w.alloc (.cells #[] 5)) w.heap.size (.slice (some ⟨w.heap.size, 0, none⟩) 0 0) []) := own_empty w _ (Nat.le_refl _)
    clear hb
    have heq : ∀ W, (binOp .eql 32 (.slice (some ad) l.length c) (.slice none 0 0)).run Tryz.prog W = .ok (.bool false) W := fun W => Lib.run_eql_slice_nil W 32 5 (some ad) l.length c 0 0 Tryz.underlying32
    go_enter Tryz.func49, Tryz.ntmps49
    go_wp2_with (at_builtin; go_must (refine app_at rfl (.tmp 5) (.tmp 6) rfl w.heap.size _ [] rfl oe.out (some ad) _ c l rfl rfl hc0.out hn (by simp; omega) (by simp) ?_))
    intro v1 w1 o1 g1 loc
    have b1 := below_app b0 (by simp) oe.out g1
    clear g1 loc b0 oe hc0
    go_wp2
    go_ret
    exact ⟨_, rfl, o1, b1⟩
set_option maxHeartbeats 1000000 in
theorem fuse_disk {w : World} {bd : Nat} {S : Nat → Prop} {a : Ab} (h : Disk w bd S a) (n : Int) (hn : n < 9223372036854775808) :
    Calls Tryz.prog 37 #[.pointer (some ⟨bd, 0, none⟩), .int .i64 n] w fun e w' => e = .returned (.tuple #[]) ∧ ∃ S', Disk w' bd S' ⟨a.room, max n (-1), a.fs⟩ ∧ Went w w' S S' := by
  have kW : Kept (fun _ => False) w (w.alloc (.cells #[.int .i64 n] 3)) := Kept.alloc _ w _
  have dW := h.alloc (.cells #[.int .i64 n] 3)
  have b0 := blk_new w 3 [.int .i64 n]
  have hF : Fine ⟨a.room, max n (-1), a.fs⟩ := ⟨h.1.room0, h.1.room1, by simp only; omega, by simp only; omega, h.1.fs⟩
  have HD : Hid (Calls Tryz.prog 18 #[.pointer (some ⟨bd, 0, none⟩), .func (.func 70) #[] #[.pointer (some ⟨w.heap.size, 0, none⟩)]] (w.alloc (.cells #[.int .i64 n] 3)) fun e w' => e = .returned (.tuple #[]) ∧ ∃ S', Disk w' bd S' ⟨a.room, max n (-1), a.fs⟩ ∧ Went w w' S S') := by
    refine (with_disk dW 70 [.pointer (some ⟨w.heap.size, 0, none⟩)] enters34 _ hF (fun _ => False) (fun _ _ h => h) (fun _ _ => True) (fun _ _ _ _ _ => trivial) ?_).mono ?_
    · intro bs bm ix ct hv hS w1 i1 k1 hSb
      have hlt := h.lt hSb
      have c0 := (b0.keptBy k1 (by omega)).cell 0
      have c4 : w1.cell? ⟨bs, 4, none⟩ = some (.int .i64 a.fuse) := i1.blk.cell 4
      have z4 := i1.blk.frozen 4
      simp only [List.getElem?_cons_zero] at c0
      have fin : ∀ m : Int, m = max n (-1) → ∃ (ix' : List (Nm × Nat)) (ct' : Nat → File), Inn 1 (w1.setCell ⟨bs, 4, none⟩ (.int .i64 m)) bs bm a.room (tot ix' ct') (max n (-1)) ix' ct' ∧ a.fs = view ix' ct' ∧ Kept (fun i => foot bs bm ix ct i ∨ False) w1 (w1.setCell ⟨bs, 4, none⟩ (.int .i64 m)) ∧
          (∀ i, foot bs bm ix' ct' i → foot bs bm ix ct i ∨ (w.alloc (.cells #[.int .i64 n] 3)).heap.size ≤ i) ∧ True := by
        rintro m rfl
        exact ⟨ix, ct, i1.set 4 _ rfl, hv, Kept.setCell w1 ⟨bs, 4, none⟩ _ (.inl (.inl rfl)), fun i e => .inl e, trivial⟩
      have HF : Hid _ := fin
      clear fin i1 k1 hv hS hSb hlt hF dW kW b0 h
      by_cases hd : n < -1
      · have e : max n (-1) = -1 := by omega
        have := HF.out (-1) e.symm
        have HG : Hid _ := this
        clear this HF e
        go_enter Tryz.func70, Tryz.ntmps70
        go_wp2
        go_end0
        exact ⟨rfl, by simpa using HG.out⟩
      · have e : max n (-1) = n := by omega
        have := HF.out n e.symm
        have HG : Hid _ := this
        clear this HF e
        go_enter Tryz.func70, Tryz.ntmps70
        go_wp2
        go_end0
        exact ⟨rfl, by simpa using HG.out⟩
    · rintro e w' ⟨rfl, S', d', k', n', _⟩
      refine ⟨rfl, S', d', ⟨(kW.mono fun _ _ e => e.elim).trans k' (fun i _ e => e.resolve_right (fun h => h)), fun i hi => ?_⟩⟩
      rcases n' i hi with e | e
      · exact .inl e
      · right; simp at e; omega
  clear kW dW b0 hF h
  have hmf := hmf
  go_enter Tryz.func37, Tryz.ntmps37
  go_wp2_with (go_at_call 18; refine HD.out.mono ?_; rintro e w' ⟨rfl, hp⟩)
  go_end0
  exact ⟨rfl, hp⟩
set_option maxHeartbeats 1000000 in
theorem new_bad (room : Int) (w : World) (h : room < 0 ∨ 1073741824 < room) : Calls Tryz.prog 6 #[.int .i64 room] w fun e w' => e = .returned (.tuple #[.pointer none, .int .i64 1]) ∧ w' = w := by
  by_cases h0 : room < 0
  · go_enter Tryz.func6, Tryz.ntmps6
    go_wp2
    refine bodyPost_ret (results_tmp2 rfl _ _ _) rfl ?_
    exact ⟨rfl, rfl⟩
  · have h1 : 1073741824 < room := h.resolve_left h0
    clear h
    go_enter Tryz.func6, Tryz.ntmps6
    go_wp2
    refine bodyPost_ret (results_tmp2 rfl _ _ _) rfl ?_
    exact ⟨rfl, rfl⟩
set_option maxHeartbeats 1000000 in
theorem new_any (room : Int) (w : World) (h0 : 0 ≤ room) (h1 : room ≤ 1073741824) : Calls Tryz.prog 6 #[.int .i64 room] w fun e w' => ∃ bd S, e = .returned (.tuple #[.pointer (some ⟨bd, 0, none⟩), .int .i64 0]) ∧ Disk w' bd S ⟨room, -1, []⟩ ∧ (∀ i, S i → w.heap.size ≤ i) ∧ Below w.heap.size w w' := by
  have hmm := @run_makeMap Tryz.prog
  have fin : ∀ W, W = ((w.alloc (.map #[] 0)).alloc (.cells #[.int .i32 0, .int .u32 0, .int .i64 room, .int .i64 0, .int .i64 (-1), .map (some w.heap.size)] 84)).alloc (.cells #[.pointer (some ⟨w.heap.size + 1, 0, none⟩)] 49) →
      Disk W (w.heap.size + 1 + 1) (fun i => i = w.heap.size + 1 + 1 ∨ foot (w.heap.size + 1) w.heap.size [] (fun _ => ⟨.slice none 0 0, [], 0⟩) i) ⟨room, -1, []⟩ ∧ Below w.heap.size w W := by
    rintro W rfl
    have bm := ((World.ownsMap_made w Tryz.prog 9 fileElem).alloc (.cells #[.int .i32 0, .int .u32 0, .int .i64 room, .int .i64 0, .int .i64 (-1), .map (some w.heap.size)] 84)).alloc (.cells #[.pointer (some ⟨w.heap.size + 1, 0, none⟩)] 49)
    have bs := (blk_new (w.alloc (.map #[] 0)) 84 (head 0 room 0 (-1) w.heap.size)).alloc (.cells #[.pointer (some ⟨w.heap.size + 1, 0, none⟩)] 49)
    have bd := blk_new ((w.alloc (.map #[] 0)).alloc (.cells #[.int .i32 0, .int .u32 0, .int .i64 room, .int .i64 0, .int .i64 (-1), .map (some w.heap.size)] 84)) 49 [.pointer (some ⟨w.heap.size + 1, 0, none⟩)]
    refine ⟨⟨⟨h0, h1, by simp, by simp, ⟨by simpa [total] using h0, by simp, by simp, by simp, by simp⟩⟩, w.heap.size + 1, w.heap.size, [], _, by simpa using bd, ⟨by simpa [head, tot] using bs, bm, by simp, by simp, by simp, by simp⟩, rfl, rfl⟩, below3 (Below.refl _ _)⟩
  have HF : Hid _ := fin
  clear fin
  go_enter Tryz.func6, Tryz.ntmps6
  go_wp2
  refine bodyPost_ret (results_tmp2 rfl _ _ _) rfl ?_
  obtain ⟨q1, q2⟩ := HF.out _ rfl
  refine ⟨_, _, rfl, q1, ?_, q2⟩
  rintro i (rfl | rfl | rfl | ⟨p, hp, _⟩)
  · omega
  · omega
  · omega
  · cases hp
set_option maxHeartbeats 1000000 in
theorem used_disk {w : World} {bd : Nat} {S : Nat → Prop} {a : Ab} (h : Disk w bd S a) :
    Calls Tryz.prog 44 #[.pointer (some ⟨bd, 0, none⟩)] w fun e w' => e = .returned (.int .i64 (total a.fs)) ∧ Disk w' bd S a ∧ Kept S w w' := by
  have kW : Kept (fun _ => False) w (w.alloc (.cells #[.int .i64 0] 3)) := Kept.alloc _ w _
  have dW := h.alloc (.cells #[.int .i64 0] 3)
  have b0 := blk_new w 3 [.int .i64 0]
  have hT : ∀ i, S i → ¬ i = w.heap.size := fun i hi => by have := h.lt hi; omega
  have HD : Hid (Calls Tryz.prog 18 #[.pointer (some ⟨bd, 0, none⟩), .func (.func 73) #[] #[.pointer (some ⟨w.heap.size, 0, none⟩)]] (w.alloc (.cells #[.int .i64 0] 3)) fun e w' => e = .returned (.tuple #[]) ∧ w'.cell? ⟨w.heap.size, 0, none⟩ = some (.int .i64 (total a.fs)) ∧ Hid (Disk w' bd S a ∧ Kept S w w')) := by
    refine (with_disk dW 73 [.pointer (some ⟨w.heap.size, 0, none⟩)] enters43 a h.1 (fun i => i = w.heap.size) hT (fun W S' => S' = S ∧ W.cell? ⟨w.heap.size, 0, none⟩ = some (.int .i64 (total a.fs))) ?_ ?_).mono ?_
    · rintro W S' bs hb ⟨rfl, hc⟩
      refine ⟨rfl, ?_⟩
      rw [World.cell?_setCell_other _ _ _ _ (fun e => hT _ hb (by cases e <;> rfl))]
      exact hc
    · intro bs bm ix ct hv hS w1 i1 k1 hSb
      have b1 := b0.keptBy k1 (fun e => hT _ hSb e.symm)
      have c0 := b1.cell 0
      have z0 := b1.frozen 0
      have c3 : w1.cell? ⟨bs, 3, none⟩ = some (.int .i64 (tot ix ct)) := i1.blk.cell 3
      simp only [List.getElem?_cons_zero] at c0
      have fin : Inn 1 (w1.setCell ⟨w.heap.size, 0, none⟩ (.int .i64 (tot ix ct))) bs bm a.room (tot ix ct) a.fuse ix ct ∧ a.fs = view ix ct ∧ Kept (fun i => foot bs bm ix ct i ∨ i = w.heap.size) w1 (w1.setCell ⟨w.heap.size, 0, none⟩ (.int .i64 (tot ix ct))) ∧
          (∀ i, foot bs bm ix ct i → foot bs bm ix ct i ∨ (w.alloc (.cells #[.int .i64 0] 3)).heap.size ≤ i) ∧ ((fun i => i = bd ∨ foot bs bm ix ct i) = S ∧ (w1.setCell ⟨w.heap.size, 0, none⟩ (.int .i64 (tot ix ct))).cell? ⟨w.heap.size, 0, none⟩ = some (.int .i64 (total a.fs))) := by
        have kk : Kept (fun i => i = w.heap.size) w1 (w1.setCell ⟨w.heap.size, 0, none⟩ (.int .i64 (tot ix ct))) := Kept.setCell (S := fun i => i = w.heap.size) w1 ⟨w.heap.size, 0, none⟩ _ rfl
        refine ⟨i1.keptBy kk (fun i hi => hT i (by rw [hS]; exact .inr hi)), hv, kk.mono fun _ _ e => .inr e, fun i e => .inl e, hS.symm, ?_⟩
        rw [World.cell?_setCell_same _ _ _ c0, hv, total_view]
      have HF : Hid _ := fin
      clear fin i1 k1 hv hS hSb b1 hT dW kW b0 h
      go_enter Tryz.func73, Tryz.ntmps73
      go_wp2
      go_end0
      exact ⟨rfl, ix, ct, by simpa using HF.out⟩
    · rintro e w' ⟨rfl, S', d', k', n', rfl, hc⟩
      exact ⟨rfl, hc, d', (kW.mono fun _ _ e => e.elim).trans k' (fun i hi e => e.resolve_right (by omega))⟩
  clear kW dW b0 h hT
  have hmf := hmf
  go_enter Tryz.func44, Tryz.ntmps44
  go_wp2_with (go_at_call 18; refine HD.out.mono ?_; rintro e w' ⟨rfl, hc, hp⟩)
  go_ret
  exact ⟨rfl, hp.out⟩
/-- What Read tells of a name. -/
def Told (w : World) (base : Nat) (v : Value) (err : Int) (x : Option Fl) : Prop := match x with | none => v = .slice none 0 0 ∧ err = 7 | some y => Own w base v y.b ∧ err = 0
theorem Told.shape {w : World} {base : Nat} {v : Value} {err : Int} {x : Option Fl} (h : Told w base v err x) : ∃ p n c, v = .slice p n c := by
  cases x with
  | none => exact ⟨_, _, _, h.1⟩
  | some y => obtain ⟨p, c, e, _⟩ := Own.shape h.1; exact ⟨p, _, c, e⟩
theorem Told.keptBy {T : Nat → Prop} {w w' : World} {base : Nat} {v : Value} {err : Int} {x : Option Fl} (h : Told w base v err x) (hk : Kept T w w') (hT : ∀ i, T i → i < base) : Told w' base v err x := by
  cases x with
  | none => exact h
  | some y =>
    refine ⟨Own.keptBy h.1 hk fun g hg hi => ?_, h.2⟩
    have := hT g hi
    have h1 := h.1
    rcases h1 with ⟨_, ⟨rfl, _⟩ | ⟨g', cap, cur, rfl, hb, _⟩⟩
    · cases hg
    · have : g' = g := by simpa [Value.ownBlock] using hg
      omega
set_option maxHeartbeats 1000000 in
theorem read1_any {w : World} {bs bm : Nat} {room used fuse : Int} {ix : List (Nm × Nat)} {ct : Nat → File} (h : Inn 1 w bs bm room used fuse ix ct) (n n1 n2 : Nat) (s : ByteArray) (hs : s.size ≤ maxLen) (B0 : Blk w n 9 [.string s]) (B1 : Blk w n1 32 [.slice none 0 0]) (B2 : Blk w n2 26 [.int .i64 7])
    (hb : ∀ f, get ix s.data.toList = some f → (ct f).b.length ≤ 1073741824) :
    Calls Tryz.prog 48 #[.pointer (some ⟨bs, 0, none⟩), .pointer (some ⟨n, 0, none⟩), .pointer (some ⟨n1, 0, none⟩), .pointer (some ⟨n2, 0, none⟩)] w fun e w' => e = .returned (.tuple #[]) ∧ ∃ v err, Told w' w.heap.size v err ((get ix s.data.toList).map fun f => fl (ct f)) ∧
      w'.cell? ⟨n1, 0, none⟩ = some v ∧ w'.cell? ⟨n2, 0, none⟩ = some (.int .i64 err) ∧ Kept (fun i => i = n1 ∨ i = n2) w w' := by
  have hlk : ∀ q, (Instr.lookup 82 (.map (some bm)) (.string s) false).run Tryz.prog (w.drewN q) = .ok (.pointer ((get ix s.data.toList).map fun f => ⟨f, 0, none⟩)) (w.drewN q) := fun q => (h.drewN q).lookup hs
  have c5 : w.cell? ⟨bs, 5, none⟩ = some (.map (some bm)) := h.blk.cell 5
  have c0 : w.cell? ⟨n, 0, none⟩ = some (.string s) := B0.cell 0
  have c1 : w.cell? ⟨n1, 0, none⟩ = some (.slice none 0 0) := B1.cell 0
  have c2 : w.cell? ⟨n2, 0, none⟩ = some (.int .i64 7) := B2.cell 0
  cases hg : get ix s.data.toList with
  | none =>
    rw [hg] at hlk
    simp only [Option.map_none] at hlk ⊢
    have HK : Hid (∀ q, Kept (fun i => i = n1 ∨ i = n2) w (w.drewN q)) := fun q => ⟨rfl, rfl, rfl, Nat.le_refl _, fun _ _ _ => rfl⟩
    clear h B0 B1 B2 hb
    go_enter Tryz.func48, Tryz.ntmps48
    go_wp2
    go_quiet (fail)
    go_wp2
    go_end0
    exact ⟨rfl, .slice none 0 0, 7, ⟨rfl, rfl⟩, c1, c2, HK.out _⟩
  | some f =>
    rw [hg] at hlk
    simp only [Option.map_some] at hlk ⊢
    have hf := mem_of_get hg
    obtain ⟨p, c, ev, hc, hn, B, O⟩ := h.see hf
    have f0 : w.cell? ⟨f, 0, none⟩ = some (.slice p (ct f).b.length c) := B.cell 0
    have hby : ∀ q, Byt (w.drewN q) p (ct f).b := fun q => by
      cases p with
      | none =>
        left
        have := hn rfl
        exact List.eq_nil_of_length_eq_zero (by omega)
      | some ad =>
        by_cases h0 : 0 < (ct f).b.length
        · obtain ⟨g, cap, e, _, _, _, _, hcell⟩ := Own.form O h0
          right
          exact ⟨g, 0, by injection e, hcell⟩
        · left; exact List.eq_nil_of_length_eq_zero (by omega)
    have HC : Hid (∀ q, Calls Tryz.prog 49 #[.slice p (ct f).b.length c] (w.drewN q) fun e w' => ∃ v, e = .returned v ∧ w'.cell? ⟨n1, 0, none⟩ = some (.slice none 0 0) ∧ w'.cell? ⟨n2, 0, none⟩ = some (.int .i64 7) ∧ w'.frozen? ⟨n1, 0, none⟩ = false ∧ w'.frozen? ⟨n2, 0, none⟩ = false ∧ (∃ x y z, v = .slice x y z) ∧
        Hid (∃ v' err, Told ((w'.setCell ⟨n1, 0, none⟩ v).setCell ⟨n2, 0, none⟩ (.int .i64 0)) w.heap.size v' err (some (fl (ct f))) ∧ ((w'.setCell ⟨n1, 0, none⟩ v).setCell ⟨n2, 0, none⟩ (.int .i64 0)).cell? ⟨n1, 0, none⟩ = some v' ∧
          ((w'.setCell ⟨n1, 0, none⟩ v).setCell ⟨n2, 0, none⟩ (.int .i64 0)).cell? ⟨n2, 0, none⟩ = some (.int .i64 err) ∧ Kept (fun i => i = n1 ∨ i = n2) w ((w'.setCell ⟨n1, 0, none⟩ v).setCell ⟨n2, 0, none⟩ (.int .i64 0)))) := by
      intro q
      refine (bclone_any p c (ct f).b _ (hby q) hn (by have := hb f hg; omega)).mono ?_
      rintro e w' ⟨v, rfl, o1, b1⟩
      have bb : Below w.heap.size w w' := ⟨b1.os, b1.tape, b1.output, b1.size, b1.block⟩
      have x1 := B1.below bb B1.lt
      have x2 := B2.below bb B2.lt
      have hne : n1 ≠ n2 := B1.ne B2 (by decide)
      obtain ⟨x, z, e, _, _⟩ := o1.shape
      refine ⟨v, rfl, x1.cell 0, x2.cell 0, x1.frozen 0, x2.frozen 0, ⟨x, _, z, e⟩, v, 0, ?_, ?_, ?_, ?_⟩
      · have t0 : Told w' w.heap.size v 0 (some (fl (ct f))) := ⟨o1, rfl⟩
        have l1 := B1.lt
        have l2 := B2.lt
        exact (t0.keptBy (Kept.setCell (S := fun i => i = n1) w' ⟨n1, 0, none⟩ v rfl) (fun i e => by omega)).keptBy (Kept.setCell (S := fun i => i = n2) _ ⟨n2, 0, none⟩ _ rfl) (fun i e => by omega)
      · exact ((x1.set 0 v).setOther (a := ⟨n2, 0, none⟩) (fun e => hne e.symm) _).cell 0
      · exact ((x2.setOther (a := ⟨n1, 0, none⟩) hne v).set 0 (.int .i64 0)).cell 0
      · exact ((Kept.of_below bb).trans (Kept.setCell (S := fun i => i = n1) w' ⟨n1, 0, none⟩ v rfl) (fun i _ e => .inl e)).trans (Kept.setCell (S := fun i => i = n2) _ ⟨n2, 0, none⟩ _ rfl) (fun i _ e => .inr e)
    have hne : n1 ≠ n2 := B1.ne B2 (by decide)
    clear h B0 B1 B2 hb hby O B ev hn hc
    go_enter Tryz.func48, Tryz.ntmps48
    go_wp2
    go_quiet (fail)
    go_wp2_with (go_at_call 49; refine (HC.out _).mono ?_; rintro e w' ⟨v, rfl, k1, k2, y1, y2, ⟨x, y, z, rfl⟩, hp⟩)
    go_end0
    exact ⟨rfl, hp.out⟩
end Go.Proofs.YtmpnceicodfifaaGreat
