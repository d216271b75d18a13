/-
  (*store).remove, .rename; Remove and Rename on a disk in memory.
-/
import Derived.Test.YtmpnceicodfifaaGreatRem
namespace Go.Proofs.YtmpnceicodfifaaGreat
open Go.RowKit Go.Maps
theorem get_none {α : Type} {l : List (Nm × α)} {nm : Nm} (h : ∀ p ∈ l, p.1 ≠ nm) : get l nm = none := by
  unfold get
  rw [Option.map_eq_none_iff, List.find?_eq_none]
  intro p hp
  simpa using h p hp
theorem get_del_other {α : Type} {nm old : Nm} (hne : old ≠ nm) : ∀ l : List (Nm × α), get (del nm l) old = get l old
  | [] => rfl
  | p :: r => by
    have ih := get_del_other hne r
    unfold get del at *
    rw [List.filter_cons, List.find?_cons]
    by_cases e : p.1 = nm
    · have e1 : (p.1 == nm) = true := by simpa using e
      have e2 : (p.1 == old) = false := by
        have : p.1 ≠ old := fun e' => hne (by rw [← e', e])
        simpa using this
      rw [e1, e2]
      simpa using ih
    · have e1 : (p.1 == nm) = false := by simpa using e
      rw [e1]
      simp only [Bool.not_false, if_true]
      rw [List.find?_cons]
      cases p.1 == old
      · exact ih
      · rfl
theorem Inn.file_back {lk : Int} {w w' : World} {bs bm : Nat} {room used fuse : Int} {ix : List (Nm × Nat)} {ct : Nat → File} (h : Inn lk w bs bm room used fuse ix ct) {nm : Nm} {f : Nat} (hg : get ix nm = none) (hk : Kept (fun i => i = bm) w w')
    (hm : w'.ownsMap Tryz.prog 9 fileElem bm (ix.length + 1) ((dat ix).put (.string nm) (.lit (.int .i64 (f : Int))))) (hb : Blk w f 86 [(ct f).v, .int .u32 ((ct f).k : Int)]) (ho : Own w 0 (ct f).v (ct f).b) (hold : ∀ p ∈ ix, p.2 ≠ f)
    (hap : ∀ p ∈ ix, ∀ g, (ct f).v.ownBlock = some g → (ct p.2).v.ownBlock ≠ some g) : Inn lk w' bs bm room used fuse (ins (nm, f) ix) ct := by
  rw [put_dat, del_of_none hg] at hm
  refine ⟨h.blk.keptBy hk (fun e => ownsMap_ne h.map h.blk e), by rw [length_ins]; exact hm, fun p hp => ?_, fun p hp => ?_, ?_, fun p hp q hq hpq g hg => ?_⟩
  · rcases mem_ins.1 hp with rfl | hp
    · exact hb.keptBy hk (ownsMap_ne h.map hb)
    · exact (h.file p hp).keptBy hk (h.file_ne hp).2
  · rcases mem_ins.1 hp with rfl | hp
    · refine ho.keptBy hk (fun g hg => ?_)
      obtain ⟨_, hv⟩ := ho.blk hg
      exact ownsMap_ne h.map hv
    · exact (h.row p hp).keptBy hk (fun g hg => (h.row_ne hp hg).2.1)
  · refine ((perm_ins (nm, f) ix).map (·.2)).nodup_iff.2 (List.nodup_cons.2 ⟨?_, h.two⟩)
    intro hm
    obtain ⟨p, hp, e⟩ := List.mem_map.1 hm
    exact hold p hp e
  · rcases mem_ins.1 hp with rfl | hp
    · rcases mem_ins.1 hq with rfl | hq
      · exact absurd rfl hpq
      · exact hap q hq g hg
    · rcases mem_ins.1 hq with rfl | hq
      · intro e
        exact hap p hp g e hg
      · exact h.apart p hp q hq hpq g hg
set_option maxHeartbeats 1000000 in
theorem remove_any {lk : Int} {w : World} {bs bm : Nat} {room fuse : Int} {ix : List (Nm × Nat)} {ct : Nat → File} (h : Inn lk w bs bm room (tot ix ct) fuse ix ct) (s : ByteArray) (hs : s.size ≤ maxLen) (hu2 : tot ix ct ≤ 1073741824) :
    Calls Tryz.prog 69 #[.pointer (some ⟨bs, 0, none⟩), .string s] w fun e w' => ∃ (err : Int) (ix' : List (Nm × Nat)) (ct' : Nat → File), e = .returned (.int .i64 err) ∧ Inn lk w' bs bm room (tot ix' ct') fuse ix' ct' ∧ Step w w' bs bm ix ct ix' ct' ∧ (err, view ix' ct') = aRemove s.data.toList (view ix ct) := by
  have hlk := h.lookup hs
  have c5 : w.cell? ⟨bs, 5, none⟩ = some (.map (some bm)) := h.blk.cell 5
  unfold aRemove
  rw [view_get]
  cases hg : get ix s.data.toList with
  | none =>
    rw [hg] at hlk
    simp only [Option.map_none] at hlk ⊢
    have HH : Hid (Inn lk w bs bm room (tot ix ct) fuse ix ct) := h
    clear h hs
    go_enter Tryz.func69, Tryz.ntmps69
    go_wp2
    go_ret
    exact ⟨7, ix, ct, rfl, HH.out, Step.refl _ _ _ _ _, rfl⟩
  | some f =>
    rw [hg] at hlk
    simp only [Option.map_some] at hlk ⊢
    have hle := le_tot (ct := ct) (mem_of_get hg)
    simp only at hle
    have HD : Hid (Calls Tryz.prog 80 #[.pointer (some ⟨bs, 0, none⟩), .string s] w fun e w' => e = .returned (.tuple #[]) ∧ Hid (Inn lk w' bs bm room (tot (del s.data.toList ix) ct) fuse (del s.data.toList ix) ct ∧ Step w w' bs bm ix ct (del s.data.toList ix) ct)) := by
      refine (drop_any h s hs (by omega) (by omega) (fun f' hf' => by rw [hg] at hf'; cases hf'; omega)).mono ?_
      rintro e w' ⟨rfl, q1, q2⟩
      have ht := tot_del (ct := ct) h.one hg
      rw [hg] at q1
      simp only at q1
      have e1 : ((tot ix ct : Nat) : Int) - ((ct f).b.length : Nat) = (tot (del s.data.toList ix) ct : Nat) := by omega
      rw [e1] at q1
      exact ⟨rfl, q1, q2⟩
    clear h hs hle
    go_enter Tryz.func69, Tryz.ntmps69
    go_wp2_with (go_at_call 80; refine HD.out.mono ?_; rintro e w' ⟨rfl, hp⟩)
    go_ret
    exact ⟨0, _, _, rfl, hp.out.1, hp.out.2, by rw [view_del]⟩
theorem bytes_eq {s t : ByteArray} (h : s.data.toList = t.data.toList) : s = t := ByteArray.ext (Array.toList_inj.1 h)
set_option maxHeartbeats 1000000 in
set_option maxRecDepth 8000 in
theorem rename_any {lk : Int} {w : World} {bs bm : Nat} {room fuse : Int} {ix : List (Nm × Nat)} {ct : Nat → File} (h : Inn lk w bs bm room (tot ix ct) fuse ix ct) (s t : ByteArray) (hs : s.size ≤ maxLen) (ht : t.size ≤ 281474976710656) (hu2 : tot ix ct ≤ 1073741824) (hix : ix.length ≤ 4096) :
    Calls Tryz.prog 66 #[.pointer (some ⟨bs, 0, none⟩), .string s, .string t] w fun e w' => ∃ (err : Int) (ix' : List (Nm × Nat)) (ct' : Nat → File), e = .returned (.int .i64 err) ∧ Inn lk w' bs bm room (tot ix' ct') fuse ix' ct' ∧ Step w w' bs bm ix ct ix' ct' ∧ (err, view ix' ct') = aRename s.data.toList t.data.toList (view ix ct) := by
  have hlk := h.lookup hs
  have c5 : w.cell? ⟨bs, 5, none⟩ = some (.map (some bm)) := h.blk.cell 5
  unfold aRename
  rw [view_get]
  cases hg : get ix s.data.toList with
  | none =>
    rw [hg] at hlk
    simp only [Option.map_none] at hlk ⊢
    have HH : Hid (Inn lk w bs bm room (tot ix ct) fuse ix ct) := h
    clear h hs ht
    go_enter Tryz.func66, Tryz.ntmps66
    go_wp2
    go_ret
    exact ⟨7, ix, ct, rfl, HH.out, Step.refl _ _ _ _ _, rfl⟩
  | some f =>
    rw [hg] at hlk
    simp only [Option.map_some] at hlk ⊢
    by_cases hst : s = t
    · subst hst
      rw [if_pos rfl]
      have HH : Hid (Inn lk w bs bm room (tot ix ct) fuse ix ct) := h
      clear h hs ht
      go_enter Tryz.func66, Tryz.ntmps66
      go_wp2
      go_ret
      exact ⟨0, ix, ct, rfl, HH.out, Step.refl _ _ _ _ _, rfl⟩
    · have hne : s.data.toList ≠ t.data.toList := fun e => hst (bytes_eq e)
      rw [if_neg hne]
      have HD : Hid (Calls Tryz.prog 80 #[.pointer (some ⟨bs, 0, none⟩), .string t] w fun e w1 => e = .returned (.tuple #[]) ∧ w1.cell? ⟨bs, 5, none⟩ = some (.map (some bm)) ∧ Hid (Inn lk w1 bs bm room (tot (del t.data.toList ix) ct) fuse (del t.data.toList ix) ct ∧ Step w w1 bs bm ix ct (del t.data.toList ix) ct)) := by
        refine (drop_any h t (by unfold maxLen; omega) (by omega) (by omega) (fun f' hf' => ?_)).mono ?_
        · have := le_tot (ct := ct) (mem_of_get hf')
          simp only at this
          omega
        · rintro e w1 ⟨rfl, q1, q2⟩
          have q1' : Inn lk w1 bs bm room (tot (del t.data.toList ix) ct : Nat) fuse (del t.data.toList ix) ct := by
            cases hg' : get ix t.data.toList with
            | none =>
              rw [hg', del_of_none hg'] at q1
              rw [del_of_none hg']
              simpa using q1
            | some f' =>
              rw [hg'] at q1
              have := tot_del (ct := ct) h.one hg'
              have e : ((tot ix ct : Nat) : Int) - ((ct f').b.length : Nat) = (tot (del t.data.toList ix) ct : Nat) := by omega
              simp only at q1
              rw [e] at q1
              exact q1
          exact ⟨rfl, q1'.blk.cell 5, q1', q2⟩
      have HKY : Hid (keyOf Tryz.prog 9 (.string s) = some (.string s.data.toList)) := key9 hs
      have hgt : get (del t.data.toList ix) s.data.toList = some f := by rw [get_del_other hne]; exact hg
      have hmem := mem_of_get hgt
      have h1 := h.one
      have HP : Hid (∀ w1 w2, (Inn lk w1 bs bm room (tot (del t.data.toList ix) ct) fuse (del t.data.toList ix) ct ∧ Step w w1 bs bm ix ct (del t.data.toList ix) ct) → w2.ownsMap Tryz.prog 9 fileElem bm (del t.data.toList ix).length ((dat (del t.data.toList ix)).del (.string s.data.toList)) → w1.mapTurned w2 bm →
          Calls Tryz.prog 56 #[.pointer (some ⟨bs, 0, none⟩), .string t, .pointer (some ⟨f, 0, none⟩)] w2 fun e w3 => e = .returned (.tuple #[]) ∧ Hid (Inn lk w3 bs bm room (tot (ins (t.data.toList, f) (del s.data.toList (del t.data.toList ix))) ct) fuse (ins (t.data.toList, f) (del s.data.toList (del t.data.toList ix))) ct ∧
            Step w w3 bs bm ix ct (ins (t.data.toList, f) (del s.data.toList (del t.data.toList ix))) ct)) := by
        rintro w1 w2 ⟨i1, s1⟩ m2 t2
        have k2 : Kept (fun i => i = bm) w1 w2 := Kept.of_grown t2.grown (fun i e => by cases e; rfl)
        obtain ⟨i2, s2⟩ := i1.file_del k2 m2
        have bF := (i1.file _ hmem).keptBy k2 (i1.file_ne hmem).2
        have oF := (i1.row _ hmem).keptBy k2 (fun g hg => (i1.row_ne hmem hg).2.1)
        have hlen : (del s.data.toList (del t.data.toList ix)).length ≤ 4096 := Nat.le_trans (Nat.le_trans (List.length_filter_le _ _) (List.length_filter_le _ _)) hix
        refine (put_any bs bm _ f _ t ht w2 (i2.blk.cell 5) i2.map (by unfold maxLen; omega)).mono ?_
        rintro e w3 ⟨rfl, m3, k3⟩
        have hnone : get (del s.data.toList (del t.data.toList ix)) t.data.toList = none := get_none fun p hp => (mem_del.1 (mem_del.1 hp).1).2
        have hold : ∀ p ∈ del s.data.toList (del t.data.toList ix), p.2 ≠ f := fun p hp e => (mem_del.1 hp).2 (congrArg Prod.fst (snd_inj i1.two (mem_del.1 hp).1 hmem e))
        have i3 := i2.file_back hnone k3 m3 bF oF hold (fun p hp g hg => i1.apart _ hmem p (mem_del.1 hp).1 (fun e => hold p hp e.symm) g hg)
        have tt : tot (ins (t.data.toList, f) (del s.data.toList (del t.data.toList ix))) ct = tot (del t.data.toList ix) ct := by
          have := tot_del (ct := ct) i1.one hgt
          rw [tot_ins]
          omega
        refine ⟨rfl, by rw [tt]; exact i3, ?_⟩
        have s12 := s1.trans s2
        refine ⟨s12.kept.trans k3 (fun i _ e => .inr (.inl e)), fun i hi => ?_⟩
        rcases hi with e | e | ⟨p, hp, e⟩
        · exact .inl (.inl e)
        · exact .inl (.inr (.inl e))
        · rcases mem_ins.1 hp with rfl | hp
          · exact .inl (.inr (.inr ⟨_, mem_of_get hg, e⟩))
          · exact .inl (.inr (.inr ⟨p, (mem_del.1 (mem_del.1 hp).1).1, e⟩))
      clear h hs ht hgt hmem h1 hg
      have hdec : (s.toList == t.toList) = false := by rw [ByteArray.toList_eq, ByteArray.toList_eq]; simpa using hne
      go_enter Tryz.func66, Tryz.ntmps66
      go_wp2_with (first
        | (go_at_call 80; refine HD.out.mono ?_; rintro e w1 ⟨rfl, k5, HI⟩)
        | (at_delete; refine wpList_delete_own _ rfl _ _ 82 9 rfl 74 law9 Tryz.underlying82 _ bm _ _ rfl HI.out.1.map _ _ rfl HKY.out ?_; intro w2 hown2 hturn2)
        | (go_at_call 56; refine (HP.out _ _ HI.out hown2 hturn2).mono ?_; rintro e w3 ⟨rfl, hp⟩))
      go_ret
      exact ⟨0, _, _, rfl, hp.out.1, hp.out.2, by rw [view_ins, view_del, view_del]⟩
theorem FineF.remove {room : Int} {fs : List (Nm × Fl)} (h : FineF room fs) (nm : Nm) : FineF room (aRemove nm fs).2 := by
  unfold aRemove
  cases get fs nm with
  | none => exact h
  | some x => exact h.del nm
theorem total_del {nm : Nm} {x : Fl} : ∀ {fs : List (Nm × Fl)}, (fs.map (·.1)).Nodup → get fs nm = some x → total (del nm fs) + x.b.length = total fs
  | [], _, h => by simp [get] at h
  | p :: r, hn, h => by
    simp only [List.map_cons, List.nodup_cons] at hn
    unfold get at h
    rw [List.find?_cons] at h
    by_cases e : p.1 = nm
    · have e1 : (p.1 == nm) = true := by simpa using e
      rw [e1] at h
      simp at h
      have e2 : del nm r = r := List.filter_eq_self.2 fun q hq => by
        have : q.1 ≠ nm := fun e' => hn.1 (by rw [e, ← e']; exact List.mem_map.2 ⟨q, hq, rfl⟩)
        simpa using this
      have e3 : del nm (p :: r) = del nm r := by unfold del; rw [List.filter_cons]; simp [e1]
      rw [e3, e2]
      unfold total
      rw [List.map_cons, List.sum_cons, h]
      omega
    · have e1 : (p.1 == nm) = false := by simpa using e
      rw [e1] at h
      have ih := total_del hn.2 (show get r nm = some x from h)
      have e3 : del nm (p :: r) = p :: del nm r := by unfold del; rw [List.filter_cons]; simp [e1]
      rw [e3]
      unfold total at ih ⊢
      rw [List.map_cons, List.map_cons, List.sum_cons, List.sum_cons]
      omega
theorem length_del {α : Type} {nm : Nm} {x : α} {fs : List (Nm × α)} (h : get fs nm = some x) : (del nm fs).length < fs.length := by
  refine List.length_filter_lt_length_iff_exists.2 ⟨(nm, x), mem_of_get h, by simp⟩
theorem FineF.rename {room : Int} {fs : List (Nm × Fl)} (h : FineF room fs) (old nm : Nm) : FineF room (aRename old nm fs).2 := by
  unfold aRename
  cases hg : get fs old with
  | none => exact h
  | some x =>
    simp only
    split
    · exact h
    · rename_i hne
      have hg2 : get (Go.Proofs.YtmpnceicodfifaaGreat.del nm fs) old = some x := by rw [get_del_other hne]; exact hg
      have hm := mem_of_get hg
      have h1 := h.del nm
      have ht := total_del h1.one hg2
      have hu := h1.used
      have hl := length_del hg2
      have hf := h1.files
      exact (h1.del old).ins x (get_none fun p hp => (mem_del.1 (mem_del.1 hp).1).2) (by omega) (by omega) (h.lasts _ hm) (h.oct _ hm)
theorem enters35 : ∀ (args : Array Value) (w : World), (callFunc 68 args).run Tryz.prog w = .ok (.enter 68 args) w := enters Tryz.func68 (by kernel_rfl) rfl
set_option maxHeartbeats 1000000 in
theorem remove_disk {w : World} {bd : Nat} {S : Nat → Prop} {a : Ab} (h : Disk w bd S a) (s : ByteArray) :
    Calls Tryz.prog 35 #[.pointer (some ⟨bd, 0, none⟩), .string s] w fun e w' => e = .returned (.int .i64 (aDo [s] (aRemove s.data.toList) a).1) ∧ ∃ S', Disk w' bd S' (aDo [s] (aRemove s.data.toList) a).2 ∧ Went w w' S S' := by
  obtain ⟨W, hW⟩ : ∃ W, W = (w.alloc (.cells #[.string s] 9)).alloc (.cells #[.string s] 9) := ⟨_, rfl⟩
  have kW : Kept (fun _ => False) w W := by
    rw [hW]
    exact (Kept.alloc _ w _).trans (Kept.alloc (fun _ => False) _ _) (fun _ _ h => h)
  have dW : Disk W bd S a := h.keptBy kW (fun _ _ h => h)
  have b0 : Blk W w.heap.size 9 [.string s] := by rw [hW]; exact (blk_new w 9 [.string s]).alloc _
  have b2 : Blk W (w.heap.size + 1) 9 ([s].map Value.string) := by
    have := blk_new (w.alloc (.cells #[.string s] 9)) 9 [.string s]
    rw [hW]; simpa using this
  have HD : Hid (Calls Tryz.prog 21 #[.pointer (some ⟨bd, 0, none⟩), .func (.func 68) #[] #[.pointer (some ⟨w.heap.size, 0, none⟩)], .slice (some ⟨w.heap.size + 1, 0, none⟩) 1 1] W fun e w' =>
      e = .returned (.int .i64 (aDo [s] (aRemove s.data.toList) a).1) ∧ ∃ S', Disk w' bd S' (aDo [s] (aRemove s.data.toList) a).2 ∧ Went W w' S S') := by
    refine do_disk dW 68 (w.heap.size + 1) 1 [.pointer (some ⟨w.heap.size, 0, none⟩)] [s] (by simp) b2.lt (fun e => by have := h.lt e; omega) (txts_one b2) enters35 (aRemove s.data.toList) (h.1.fs.remove _) ?_
    intro bs bm ix ct hv hb w1 i1 k1 hS
    have hlt := h.lt hS
    have hf := h.1
    have c0 := (b0.keptBy k1 (by omega)).cell 0
    have hs64 : s.size ≤ 64 := by
      simp [bad] at hb
      omega
    have HE : Hid (Calls Tryz.prog 69 #[.pointer (some ⟨bs, 0, none⟩), .string s] w1 fun e w2 => ∃ (err : Int) (ix' : List (Nm × Nat)) (ct' : Nat → File),
        e = .returned (.int .i64 err) ∧ Inn 1 w2 bs bm a.room (tot ix' ct') a.fuse ix' ct' ∧ Step w1 w2 bs bm ix ct ix' ct' ∧ (err, view ix' ct') = aRemove s.data.toList a.fs) := by
      have hu := hf.fs.used
      have hr := hf.room1
      rw [hv, total_view] at hu
      rw [hv]
      exact remove_any i1 s (by unfold maxLen; omega) (by omega)
    clear hv hb i1 k1 hS hlt hf
    simp only [List.getElem?_cons_zero] at c0
    clear dW b0 b2 hW kW h
    go_enter Tryz.func68, Tryz.ntmps68
    go_wp2_with (go_at_call 69; refine HE.out.mono ?_; rintro e w2 ⟨err, ix', ct', rfl, hp⟩)
    go_ret
    exact ⟨err, ix', ct', rfl, hp⟩
  have HK : Hid (Kept (fun _ => False) w W) := kW
  clear kW dW b0 b2 h
  have hmf := hmf
  go_enter Tryz.func35, Tryz.ntmps35
  go_wp2_with (go_at_call 21; rw [← hW]; refine HD.out.mono ?_; rintro e w' ⟨rfl, S', d', g'⟩)
  go_ret
  refine ⟨rfl, S', d', ?_⟩
  exact Went.trans (Went.of_kept HK.out (fun _ _ h => h.elim)) g'
end Go.Proofs.YtmpnceicodfifaaGreat
