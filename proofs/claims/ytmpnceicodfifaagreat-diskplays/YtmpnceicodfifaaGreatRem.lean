/-
  (*store).drop, .remove, .rename, .truncate.
-/
import Derived.Test.YtmpnceicodfifaaGreatKnown
namespace Go.Proofs.YtmpnceicodfifaaGreat
open Go.RowKit Go.Maps
theorem tot_del {ct : Nat → File} {nm : Nm} {f : Nat} : ∀ {ix : List (Nm × Nat)}, (ix.map (·.1)).Nodup → get ix nm = some f → tot (del nm ix) ct + (ct f).b.length = tot ix ct
  | [], _, h => by simp [get] at h
  | p :: r, hn, h => by
    simp only [List.map_cons, List.nodup_cons] at hn
    unfold get at h
    rw [List.find?_cons] at h
    by_cases e : p.1 = nm
    · have e1 : (p.1 == nm) = true := by simpa using e
      rw [e1] at h
      simp at h
      have e2 : del nm r = r := List.filter_eq_self.2 fun q hq => by
        have : q.1 ≠ nm := fun e' => hn.1 (by rw [e, ← e']; exact List.mem_map.2 ⟨q, hq, rfl⟩)
        simpa using this
      have e3 : del nm (p :: r) = del nm r := by unfold del; rw [List.filter_cons]; simp [e1]
      rw [e3, e2]
      unfold tot
      rw [List.map_cons, List.sum_cons, h]
      omega
    · have e1 : (p.1 == nm) = false := by simpa using e
      rw [e1] at h
      have ih := tot_del (ct := ct) hn.2 (show get r nm = some f from h)
      have e3 : del nm (p :: r) = p :: del nm r := by unfold del; rw [List.filter_cons]; simp [e1]
      rw [e3]
      unfold tot at ih ⊢
      rw [List.map_cons, List.map_cons, List.sum_cons, List.sum_cons]
      omega
set_option maxHeartbeats 1000000 in
theorem drop_any {lk : Int} {w : World} {bs bm : Nat} {room used fuse : Int} {ix : List (Nm × Nat)} {ct : Nat → File} (h : Inn lk w bs bm room used fuse ix ct) (s : ByteArray) (hs : s.size ≤ maxLen) (hu : 0 ≤ used) (hu2 : used ≤ 1073741824) (hb : ∀ f, get ix s.data.toList = some f → (ct f).b.length ≤ 1073741824) :
    Calls Tryz.prog 80 #[.pointer (some ⟨bs, 0, none⟩), .string s] w fun e w' => e = .returned (.tuple #[]) ∧ Inn lk w' bs bm room (used - (match get ix s.data.toList with | some f => (ct f).b.length | none => 0 : Nat)) fuse (del s.data.toList ix) ct ∧ Step w w' bs bm ix ct (del s.data.toList ix) ct := by
  have hlk := h.lookup hs
  have c5 : w.cell? ⟨bs, 5, none⟩ = some (.map (some bm)) := h.blk.cell 5
  cases hg : get ix s.data.toList with
  | none =>
    rw [hg] at hlk
    simp only [Option.map_none] at hlk
    have HF : Hid (Inn lk w bs bm room (used - ((0 : Nat) : Int)) fuse (del s.data.toList ix) ct ∧ Step w w bs bm ix ct (del s.data.toList ix) ct) := by
      rw [del_of_none hg]
      exact ⟨by simpa using h, Step.refl _ _ _ _ _⟩
    clear h hb hg hs
    go_enter Tryz.func80, Tryz.ntmps80
    go_wp2
    go_end0
    exact ⟨rfl, HF.out⟩
  | some f =>
    rw [hg] at hlk
    simp only [Option.map_some] at hlk
    have hf := mem_of_get hg
    obtain ⟨p, c, ev, hc, hn, B, O⟩ := h.see hf
    have f0 : w.cell? ⟨f, 0, none⟩ = some (.slice p (ct f).b.length c) := B.cell 0
    have c3 : w.cell? ⟨bs, 3, none⟩ = some (.int .i64 used) := h.blk.cell 3
    have z3 : w.frozen? ⟨bs, 3, none⟩ = false := h.blk.frozen 3
    have hbf := hb f hg
    have i1 : Inn lk (w.setCell ⟨bs, 3, none⟩ (.int .i64 (used - (ct f).b.length))).drew bs bm room (used - (ct f).b.length) fuse ix ct := (h.set 3 _ rfl).keptBy (Kept.drew (fun _ => False) _) (fun _ _ h => h)
    have s1 : Step w (w.setCell ⟨bs, 3, none⟩ (.int .i64 (used - (ct f).b.length))).drew bs bm ix ct ix ct :=
      Step.of_kept ((Kept.setCell (S := fun i => i = bs) w ⟨bs, 3, none⟩ _ rfl).trans (Kept.drew (fun _ => False) _) (fun _ _ h => h.elim)) (fun _ _ e => .inl e)
    have HM : Hid ((w.setCell ⟨bs, 3, none⟩ (.int .i64 (used - (ct f).b.length))).drew.ownsMap Tryz.prog 9 fileElem bm ix.length (dat ix)) := i1.map
    have HF : Hid (∀ w', w'.ownsMap Tryz.prog 9 fileElem bm ix.length ((dat ix).del (.string s.data.toList)) → (w.setCell ⟨bs, 3, none⟩ (.int .i64 (used - (ct f).b.length))).drew.mapTurned w' bm →
        Inn lk w' bs bm room (used - (ct f).b.length) fuse (del s.data.toList ix) ct ∧ Step w w' bs bm ix ct (del s.data.toList ix) ct) := by
      intro w' m1 t1
      obtain ⟨r1, r2⟩ := i1.file_del (Kept.of_grown (S := fun i => i = bm) t1.grown (fun i e => by cases e; rfl)) m1
      exact ⟨r1, s1.trans r2⟩
    have d5 : (w.setCell ⟨bs, 3, none⟩ (.int .i64 (used - (ct f).b.length))).cell? ⟨bs, 5, none⟩ = some (.map (some bm)) := (h.set 3 (.int .i64 (used - (ct f).b.length)) (lk' := lk) (room' := room) (used' := used - (ct f).b.length) (fuse' := fuse) rfl).blk.cell 5
    have HKY : Hid (keyOf Tryz.prog 9 (.string s) = some (.string s.data.toList)) := key9 hs
    clear h hb hg hs B O ev hf i1 s1
    simp only
    generalize (ct f).b.length = n at *
    go_enter Tryz.func80, Tryz.ntmps80
    go_wp2
    go_region
    go_wp2_with (at_delete; refine wpList_delete_own _ rfl _ _ 82 9 rfl 74 law9 Tryz.underlying82 _ bm ix.length _ rfl HM.out _ _ rfl HKY.out ?_; intro w1 hown1 hturn1)
    have hp := HF.out _ hown1 hturn1
    clear HF hown1 hturn1 HM
    go_end0
    exact ⟨rfl, hp⟩
end Go.Proofs.YtmpnceicodfifaaGreat
