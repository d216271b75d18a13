/-
  List on a disk in memory: the names, sorted.
-/
import Derived.Test.YtmpnceicodfifaaGreatTxt
import Derived.Test.YtmpnceicodfifaaGreatLaid
namespace Go.Proofs.YtmpnceicodfifaaGreat
open Go.RowKit Go.Maps Go.Sort Go.Shelf
theorem sorts57 (m : Nat) : AnyZ.SortsIn Tryz.prog Tryz.sorted57_ren Fence.wide m :=
  ⟨fun blk off cap ss W hH hblk hsz => callsIn_wide.2 (AnyM.slices_Sort_string Tryz.sort66 blk off cap ss W hH hblk hsz),
   fun p cap W => callsIn_wide.2 (AnyM.slices_Sort_string_none Tryz.sort66 p cap W)⟩
theorem keys_any (mb : Option Nat) (W : World) : Calls Tryz.prog 82 #[.map mb] W fun e w' => e = .returned (.func (.func 94) #[] #[.pointer (some ⟨W.heap.size, 0, none⟩)]) ∧ w' = W.alloc (.cells #[.map mb] 82) :=
  callsIn_wide.1 (AnyZ.keys_in Tryz.keys58 Fence.wide 5 trivial rfl mb W)
set_option maxHeartbeats 1000000 in
theorem sorted_any (b nn : Nat) (D0 : DataW Unit) (w : World) (hown : w.ownsMap Tryz.prog 9 fileElem b nn D0) (hmax : Maps.size D0 ≤ maxLen) (hbytes : Maps.size D0 * 16 ≤ 140737488355328) :
    Calls Tryz.prog 81 #[.func (.func 94) #[] #[.pointer (some ⟨w.heap.size, 0, none⟩)]] (w.alloc (.cells #[.map (some b)] 82)) fun e w' => ∃ (v : Value) (ss : List (List UInt8)), e = .returned v ∧ ss.Perm (strKeys D0) ∧
      w'.ownsRow (w.alloc (.cells #[.map (some b)] 82)).heap.size 9 1 v ss.length ((ss.mergeSort (fun x y => decide (x ≤ y))).map encStr) ∧ (v = .slice none 0 0 ↔ ss = []) ∧ Below (w.alloc (.cells #[.map (some b)] 82)).heap.size (w.alloc (.cells #[.map (some b)] 82)) w' := by
  have hbl := hown.lt
  have hseq : SeqGives Fence.wide 2 Tryz.prog 94 #[.pointer (some ⟨w.heap.size, 0, none⟩)] encStr (fun ss => ss.Perm (strKeys D0)) (Maps.size D0) (w.alloc (.cells #[.map (some b)] 82)) :=
    AnyZ.keys_gives (ρ := Tryz.keys58_ren) { Tryz.keys58 with } Fence.wide _ trivial rfl (by omega) w.heap.size b nn D0 _ (by simp) (by simp) (by
      obtain ⟨es, clock, hb, Ft, hs, hD⟩ := hown
      exact ⟨es, clock, (Below.heap_alloc _ _ b hbl).trans hb, Ft, hs, hD⟩)
  exact callsIn_wide.1 (AnyZ.sorted_in Tryz.sorted57 Fence.wide 5 trivial trivial trivial trivial rfl (by omega) (sorts57 _) (Go.Proofs.enters_of Tryz.func93 (by kernel_rfl) rfl) 94 #[.pointer (some ⟨w.heap.size, 0, none⟩)] trivial (Go.Proofs.enters_of Tryz.func94 (by kernel_rfl) rfl) _ _ hmax hbytes _ hseq)
/-- A row of texts of the call's own. -/
def TOwn (w : World) (base : Nat) (v : Value) (ss : List (List UInt8)) : Prop := w.ownsRow base 9 1 v ss.length (ss.map encStr)
theorem TOwn.shape {w : World} {base : Nat} {v : Value} {ss : List (List UInt8)} (h : TOwn w base v ss) : ∃ a c, v = .slice a ss.length c := by
  rcases h with ⟨_, ⟨rfl, h0⟩ | ⟨g, cap, cur, rfl, _⟩⟩
  · exact ⟨none, 0, by rw [h0]⟩
  · exact ⟨_, _, rfl⟩
theorem TOwn.keptBy {T : Nat → Prop} {w w' : World} {base : Nat} {v : Value} {ss : List (List UInt8)} (h : TOwn w base v ss) (hk : Kept T w w') (hT : ∀ i, T i → i < base) : TOwn w' base v ss := by
  rcases h with ⟨h0, ⟨rfl, h1⟩ | ⟨g', cap, cur, rfl, h2, hh, h3⟩⟩
  · exact ⟨h0, .inl ⟨rfl, h1⟩⟩
  · refine ⟨h0, .inr ⟨g', cap, cur, rfl, h2, ?_, h3⟩⟩
    rw [hk.block g' (Array.getElem?_eq_some_iff.1 hh).1 (fun e => by have := hT g' e; omega)]
    exact hh
theorem TOwn.mono {w : World} {base base' : Nat} {v : Value} {ss : List (List UInt8)} (h : TOwn w base v ss) (hb : base' ≤ base) : TOwn w base' v ss := by
  rcases h with ⟨h0, h1 | ⟨g, cap, cur, e, h2, h3⟩⟩
  · exact ⟨h0, .inl h1⟩
  · exact ⟨h0, .inr ⟨g, cap, cur, e, Nat.le_trans hb h2, h3⟩⟩
theorem keys_dat (ix : List (Nm × Nat)) : strKeys (dat ix) = ix.map (·.1) := by
  show (ix.map ent).map (fun p => strOf p.1) = ix.map (·.1)
  rw [List.map_map]
  rfl
set_option maxHeartbeats 1000000 in
theorem names_any {lk : Int} {w : World} {bs bm : Nat} {room used fuse : Int} {ix : List (Nm × Nat)} {ct : Nat → File} (h : Inn lk w bs bm room used fuse ix ct) (hl : ix.length ≤ 4096) :
    Calls Tryz.prog 72 #[.pointer (some ⟨bs, 0, none⟩)] w fun e w' => ∃ (v : Value) (ss : List (List UInt8)), e = .returned v ∧ Hid (ss.Perm (ix.map (·.1)) ∧ TOwn w' w.heap.size v (ss.mergeSort (fun x y => decide (x ≤ y))) ∧ Below w.heap.size w w') := by
  have c5 : w.cell? ⟨bs, 5, none⟩ = some (.map (some bm)) := h.blk.cell 5
  have HS := sorted_any bm ix.length (dat ix) w h.map (by rw [size_dat]; unfold maxLen; omega) (by rw [size_dat]; omega)
  have HS' : Hid (Calls Tryz.prog 81 #[.func (.func 94) #[] #[.pointer (some ⟨w.heap.size, 0, none⟩)]] (w.alloc (.cells #[.map (some bm)] 82)) fun e w' => ∃ (v : Value) (ss : List (List UInt8)), e = .returned v ∧ Hid (ss.Perm (ix.map (·.1)) ∧ TOwn w' w.heap.size v (ss.mergeSort (fun x y => decide (x ≤ y))) ∧ Below w.heap.size w w')) := by
    refine HS.mono ?_
    rintro e w' ⟨v, ss, rfl, h1, h2, _, h4⟩
    rw [keys_dat] at h1
    refine ⟨v, ss, rfl, h1, ?_, below1 h4⟩
    have h2' : TOwn w' (w.alloc (.cells #[.map (some bm)] 82)).heap.size v (ss.mergeSort (fun x y => decide (x ≤ y))) := by
      unfold TOwn
      rw [List.length_mergeSort]
      exact h2
    exact h2'.mono (by simp)
  clear h HS
  go_enter Tryz.func72, Tryz.ntmps72
  go_wp2_with (first
    | (go_at_call 82; refine (keys_any _ _).mono ?_; rintro e w' ⟨rfl, rfl⟩)
    | (go_at_call 81; refine HS'.out.mono ?_; rintro e w' ⟨v, ss, rfl, hp⟩))
  go_ret
  exact ⟨v, ss, rfl, hp⟩
theorem enters41 : ∀ (args : Array Value) (w : World), (callFunc 71 args).run Tryz.prog w = .ok (.enter 71 args) w := enters Tryz.func71 (by kernel_rfl) rfl
set_option maxHeartbeats 1000000 in
theorem list_disk {w : World} {bd : Nat} {S : Nat → Prop} {a : Ab} (h : Disk w bd S a) :
    Calls Tryz.prog 43 #[.pointer (some ⟨bd, 0, none⟩)] w fun e w' => ∃ (v : Value) (ss : List (List UInt8)), e = .returned v ∧ Hid (ss.Perm (a.fs.map (·.1)) ∧ TOwn w' w.heap.size v (ss.mergeSort (fun x y => decide (x ≤ y))) ∧ Disk w' bd S a ∧ Kept S w w') := by
  have kW : Kept (fun _ => False) w (w.alloc (.cells #[.slice none 0 0] 70)) := Kept.alloc _ w _
  have dW := h.alloc (.cells #[.slice none 0 0] 70)
  have b0 := blk_new w 70 [.slice none 0 0]
  have hT : ∀ i, S i → ¬ i = w.heap.size := fun i hi => by have := h.lt hi; omega
  have HD : Hid (Calls Tryz.prog 18 #[.pointer (some ⟨bd, 0, none⟩), .func (.func 71) #[] #[.pointer (some ⟨w.heap.size, 0, none⟩)]] (w.alloc (.cells #[.slice none 0 0] 70)) fun e w' => e = .returned (.tuple #[]) ∧ ∃ (v : Value) (ss : List (List UInt8)), (∃ x y z, v = .slice x y z) ∧ w'.cell? ⟨w.heap.size, 0, none⟩ = some v ∧
      Hid (ss.Perm (a.fs.map (·.1)) ∧ TOwn w' w.heap.size v (ss.mergeSort (fun x y => decide (x ≤ y))) ∧ Disk w' bd S a ∧ Kept S w w')) := by
    refine (with_disk dW 71 [.pointer (some ⟨w.heap.size, 0, none⟩)] enters41 a h.1 (fun i => i = w.heap.size) hT (fun W S' => S' = S ∧ ∃ (v : Value) (ss : List (List UInt8)), (∃ x y z, v = .slice x y z) ∧ W.cell? ⟨w.heap.size, 0, none⟩ = some v ∧ ss.Perm (a.fs.map (·.1)) ∧ TOwn W (w.heap.size + 1) v (ss.mergeSort (fun x y => decide (x ≤ y)))) ?_ ?_).mono ?_
    · rintro W S' bs hb ⟨rfl, v, ss, hv, hc, hp, ho⟩
      have hl := h.lt hb
      refine ⟨rfl, v, ss, hv, ?_, hp, ho.keptBy (Kept.setCell (S := fun i => i = bs) W ⟨bs, 0, none⟩ _ rfl) (fun i e => by omega)⟩
      rw [World.cell?_setCell_other _ _ _ _ (fun e => hT _ hb (by cases e <;> rfl))]
      exact hc
    · intro bs bm ix ct hv hS w1 i1 k1 hSb
      have b1 := b0.keptBy k1 (fun e => hT _ hSb e.symm)
      have c0 := b1.cell 0
      simp only [List.getElem?_cons_zero] at c0
      have hl : ix.length ≤ 4096 := by have := h.1.fs.files; rw [hv, length_view] at this; exact this
      have HN : Hid (Calls Tryz.prog 72 #[.pointer (some ⟨bs, 0, none⟩)] w1 fun e w2 => ∃ (v : Value), e = .returned v ∧ (∃ x y z, v = .slice x y z) ∧ w2.cell? ⟨w.heap.size, 0, none⟩ = some (.slice none 0 0) ∧ w2.frozen? ⟨w.heap.size, 0, none⟩ = false ∧ Hid (∃ (ix' : List (Nm × Nat)) (ct' : Nat → File),
          Inn 1 (w2.setCell ⟨w.heap.size, 0, none⟩ v) bs bm a.room (tot ix' ct') a.fuse ix' ct' ∧ a.fs = view ix' ct' ∧ Kept (fun i => foot bs bm ix ct i ∨ i = w.heap.size) w1 (w2.setCell ⟨w.heap.size, 0, none⟩ v) ∧
          (∀ i, foot bs bm ix' ct' i → foot bs bm ix ct i ∨ (w.alloc (.cells #[.slice none 0 0] 70)).heap.size ≤ i) ∧ ((fun i => i = bd ∨ foot bs bm ix' ct' i) = S ∧ ∃ (v' : Value) (ss : List (List UInt8)), (∃ x y z, v' = .slice x y z) ∧ (w2.setCell ⟨w.heap.size, 0, none⟩ v).cell? ⟨w.heap.size, 0, none⟩ = some v' ∧ ss.Perm (a.fs.map (·.1)) ∧
            TOwn (w2.setCell ⟨w.heap.size, 0, none⟩ v) (w.heap.size + 1) v' (ss.mergeSort (fun x y => decide (x ≤ y)))))) := by
        refine (names_any i1 hl).mono ?_
        rintro e w2 ⟨v, ss, rfl, hp⟩
        obtain ⟨p1, p2, p3⟩ := hp.out
        have b2 := b1.below p3 b1.lt
        obtain ⟨x, z, e⟩ := p2.shape
        have k12 : Kept (fun _ => False) w1 w2 := Kept.of_below p3
        have kk : Kept (fun i => i = w.heap.size) w2 (w2.setCell ⟨w.heap.size, 0, none⟩ v) := Kept.setCell (S := fun i => i = w.heap.size) w2 ⟨w.heap.size, 0, none⟩ _ rfl
        have sz : w.heap.size + 1 ≤ w1.heap.size := by have := k1.size; simpa using this
        refine ⟨v, rfl, ⟨x, _, z, e⟩, b2.cell 0, b2.frozen 0, ix, ct, (i1.keptBy k12 (fun _ _ h => h)).keptBy kk (fun i hi => hT i (by rw [hS]; exact .inr hi)), hv, (k12.mono fun _ _ e => e.elim).trans kk (fun _ _ e => .inr e), fun i e => .inl e, hS.symm, v, ss, ⟨x, _, z, e⟩, (b2.set 0 v).cell 0, ?_, ?_⟩
        · rw [hv]
          unfold view
          rw [List.map_map]
          exact p1
        · exact (p2.mono sz).keptBy kk (fun i e => by omega)
      clear i1 k1 hv hS hSb b1 hT dW kW b0 h c0 hl
      go_enter Tryz.func71, Tryz.ntmps71
      go_wp2_with (go_at_call 72; refine HN.out.mono ?_; rintro e w2 ⟨v, rfl, ⟨x, y, z, rfl⟩, k0, y0, hp⟩)
      go_end0
      exact ⟨rfl, by simpa using hp.out⟩
    · rintro e w' ⟨rfl, S', d', k', n', rfl, v, ss, hv, hc, hp, ho⟩
      exact ⟨rfl, v, ss, hv, hc, hp, ho.mono (by omega), d', (kW.mono fun _ _ e => e.elim).trans k' (fun i hi e => e.resolve_right (by omega))⟩
  clear kW dW b0 h hT
  have hmf := hmf
  go_enter Tryz.func43, Tryz.ntmps43
  go_wp2_with (go_at_call 18; refine HD.out.mono ?_; rintro e w' ⟨rfl, v, ss, ⟨x, y, z, rfl⟩, hc, hp⟩)
  go_ret
  exact ⟨_, ss, rfl, hp⟩
#print axioms list_disk
end Go.Proofs.YtmpnceicodfifaaGreat
