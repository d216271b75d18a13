/-
  The names' test, the fuse, and (*Disk).do.
-/
import Derived.Test.YtmpnceicodfifaaGreatFile
namespace Go.Proofs.YtmpnceicodfifaaGreat
open Go.RowKit Go.Maps
/-- A name that is none. -/
def bad (s : ByteArray) : Bool := decide (s.size < 1) || decide (64 < s.size)
/-- A row of texts in memory. -/
def Txts (w : World) (g : Nat) (ns : List ByteArray) : Prop := ∀ i s, ns[i]? = some s → w.cell? ⟨g, i, none⟩ = some (.string s)
set_option maxHeartbeats 1000000 in
theorem index_any (g c : Nat) (ns : List ByteArray) (hl : ns.length < 1000) (w : World) (ht : Txts w g ns) :
    Calls Tryz.prog 76 #[.slice (some ⟨g, 0, none⟩) ns.length c, .func (.func 54) #[] #[]] w fun e w' => (∃ r : Int, e = .returned (.int .i64 r) ∧ decide (0 ≤ r) = ns.any bad) ∧ w' = w := by
  go_enter Tryz.func76, Tryz.ntmps76
  go_wp2
  go_loopw [8] (fun i wr => ∃ k : Nat, k ≤ ns.length ∧ i = .int .i64 k ∧ wr = w ∧ (ns.take k).any bad = false) (fun i _ => ns.length - (intOf i).toNat)
  case atStart => exact ⟨0, by omega, rfl, rfl, rfl⟩
  case round =>
    obtain ⟨k, hk, rfl, rfl, hb⟩ := hrel
    have HB : Hid _ := hb
    clear hb
    by_cases hlt : k < ns.length
    · have hc := ht k _ (List.getElem?_eq_getElem hlt)
      have hx : Hid (∀ W, Calls Tryz.prog 54 #[.string ns[k]] W fun e w' => e = .returned (.bool (bad ns[k])) ∧ w' = W) := fun W => noname_any _ W
      have hx2 : Hid ((ns.take (k + 1)).any bad = bad ns[k]) := by
        rw [List.take_succ_eq_append_getElem hlt, List.any_append, HB]
        simp [Hid]
      have hx3 : Hid (bad ns[k] = true → ns.any bad = true) := fun e => List.any_eq_true.2 ⟨_, List.getElem_mem hlt, e⟩
      generalize ns[k] = s at hc hx hx2 hx3
      cases hbs : bad s
      · rw [hbs] at hx hx2
        clear ht hx3 hbs
        go_wp2_with (go_at_call 54; refine (hx.out _).mono ?_; rintro e w' ⟨rfl, rfl⟩)
        go_roundw
        case rel => exact ⟨k + 1, by omega, by go_num, trivial, hx2.out⟩
        case measure => simp [intOf]; omega
      · rw [hbs] at hx
        clear ht hx2
        go_wp2_with (go_at_call 54; refine (hx.out _).mono ?_; rintro e w' ⟨rfl, rfl⟩)
        go_ret
        exact ⟨⟨_, rfl, by rw [hx3.out hbs]; simp⟩, rfl⟩
    · go_wp2
      go_ret
      refine ⟨⟨_, rfl, ?_⟩, rfl⟩
      have := HB.out
      rw [List.take_of_length_le (by omega)] at this
      rw [this]
      rfl
set_option maxHeartbeats 1000000 in
theorem contains_any (g c : Nat) (ns : List ByteArray) (hl : ns.length < 1000) (w : World) (ht : Txts w g ns) :
    Calls Tryz.prog 53 #[.slice (some ⟨g, 0, none⟩) ns.length c, .func (.func 54) #[] #[]] w fun e w' => e = .returned (.bool (ns.any bad)) ∧ w' = w := by
  go_enter Tryz.func53, Tryz.ntmps53
  go_wp2_with (go_at_call 76; refine (index_any g c ns hl _ ht).mono ?_; rintro e w' ⟨⟨r, rfl, hr⟩, rfl⟩)
  go_ret
  exact ⟨by rw [← hr]; rfl, rfl⟩
set_option maxHeartbeats 1000000 in
theorem burn_any (bs : Nat) (fuse e0 : Int) (w : World) (h : w.cell? ⟨bs, 4, none⟩ = some (.int .i64 fuse)) (hz : w.frozen? ⟨bs, 4, none⟩ = false) (hf : -1 ≤ fuse) (hf2 : fuse < 9223372036854775808) :
    Calls Tryz.prog 55 #[.pointer (some ⟨bs, 0, none⟩), .int .i64 e0] w fun e w' => e = .returned (.tuple #[]) ∧ w' = if e0 = 0 ∧ 0 < fuse then w.setCell ⟨bs, 4, none⟩ (.int .i64 (fuse - 1)) else w := by
  by_cases h0 : e0 = 0
  · by_cases h1 : 0 < fuse
    · subst h0
      simp only [h1, and_self, if_true]
      go_enter Tryz.func55, Tryz.ntmps55
      go_wp2
      go_end0
      exact ⟨rfl, rfl⟩
    · subst h0
      simp only [h1, and_false, if_false]
      go_enter Tryz.func55, Tryz.ntmps55
      go_wp2
      go_end0
      exact ⟨rfl, rfl⟩
  · simp only [h0, false_and, if_false]
    go_enter Tryz.func55, Tryz.ntmps55
    go_wp2
    go_end0
    exact ⟨rfl, rfl⟩
end Go.Proofs.YtmpnceicodfifaaGreat
