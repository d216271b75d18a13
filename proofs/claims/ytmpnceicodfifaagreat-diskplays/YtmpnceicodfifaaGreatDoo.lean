/-
  (*Disk).do: the closure that it hands to with.
-/
import Derived.Test.YtmpnceicodfifaaGreatDo
namespace Go.Proofs.YtmpnceicodfifaaGreat
open Go.RowKit Go.Maps
set_option maxHeartbeats 1000000 in
theorem do1_dead (bs ge gn ga : Nat) (w : World) (h4 : w.cell? ⟨bs, 4, none⟩ = some (.int .i64 0)) (he : w.cell? ⟨ge, 0, none⟩ = some (.int .i64 1)) (hz : w.frozen? ⟨ge, 0, none⟩ = false) :
    Calls Tryz.prog 52 #[.pointer (some ⟨bs, 0, none⟩), .pointer (some ⟨ge, 0, none⟩), .pointer (some ⟨gn, 0, none⟩), .pointer (some ⟨ga, 0, none⟩)] w fun e w' => e = .returned (.tuple #[]) ∧ w' = w.setCell ⟨ge, 0, none⟩ (.int .i64 20) := by
  go_enter Tryz.func52, Tryz.ntmps52
  go_wp2
  go_end0
  exact ⟨rfl, rfl⟩
set_option maxHeartbeats 1000000 in
theorem do1_bad (bs ge gn ga g c : Nat) (fuse : Int) (ns : List ByteArray) (hl : ns.length < 1000) (w : World) (h4 : w.cell? ⟨bs, 4, none⟩ = some (.int .i64 fuse)) (hf : ¬ fuse = 0) (he : w.cell? ⟨ge, 0, none⟩ = some (.int .i64 1)) (hz : w.frozen? ⟨ge, 0, none⟩ = false)
    (hn : w.cell? ⟨gn, 0, none⟩ = some (.slice (some ⟨g, 0, none⟩) ns.length c)) (ht : Txts w g ns) (hbad : ns.any bad = true) :
    Calls Tryz.prog 52 #[.pointer (some ⟨bs, 0, none⟩), .pointer (some ⟨ge, 0, none⟩), .pointer (some ⟨gn, 0, none⟩), .pointer (some ⟨ga, 0, none⟩)] w fun e w' => e = .returned (.tuple #[]) ∧ w' = w.setCell ⟨ge, 0, none⟩ (.int .i64 1) := by
  have HC : Hid (Calls Tryz.prog 53 #[.slice (some ⟨g, 0, none⟩) ns.length c, .func (.func 54) #[] #[]] w fun e w' => e = .returned (.bool true) ∧ w' = w) := by rw [← hbad]; exact contains_any g c ns hl w ht
  clear ht hbad
  go_enter Tryz.func52, Tryz.ntmps52
  go_wp2_with (go_at_call 53; refine HC.out.mono ?_; rintro e w' ⟨rfl, rfl⟩)
  go_end0
  exact ⟨rfl, rfl⟩
def Burnt (bs : Nat) (fuse err : Int) (w : World) : World := if err = 0 ∧ 0 < fuse then w.setCell ⟨bs, 4, none⟩ (.int .i64 (fuse - 1)) else w
set_option maxHeartbeats 1000000 in
theorem do1_good (bs ge gn ga g c k : Nat) (caps : List Value) (fuse : Int) (ns : List ByteArray) (hl : ns.length < 1000) (w : World) (h4 : w.cell? ⟨bs, 4, none⟩ = some (.int .i64 fuse)) (hf : ¬ fuse = 0)
    (hn : w.cell? ⟨gn, 0, none⟩ = some (.slice (some ⟨g, 0, none⟩) ns.length c)) (ha : w.cell? ⟨ga, 0, none⟩ = some (.func (.func k) #[] caps.toArray)) (ht : Txts w g ns) (hgood : ns.any bad = false)
    (hent : ∀ (args : Array Value) (w : World), (callFunc k args).run Tryz.prog w = .ok (.enter k args) w) (hf1 : -1 ≤ fuse) (hf2 : fuse < 9223372036854775808) (hne : bs ≠ ge) (R : Int → World → Prop)
    (hact : Calls Tryz.prog k (.pointer (some ⟨bs, 0, none⟩) :: caps).toArray w fun e w2 => ∃ err : Int, e = .returned (.int .i64 err) ∧ w2.cell? ⟨bs, 4, none⟩ = some (.int .i64 fuse) ∧ w2.frozen? ⟨bs, 4, none⟩ = false ∧ (∃ old : Int, w2.cell? ⟨ge, 0, none⟩ = some (.int .i64 old)) ∧ w2.frozen? ⟨ge, 0, none⟩ = false ∧ R err w2) :
    Calls Tryz.prog 52 #[.pointer (some ⟨bs, 0, none⟩), .pointer (some ⟨ge, 0, none⟩), .pointer (some ⟨gn, 0, none⟩), .pointer (some ⟨ga, 0, none⟩)] w fun e w' => e = .returned (.tuple #[]) ∧ ∃ err w2, R err w2 ∧ w' = Burnt bs fuse err (w2.setCell ⟨ge, 0, none⟩ (.int .i64 err)) := by
  have HC : Hid (Calls Tryz.prog 53 #[.slice (some ⟨g, 0, none⟩) ns.length c, .func (.func 54) #[] #[]] w fun e w' => e = .returned (.bool false) ∧ w' = w) := by rw [← hgood]; exact contains_any g c ns hl w ht
  have HA : Hid (Calls Tryz.prog k (.pointer (some ⟨bs, 0, none⟩) :: caps).toArray w fun e w2 => ∃ err : Int, e = .returned (.int .i64 err) ∧ w2.cell? ⟨bs, 4, none⟩ = some (.int .i64 fuse) ∧ w2.frozen? ⟨bs, 4, none⟩ = false ∧ (∃ old : Int, w2.cell? ⟨ge, 0, none⟩ = some (.int .i64 old)) ∧ w2.frozen? ⟨ge, 0, none⟩ = false ∧ R err w2) := hact
  have H1 : Hid (-1 ≤ fuse) := hf1
  have H2 : Hid (fuse < 9223372036854775808) := hf2
  clear ht hgood hact hf1 hf2
  go_enter Tryz.func52, Tryz.ntmps52
  go_wp2_with (go_at_call 53; refine HC.out.mono ?_; rintro e w' ⟨rfl, rfl⟩)
  refine HA.out.mono ?_
  rintro e w2 ⟨err, rfl, k4, z4, ⟨old, ke⟩, ze, hr⟩
  have HR : Hid (R err w2) := hr
  obtain ⟨w3, hw3⟩ : ∃ w3, w3 = w2.setCell ⟨ge, 0, none⟩ (.int .i64 err) := ⟨_, rfl⟩
  have HB : Hid (Calls Tryz.prog 55 #[.pointer (some ⟨bs, 0, none⟩), .int .i64 err] (w2.setCell ⟨ge, 0, none⟩ (.int .i64 err)) fun e w' => e = .returned (.tuple #[]) ∧ w' = Burnt bs fuse err (w2.setCell ⟨ge, 0, none⟩ (.int .i64 err))) :=
    burn_any bs fuse err _ (by rw [World.cell?_setCell_other _ _ _ _ (fun e => hne (by cases e <;> rfl))]; exact k4) (by simp [z4]) H1.out H2.out
  clear hr HA HC hw3
  go_wp2_with (go_at_call 55; refine HB.out.mono ?_; rintro e w' ⟨rfl, rfl⟩)
  go_end0
  exact ⟨rfl, err, w2, HR.out, rfl⟩
end Go.Proofs.YtmpnceicodfifaaGreat
