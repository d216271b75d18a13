/-
  (*Disk).with: what it hands to the closure, and what it leaves.
-/
import Derived.Test.YtmpnceicodfifaaGreatSto
import Derived.Test.YtmpnceicodfifaaGreatLocks
import Derived.Defers
namespace Go.Proofs.YtmpnceicodfifaaGreat
open Go.RowKit Go.Maps Go.MuLone
theorem with_nil (f : Value) (w : World) : Calls Tryz.prog 18 #[.pointer none, f] w fun e w' => e = .returned (.tuple #[]) ∧ w' = w := by
  go_enter_defers Tryz.func18, Tryz.ntmps18
  go_wp2
  exact ⟨_, results_none rfl _ _ _, rfl, rfl⟩
set_option maxHeartbeats 1000000 in
set_option maxRecDepth 8000 in
theorem with_any (bd bs : Nat) (w : World) (k : Nat) (caps : List Value) (Q : World → Prop) (hent : ∀ (args : Array Value) (w : World), (callFunc k args).run Tryz.prog w = .ok (.enter k args) w) (hd : w.cell? ⟨bd, 0, none⟩ = some (.pointer (some ⟨bs, 0, none⟩))) (hne : bd ≠ bs) (hl : w.cell? ⟨bs, 0, none⟩ = some (.int .i32 0)) (hz : w.frozen? ⟨bs, 0, none⟩ = false)
    (hact : Calls Tryz.prog k (.pointer (some ⟨bs, 0, none⟩) :: caps).toArray (w.setCell ⟨bs, 0, none⟩ (.int .i32 1)) fun e w' => e = .returned (.tuple #[]) ∧ w'.cell? ⟨bs, 0, none⟩ = some (.int .i32 1) ∧ w'.frozen? ⟨bs, 0, none⟩ = false ∧ Q w') :
    Calls Tryz.prog 18 #[.pointer (some ⟨bd, 0, none⟩), .func (.func k) #[] caps.toArray] w fun e w' => e = .returned (.tuple #[]) ∧ ∃ w1, Q w1 ∧ w' = w1.setCell ⟨bs, 0, none⟩ (.int .i32 0) := by
  obtain ⟨w1, hw1⟩ : ∃ w1, w1 = w.setCell ⟨bs, 0, none⟩ (.int .i32 1) := ⟨_, rfl⟩
  have hlk : Hid (Calls Tryz.prog 50 #[.pointer (some ⟨bs, 0, none⟩)] w fun e w' => e = .returned (.tuple #[]) ∧ w' = w1) := by rw [hw1]; exact lock_free Tryz.muLib ⟨bs, 0, none⟩ _ hl hz
  rw [← hw1] at hact
  have hd1 : (w.setCell ⟨bs, 0, none⟩ (.int .i32 1)).cell? ⟨bd, 0, none⟩ = some (.pointer (some ⟨bs, 0, none⟩)) := by
    rw [World.cell?_setCell_other _ ⟨bs, 0, none⟩ ⟨bd, 0, none⟩ _ (fun e => hne (by cases e; rfl))]; exact hd
  rw [← hw1] at hd1
  clear hw1
  have HA : Hid (Calls Tryz.prog k (.pointer (some ⟨bs, 0, none⟩) :: caps).toArray w1 fun e w' => e = .returned (.tuple #[]) ∧ w'.cell? ⟨bs, 0, none⟩ = some (.int .i32 1) ∧ w'.frozen? ⟨bs, 0, none⟩ = false ∧ Q w') := hact
  clear hact
  go_enter_defers Tryz.func18, Tryz.ntmps18
  go_wp2_with (go_at_call 50; refine hlk.out.mono ?_; rintro e w' ⟨rfl, rfl⟩)
  refine HA.out.mono ?_
  rintro e w2 ⟨rfl, hc2, hz2, hq⟩
  go_wp2
  refine leaves_cons (f := 51) (args := #[.pointer (some ⟨bs, 0, none⟩)]) (by simp) (by simp [go_sem]) ?_
  refine (unlock_deferred Tryz.muLib ⟨bs, 0, none⟩ .returning _ hc2 hz2).mono ?_
  rintro e u' w'' ⟨rfl, rfl, rfl⟩
  exact ⟨_, results_none rfl _ _ _, rfl, w2, hq, rfl⟩
/-- A function of the program that has a body is entered. -/
theorem enters {f : FuncId} {fn : Func} {c : Code} (hf : Tryz.prog.funcs[f]? = some fn) (hname : (fn.name == "runtime.NumGoroutine") = false) (hb : fn.body = some c) : ∀ (args : Array Value) (w : World), (callFunc f args).run Tryz.prog w = .ok (.enter f args) w := by
  intro args w
  have h1 : fn.name ≠ "runtime.NumGoroutine" := by simpa using hname
  simp [callFunc, hf, h1, hb]
theorem enters46 : ∀ (args : Array Value) (w : World), (callFunc 52 args).run Tryz.prog w = .ok (.enter 52 args) w := enters Tryz.func52 (by kernel_rfl) rfl
end Go.Proofs.YtmpnceicodfifaaGreat
