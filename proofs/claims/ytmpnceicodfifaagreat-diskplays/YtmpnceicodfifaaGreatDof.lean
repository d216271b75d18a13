/-
  The law package's does: Truncate, Rename, Remove, Fuse, Crash.
-/
import Derived.Test.YtmpnceicodfifaaGreatDoe
namespace Go.Proofs.YtmpnceicodfifaaGreat
open Go.RowKit Go.Maps
set_option linter.unusedVariables false
theorem entersz31 : ∀ (args : Array Value) (w : World), (callFunc 31 args).run Tryz.prog w = .ok (.enter 31 args) w := enters Tryz.func31 (by kernel_rfl) rfl
theorem entersz32 : ∀ (args : Array Value) (w : World), (callFunc 32 args).run Tryz.prog w = .ok (.enter 32 args) w := enters Tryz.func32 (by kernel_rfl) rfl
theorem entersz33 : ∀ (args : Array Value) (w : World), (callFunc 33 args).run Tryz.prog w = .ok (.enter 33 args) w := enters Tryz.func33 (by kernel_rfl) rfl
theorem entersz34 : ∀ (args : Array Value) (w : World), (callFunc 34 args).run Tryz.prog w = .ok (.enter 34 args) w := enters Tryz.func34 (by kernel_rfl) rfl
theorem entersz35 : ∀ (args : Array Value) (w : World), (callFunc 35 args).run Tryz.prog w = .ok (.enter 35 args) w := enters Tryz.func35 (by kernel_rfl) rfl
theorem entersz36 : ∀ (args : Array Value) (w : World), (callFunc 36 args).run Tryz.prog w = .ok (.enter 36 args) w := enters Tryz.func36 (by kernel_rfl) rfl
set_option maxRecDepth 8000 in
set_option maxHeartbeats 4000000 in
theorem does_trunc {w0 : World} {B : Nat} {X : Nat → Prop} {bd br : Nat} {a : Ab} {W : World} (h : Two w0 B X bd br a a W) (n : Int) (A T : ByteArray) (a0 : Option Addr) (m cap : Nat) :
    Calls Tryz.prog 12 #[.pointer (some ⟨bd, 0, none⟩), .pointer (some ⟨br, 0, none⟩), .agg #[.int .i64 3, .int .i64 n, .string A, .string T, .slice a0 m cap]] W fun e w' => e = .returned (.bool true) ∧ ∃ a', Two w0 B X bd br a' a' w' := by
  obtain ⟨q, hq⟩ : ∃ q, q = aDo [A] (aTrunc A.data.toList n) a := ⟨_, rfl⟩
  have HT : Hid (Two w0 B X bd br a a W) := h
  obtain ⟨P, hP⟩ : ∃ P : Ab → Ab → World → Prop, P = fun a1 a2 W' => Two (W.alloc (.cells #[.int .i64 3, .int .i64 n, .string A, .string T, .slice a0 m cap] 34)) B (fun i => X i ∨ i = W.heap.size) bd br a1 a2 W' := ⟨_, rfl⟩
  have P0 : Hid (P a a (W.alloc (.cells #[.int .i64 3, .int .i64 n, .string A, .string T, .slice a0 m cap] 34))) := by rw [hP]; exact h.enter _
  have PE : Hid (∀ W', P q.2 q.2 W' → ∃ a', Two w0 B X bd br a' a' W') := fun W' h' => by rw [hP] at h'; exact ⟨_, HT.out.leave h'⟩
  have PB : Hid (∀ a1 a2 W', P a1 a2 W' → Blk W' W.heap.size 34 (stp 3 n A T a0 m cap)) := fun a1 a2 W' h' => by rw [hP] at h'; exact Two.box h'
  have PD : Hid (∀ a1 a2 W' W'', P a1 a2 W' → Below W'.heap.size W' W'' → P a1 a2 W'') := fun a1 a2 W' W'' h' hb => by rw [hP] at h' ⊢; exact h'.below hb
  have hl := h.lim
  have CA : Hid (∀ a2 W', P a a2 W' → Calls Tryz.prog 31 #[.pointer (some ⟨bd, 0, none⟩), .string A, .int .i64 n] W' fun e w' => e = .returned (.int .i64 q.1) ∧ P q.2 a2 w') := fun a2 W' h' => by
    rw [hP] at h' ⊢; rw [hq]; exact h'.callD (fun S hd _ => truncate_disk hd A n)
  have CB : Hid (∀ a1 W', P a1 a W' → Calls Tryz.prog 32 #[.pointer (some ⟨br, 0, none⟩), .string A, .int .i64 n] W' fun e w' => e = .returned (.int .i64 q.1) ∧ P a1 q.2 w') := fun a1 W' h' => by
    rw [hP] at h' ⊢; rw [hq]; exact h'.callR (fun R hr _ => rtrunc_any hr hl A n)
  clear h hl hP hq
  go_enter Tryz.func12, Tryz.ntmps12
  go_wp2
  generalize hW1 : W.alloc (.cells #[.int .i64 3, .int .i64 n, .string A, .string T, .slice a0 m cap] 34) = W1 at *
  generalize hbx : W.heap.size = bx at *
  clear hW1 hbx
  obtain ⟨C, hCd⟩ : ∃ C : World → Prop, C = fun W => ∃ a1 a2, P a1 a2 W := ⟨_, rfl⟩
  have kb : Hid (∀ a1 a2 W', P a1 a2 W' → C W') := fun a1 a2 W' h' => by rw [hCd]; exact ⟨_, _, h'⟩
  have ks : Hid (∀ W', C W' → W'.cell? ⟨bx, 2, none⟩ = some (.string A)) := fun W' h' => by
    rw [hCd] at h'; obtain ⟨a1, a2, h'⟩ := h'; exact (PB.out _ _ _ h').cell 2
  have kn : Hid (∀ W', C W' → W'.cell? ⟨bx, 1, none⟩ = some (.int .i64 n)) := fun W' h' => by
    rw [hCd] at h'; obtain ⟨a1, a2, h'⟩ := h'; exact (PB.out _ _ _ h').cell 1
  have p0 : Hid (P a a { W1 with drawn := W1.drawn + 1 }) := PD.out _ _ _ _ P0.out ⟨rfl, rfl, rfl, Nat.le_refl _, fun _ _ => rfl⟩
  have z0 : Hid (C { W1 with drawn := W1.drawn + 1 }) := kb.out _ _ _ p0.out
  have hCp : ∀ p : Prop, (∀ W, C W → p) ↔ p := fun p => ⟨fun h => h _ z0.out, fun h _ _ => h⟩
  clear hCd P0 PB PD HT
  refine region_calm C 13 (by kernel_rfl) ?_
  generalize ({ W1 with drawn := W1.drawn + 1 } : World) = W0 at *
  refine seg 4 [0, 1, 2, 3, 4, 6, 7, 8, 9, 10] rfl (by kernel_rfl) whole_blind z0.out (by kernel_rfl) ?_
  change wpQuiet _ _ _ _ (_ :: _ :: _ :: _ :: _ :: _ :: _ :: _ :: _ :: _ ::  []) _
  repeat (first
    | go_big_quiet_skip
    | (go_big_quiet_want
       first
       | (refine q_loads (.tmp 85) rfl bx 2 rfl _ ks.out ?_
          simp only [Act.put, List.setIfInBounds_toArray, List.set_cons_zero, List.set_cons_succ]
          go_big_quiet_on)
       | (refine q_loadi (.tmp 87) rfl bx 1 rfl _ kn.out ?_
          simp only [Act.put, List.setIfInBounds_toArray, List.set_cons_zero, List.set_cons_succ]
          go_big_quiet_on)
       | (refine q_loads (.tmp 91) rfl bx 2 rfl _ ks.out ?_
          simp only [Act.put, List.setIfInBounds_toArray, List.set_cons_zero, List.set_cons_succ]
          go_big_quiet_on)
       | (refine q_loadi (.tmp 93) rfl bx 1 rfl _ kn.out ?_
          simp only [Act.put, List.setIfInBounds_toArray, List.set_cons_zero, List.set_cons_succ]
          go_big_quiet_on)
       | (go_big_quiet_op
          go_big_quiet_on)))
  refine wpQuiet_nil ?_
  refine lone_do (i := 5) 3 rfl (by kernel_rfl) rfl (by rfl) ?_
  intro K hK
  refine oper_call 31 #[.tmp 84, .tmp 86, .tmp 88] #[25, 9, 3] rfl #[.pointer (some ⟨bd, 0, none⟩), .string A, .int .i64 n] (by rw [List.map_toArray]; rfl) entersz31 _ _ (CA.out _ _ p0.out) ?_
  intro W5 h5
  refine hK _ _ (kb.out _ _ _ h5) ?_
  clear hK K
  simp only [Act.put, List.setIfInBounds_toArray, List.set_cons_zero, List.set_cons_succ]
  refine lone_do (i := 11) 2 rfl (by kernel_rfl) rfl (by rfl) ?_
  intro K hK
  refine oper_call 32 #[.tmp 90, .tmp 92, .tmp 94] #[29, 9, 3] rfl #[.pointer (some ⟨br, 0, none⟩), .string A, .int .i64 n] (by rw [List.map_toArray]; rfl) entersz32 _ _ (CB.out _ _ h5) ?_
  intro W6 h6
  refine hK _ _ (kb.out _ _ _ h6) ?_
  clear hK K
  simp only [Act.put, List.setIfInBounds_toArray, List.set_cons_zero, List.set_cons_succ]
  refine lone_calm (i := 12) 1 rfl (by kernel_rfl) rfl rfl (kb.out _ _ _ h6) ?_
  repeat (first
    | go_big_quiet_skip
    | (go_big_quiet_want
       go_big_quiet_op
       go_big_quiet_on))
  refine wpQuiet_nil ?_
  refine lone_calm (i := 13) 0 rfl (by kernel_rfl) rfl rfl (kb.out _ _ _ h6) ?_
  repeat (first
    | go_big_quiet_skip
    | (go_big_quiet_want
       go_big_quiet_op
       go_big_quiet_on))
  refine wpQuiet_nil ?_
  refine anyC_done (by kernel_rfl) ⟨rfl, ?_⟩
  have HE : Hid (∃ a', Two w0 B X bd br a' a' W6) := PE.out _ h6
  clear h5 h6 kb z0 hCp CA CB PE p0 ks kn
  go_wp2
  go_ret
  exact ⟨rfl, HE.out⟩
set_option maxRecDepth 8000 in
set_option maxHeartbeats 4000000 in
theorem does_rename {w0 : World} {B : Nat} {X : Nat → Prop} {bd br : Nat} {a : Ab} {W : World} (h : Two w0 B X bd br a a W) (n : Int) (A T : ByteArray) (a0 : Option Addr) (m cap : Nat) :
    Calls Tryz.prog 12 #[.pointer (some ⟨bd, 0, none⟩), .pointer (some ⟨br, 0, none⟩), .agg #[.int .i64 4, .int .i64 n, .string A, .string T, .slice a0 m cap]] W fun e w' => e = .returned (.bool true) ∧ ∃ a', Two w0 B X bd br a' a' w' := by
  obtain ⟨q, hq⟩ : ∃ q, q = aDo [A, T] (aRename A.data.toList T.data.toList) a := ⟨_, rfl⟩
  have HT : Hid (Two w0 B X bd br a a W) := h
  obtain ⟨P, hP⟩ : ∃ P : Ab → Ab → World → Prop, P = fun a1 a2 W' => Two (W.alloc (.cells #[.int .i64 4, .int .i64 n, .string A, .string T, .slice a0 m cap] 34)) B (fun i => X i ∨ i = W.heap.size) bd br a1 a2 W' := ⟨_, rfl⟩
  have P0 : Hid (P a a (W.alloc (.cells #[.int .i64 4, .int .i64 n, .string A, .string T, .slice a0 m cap] 34))) := by rw [hP]; exact h.enter _
  have PE : Hid (∀ W', P q.2 q.2 W' → ∃ a', Two w0 B X bd br a' a' W') := fun W' h' => by rw [hP] at h'; exact ⟨_, HT.out.leave h'⟩
  have PB : Hid (∀ a1 a2 W', P a1 a2 W' → Blk W' W.heap.size 34 (stp 4 n A T a0 m cap)) := fun a1 a2 W' h' => by rw [hP] at h'; exact Two.box h'
  have PD : Hid (∀ a1 a2 W' W'', P a1 a2 W' → Below W'.heap.size W' W'' → P a1 a2 W'') := fun a1 a2 W' W'' h' hb => by rw [hP] at h' ⊢; exact h'.below hb
  have hl := h.lim
  have CA : Hid (∀ a2 W', P a a2 W' → Calls Tryz.prog 33 #[.pointer (some ⟨bd, 0, none⟩), .string A, .string T] W' fun e w' => e = .returned (.int .i64 q.1) ∧ P q.2 a2 w') := fun a2 W' h' => by
    rw [hP] at h' ⊢; rw [hq]; exact h'.callD (fun S hd _ => rename_disk hd A T)
  have CB : Hid (∀ a1 W', P a1 a W' → Calls Tryz.prog 34 #[.pointer (some ⟨br, 0, none⟩), .string A, .string T] W' fun e w' => e = .returned (.int .i64 q.1) ∧ P a1 q.2 w') := fun a1 W' h' => by
    rw [hP] at h' ⊢; rw [hq]; exact h'.callR (fun R hr _ => rrename_any hr hl A T)
  clear h hl hP hq
  go_enter Tryz.func12, Tryz.ntmps12
  go_wp2
  generalize hW1 : W.alloc (.cells #[.int .i64 4, .int .i64 n, .string A, .string T, .slice a0 m cap] 34) = W1 at *
  generalize hbx : W.heap.size = bx at *
  clear hW1 hbx
  obtain ⟨C, hCd⟩ : ∃ C : World → Prop, C = fun W => ∃ a1 a2, P a1 a2 W := ⟨_, rfl⟩
  have kb : Hid (∀ a1 a2 W', P a1 a2 W' → C W') := fun a1 a2 W' h' => by rw [hCd]; exact ⟨_, _, h'⟩
  have ks : Hid (∀ W', C W' → W'.cell? ⟨bx, 2, none⟩ = some (.string A)) := fun W' h' => by
    rw [hCd] at h'; obtain ⟨a1, a2, h'⟩ := h'; exact (PB.out _ _ _ h').cell 2
  have kt : Hid (∀ W', C W' → W'.cell? ⟨bx, 3, none⟩ = some (.string T)) := fun W' h' => by
    rw [hCd] at h'; obtain ⟨a1, a2, h'⟩ := h'; exact (PB.out _ _ _ h').cell 3
  have p0 : Hid (P a a { W1 with drawn := W1.drawn + 1 }) := PD.out _ _ _ _ P0.out ⟨rfl, rfl, rfl, Nat.le_refl _, fun _ _ => rfl⟩
  have z0 : Hid (C { W1 with drawn := W1.drawn + 1 }) := kb.out _ _ _ p0.out
  have hCp : ∀ p : Prop, (∀ W, C W → p) ↔ p := fun p => ⟨fun h => h _ z0.out, fun h _ _ => h⟩
  clear hCd P0 PB PD HT
  refine region_calm C 13 (by kernel_rfl) ?_
  generalize ({ W1 with drawn := W1.drawn + 1 } : World) = W0 at *
  refine seg 4 [0, 1, 2, 3, 4, 6, 7, 8, 9, 10] rfl (by kernel_rfl) whole_blind z0.out (by kernel_rfl) ?_
  change wpQuiet _ _ _ _ (_ :: _ :: _ :: _ :: _ :: _ :: _ :: _ :: _ :: _ ::  []) _
  repeat (first
    | go_big_quiet_skip
    | (go_big_quiet_want
       first
       | (refine q_loads (.tmp 100) rfl bx 2 rfl _ ks.out ?_
          simp only [Act.put, List.setIfInBounds_toArray, List.set_cons_zero, List.set_cons_succ]
          go_big_quiet_on)
       | (refine q_loads (.tmp 102) rfl bx 3 rfl _ kt.out ?_
          simp only [Act.put, List.setIfInBounds_toArray, List.set_cons_zero, List.set_cons_succ]
          go_big_quiet_on)
       | (refine q_loads (.tmp 106) rfl bx 2 rfl _ ks.out ?_
          simp only [Act.put, List.setIfInBounds_toArray, List.set_cons_zero, List.set_cons_succ]
          go_big_quiet_on)
       | (refine q_loads (.tmp 108) rfl bx 3 rfl _ kt.out ?_
          simp only [Act.put, List.setIfInBounds_toArray, List.set_cons_zero, List.set_cons_succ]
          go_big_quiet_on)
       | (go_big_quiet_op
          go_big_quiet_on)))
  refine wpQuiet_nil ?_
  refine lone_do (i := 5) 3 rfl (by kernel_rfl) rfl (by rfl) ?_
  intro K hK
  refine oper_call 33 #[.tmp 99, .tmp 101, .tmp 103] #[25, 9, 9] rfl #[.pointer (some ⟨bd, 0, none⟩), .string A, .string T] (by rw [List.map_toArray]; rfl) entersz33 _ _ (CA.out _ _ p0.out) ?_
  intro W5 h5
  refine hK _ _ (kb.out _ _ _ h5) ?_
  clear hK K
  simp only [Act.put, List.setIfInBounds_toArray, List.set_cons_zero, List.set_cons_succ]
  refine lone_do (i := 11) 2 rfl (by kernel_rfl) rfl (by rfl) ?_
  intro K hK
  refine oper_call 34 #[.tmp 105, .tmp 107, .tmp 109] #[29, 9, 9] rfl #[.pointer (some ⟨br, 0, none⟩), .string A, .string T] (by rw [List.map_toArray]; rfl) entersz34 _ _ (CB.out _ _ h5) ?_
  intro W6 h6
  refine hK _ _ (kb.out _ _ _ h6) ?_
  clear hK K
  simp only [Act.put, List.setIfInBounds_toArray, List.set_cons_zero, List.set_cons_succ]
  refine lone_calm (i := 12) 1 rfl (by kernel_rfl) rfl rfl (kb.out _ _ _ h6) ?_
  repeat (first
    | go_big_quiet_skip
    | (go_big_quiet_want
       go_big_quiet_op
       go_big_quiet_on))
  refine wpQuiet_nil ?_
  refine lone_calm (i := 13) 0 rfl (by kernel_rfl) rfl rfl (kb.out _ _ _ h6) ?_
  repeat (first
    | go_big_quiet_skip
    | (go_big_quiet_want
       go_big_quiet_op
       go_big_quiet_on))
  refine wpQuiet_nil ?_
  refine anyC_done (by kernel_rfl) ⟨rfl, ?_⟩
  have HE : Hid (∃ a', Two w0 B X bd br a' a' W6) := PE.out _ h6
  clear h5 h6 kb z0 hCp CA CB PE p0 ks kt
  go_wp2
  go_ret
  exact ⟨rfl, HE.out⟩
set_option maxRecDepth 8000 in
set_option maxHeartbeats 4000000 in
theorem does_remove {w0 : World} {B : Nat} {X : Nat → Prop} {bd br : Nat} {a : Ab} {W : World} (h : Two w0 B X bd br a a W) (n : Int) (A T : ByteArray) (a0 : Option Addr) (m cap : Nat) :
    Calls Tryz.prog 12 #[.pointer (some ⟨bd, 0, none⟩), .pointer (some ⟨br, 0, none⟩), .agg #[.int .i64 5, .int .i64 n, .string A, .string T, .slice a0 m cap]] W fun e w' => e = .returned (.bool true) ∧ ∃ a', Two w0 B X bd br a' a' w' := by
  obtain ⟨q, hq⟩ : ∃ q, q = aDo [A] (aRemove A.data.toList) a := ⟨_, rfl⟩
  have HT : Hid (Two w0 B X bd br a a W) := h
  obtain ⟨P, hP⟩ : ∃ P : Ab → Ab → World → Prop, P = fun a1 a2 W' => Two (W.alloc (.cells #[.int .i64 5, .int .i64 n, .string A, .string T, .slice a0 m cap] 34)) B (fun i => X i ∨ i = W.heap.size) bd br a1 a2 W' := ⟨_, rfl⟩
  have P0 : Hid (P a a (W.alloc (.cells #[.int .i64 5, .int .i64 n, .string A, .string T, .slice a0 m cap] 34))) := by rw [hP]; exact h.enter _
  have PE : Hid (∀ W', P q.2 q.2 W' → ∃ a', Two w0 B X bd br a' a' W') := fun W' h' => by rw [hP] at h'; exact ⟨_, HT.out.leave h'⟩
  have PB : Hid (∀ a1 a2 W', P a1 a2 W' → Blk W' W.heap.size 34 (stp 5 n A T a0 m cap)) := fun a1 a2 W' h' => by rw [hP] at h'; exact Two.box h'
  have PD : Hid (∀ a1 a2 W' W'', P a1 a2 W' → Below W'.heap.size W' W'' → P a1 a2 W'') := fun a1 a2 W' W'' h' hb => by rw [hP] at h' ⊢; exact h'.below hb
  have hl := h.lim
  have CA : Hid (∀ a2 W', P a a2 W' → Calls Tryz.prog 35 #[.pointer (some ⟨bd, 0, none⟩), .string A] W' fun e w' => e = .returned (.int .i64 q.1) ∧ P q.2 a2 w') := fun a2 W' h' => by
    rw [hP] at h' ⊢; rw [hq]; exact h'.callD (fun S hd _ => remove_disk hd A)
  have CB : Hid (∀ a1 W', P a1 a W' → Calls Tryz.prog 36 #[.pointer (some ⟨br, 0, none⟩), .string A] W' fun e w' => e = .returned (.int .i64 q.1) ∧ P a1 q.2 w') := fun a1 W' h' => by
    rw [hP] at h' ⊢; rw [hq]; exact h'.callR (fun R hr _ => rremove_any hr hl A)
  clear h hl hP hq
  go_enter Tryz.func12, Tryz.ntmps12
  go_wp2
  generalize hW1 : W.alloc (.cells #[.int .i64 5, .int .i64 n, .string A, .string T, .slice a0 m cap] 34) = W1 at *
  generalize hbx : W.heap.size = bx at *
  clear hW1 hbx
  obtain ⟨C, hCd⟩ : ∃ C : World → Prop, C = fun W => ∃ a1 a2, P a1 a2 W := ⟨_, rfl⟩
  have kb : Hid (∀ a1 a2 W', P a1 a2 W' → C W') := fun a1 a2 W' h' => by rw [hCd]; exact ⟨_, _, h'⟩
  have ks : Hid (∀ W', C W' → W'.cell? ⟨bx, 2, none⟩ = some (.string A)) := fun W' h' => by
    rw [hCd] at h'; obtain ⟨a1, a2, h'⟩ := h'; exact (PB.out _ _ _ h').cell 2
  have p0 : Hid (P a a { W1 with drawn := W1.drawn + 1 }) := PD.out _ _ _ _ P0.out ⟨rfl, rfl, rfl, Nat.le_refl _, fun _ _ => rfl⟩
  have z0 : Hid (C { W1 with drawn := W1.drawn + 1 }) := kb.out _ _ _ p0.out
  have hCp : ∀ p : Prop, (∀ W, C W → p) ↔ p := fun p => ⟨fun h => h _ z0.out, fun h _ _ => h⟩
  clear hCd P0 PB PD HT
  refine region_calm C 9 (by kernel_rfl) ?_
  generalize ({ W1 with drawn := W1.drawn + 1 } : World) = W0 at *
  refine seg 4 [0, 1, 2, 4, 5, 6] rfl (by kernel_rfl) whole_blind z0.out (by kernel_rfl) ?_
  change wpQuiet _ _ _ _ (_ :: _ :: _ :: _ :: _ :: _ ::  []) _
  repeat (first
    | go_big_quiet_skip
    | (go_big_quiet_want
       first
       | (refine q_loads (.tmp 115) rfl bx 2 rfl _ ks.out ?_
          simp only [Act.put, List.setIfInBounds_toArray, List.set_cons_zero, List.set_cons_succ]
          go_big_quiet_on)
       | (refine q_loads (.tmp 119) rfl bx 2 rfl _ ks.out ?_
          simp only [Act.put, List.setIfInBounds_toArray, List.set_cons_zero, List.set_cons_succ]
          go_big_quiet_on)
       | (go_big_quiet_op
          go_big_quiet_on)))
  refine wpQuiet_nil ?_
  refine lone_do (i := 3) 3 rfl (by kernel_rfl) rfl (by rfl) ?_
  intro K hK
  refine oper_call 35 #[.tmp 114, .tmp 116] #[25, 9] rfl #[.pointer (some ⟨bd, 0, none⟩), .string A] (by rw [List.map_toArray]; rfl) entersz35 _ _ (CA.out _ _ p0.out) ?_
  intro W5 h5
  refine hK _ _ (kb.out _ _ _ h5) ?_
  clear hK K
  simp only [Act.put, List.setIfInBounds_toArray, List.set_cons_zero, List.set_cons_succ]
  refine lone_do (i := 7) 2 rfl (by kernel_rfl) rfl (by rfl) ?_
  intro K hK
  refine oper_call 36 #[.tmp 118, .tmp 120] #[29, 9] rfl #[.pointer (some ⟨br, 0, none⟩), .string A] (by rw [List.map_toArray]; rfl) entersz36 _ _ (CB.out _ _ h5) ?_
  intro W6 h6
  refine hK _ _ (kb.out _ _ _ h6) ?_
  clear hK K
  simp only [Act.put, List.setIfInBounds_toArray, List.set_cons_zero, List.set_cons_succ]
  refine lone_calm (i := 8) 1 rfl (by kernel_rfl) rfl rfl (kb.out _ _ _ h6) ?_
  repeat (first
    | go_big_quiet_skip
    | (go_big_quiet_want
       go_big_quiet_op
       go_big_quiet_on))
  refine wpQuiet_nil ?_
  refine lone_calm (i := 9) 0 rfl (by kernel_rfl) rfl rfl (kb.out _ _ _ h6) ?_
  repeat (first
    | go_big_quiet_skip
    | (go_big_quiet_want
       go_big_quiet_op
       go_big_quiet_on))
  refine wpQuiet_nil ?_
  refine anyC_done (by kernel_rfl) ⟨rfl, ?_⟩
  have HE : Hid (∃ a', Two w0 B X bd br a' a' W6) := PE.out _ h6
  clear h5 h6 kb z0 hCp CA CB PE p0 ks
  go_wp2
  go_ret
  exact ⟨rfl, HE.out⟩
set_option maxRecDepth 8000 in
set_option maxHeartbeats 4000000 in
theorem does_fuse {w0 : World} {B : Nat} {X : Nat → Prop} {bd br : Nat} {a : Ab} {W : World} (h : Two w0 B X bd br a a W) (n : Int) (hn : n < 9223372036854775808) (A T : ByteArray) (a0 : Option Addr) (m cap : Nat) :
    Calls Tryz.prog 12 #[.pointer (some ⟨bd, 0, none⟩), .pointer (some ⟨br, 0, none⟩), .agg #[.int .i64 6, .int .i64 n, .string A, .string T, .slice a0 m cap]] W fun e w' => e = .returned (.bool true) ∧ ∃ a', Two w0 B X bd br a' a' w' := by
  have HT : Hid (Two w0 B X bd br a a W) := h
  obtain ⟨q, hq⟩ : ∃ q : Ab, q = ⟨a.room, max n (-1), a.fs⟩ := ⟨_, rfl⟩
  obtain ⟨P, hP⟩ : ∃ P : Ab → Ab → World → Prop, P = fun a1 a2 W' => Two (W.alloc (.cells #[.int .i64 6, .int .i64 n, .string A, .string T, .slice a0 m cap] 34)) B (fun i => X i ∨ i = W.heap.size) bd br a1 a2 W' := ⟨_, rfl⟩
  have P0 : Hid (P a a (W.alloc (.cells #[.int .i64 6, .int .i64 n, .string A, .string T, .slice a0 m cap] 34))) := by rw [hP]; exact h.enter _
  have PE : Hid (∀ W', P q q W' → ∃ a', Two w0 B X bd br a' a' W') := fun W' h' => by rw [hP] at h'; exact ⟨_, HT.out.leave h'⟩
  have PB : Hid (∀ a1 a2 W', P a1 a2 W' → Blk W' W.heap.size 34 (stp 6 n A T a0 m cap)) := fun a1 a2 W' h' => by rw [hP] at h'; exact Two.box h'
  have hl := h.lim
  have CA : Hid (∀ W', P a a W' → Calls Tryz.prog 37 #[.pointer (some ⟨bd, 0, none⟩), .int .i64 n] W' fun e w' => e = .returned (.tuple #[]) ∧ Hid (P q a w')) := fun W' h' => by
    rw [hP] at h' ⊢; rw [hq]
    obtain ⟨S, hd, hS, hnx⟩ := h'.disk
    refine (fuse_disk hd n hn).mono ?_
    rintro e w' ⟨rfl, S', d', g'⟩
    exact ⟨rfl, hnx _ _ _ d' g'⟩
  have CB : Hid (∀ W', P q a W' → Calls Tryz.prog 38 #[.pointer (some ⟨br, 0, none⟩), .int .i64 n] W' fun e w' => e = .returned (.tuple #[]) ∧ Hid (P q q w')) := fun W' h' => by
    rw [hP] at h' ⊢; rw [hq] at h' ⊢
    obtain ⟨R, hr, hR, hnx⟩ := h'.ref
    refine (rfuse_any hr n).mono ?_
    rintro e w' ⟨rfl, r', g'⟩
    exact ⟨rfl, hnx _ _ _ r' g'⟩
  clear h hl hP hq
  go_enter Tryz.func12, Tryz.ntmps12
  go_wp2_with (first
    | (go_at_call 37; refine (CA.out _ P0.out).mono ?_; rintro e w5 ⟨rfl, h5⟩; have n5 := (PB.out _ _ _ h5.out).cell 1; simp only [stp, List.getElem?_cons_succ, List.getElem?_cons_zero] at n5)
    | (go_at_call 38; refine (CB.out _ h5.out).mono ?_; rintro e w6 ⟨rfl, h6⟩))
  go_ret
  exact ⟨rfl, PE.out _ h6.out⟩
set_option maxRecDepth 8000 in
set_option maxHeartbeats 4000000 in
theorem does_crash {w0 : World} {B : Nat} {X : Nat → Prop} {bd br : Nat} {a : Ab} {W : World} (h : Two w0 B X bd br a a W) (n : Int) (hn : n < 9223372036854775808) (A T : ByteArray) (a0 : Option Addr) (m cap : Nat) :
    Calls Tryz.prog 12 #[.pointer (some ⟨bd, 0, none⟩), .pointer (some ⟨br, 0, none⟩), .agg #[.int .i64 7, .int .i64 n, .string A, .string T, .slice a0 m cap]] W fun e w' => e = .returned (.bool true) ∧ ∃ a', Two w0 B X bd br a' a' w' := by
  have HT : Hid (Two w0 B X bd br a a W) := h
  obtain ⟨q, hq⟩ : ∃ q : Ab, q = ⟨a.room, -1, aCrash n.toNat a.fs⟩ := ⟨_, rfl⟩
  obtain ⟨P, hP⟩ : ∃ P : Ab → Ab → World → Prop, P = fun a1 a2 W' => Two (W.alloc (.cells #[.int .i64 7, .int .i64 n, .string A, .string T, .slice a0 m cap] 34)) B (fun i => X i ∨ i = W.heap.size) bd br a1 a2 W' := ⟨_, rfl⟩
  have P0 : Hid (P a a (W.alloc (.cells #[.int .i64 7, .int .i64 n, .string A, .string T, .slice a0 m cap] 34))) := by rw [hP]; exact h.enter _
  have PE : Hid (∀ W', P q q W' → ∃ a', Two w0 B X bd br a' a' W') := fun W' h' => by rw [hP] at h'; exact ⟨_, HT.out.leave h'⟩
  have PB : Hid (∀ a1 a2 W', P a1 a2 W' → Blk W' W.heap.size 34 (stp 7 n A T a0 m cap)) := fun a1 a2 W' h' => by rw [hP] at h'; exact Two.box h'
  have hl := h.lim
  have CA : Hid (∀ W', P a a W' → Calls Tryz.prog 11 #[.pointer (some ⟨bd, 0, none⟩), .int .i64 n] W' fun e w' => e = .returned (.tuple #[]) ∧ Hid (P q a w')) := fun W' h' => by
    rw [hP] at h' ⊢; rw [hq]
    obtain ⟨S, hd, hS, hnx⟩ := h'.disk
    refine (crash_disk hd n).mono ?_
    rintro e w' ⟨rfl, S', d', g'⟩
    exact ⟨rfl, hnx _ _ _ d' g'⟩
  have CB : Hid (∀ W', P q a W' → Calls Tryz.prog 39 #[.pointer (some ⟨br, 0, none⟩), .int .i64 n] W' fun e w' => e = .returned (.tuple #[]) ∧ Hid (P q q w')) := fun W' h' => by
    rw [hP] at h' ⊢; rw [hq] at h' ⊢
    obtain ⟨R, hr, hR, hnx⟩ := h'.ref
    refine (rcrash_any hr hl n).mono ?_
    rintro e w' ⟨rfl, R', r', g'⟩
    exact ⟨rfl, hnx _ _ _ r' g'⟩
  clear h hl hP hq
  go_enter Tryz.func12, Tryz.ntmps12
  go_wp2_with (first
    | (go_at_call 11; refine (CA.out _ P0.out).mono ?_; rintro e w5 ⟨rfl, h5⟩; have n5 := (PB.out _ _ _ h5.out).cell 1; simp only [stp, List.getElem?_cons_succ, List.getElem?_cons_zero] at n5)
    | (go_at_call 39; refine (CB.out _ h5.out).mono ?_; rintro e w6 ⟨rfl, h6⟩))
  go_ret
  exact ⟨rfl, PE.out _ h6.out⟩
end Go.Proofs.YtmpnceicodfifaaGreat
