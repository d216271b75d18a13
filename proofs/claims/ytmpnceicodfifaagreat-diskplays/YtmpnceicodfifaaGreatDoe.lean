/-
  The law package's does: what stands ahead of each kind; Sync.
-/
import Derived.Test.YtmpnceicodfifaaGreatTwo
namespace Go.Proofs.YtmpnceicodfifaaGreat
open Go.RowKit Go.Maps
set_option linter.unusedVariables false
theorem q_loads {C : World → Prop} {a : Act} {o : Oper} {K : Act → Prop} (x : Operand) (ho : o.op = .load 9 x) (b k : Nat) (hx : a.eval x = .pointer (some ⟨b, k, none⟩)) (s : ByteArray) (hS : ∀ w, C w → w.cell? ⟨b, k, none⟩ = some (.string s))
    (hk : K (a.put o.dst (.string s))) : o.quiet Tryz.prog a C K :=
  ⟨_, fun w hw => by
    have h := hS w hw
    unfold Oper.quietAt execOp
    simp only [ho, hx]
    go_simp, hk⟩
theorem Two.enter {w0 : World} {B : Nat} {X : Nat → Prop} {bd br : Nat} {a1 a2 : Ab} {W : World} (h : Two w0 B X bd br a1 a2 W) (o : Obj) : Two (W.alloc o) B (fun i => X i ∨ i = W.heap.size) bd br a1 a2 (W.alloc o) := by
  obtain ⟨S, R, hd, hr, hap, hS, hR, hB, hX, hk⟩ := h
  have k : Kept (fun _ => False) W (W.alloc o) := Kept.alloc _ W o
  have hs : (W.alloc o).heap.size = W.heap.size + 1 := by simp
  refine ⟨S, R, hd.keptBy k (fun _ _ h => h), hr.keptBy k (fun _ _ h => h), hap, fun i hi => ⟨(hS i hi).1, ?_⟩, fun i hi => ⟨(hR i hi).1, ?_⟩, by omega, ?_, Kept.refl _ _⟩
  · rintro (e | e)
    · exact (hS i hi).2 e
    · have := hd.lt hi; omega
  · rintro (e | e)
    · exact (hR i hi).2 e
    · have := hr.lt hi; omega
  · rintro i (e | e)
    · have := hX i e; omega
    · omega
theorem Two.leave {w0 : World} {B : Nat} {X : Nat → Prop} {bd br : Nat} {a1 a2 a1' a2' : Ab} {W W' : World} {o : Obj} (h : Two w0 B X bd br a1 a2 W) (h' : Two (W.alloc o) B (fun i => X i ∨ i = W.heap.size) bd br a1' a2' W') : Two w0 B X bd br a1' a2' W' := by
  obtain ⟨_, _, _, _, _, _, _, hB0, hX0, hk0⟩ := h
  obtain ⟨S, R, hd, hr, hap, hS, hR, hB, hX, hk⟩ := h'
  refine ⟨S, R, hd, hr, hap, fun i hi => ⟨(hS i hi).1, fun e => (hS i hi).2 (.inl e)⟩, fun i hi => ⟨(hR i hi).1, fun e => (hR i hi).2 (.inl e)⟩, hB, fun i hi => hX i (.inl hi), ?_⟩
  exact (hk0.trans (Kept.alloc (fun _ => False) W o) (fun _ _ h => h.elim)).trans hk (fun i _ e => ⟨e.1, fun x => e.2 (.inl x)⟩)
/-- The step that is boxed stays as it is. -/
theorem Two.box {W : World} {B : Nat} {X : Nat → Prop} {bd br : Nat} {a1 a2 : Ab} {W' : World} {vs : List Value} (h' : Two (W.alloc (.cells vs.toArray 34)) B (fun i => X i ∨ i = W.heap.size) bd br a1 a2 W') : Blk W' W.heap.size 34 vs := by
  obtain ⟨_, _, _, _, _, _, _, _, _, hk⟩ := h'
  exact (blk_new W 34 vs).keptBy hk (fun e => e.2 (.inr rfl))
/-- A step. -/
def stp (kind n : Int) (A T : ByteArray) (a0 : Option Addr) (m cap : Nat) : List Value := [.int .i64 kind, .int .i64 n, .string A, .string T, .slice a0 m cap]
theorem enters14 : ∀ (args : Array Value) (w : World), (callFunc 14 args).run Tryz.prog w = .ok (.enter 14 args) w := enters Tryz.func14 (by kernel_rfl) rfl
theorem enters30' : ∀ (args : Array Value) (w : World), (callFunc 30 args).run Tryz.prog w = .ok (.enter 30 args) w := enters Tryz.func30 (by kernel_rfl) rfl
set_option maxRecDepth 8000 in
set_option maxHeartbeats 4000000 in
theorem does_sync {w0 : World} {B : Nat} {X : Nat → Prop} {bd br : Nat} {a : Ab} {W : World} (h : Two w0 B X bd br a a W) (n : Int) (A T : ByteArray) (a0 : Option Addr) (m cap : Nat) :
    Calls Tryz.prog 12 #[.pointer (some ⟨bd, 0, none⟩), .pointer (some ⟨br, 0, none⟩), .agg #[.int .i64 2, .int .i64 n, .string A, .string T, .slice a0 m cap]] W fun e w' => e = .returned (.bool true) ∧ ∃ a', Two w0 B X bd br a' a' w' := by
  obtain ⟨q, hq⟩ : ∃ q, q = aDo [A] (aSync A.data.toList) a := ⟨_, rfl⟩
  have HT : Hid (Two w0 B X bd br a a W) := h
  obtain ⟨P, hP⟩ : ∃ P : Ab → Ab → World → Prop, P = fun a1 a2 W' => Two (W.alloc (.cells #[.int .i64 2, .int .i64 n, .string A, .string T, .slice a0 m cap] 34)) B (fun i => X i ∨ i = W.heap.size) bd br a1 a2 W' := ⟨_, rfl⟩
  have P0 : Hid (P a a (W.alloc (.cells #[.int .i64 2, .int .i64 n, .string A, .string T, .slice a0 m cap] 34))) := by rw [hP]; exact h.enter _
  have PE : Hid (∀ W', P q.2 q.2 W' → ∃ a', Two w0 B X bd br a' a' W') := fun W' h' => by rw [hP] at h'; exact ⟨_, HT.out.leave h'⟩
  have PB : Hid (∀ a1 a2 W', P a1 a2 W' → Blk W' W.heap.size 34 (stp 2 n A T a0 m cap)) := fun a1 a2 W' h' => by rw [hP] at h'; exact Two.box h'
  have PD : Hid (∀ a1 a2 W' W'', P a1 a2 W' → Below W'.heap.size W' W'' → P a1 a2 W'') := fun a1 a2 W' W'' h' hb => by rw [hP] at h' ⊢; exact h'.below hb
  have hl := h.lim
  have CA : Hid (∀ a2 W', P a a2 W' → Calls Tryz.prog 14 #[.pointer (some ⟨bd, 0, none⟩), .string A] W' fun e w' => e = .returned (.int .i64 q.1) ∧ P q.2 a2 w') := fun a2 W' h' => by
    rw [hP] at h' ⊢; rw [hq]; exact h'.callD (fun S hd _ => sync_disk hd A)
  have CB : Hid (∀ a1 W', P a1 a W' → Calls Tryz.prog 30 #[.pointer (some ⟨br, 0, none⟩), .string A] W' fun e w' => e = .returned (.int .i64 q.1) ∧ P a1 q.2 w') := fun a1 W' h' => by
    rw [hP] at h' ⊢; rw [hq]; exact h'.callR (fun R hr _ => rsync_any hr hl A)
  clear h hl hP hq
  go_enter Tryz.func12, Tryz.ntmps12
  go_wp2
  generalize hW1 : W.alloc (.cells #[.int .i64 2, .int .i64 n, .string A, .string T, .slice a0 m cap] 34) = W1 at *
  generalize hbx : W.heap.size = bx at *
  clear hW1 hbx
  obtain ⟨C, hCd⟩ : ∃ C : World → Prop, C = fun W => ∃ a1 a2, P a1 a2 W := ⟨_, rfl⟩
  have kb : Hid (∀ a1 a2 W', P a1 a2 W' → C W') := fun a1 a2 W' h' => by rw [hCd]; exact ⟨_, _, h'⟩
  have ks : Hid (∀ W', C W' → W'.cell? ⟨bx, 2, none⟩ = some (.string A)) := fun W' h' => by
    rw [hCd] at h'; obtain ⟨a1, a2, h'⟩ := h'; exact (PB.out _ _ _ h').cell 2
  have p0 : Hid (P a a { W1 with drawn := W1.drawn + 1 }) := PD.out _ _ _ _ P0.out ⟨rfl, rfl, rfl, Nat.le_refl _, fun _ _ => rfl⟩
  have z0 : Hid (C { W1 with drawn := W1.drawn + 1 }) := kb.out _ _ _ p0.out
  have hCp : ∀ p : Prop, (∀ W, C W → p) ↔ p := fun p => ⟨fun h => h _ z0.out, fun h _ _ => h⟩
  clear hCd P0 PB PD HT
  refine region_calm C 9 (by kernel_rfl) ?_
  generalize ({ W1 with drawn := W1.drawn + 1 } : World) = W0 at *
  refine seg 4 [0, 1, 2, 4, 5, 6] rfl (by kernel_rfl) whole_blind z0.out (by kernel_rfl) ?_
  change wpQuiet _ _ _ _ (_ :: _ :: _ :: _ :: _ :: _ :: []) _
  repeat (first
    | go_big_quiet_skip
    | (go_big_quiet_want
       first
       | (refine q_loads (.tmp 74) rfl bx 2 rfl _ ks.out ?_
          simp only [Act.put, List.setIfInBounds_toArray, List.set_cons_zero, List.set_cons_succ]
          go_big_quiet_on)
       | (refine q_loads (.tmp 78) rfl bx 2 rfl _ ks.out ?_
          simp only [Act.put, List.setIfInBounds_toArray, List.set_cons_zero, List.set_cons_succ]
          go_big_quiet_on)
       | (go_big_quiet_op
          go_big_quiet_on)))
  refine wpQuiet_nil ?_
  refine lone_do (i := 3) 3 rfl (by kernel_rfl) rfl (by rfl) ?_
  intro K hK
  refine oper_call 14 #[.tmp 73, .tmp 75] #[25, 9] rfl #[.pointer (some ⟨bd, 0, none⟩), .string A] (by rw [List.map_toArray]; rfl) enters14 _ _ (CA.out _ _ p0.out) ?_
  intro W5 h5
  refine hK _ _ (kb.out _ _ _ h5) ?_
  clear hK K
  simp only [Act.put, List.setIfInBounds_toArray, List.set_cons_zero, List.set_cons_succ]
  refine lone_do (i := 7) 2 rfl (by kernel_rfl) rfl (by rfl) ?_
  intro K hK
  refine oper_call 30 #[.tmp 77, .tmp 79] #[29, 9] rfl #[.pointer (some ⟨br, 0, none⟩), .string A] (by rw [List.map_toArray]; rfl) enters30' _ _ (CB.out _ _ h5) ?_
  intro W6 h6
  refine hK _ _ (kb.out _ _ _ h6) ?_
  clear hK K
  simp only [Act.put, List.setIfInBounds_toArray, List.set_cons_zero, List.set_cons_succ]
  refine lone_calm (i := 8) 1 rfl (by kernel_rfl) rfl rfl (kb.out _ _ _ h6) ?_
  repeat (first
    | go_big_quiet_skip
    | (go_big_quiet_want
       go_big_quiet_op
       go_big_quiet_on))
  refine wpQuiet_nil ?_
  refine lone_calm (i := 9) 0 rfl (by kernel_rfl) rfl rfl (kb.out _ _ _ h6) ?_
  repeat (first
    | go_big_quiet_skip
    | (go_big_quiet_want
       go_big_quiet_op
       go_big_quiet_on))
  refine wpQuiet_nil ?_
  refine anyC_done (by kernel_rfl) ⟨rfl, ?_⟩
  have HE : Hid (∃ a', Two w0 B X bd br a' a' W6) := PE.out _ h6
  clear h5 h6 kb ks z0 hCp CA CB PE p0
  go_wp2
  go_ret
  exact ⟨rfl, HE.out⟩
end Go.Proofs.YtmpnceicodfifaaGreat
