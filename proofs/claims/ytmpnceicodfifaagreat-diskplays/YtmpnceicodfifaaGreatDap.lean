/-
  The law package's does: Append.
-/
import Derived.Test.YtmpnceicodfifaaGreatDor
namespace Go.Proofs.YtmpnceicodfifaaGreat
open Go.RowKit Go.Maps
set_option linter.unusedVariables false
set_option maxHeartbeats 1000000 in
theorem spoil_k (v : Value) (l : List Nat) (w : World) (h : Own w 0 v l) (hl : l.length ≤ 1073741900) :
    Calls Tryz.prog 29 #[v] w fun e w' => e = .returned (.tuple #[]) ∧ Kept (fun i => v.ownBlock = some i) w w' := by
  have HO : Hid (Own (w.alloc (.cells #[.int .u8 99] 5)) 0 v l) := h.alloc _
  have HB : Hid (Kept (fun i => v.ownBlock = some i) w (w.alloc (.cells #[.int .u8 99] 5))) := Kept.alloc _ _ _
  obtain ⟨T, hT⟩ : ∃ T : Nat → Prop, T = fun i => v.ownBlock = some i := ⟨_, rfl⟩
  have HTd : Hid (T = fun i => v.ownBlock = some i) := hT
  rw [← hT] at HB ⊢
  obtain ⟨a, c, rfl, _⟩ := h.shape
  clear h hT
  go_enter Tryz.func29, Tryz.ntmps29
  go_wp2_with (at_builtin; go_must (refine app_at rfl (.tmp 4) (.tmp 5) rfl 0 _ l rfl HO.out _ _ _ [99] rfl rfl (byt_lit w [99]) (by simp) (by simp; omega) (by simp) ?_))
  intro v2 w2 o2 g2 n2
  have b2 : Kept T w w2 := HB.out.trans (Kept.of_grown (S := T) g2 (fun i e => by rw [HTd.out]; exact e)) (fun _ _ h => h)
  obtain ⟨g, cap, rfl, hg, _, _, _, _⟩ := o2.form (by simp)
  have hTg : T g ∨ w.heap.size ≤ g := by
    rcases n2 g rfl with e | e
    · left; rw [HTd.out]; exact e
    · right; exact Nat.le_trans (by simp) e
  clear g2 HO HB n2 HTd
  have hlen : (l ++ [99]).length = l.length + 1 := by simp
  generalize l ++ [99] = m at *
  rw [hlen] at o2 ⊢
  have HI : Hid (Own w2 0 (.slice (some ⟨g, 0, none⟩) (l.length + 1) cap) m ∧ Kept T w w2 ∧ m.length = l.length + 1) := ⟨o2, b2, hlen⟩
  clear o2 b2 hlen
  have HG : Hid (T g ∨ w.heap.size ≤ g) := hTg
  clear hTg
  go_wp2
  go_loopw [3] (fun i wr => ∃ k : Nat, k ≤ l.length + 1 ∧ i = .int .i64 k ∧ ∃ m, Hid (Own wr 0 (.slice (some ⟨g, 0, none⟩) (l.length + 1) cap) m ∧ Kept T w wr ∧ m.length = l.length + 1)) (fun i _ => l.length + 1 - (intOf i).toNat)
  case atStart => exact ⟨0, by omega, rfl, m, HI.out⟩
  case round =>
    obtain ⟨k, hk, rfl, m, HJ⟩ := hrel
    clear HI
    by_cases hlt : k < l.length + 1
    · obtain ⟨o3, b3, h3⟩ := HJ.out
      have hfr : wr.frozen? ⟨g, k, none⟩ = false := World.ownsRow.frozenAt (by unfold Own at o3; rw [h3] at o3; exact o3) k
      have hce := own_cells o3 (by omega) k (by omega)
      rw [Nat.zero_add] at hce
      generalize m.getD k 0 = x at hce
      have o4 := own_put h3 o3 k 98
      have b4 : Kept T w (wr.setCell ⟨g, k, none⟩ (.int .u8 98)) := b3.trans (Kept.setCell (S := fun i => i = g) wr ⟨g, k, none⟩ _ rfl) (fun i hi e => by
        rcases HG.out with h | h
        · rw [e]; exact h
        · omega)
      have HK : Hid (Own (wr.setCell ⟨g, k, none⟩ (.int .u8 98)) 0 (.slice (some ⟨g, 0, none⟩) (l.length + 1) cap) (m.set k 98) ∧ Kept T w (wr.setCell ⟨g, k, none⟩ (.int .u8 98)) ∧ (m.set k 98).length = l.length + 1) := ⟨o4, b4, by simpa using h3⟩
      clear o3 b3 o4 b4 HJ
      go_wp2
      go_roundw
      case rel => exact ⟨k + 1, by omega, by go_num, _, HK.out⟩
      case measure => simp [intOf]; omega
    · have HB := HJ.out.2.1
      clear HJ
      go_wp2
      go_end0
      exact ⟨rfl, HB⟩
theorem Two.start {w0 : World} {B : Nat} {X : Nat → Prop} {bd br : Nat} {a1 a2 : Ab} {W W5 : World} {g : Nat} (h : Two w0 B X bd br a1 a2 W) (hb : Below W.heap.size W W5) (hg1 : W.heap.size ≤ g) (hg2 : g < W5.heap.size) (hbx : W.heap.size < W5.heap.size) :
    Two W5 B (fun i => (X i ∨ i = W.heap.size) ∨ i = g) bd br a1 a2 W5 := by
  obtain ⟨S, R, hd, hr, hap, hS, hR, hB, hX, hk⟩ := h
  have k : Kept (fun _ => False) W W5 := Kept.of_below hb
  refine ⟨S, R, hd.keptBy k (fun _ _ h => h), hr.keptBy k (fun _ _ h => h), hap, fun i hi => ⟨(hS i hi).1, ?_⟩, fun i hi => ⟨(hR i hi).1, ?_⟩, by omega, ?_, Kept.refl _ _⟩
  · have := hd.lt hi
    rintro ((e | e) | e)
    · exact (hS i hi).2 e
    · omega
    · omega
  · have := hr.lt hi
    rintro ((e | e) | e)
    · exact (hR i hi).2 e
    · omega
    · omega
  · rintro i ((e | e) | e)
    · have := hX i e; omega
    · omega
    · omega
theorem Two.finish {w0 : World} {B : Nat} {X : Nat → Prop} {bd br : Nat} {a1 a2 a1' a2' : Ab} {W W5 W' w8 : World} {g : Nat} (h : Two w0 B X bd br a1 a2 W) (hb : Below W.heap.size W W5) (hg1 : W.heap.size ≤ g) (h' : Two W5 B (fun i => (X i ∨ i = W.heap.size) ∨ i = g) bd br a1' a2' W') (k8 : Kept (fun i => i = g) W' w8) : Two w0 B X bd br a1' a2' w8 := by
  obtain ⟨_, _, _, _, _, _, _, hB0, hX0, hk0⟩ := h
  obtain ⟨S, R, hd, hr, hap, hS, hR, hB, hX, hk⟩ := h'
  refine ⟨S, R, hd.keptBy k8 (fun i hi e => (hS i hi).2 (.inr e)), hr.keptBy k8 (fun i hi e => (hR i hi).2 (.inr e)), hap, fun i hi => ⟨(hS i hi).1, fun e => (hS i hi).2 (.inl (.inl e))⟩, fun i hi => ⟨(hR i hi).1, fun e => (hR i hi).2 (.inl (.inl e))⟩, Nat.le_trans hB k8.size, fun i hi => Nat.lt_of_lt_of_le (hX i (.inl (.inl hi))) k8.size, ?_⟩
  have k1 : Kept (fun i => B ≤ i ∧ ¬ X i) w0 W' := (hk0.trans (Kept.of_below (S := fun _ => False) hb) (fun _ _ h => h.elim)).trans hk (fun i _ e => ⟨e.1, fun x => e.2 (.inl (.inl x))⟩)
  exact k1.trans k8 (fun i hi e => by have := hk0.size; omega)
theorem oper_len {o : Oper} {K : Act → World → Prop} {Q : Exit → Act → World → Prop} {a : Act} {w : World} (x : Operand) (ho : o.op = .call { callee := .builtin .len, args := #[x], argTypes := #[32] }) (p : Option Addr) (n c : Nat) (hx : a.eval x = .slice p n c)
    (hK : K (a.put o.dst (.int .i64 (n : Int))) w) : Oper.wp Tryz.prog o a w K Q := by
  unfold Oper.wp execOp
  simp only [ho, resolve, invoke, builtin, Sem.run_bind, Sem.run_pure, Result.andThen_ok, List.map_toArray, List.map_cons, List.map_nil, hx]
  go_simp
  exact hK
theorem Two.byt {w0 : World} {B : Nat} {X : Nat → Prop} {bd br : Nat} {a1 a2 : Ab} {W : World} (h : Two w0 B X bd br a1 a2 W) {a0 : Option Addr} {l : List Nat} (hby : Byt w0 a0 l) (hin : ∀ b off, a0 = some ⟨b, off, none⟩ → l ≠ [] → b < B ∨ X b) : Byt W a0 l := by
  obtain ⟨_, _, _, _, _, _, _, _, _, hk⟩ := h
  refine hby.keptBy hk (fun b off e hl hx => ?_)
  rcases hin b off e hl with h | h
  · omega
  · exact hx.2 h
theorem entersw10 : ∀ (args : Array Value) (w : World), (callFunc 10 args).run Tryz.prog w = .ok (.enter 10 args) w := enters Tryz.func10 (by kernel_rfl) rfl
theorem entersw27 : ∀ (args : Array Value) (w : World), (callFunc 27 args).run Tryz.prog w = .ok (.enter 27 args) w := enters Tryz.func27 (by kernel_rfl) rfl
theorem entersw28 : ∀ (args : Array Value) (w : World), (callFunc 28 args).run Tryz.prog w = .ok (.enter 28 args) w := enters Tryz.func28 (by kernel_rfl) rfl
set_option maxRecDepth 8000 in
set_option maxHeartbeats 4000000 in
theorem does_append {w0 : World} {B : Nat} {X : Nat → Prop} {bd br : Nat} {a : Ab} {W : World} (h : Two w0 B X bd br a a W) (n : Int) (A T : ByteArray) (a0 : Option Addr) (cap : Nat) (l : List Nat) (hby : Byt W a0 l) (hin : ∀ b off, a0 = some ⟨b, off, none⟩ → l ≠ [] → b < B) (hnil : a0 = none → cap = 0) (hln : l.length ≤ 8000) (hoct : Oct l) :
    Calls Tryz.prog 12 #[.pointer (some ⟨bd, 0, none⟩), .pointer (some ⟨br, 0, none⟩), .agg #[.int .i64 1, .int .i64 n, .string A, .string T, .slice a0 l.length cap]] W fun e w' => e = .returned (.bool true) ∧ ∃ a', Two w0 B X bd br a' a' w' := by
  obtain ⟨q, hq⟩ : ∃ q, q = aDo [A] (aExt a.room A.data.toList l) a := ⟨_, rfl⟩
  have HT : Hid (Two w0 B X bd br a a W) := h
  have b1 : Below W.heap.size W (W.alloc (.cells #[.int .i64 1, .int .i64 n, .string A, .string T, .slice a0 l.length cap] 34)) := (Below.refl _ _).alloc (Nat.le_refl _) _
  have HR : Hid (Calls Tryz.prog 26 #[.slice a0 l.length cap] (W.alloc (.cells #[.int .i64 1, .int .i64 n, .string A, .string T, .slice a0 l.length cap] 34)) fun e w' => ∃ g c, e = .returned (.slice (some ⟨g, 0, none⟩) (l.length + 1) c) ∧ Hid (Own w' (W.heap.size + 1) (.slice (some ⟨g, 0, none⟩) (l.length + 1) c) (l ++ [171]) ∧ Below (W.heap.size + 1) (W.alloc (.cells #[.int .i64 1, .int .i64 n, .string A, .string T, .slice a0 l.length cap] 34)) w' ∧ l.length + 1 ≤ c ∧ c ≤ 9223372036854775807)) := by
    have := roomy_o a0 cap l (by omega) _ (hby.below b1) hnil
    show Calls _ _ _ _ _
    simpa using this
  have HBY : Hid (Byt W a0 l ∧ (∀ b off, a0 = some ⟨b, off, none⟩ → l ≠ [] → b < B) ∧ Oct l) := ⟨hby, hin, hoct⟩
  have HB1 : Hid (Below W.heap.size W (W.alloc (.cells #[.int .i64 1, .int .i64 n, .string A, .string T, .slice a0 l.length cap] 34))) := b1
  clear h hby hin hoct b1
  go_enter Tryz.func12, Tryz.ntmps12
  go_wp2_with (go_at_call 26; refine HR.out.mono ?_; rintro e W5 ⟨g, c, rfl, h5⟩)
  obtain ⟨o5, bb5, hlc, hcm⟩ := h5.out
  have b5 : Below W.heap.size W W5 := HB1.out.trans (bb5.mono (by omega))
  have gl := own_lt o5 (g := g) rfl
  have k5 : Blk W5 W.heap.size 34 (stp 1 n A T a0 l.length cap) := (blk_new W 34 _).below bb5 (by omega)
  obtain ⟨P, hP⟩ : ∃ P : Ab → Ab → World → Prop, P = fun a1 a2 W' => Two W5 B (fun i => (X i ∨ i = W.heap.size) ∨ i = g) bd br a1 a2 W' := ⟨_, rfl⟩
  have P0 : Hid (P a a W5) := by rw [hP]; exact HT.out.start b5 (by omega) gl.2 (by omega)
  have PB : Hid (∀ a1 a2 W', P a1 a2 W' → Blk W' W.heap.size 34 (stp 1 n A T a0 l.length cap)) := fun a1 a2 W' h' => by
    rw [hP] at h'
    obtain ⟨_, _, _, _, _, _, _, _, _, hk⟩ := h'
    exact k5.keptBy hk (fun e => e.2 (.inl (.inr rfl)))
  have PO : Hid (∀ a1 a2 W', P a1 a2 W' → Own W' 0 (.slice (some ⟨g, 0, none⟩) (l.length + 1) c) (l ++ [171])) := fun a1 a2 W' h' => by
    rw [hP] at h'
    obtain ⟨_, _, _, _, _, _, _, _, _, hk⟩ := h'
    exact (own_mono0 o5).keptBy hk (fun i hi e => e.2 (.inr (by cases hi; rfl)))
  have PY : Hid (∀ a1 a2 W', P a1 a2 W' → Byt W' a0 l) := fun a1 a2 W' h' => by
    rw [hP] at h'
    exact h'.byt (HBY.out.1.below b5) (fun b off e hl => .inl (HBY.out.2.1 b off e hl))
  have PD : Hid (∀ a1 a2 W' W'', P a1 a2 W' → Below W'.heap.size W' W'' → P a1 a2 W'') := fun a1 a2 W' W'' h' hb => by rw [hP] at h' ⊢; exact h'.below hb
  have PE : Hid (∀ W' w8, P q.2 q.2 W' → Kept (fun i => i = g) W' w8 → ∃ a', Two w0 B X bd br a' a' w8) := fun W' w8 h' k8 => by
    rw [hP] at h'; exact ⟨_, HT.out.finish b5 (by omega) h' k8⟩
  have hl := HT.out.lim
  have CA : Hid (∀ a2 W', P a a2 W' → Calls Tryz.prog 10 #[.pointer (some ⟨bd, 0, none⟩), .string A, .slice (some ⟨g, 0, none⟩) l.length c] W' fun e w' => e = .returned (.int .i64 q.1) ∧ P q.2 a2 w') := fun a2 W' h' => by
    have ho := PO.out _ _ _ h'
    rw [hP] at h' ⊢; rw [hq]
    refine h'.callD (fun S hd hS => append_disk hd A _ _ l ⟨?_, (fun e => by cases e), fun b off e _ hs => ?_, HBY.out.2.2⟩)
    · exact .inr ⟨g, 0, rfl, Cells.left (own_cells ho (by simp))⟩
    · cases e; exact (hS _ hs).2 (.inr rfl)
  have CB : Hid (∀ a1 W', P a1 a W' → Calls Tryz.prog 27 #[.pointer (some ⟨br, 0, none⟩), .string A, .slice a0 l.length cap] W' fun e w' => e = .returned (.int .i64 q.1) ∧ P a1 q.2 w') := fun a1 W' h' => by
    have hy := PY.out _ _ _ h'
    rw [hP] at h' ⊢; rw [hq]; exact h'.callR (fun R hr _ => rappend_any hr hl A a0 cap l hy hnil (by omega))
  have CC : Hid (∀ a1 a2 W', P a1 a2 W' → Calls Tryz.prog 28 #[.slice (some ⟨g, 0, none⟩) (l.length + 1) c, .slice a0 l.length cap] W' fun e w' => e = .returned (.bool true) ∧ P a1 a2 w') := fun a1 a2 W' h' => by
    refine (stands_any g c a0 cap l (by omega) HBY.out.2.2 W' hlc (own_cells (PO.out _ _ _ h') (by simp)) (PY.out _ _ _ h')).mono ?_
    rintro e w' ⟨rfl, q', rfl⟩
    exact ⟨rfl, PD.out _ _ _ _ h' (below_dq _ _)⟩
  have CS : Hid (∀ W', P q.2 q.2 W' → Calls Tryz.prog 29 #[.slice (some ⟨g, 0, none⟩) (l.length + 1) c] W' fun e w' => e = .returned (.tuple #[]) ∧ Hid (∃ a', Two w0 B X bd br a' a' w')) := fun W' h' => by
    refine (spoil_k _ (l ++ [171]) W' (PO.out _ _ _ h') (by simp; omega)).mono ?_
    rintro e w' ⟨rfl, k8⟩
    exact ⟨rfl, PE.out _ _ h' (k8.mono fun i _ e => by cases e; rfl)⟩
  have hlc' : l.length ≤ c := by omega
  clear hl hP hq o5 bb5 b5 gl k5 h5 HR HB1 HBY PE PO PY HT
  generalize hbx : W.heap.size = bx at *
  clear hbx
  go_wp2
  obtain ⟨C, hCd⟩ : ∃ C : World → Prop, C = fun W => ∃ a1 a2, P a1 a2 W := ⟨_, rfl⟩
  have kb : Hid (∀ a1 a2 W', P a1 a2 W' → C W') := fun a1 a2 W' h' => by rw [hCd]; exact ⟨_, _, h'⟩
  have ks : Hid (∀ W', C W' → W'.cell? ⟨bx, 2, none⟩ = some (.string A)) := fun W' h' => by
    rw [hCd] at h'; obtain ⟨a1, a2, h'⟩ := h'; exact (PB.out _ _ _ h').cell 2
  have kl : Hid (∀ W', C W' → W'.cell? ⟨bx, 4, none⟩ = some (.slice a0 l.length cap)) := fun W' h' => by
    rw [hCd] at h'; obtain ⟨a1, a2, h'⟩ := h'; exact (PB.out _ _ _ h').cell 4
  have p0 : Hid (P a a { W5 with drawn := W5.drawn + 1 }) := PD.out _ _ _ _ P0.out ⟨rfl, rfl, rfl, Nat.le_refl _, fun _ _ => rfl⟩
  have z0 : Hid (C { W5 with drawn := W5.drawn + 1 }) := kb.out _ _ _ p0.out
  have hCp : ∀ p : Prop, (∀ W, C W → p) ↔ p := fun p => ⟨fun h => h _ z0.out, fun h _ _ => h⟩
  clear hCd P0 PB PD
  refine region_calm C 22 (by kernel_rfl) ?_
  generalize ({ W5 with drawn := W5.drawn + 1 } : World) = W0 at *
  refine seg 12 [0, 1, 2, 3, 4, 5, 9, 10, 11, 12, 13] rfl (by kernel_rfl) whole_blind z0.out (by kernel_rfl) ?_
  change wpQuiet _ _ _ _ (_ :: _ :: _ :: _ :: _ :: _ :: _ :: _ :: _ :: _ :: _ :: []) _
  repeat (first
    | go_big_quiet_skip
    | (go_big_quiet_want
       first
       | (refine q_loads (.tmp 47) rfl bx 2 rfl _ ks.out ?_
          simp only [Act.put, List.setIfInBounds_toArray, List.set_cons_zero, List.set_cons_succ]
          go_big_quiet_on)
       | (refine q_load 32 (.tmp 50) rfl bx 4 rfl _ _ _ (.inl rfl) kl.out ?_
          simp only [Act.put, List.setIfInBounds_toArray, List.set_cons_zero, List.set_cons_succ]
          go_big_quiet_on)
       | (refine q_loads (.tmp 56) rfl bx 2 rfl _ ks.out ?_
          simp only [Act.put, List.setIfInBounds_toArray, List.set_cons_zero, List.set_cons_succ]
          go_big_quiet_on)
       | (refine q_load 32 (.tmp 58) rfl bx 4 rfl _ _ _ (.inl rfl) kl.out ?_
          simp only [Act.put, List.setIfInBounds_toArray, List.set_cons_zero, List.set_cons_succ]
          go_big_quiet_on)
       | (go_big_quiet_op
          go_big_quiet_on)))
  refine wpQuiet_nil ?_
  refine lone_do (i := 6) 11 rfl (by kernel_rfl) rfl (by rfl) ?_
  intro K hK
  refine oper_len (.tmp 51) rfl a0 l.length cap rfl ?_
  refine hK _ _ z0.out ?_
  clear hK K
  simp only [Act.put, List.setIfInBounds_toArray, List.set_cons_zero, List.set_cons_succ]
  refine lone_calm (i := 7) 10 rfl (by kernel_rfl) rfl rfl z0.out ?_
  repeat (first
    | go_big_quiet_skip
    | (go_big_quiet_want
       refine q_to 32 5 Tryz.underlying32 1 Tryz.sizeOf5 (.tmp 49) (.tmp 52) rfl (some ⟨g, 0, none⟩) (l.length + 1) c l.length rfl rfl hlc' ?_
       simp only [Act.put, List.setIfInBounds_toArray, List.set_cons_zero, List.set_cons_succ]
       go_big_quiet_on))
  refine wpQuiet_nil ?_
  refine lone_do (i := 8) 9 rfl (by kernel_rfl) rfl (by rfl) ?_
  intro K hK
  refine oper_call 10 #[.tmp 46, .tmp 48, .tmp 53] #[25, 9, 32] rfl #[.pointer (some ⟨bd, 0, none⟩), .string A, .slice (some ⟨g, 0, none⟩) l.length c] (by rw [List.map_toArray]; rfl) entersw10 _ _ (CA.out _ _ p0.out) ?_
  intro W6 h6
  refine hK _ _ (kb.out _ _ _ h6) ?_
  clear hK K
  simp only [Act.put, List.setIfInBounds_toArray, List.set_cons_zero, List.set_cons_succ]
  refine lone_do (i := 14) 8 rfl (by kernel_rfl) rfl (by rfl) ?_
  intro K hK
  refine oper_call 27 #[.tmp 55, .tmp 57, .tmp 59] #[29, 9, 32] rfl #[.pointer (some ⟨br, 0, none⟩), .string A, .slice a0 l.length cap] (by rw [List.map_toArray]; rfl) entersw27 _ _ (CB.out _ _ h6) ?_
  intro W7 h7
  refine hK _ _ (kb.out _ _ _ h7) ?_
  clear hK K
  simp only [Act.put, List.setIfInBounds_toArray, List.set_cons_zero, List.set_cons_succ]
  refine seg 3 [15, 16, 17, 18, 19] rfl (by kernel_rfl) whole_blind (kb.out _ _ _ h7) (by kernel_rfl) ?_
  change wpQuiet _ _ _ _ (_ :: _ :: _ :: _ :: _ :: []) _
  repeat (first
    | go_big_quiet_skip
    | (go_big_quiet_want
       first
       | (refine q_load 32 (.tmp 64) rfl bx 4 rfl _ _ _ (.inl rfl) kl.out ?_
          simp only [Act.put, List.setIfInBounds_toArray, List.set_cons_zero, List.set_cons_succ]
          go_big_quiet_on)
       | (go_big_quiet_op
          go_big_quiet_on)))
  refine wpQuiet_nil ?_
  refine lone_do (i := 20) 2 rfl (by kernel_rfl) rfl (by rfl) ?_
  intro K hK
  refine oper_call 28 #[.tmp 63, .tmp 65] #[32, 32] rfl #[.slice (some ⟨g, 0, none⟩) (l.length + 1) c, .slice a0 l.length cap] (by rw [List.map_toArray]; rfl) entersw28 _ _ (CC.out _ _ _ h7) ?_
  intro W8 h8
  refine hK _ _ (kb.out _ _ _ h8) ?_
  clear hK K
  simp only [Act.put, List.setIfInBounds_toArray, List.set_cons_zero, List.set_cons_succ]
  refine lone_calm (i := 21) 1 rfl (by kernel_rfl) rfl rfl (kb.out _ _ _ h8) ?_
  repeat (first
    | go_big_quiet_skip
    | (go_big_quiet_want
       go_big_quiet_op
       go_big_quiet_on))
  refine wpQuiet_nil ?_
  refine lone_calm (i := 22) 0 rfl (by kernel_rfl) rfl rfl (kb.out _ _ _ h8) ?_
  repeat (first
    | go_big_quiet_skip
    | (go_big_quiet_want
       go_big_quiet_op
       go_big_quiet_on))
  refine wpQuiet_nil ?_
  refine anyC_done (by kernel_rfl) ⟨rfl, ?_⟩
  have HE : Hid (Calls Tryz.prog 29 #[.slice (some ⟨g, 0, none⟩) (l.length + 1) c] W8 fun e w' => e = .returned (.tuple #[]) ∧ Hid (∃ a', Two w0 B X bd br a' a' w')) := CS.out _ h8
  clear h6 h7 h8 kb ks kl z0 hCp CA CB CC CS p0
  go_wp2_with (go_at_call 29; refine HE.out.mono ?_; rintro e w9 ⟨rfl, h9⟩)
  go_ret
  exact ⟨rfl, h9.out⟩
end Go.Proofs.YtmpnceicodfifaaGreat
