/-
  (*merkle.Tree).whole and root.
-/
import Derived.Test.YtfkiciejipcgkaaDoorEp
namespace Go.Proofs.YtfkiciejipcgkaaDoor
open Go Go.RowKit Go.Maps Sh
section
variable {o : Oper} {a : Act} {w : World} {K : Act → World → Prop} {Q : Exit → Act → World → Prop}
theorem oper_look (t : TypeId) (x y : Operand) (ho : o.op = .lookup t x y false) (m : Option Nat) (key : Value) (hx : a.eval x = .map m) (hy : a.eval y = key) (v : Value) (hr : (Instr.lookup t (.map m) key false).run Tryd.prog w = .ok v w) (hK : K (a.put o.dst v) w) : Oper.wp Tryd.prog o a w K Q := by
  unfold Oper.wp execOp
  simp only [ho, hx, hy, hr, Sem.run_bind, Sem.run_pure, Result.andThen_ok]
  exact hK
end
/-- a whole half of a tree reads x. -/
def Wh (w : World) (bt l o : Nat) (x : List Nat) : Prop :=
  (l = 0 ∧ ∃ b off n cap m, Blk w bt 62 [.slice (some ⟨b, off, none⟩) n cap, .map m] ∧ o < n ∧ w.rangeAt b (off + o * 32) (nums .u8 x)) ∨
  (1 ≤ l ∧ ∃ v mb n D, Blk w bt 62 [v, .map (some mb)] ∧ w.ownsMap Tryd.prog 54 hR mb n D ∧ Bears D l o x)
theorem Wh.below {w w' : World} {bt l o : Nat} {x : List Nat} (h : Wh w bt l o x) (g : Below w.heap.size w w') : Wh w' bt l o x := by
  rcases h with ⟨hl, b, off, n, cap, m, h1, h2, h3⟩ | ⟨hl, v, mb, n, D, h1, h2, h3⟩
  · exact .inl ⟨hl, b, off, n, cap, m, h1.below g h1.lt, h2, range_below h3 g⟩
  · exact .inr ⟨hl, v, mb, n, D, h1.below g h1.lt, h2.kept (below_grown g) (by simp), h3⟩
set_option maxHeartbeats 1000000 in
set_option maxRecDepth 8000 in
theorem whole_leaf (bt l o : Nat) (hl0 : l = 0) (x : List Nat) (hx : Hh x) (w : World) (b off n cap : Nat) (m : Option Nat) (BT : Blk w bt 62 [.slice (some ⟨b, off, none⟩) n cap, .map m]) (hon : o < n) (RX : w.rangeAt b (off + o * 32) (nums .u8 x)) :
    Calls Tryd.prog 32 #[.pointer (some ⟨bt, 0, none⟩), kv l o] w fun e w' => e = .returned (.agg (nums .u8 x).toArray) ∧ Below w.heap.size w w' := by
  have hq : ((l : Int) == 0) = true := by rw [hl0]; rfl
  clear hl0
  have HX : Hid (Hh x) := hx
  have HL : Hid ((nums .u8 x).length = (nums .u8 (List.replicate 32 0)).length) := by show _ = _; rw [nums_length, nums_length, hx.1, List.length_replicate]
  clear hx
  go_enter Tryd.func32, Tryd.ntmps32
  unfold kv
  go_wp2_with (refine al_box rfl 54 (.tmp 1) rfl [.int .i64 (l : Int), .int .i64 (o : Int)] rfl ?_)
  intro gv wv lv BV GV
  have BT := BT.kept GV (by simp)
  have Z := (Below.refl w.heap.size w).grown GV (Nat.le_refl _) (by simp)
  clear GV
  go_wp2_with (refine al_zero rfl 30 rfl _ z25 ?_)
  intro g1 w1 l1 B1 G1
  have BT := BT.kept G1 (by simp)
  have BV := BV.kept G1 (by simp)
  have hg1 : w.heap.size ≤ g1 := Nat.le_trans Z.size l1
  have Z := Z.grown G1 Z.size (by simp)
  have c0 : w1.cell? ⟨gv, 0, none⟩ = some (.int .i64 (l : Int)) := by rw [BV.cell]; rfl
  clear G1
  have RX := range_below RX Z
  go_wp2_with fail
  obtain ⟨C, hC⟩ : ∃ C : World → Prop, C = fun W => Below w1.heap.size w1 W := ⟨_, rfl⟩
  have FT : Hid (∀ W, C W → W.cell? ⟨bt, 0, none⟩ = some (.slice (some ⟨b, off, none⟩) n cap)) := fun W hW => by rw [hC] at hW; exact by rw [(BT.below hW BT.lt).cell]; rfl
  have FV : Hid (∀ W, C W → W.cell? ⟨gv, 1, none⟩ = some (.int .i64 (o : Int))) := fun W hW => by rw [hC] at hW; exact by rw [(BV.below hW BV.lt).cell]; rfl
  have FQ : Hid (∀ W, C W → W.rangeAt b (off + o * 32) (nums .u8 x)) := fun W hW => by rw [hC] at hW; exact range_below RX hW
  have F1 : Hid (∀ W, C W → Blk W g1 30 (nums .u8 (List.replicate 32 0))) := fun W hW => by rw [hC] at hW; exact B1.below hW B1.lt
  have CK : Hid (∀ W W', C W → Below W.heap.size W W' → C W') := fun W W' h1 h2 => by rw [hC] at h1 ⊢; exact h1.trans (h2.mono h1.size)
  have CA : Hid (∀ W W', C W → Below w1.heap.size W W' → C W') := fun W W' h1 h2 => by rw [hC] at h1 ⊢; exact h1.trans h2
  have CE : Hid (∀ W, C W → Below w1.heap.size w1 W) := fun W h => by rw [hC] at h; exact h
  have C0 : Hid (C { w1 with drawn := w1.drawn + 1 }) := by rw [hC]; exact Below.drew (Below.refl _ _)
  clear hC
  refine region_calm C 8 (by kernel_rfl) ?_
  have hCp : ∀ p : Prop, (∀ W, C W → p) ↔ p := fun p => ⟨fun h => h _ C0.out, fun h _ _ => h⟩
  generalize ({ w1 with drawn := w1.drawn + 1 } : World) = y0 at *
  refine seg 1 [0, 1, 2, 3, 4, 5, 6, 7] rfl (by kernel_rfl) whole_blind (C0.out) (by kernel_rfl) ?_
  change wpQuiet _ _ _ _ (_ :: _ :: _ :: _ :: _ :: _ :: _ :: _ :: []) _
  repeat (first
    | go_big_quiet_skip
    | (go_big_quiet_want
       first
       | (refine q_slc (.tmp 10) rfl bt 0 rfl (some ⟨b, off, none⟩) n cap FT.out ?_
          simp only [Act.put, List.setIfInBounds_toArray, List.set_cons_zero, List.set_cons_succ]
          go_big_quiet_on)
       | (refine q_int (.tmp 12) rfl gv 1 rfl (o : Int) FV.out ?_
          simp only [Act.put, List.setIfInBounds_toArray, List.set_cons_zero, List.set_cons_succ]
          go_big_quiet_on)
       | (refine q_load 30 (.tmp 14) rfl b (off + o * 32) rfl (nums .u8 x) _ FQ.out Tryd.underlying30 rfl (sH HX.out) ?_
          simp only [Act.put, List.setIfInBounds_toArray, List.set_cons_zero, List.set_cons_succ]
          go_big_quiet_on)
       | (go_big_quiet_op
          go_big_quiet_on)))
  refine wpQuiet_nil ?_
  refine lone_last (i := 8) 0 rfl rfl (by kernel_rfl) rfl (by rfl) ?_
  intro K hK
  refine oper_all 30 (.tmp 4) (.tmp 15) rfl g1 30 (nums .u8 (List.replicate 32 0)) (nums .u8 x) rfl rfl (F1.out _ C0.out) HL.out (sH HX.out) (nums_one _ _) ?_
  intro y1 B1 G1
  refine hK _ _ ?_
  clear hK K
  refine anyC_done (by kernel_rfl) ⟨rfl, ?_⟩
  simp only [Act.put]
  have ZZ : Below w.heap.size w y1 := by
    have z1 := Z.trans ((CE.out _ C0.out).mono Z.size)
    exact grown_below z1 G1 z1.size hg1
  clear C0 CK CA CE hCp G1
  go_wp2
  (try simp only [Exit.inBlock, Exit.then])
  refine bodyPost_ret (res_row rfl _ g1 30 _ _ rfl B1 Tryd.underlying30 rfl (sH HX.out)) rfl ⟨rfl, ZZ⟩
set_option maxHeartbeats 1000000 in
set_option maxRecDepth 8000 in
theorem whole_map (bt l o : Nat) (hl1 : 1 ≤ l) (hl : l ≤ 1000000000000000) (ho : o ≤ 1000000000000000) (x : List Nat) (hx : Hh x) (w : World) (v : Value) (mb n : Nat) (D : DataW Value) (BT : Blk w bt 62 [v, .map (some mb)]) (hm : w.ownsMap Tryd.prog 54 hR mb n D) (hb : Bears D l o x) :
    Calls Tryd.prog 32 #[.pointer (some ⟨bt, 0, none⟩), kv l o] w fun e w' => e = .returned (.agg (nums .u8 x).toArray) ∧ Below w.heap.size w w' := by
  have HBr : Hid (Bears D l o x) := hb
  have HX : Hid (Hh x) := hx
  have HL : Hid ((nums .u8 x).length = (nums .u8 (List.replicate 32 0)).length) := by show _ = _; rw [nums_length, nums_length, hx.1, List.length_replicate]
  clear hx
  go_enter Tryd.func32, Tryd.ntmps32
  unfold kv
  go_wp2_with (refine al_box rfl 54 (.tmp 1) rfl [.int .i64 (l : Int), .int .i64 (o : Int)] rfl ?_)
  intro gv wv lv BV GV
  have BT := BT.kept GV (by simp)
  have Z := (Below.refl w.heap.size w).grown GV (Nat.le_refl _) (by simp)
  clear GV
  go_wp2_with (refine al_zero rfl 30 rfl _ z25 ?_)
  intro g1 w1 l1 B1 G1
  have BT := BT.kept G1 (by simp)
  have BV := BV.kept G1 (by simp)
  have hg1 : w.heap.size ≤ g1 := Nat.le_trans Z.size l1
  have Z := Z.grown G1 Z.size (by simp)
  have c0 : w1.cell? ⟨gv, 0, none⟩ = some (.int .i64 (l : Int)) := by rw [BV.cell]; rfl
  clear G1
  have HM := hm.kept (below_grown Z) (by simp)
  have hne : ((l : Int) == 0) = false := by rw [beq_eq_false_iff_ne]; omega
  clear hb hm
  go_wp2_with fail
  obtain ⟨C, hC⟩ : ∃ C : World → Prop, C = fun W => Below w1.heap.size w1 W := ⟨_, rfl⟩
  have FT : Hid (∀ W, C W → W.cell? ⟨bt, 1, none⟩ = some (.map (some mb))) := fun W hW => by rw [hC] at hW; exact by rw [(BT.below hW BT.lt).cell]; rfl
  have FV : Hid (∀ W, C W → W.rangeAt gv 0 [.int .i64 (l : Int), .int .i64 (o : Int)]) := fun W hW => by rw [hC] at hW; exact (BV.below hW BV.lt).all
  have FM : Hid (∀ W, C W → (Instr.lookup 60 (.map (some mb)) (kv l o) false).run Tryd.prog W = .ok (.agg (nums .u8 x).toArray) W) := fun W hW => by rw [hC] at hW; exact HBr.out.look hl ho (HM.kept (below_grown hW) (by simp))
  have F1 : Hid (∀ W, C W → Blk W g1 30 (nums .u8 (List.replicate 32 0))) := fun W hW => by rw [hC] at hW; exact B1.below hW B1.lt
  have CK : Hid (∀ W W', C W → Below W.heap.size W W' → C W') := fun W W' h1 h2 => by rw [hC] at h1 ⊢; exact h1.trans (h2.mono h1.size)
  have CA : Hid (∀ W W', C W → Below w1.heap.size W W' → C W') := fun W W' h1 h2 => by rw [hC] at h1 ⊢; exact h1.trans h2
  have CE : Hid (∀ W, C W → Below w1.heap.size w1 W) := fun W h => by rw [hC] at h; exact h
  have C0 : Hid (C { w1 with drawn := w1.drawn + 1 }) := by rw [hC]; exact Below.drew (Below.refl _ _)
  clear hC
  refine region_calm C 6 (by kernel_rfl) ?_
  have hCp : ∀ p : Prop, (∀ W, C W → p) ↔ p := fun p => ⟨fun h => h _ C0.out, fun h _ _ => h⟩
  generalize ({ w1 with drawn := w1.drawn + 1 } : World) = y0 at *
  refine seg 2 [0, 1, 2, 3, 4] rfl (by kernel_rfl) whole_blind (C0.out) (by kernel_rfl) ?_
  change wpQuiet _ _ _ _ (_ :: _ :: _ :: _ :: _ :: []) _
  repeat (first
    | go_big_quiet_skip
    | (go_big_quiet_want
       first
       | (refine q_map (.tmp 18) rfl bt 1 rfl (some mb) FT.out ?_
          simp only [Act.put, List.setIfInBounds_toArray, List.set_cons_zero, List.set_cons_succ]
          go_big_quiet_on)
       | (refine q_load 54 (.tmp 3) rfl gv 0 rfl [.int .i64 (l : Int), .int .i64 (o : Int)] _ FV.out Tryd.underlying54 rfl (by kernel_rfl) ?_
          simp only [Act.put, List.setIfInBounds_toArray, List.set_cons_zero, List.set_cons_succ]
          go_big_quiet_on)
       | (go_big_quiet_op
          go_big_quiet_on)))
  refine wpQuiet_nil ?_
  refine lone_do (i := 5) 1 rfl (by kernel_rfl) rfl (by rfl) ?_
  intro K hK
  refine oper_look 60 (.tmp 19) (.tmp 20) rfl (some mb) (kv l o) rfl rfl _ (FM.out _ C0.out) ?_
  refine hK _ _ C0.out ?_
  clear hK K
  simp only [Act.put, List.setIfInBounds_toArray, List.set_cons_zero, List.set_cons_succ]
  refine lone_last (i := 6) 0 rfl rfl (by kernel_rfl) rfl (by rfl) ?_
  intro K hK
  refine oper_all 30 (.tmp 4) (.tmp 21) rfl g1 30 (nums .u8 (List.replicate 32 0)) (nums .u8 x) rfl rfl (F1.out _ C0.out) HL.out (sH HX.out) (nums_one _ _) ?_
  intro y1 B1 G1
  refine hK _ _ ?_
  clear hK K
  refine anyC_done (by kernel_rfl) ⟨rfl, ?_⟩
  simp only [Act.put]
  have ZZ : Below w.heap.size w y1 := by
    have z1 := Z.trans ((CE.out _ C0.out).mono Z.size)
    exact grown_below z1 G1 z1.size hg1
  clear C0 CK CA CE hCp G1
  go_wp2
  (try simp only [Exit.inBlock, Exit.then])
  refine bodyPost_ret (res_row rfl _ g1 30 _ _ rfl B1 Tryd.underlying30 rfl (sH HX.out)) rfl ⟨rfl, ZZ⟩
theorem twhole_any (bt l o : Nat) (hl : l ≤ 1000000000000000) (ho : o ≤ 1000000000000000) (x : List Nat) (hx : Hh x) (w : World) (h : Wh w bt l o x) :
    Calls Tryd.prog 32 #[.pointer (some ⟨bt, 0, none⟩), kv l o] w fun e w' => e = .returned (.agg (nums .u8 x).toArray) ∧ Below w.heap.size w w' := by
  rcases h with ⟨h0, b, off, n, cap, m, h1, h2, h3⟩ | ⟨h0, v, mb, n, D, h1, h2, h3⟩
  · exact whole_leaf bt l o h0 x hx w b off n cap m h1 h2 h3
  · exact whole_map bt l o h0 hl ho x hx w v mb n D h1 h2 h3
#print axioms twhole_any
end Go.Proofs.YtfkiciejipcgkaaDoor
