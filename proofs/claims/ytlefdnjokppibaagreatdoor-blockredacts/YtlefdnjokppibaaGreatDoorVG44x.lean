/-
  Maps by halves: keys, what a map of roots holds; and the roots of halves over lists. · (*merkle.Tree).whole and root. · (*merkle.Tree).root: the root of leaves from one to ahead of another. · merkle.meet: whether roots of halves make two roots. · Parts of slices; the length of a slice, in a region that draws its order. · merkle.VerifyConsist: whether hashes prove a beginning. · One region of the document's Node that draws its order, over whatever frame. · The contract of the document's own Node. · Regions that draw their order: a length that is taken first; a call beside a new variable. What the document's Up makes, over lists.
-/
import Derived.Test.YtlefdnjokppibaaGreatDoorVG43x
import Derived.Maps.Own
import Derived.Maps.Views
import Derived.DeepKeys4
import Derived.Test.YtlefdnjokppibaaGreatDoorVG17x
import Derived.Test.YtlefdnjokppibaaGreatDoorVSRsum
import Derived.Test.YtlefdnjokppibaaGreatDoorVG18x
namespace Go.Proofs.YtlefdnjokppibaaGreatDoor.Mer
open Go Go.RowKit Go.Maps Sh
set_option maxRecDepth 8000
def kv (l o : Nat) : Value := .agg #[.int .i64 (l : Int), .int .i64 (o : Int)]
theorem laidOut : laidOutB Tryz.prog = true := by kernel_rfl
theorem half_row : (144 : TypeId) < Tryz.prog.types.size := of_decide_eq_true (by kernel_rfl)
theorem half_wide : (match Tryz.prog.underlying 144 with | some (.array _ _) | some (.struct _) => true | _ => false) = true := by rw [Tryz.underlying144]
theorem half_keyed : Keyed Tryz.prog 144 := Keyed.of_law (deep_law_laid laidOut (m := 2) (by omega) half_row (by kernel_rfl) half_wide)
theorem key_some (l o : Nat) (hl : l ≤ 1000000000000000) (ho : o ≤ 1000000000000000) : ∃ kl, keyOf Tryz.prog 144 (kv l o) = some kl := by
  have hk : Tryz.prog.keyType 144 = true := by kernel_rfl
  have hf : (kv l o).formed Tryz.prog 144 = true := by
    unfold kv Value.formed
    rw [Tryz.underlying144]
    simp only [List.size_toArray, List.length_cons, List.length_nil]
    kernel_rfl
  have h1 : ∀ (d n : Nat), n ≤ 1000000000000000 → Tryz.prog.keyLits (d + 1) 3 [.int .i64 (n : Int)] = some [.int .i64 (n : Int)] := fun d n hn => by
    unfold Program.keyLits
    simp only [Tryz.underlying3]
    exact if_pos ⟨trivial, by simp [Lit.wf, IntKind.min, IntKind.max, IntKind.signed, IntKind.bits]; omega⟩
  have hc : Tryz.prog.cellsOf 144 = 2 := by kernel_rfl
  have hc3 : Tryz.prog.cellsOf 3 = 1 := by kernel_rfl
  obtain ⟨d, hd⟩ : ∃ d, Tryz.prog.types.size = d + 1 := ⟨Tryz.prog.types.size - 1, (Nat.succ_pred_eq_of_pos (Nat.lt_of_le_of_lt (Nat.zero_le _) half_row)).symm⟩
  have h2 : Tryz.prog.keyLits (Tryz.prog.types.size + 1) 144 (kv l o).cells.toList = some [.int .i64 (l : Int), .int .i64 (o : Int)] := by
    rw [hd]
    unfold Program.keyLits
    simp only [Tryz.underlying144]
    show (if [Value.int .i64 (l : Int), .int .i64 (o : Int)].length = Tryz.prog.cellsOf 144 then _ else none) = _
    rw [if_pos (by rw [hc]; rfl)]
    simp only [hc3]
    simp [List.range_succ, kv, Value.cells, h1 d l hl, h1 d o ho]
  have h3 : keyOf Tryz.prog 144 (kv l o) = some (.string (keyBytes [.int .i64 (l : Int), .int .i64 (o : Int)])) := by
    unfold keyOf
    rw [Tryz.underlying144]
    simp only [hk, hf, Bool.and_self, if_true, h2, Option.map_some]
  exact ⟨_, h3⟩
theorem kv_inj {l o l' o' : Nat} (h : kv l o = kv l' o') : l = l' ∧ o = o' := by
  unfold kv at h
  simp at h
  omega
/-- how an element of the map reads. -/
def hR (v : Value) : Option (DataW Value × List MemPlace) := some (.held v, [])
def zv : Value := .agg (nums .u8 (List.replicate 32 0)).toArray
theorem zv_run (w : World) : (zeroValue 23).run Tryz.prog w = .ok zv w := Tryz.zeroValue23 w
/-- the map bears x at a half. -/
def Bears (D : DataW Value) (l o : Nat) (x : List Nat) : Prop := ∀ kl, keyOf Tryz.prog 144 (kv l o) = some kl → D.atKey kl (.held zv) = .held (.agg (nums .u8 x).toArray)
theorem Bears.look {D : DataW Value} {l o n mb : Nat} {x : List Nat} {w : World} (h : Bears D l o x) (hl : l ≤ 1000000000000000) (ho : o ≤ 1000000000000000) (hm : w.ownsMap Tryz.prog 144 hR mb n D) : (Instr.lookup 123 (.map (some mb)) (kv l o) false).run Tryz.prog w = .ok (.agg (nums .u8 x).toArray) w := by
  obtain ⟨kl, hk⟩ := key_some l o hl ho
  obtain ⟨v, ps, hrun, hv⟩ := hm.lookup half_keyed Tryz.underlying123 (zv_run w) (zd := .held zv) (zp := []) rfl hk
  rw [h kl hk] at hv
  have hv' : some (DataW.held v, ([] : List MemPlace)) = some (DataW.held (.agg (nums .u8 x).toArray), ps) := hv
  injection hv' with e
  injection e with e1 e2
  injection e1 with e1
  rw [hrun, e1]
theorem Bears.put_same {D : DataW Value} {l o : Nat} {x : List Nat} {kl : Lit} (hD : IsMap D) (hk : keyOf Tryz.prog 144 (kv l o) = some kl) : Bears (D.put kl (.held (.agg (nums .u8 x).toArray))) l o x := fun kl' hk' => by
  rw [hk] at hk'
  injection hk' with e
  subst e
  exact atKey_put_same hD (half_keyed.key hk) _ _
theorem Bears.put_other {D : DataW Value} {l o l' o' : Nat} {x : List Nat} {d : DataW Value} {kl : Lit} (h : Bears D l' o' x) (hk : keyOf Tryz.prog 144 (kv l o) = some kl) (hne : ¬ (l' = l ∧ o' = o)) : Bears (D.put kl d) l' o' x := fun kl' hk' => by
  rw [atKey_put_other]
  · exact h kl' hk'
  · rintro rfl
    exact hne (kv_inj (half_keyed.inj hk' hk))
theorem isMap_put {D : DataW Value} {kl : Lit} {d : DataW Value} (h : IsMap D) : IsMap (D.put kl d) := by
  obtain ⟨es, rfl⟩ := h
  exact ⟨_, rfl⟩
/-- a map bears the root of each whole half of leaves. -/
def MOK (D : DataW Value) (L : List (List Nat)) : Prop := ∀ l o, 1 ≤ l → (o + 1) * 2 ^ l ≤ L.length → Bears D l o (Mk.R nd em (Mk.sg L (l, o)))
theorem sg_two (L : List (List Nat)) (j o : Nat) (h : (o + 1) * 2 ^ (j + 1) ≤ L.length) : Mk.R nd em (Mk.sg L (j + 1, o)) = nd (Mk.R nd em (Mk.sg L (j, 2 * o))) (Mk.R nd em (Mk.sg L (j, 2 * o + 1))) := by
  have hp := Mk.pow_pos2 j
  have e : 2 ^ (j + 1) = 2 * 2 ^ j := by rw [Nat.pow_succ, Nat.mul_comm]
  have e1 : (o + 1) * 2 ^ (j + 1) = o * 2 ^ (j + 1) + 2 ^ (j + 1) := by rw [Nat.add_mul, Nat.one_mul]
  have hl : (Mk.sg L (j + 1, o)).length = 2 ^ (j + 1) := by unfold Mk.sg; rw [List.length_take, List.length_drop]; simp only; omega
  rw [Mk.R_split nd em (T := j) (by rw [hl, e]; omega) (by rw [hl]; exact Nat.le_refl _)]
  have a1 : (Mk.sg L (j + 1, o)).take (2 ^ j) = Mk.sg L (j, 2 * o) := by
    unfold Mk.sg
    simp only
    rw [List.take_take, Nat.min_eq_left (by omega), e, show o * (2 * 2 ^ j) = 2 * o * 2 ^ j by rw [← Nat.mul_assoc, Nat.mul_comm o 2]]
  have a2 : (Mk.sg L (j + 1, o)).drop (2 ^ j) = Mk.sg L (j, 2 * o + 1) := by
    unfold Mk.sg
    simp only
    rw [List.drop_take, List.drop_drop, e, show 2 * 2 ^ j - 2 ^ j = 2 ^ j by omega, show o * (2 * 2 ^ j) + 2 ^ j = (2 * o + 1) * 2 ^ j by rw [Nat.add_mul, Nat.one_mul, ← Nat.mul_assoc, Nat.mul_comm o 2]]
  rw [a1, a2]
theorem sg_app (L M : List (List Nat)) (l o : Nat) (h : (o + 1) * 2 ^ l ≤ L.length) : Mk.sg (L ++ M) (l, o) = Mk.sg L (l, o) := by
  unfold Mk.sg
  simp only
  rw [Nat.add_mul, Nat.one_mul] at h
  generalize 2 ^ l = p at *
  rw [List.drop_append_of_le_length (by omega), List.take_append_of_le_length (by rw [List.length_drop]; omega)]
theorem sg_leaf (L : List (List Nat)) (o : Nat) (x : List Nat) (h : L[o]? = some x) : Mk.R nd em (Mk.sg L (0, o)) = x := by
  unfold Mk.sg
  obtain ⟨h1, h2⟩ := List.getElem?_eq_some_iff.1 h
  simp only [Nat.pow_zero, Nat.mul_one]
  rw [List.take_one, List.head?_drop, h]
  exact Mk.R_one nd em x
theorem R_hh {L : List (List Nat)} (hL : Hl L) : Hh (Mk.R nd em L) := by
  match hm : L with
  | [] => exact em_hh
  | [x] => rw [Mk.R_one]; exact hL x (by simp)
  | x :: y :: r =>
    obtain ⟨T, a, b⟩ := Mk.two_exists (x :: y :: r).length (by simp)
    rw [Mk.R_split nd em a b]
    exact nd_hh _ _
end Go.Proofs.YtlefdnjokppibaaGreatDoor.Mer
namespace Go.Proofs.YtlefdnjokppibaaGreatDoor.Mer
open Go Go.RowKit Go.Maps Sh
section
variable {o : Oper} {a : Act} {w : World} {K : Act → World → Prop} {Q : Exit → Act → World → Prop}
theorem oper_look (t : TypeId) (x y : Operand) (ho : o.op = .lookup t x y false) (m : Option Nat) (key : Value) (hx : a.eval x = .map m) (hy : a.eval y = key) (v : Value) (hr : (Instr.lookup t (.map m) key false).run Tryz.prog w = .ok v w) (hK : K (a.put o.dst v) w) : Oper.wp Tryz.prog o a w K Q := by
  unfold Oper.wp execOp
  simp only [ho, hx, hy, hr, Sem.run_bind, Sem.run_pure, Result.andThen_ok]
  exact hK
end
/-- a whole half of a tree reads x. -/
def Wh (w : World) (bt l o : Nat) (x : List Nat) : Prop :=
  (l = 0 ∧ ∃ b off n cap m, Sh.Blk w bt 125 [.slice (some ⟨b, off, none⟩) n cap, .map m] ∧ o < n ∧ w.rangeAt b (off + o * 32) (nums .u8 x)) ∨
  (1 ≤ l ∧ ∃ v mb n D, Sh.Blk w bt 125 [v, .map (some mb)] ∧ w.ownsMap Tryz.prog 144 hR mb n D ∧ Bears D l o x)
theorem Wh.below {w w' : World} {bt l o : Nat} {x : List Nat} (h : Wh w bt l o x) (g : Below w.heap.size w w') : Wh w' bt l o x := by
  rcases h with ⟨hl, b, off, n, cap, m, h1, h2, h3⟩ | ⟨hl, v, mb, n, D, h1, h2, h3⟩
  · exact .inl ⟨hl, b, off, n, cap, m, h1.below g h1.lt, h2, range_below h3 g⟩
  · exact .inr ⟨hl, v, mb, n, D, h1.below g h1.lt, h2.kept (below_grown g) (by simp), h3⟩
set_option maxHeartbeats 1000000 in
set_option maxRecDepth 8000 in
theorem whole_leaf (bt l o : Nat) (hl0 : l = 0) (x : List Nat) (hx : Hh x) (w : World) (b off n cap : Nat) (m : Option Nat) (BT : Sh.Blk w bt 125 [.slice (some ⟨b, off, none⟩) n cap, .map m]) (hon : o < n) (RX : w.rangeAt b (off + o * 32) (nums .u8 x)) :
    Calls Tryz.prog 99 #[.pointer (some ⟨bt, 0, none⟩), kv l o] w fun e w' => e = .returned (.agg (nums .u8 x).toArray) ∧ Below w.heap.size w w' := by
  have hq : ((l : Int) == 0) = true := by rw [hl0]; rfl
  clear hl0
  have HX : Hid (Hh x) := hx
  have HL : Hid ((nums .u8 x).length = (nums .u8 (List.replicate 32 0)).length) := by show _ = _; rw [nums_length, nums_length, hx.1, List.length_replicate]
  clear hx
  go_enter Tryz.func99, Tryz.ntmps99
  unfold kv
  go_wp2_with (refine al_box rfl 144 (.tmp 1) rfl [.int .i64 (l : Int), .int .i64 (o : Int)] rfl ?_)
  intro gv wv lv BV GV
  have BT := BT.kept GV (by simp)
  have Z := (Below.refl w.heap.size w).grown GV (Nat.le_refl _) (by simp)
  clear GV
  go_wp2_with (refine Sh.al_zero rfl 23 rfl _ Sh.z25 ?_)
  intro g1 w1 l1 B1 G1
  have BT := BT.kept G1 (by simp)
  have BV := BV.kept G1 (by simp)
  have hg1 : w.heap.size ≤ g1 := Nat.le_trans Z.size l1
  have Z := Z.grown G1 Z.size (by simp)
  have c0 : w1.cell? ⟨gv, 0, none⟩ = some (.int .i64 (l : Int)) := by rw [BV.cell]; rfl
  clear G1
  have RX := range_below RX Z
  go_wp2_with fail
  obtain ⟨C, hC⟩ : ∃ C : World → Prop, C = fun W => Below w1.heap.size w1 W := ⟨_, rfl⟩
  have FT : Hid (∀ W, C W → W.cell? ⟨bt, 0, none⟩ = some (.slice (some ⟨b, off, none⟩) n cap)) := fun W hW => by rw [hC] at hW; exact by rw [(BT.below hW BT.lt).cell]; rfl
  have FV : Hid (∀ W, C W → W.cell? ⟨gv, 1, none⟩ = some (.int .i64 (o : Int))) := fun W hW => by rw [hC] at hW; exact by rw [(BV.below hW BV.lt).cell]; rfl
  have FQ : Hid (∀ W, C W → W.rangeAt b (off + o * 32) (nums .u8 x)) := fun W hW => by rw [hC] at hW; exact range_below RX hW
  have F1 : Hid (∀ W, C W → Sh.Blk W g1 23 (nums .u8 (List.replicate 32 0))) := fun W hW => by rw [hC] at hW; exact B1.below hW B1.lt
  have CK : Hid (∀ W W', C W → Below W.heap.size W W' → C W') := fun W W' h1 h2 => by rw [hC] at h1 ⊢; exact h1.trans (h2.mono h1.size)
  have CA : Hid (∀ W W', C W → Below w1.heap.size W W' → C W') := fun W W' h1 h2 => by rw [hC] at h1 ⊢; exact h1.trans h2
  have CE : Hid (∀ W, C W → Below w1.heap.size w1 W) := fun W h => by rw [hC] at h; exact h
  have C0 : Hid (C { w1 with drawn := w1.drawn + 1 }) := by rw [hC]; exact Below.drew (Below.refl _ _)
  clear hC
  refine region_calm C 8 (by kernel_rfl) ?_
  have hCp : ∀ p : Prop, (∀ W, C W → p) ↔ p := fun p => ⟨fun h => h _ C0.out, fun h _ _ => h⟩
  generalize ({ w1 with drawn := w1.drawn + 1 } : World) = y0 at *
  refine seg 1 [0, 1, 2, 3, 4, 5, 6, 7] rfl (by kernel_rfl) whole_blind (C0.out) (by kernel_rfl) ?_
  change wpQuiet _ _ _ _ (_ :: _ :: _ :: _ :: _ :: _ :: _ :: _ :: []) _
  repeat (first
    | go_big_quiet_skip
    | (go_big_quiet_want
       first
       | (refine q_slc (.tmp 10) rfl bt 0 rfl (some ⟨b, off, none⟩) n cap FT.out ?_
          simp only [Act.put, List.setIfInBounds_toArray, List.set_cons_zero, List.set_cons_succ]
          go_big_quiet_on)
       | (refine q_int (.tmp 12) rfl gv 1 rfl (o : Int) FV.out ?_
          simp only [Act.put, List.setIfInBounds_toArray, List.set_cons_zero, List.set_cons_succ]
          go_big_quiet_on)
       | (refine q_load 23 (.tmp 14) rfl b (off + o * 32) rfl (nums .u8 x) _ FQ.out Tryz.underlying23 rfl (sH HX.out) ?_
          simp only [Act.put, List.setIfInBounds_toArray, List.set_cons_zero, List.set_cons_succ]
          go_big_quiet_on)
       | (go_big_quiet_op
          go_big_quiet_on)))
  refine wpQuiet_nil ?_
  refine lone_last (i := 8) 0 rfl rfl (by kernel_rfl) rfl (by rfl) ?_
  intro K hK
  refine oper_all 23 (.tmp 4) (.tmp 15) rfl g1 23 (nums .u8 (List.replicate 32 0)) (nums .u8 x) rfl rfl (F1.out _ C0.out) HL.out (sH HX.out) (nums_one _ _) ?_
  intro y1 B1 G1
  refine hK _ _ ?_
  clear hK K
  refine anyC_done (by kernel_rfl) ⟨rfl, ?_⟩
  simp only [Act.put]
  have ZZ : Below w.heap.size w y1 := by
    have z1 := Z.trans ((CE.out _ C0.out).mono Z.size)
    exact grown_below z1 G1 z1.size hg1
  clear C0 CK CA CE hCp G1
  go_wp2
  (try simp only [Exit.inBlock, Exit.then])
  refine bodyPost_ret (Sh.res_row rfl _ g1 23 _ _ rfl B1 Tryz.underlying23 rfl (sH HX.out)) rfl ⟨rfl, ZZ⟩
set_option maxHeartbeats 1000000 in
set_option maxRecDepth 8000 in
theorem whole_map (bt l o : Nat) (hl1 : 1 ≤ l) (hl : l ≤ 1000000000000000) (ho : o ≤ 1000000000000000) (x : List Nat) (hx : Hh x) (w : World) (v : Value) (mb n : Nat) (D : DataW Value) (BT : Sh.Blk w bt 125 [v, .map (some mb)]) (hm : w.ownsMap Tryz.prog 144 hR mb n D) (hb : Bears D l o x) :
    Calls Tryz.prog 99 #[.pointer (some ⟨bt, 0, none⟩), kv l o] w fun e w' => e = .returned (.agg (nums .u8 x).toArray) ∧ Below w.heap.size w w' := by
  have HBr : Hid (Bears D l o x) := hb
  have HX : Hid (Hh x) := hx
  have HL : Hid ((nums .u8 x).length = (nums .u8 (List.replicate 32 0)).length) := by show _ = _; rw [nums_length, nums_length, hx.1, List.length_replicate]
  clear hx
  go_enter Tryz.func99, Tryz.ntmps99
  unfold kv
  go_wp2_with (refine al_box rfl 144 (.tmp 1) rfl [.int .i64 (l : Int), .int .i64 (o : Int)] rfl ?_)
  intro gv wv lv BV GV
  have BT := BT.kept GV (by simp)
  have Z := (Below.refl w.heap.size w).grown GV (Nat.le_refl _) (by simp)
  clear GV
  go_wp2_with (refine Sh.al_zero rfl 23 rfl _ Sh.z25 ?_)
  intro g1 w1 l1 B1 G1
  have BT := BT.kept G1 (by simp)
  have BV := BV.kept G1 (by simp)
  have hg1 : w.heap.size ≤ g1 := Nat.le_trans Z.size l1
  have Z := Z.grown G1 Z.size (by simp)
  have c0 : w1.cell? ⟨gv, 0, none⟩ = some (.int .i64 (l : Int)) := by rw [BV.cell]; rfl
  clear G1
  have HM := hm.kept (below_grown Z) (by simp)
  have hne : ((l : Int) == 0) = false := by rw [beq_eq_false_iff_ne]; omega
  clear hb hm
  go_wp2_with fail
  obtain ⟨C, hC⟩ : ∃ C : World → Prop, C = fun W => Below w1.heap.size w1 W := ⟨_, rfl⟩
  have FT : Hid (∀ W, C W → W.cell? ⟨bt, 1, none⟩ = some (.map (some mb))) := fun W hW => by rw [hC] at hW; exact by rw [(BT.below hW BT.lt).cell]; rfl
  have FV : Hid (∀ W, C W → W.rangeAt gv 0 [.int .i64 (l : Int), .int .i64 (o : Int)]) := fun W hW => by rw [hC] at hW; exact (BV.below hW BV.lt).all
  have FM : Hid (∀ W, C W → (Instr.lookup 123 (.map (some mb)) (kv l o) false).run Tryz.prog W = .ok (.agg (nums .u8 x).toArray) W) := fun W hW => by rw [hC] at hW; exact HBr.out.look hl ho (HM.kept (below_grown hW) (by simp))
  have F1 : Hid (∀ W, C W → Sh.Blk W g1 23 (nums .u8 (List.replicate 32 0))) := fun W hW => by rw [hC] at hW; exact B1.below hW B1.lt
  have CK : Hid (∀ W W', C W → Below W.heap.size W W' → C W') := fun W W' h1 h2 => by rw [hC] at h1 ⊢; exact h1.trans (h2.mono h1.size)
  have CA : Hid (∀ W W', C W → Below w1.heap.size W W' → C W') := fun W W' h1 h2 => by rw [hC] at h1 ⊢; exact h1.trans h2
  have CE : Hid (∀ W, C W → Below w1.heap.size w1 W) := fun W h => by rw [hC] at h; exact h
  have C0 : Hid (C { w1 with drawn := w1.drawn + 1 }) := by rw [hC]; exact Below.drew (Below.refl _ _)
  clear hC
  refine region_calm C 6 (by kernel_rfl) ?_
  have hCp : ∀ p : Prop, (∀ W, C W → p) ↔ p := fun p => ⟨fun h => h _ C0.out, fun h _ _ => h⟩
  generalize ({ w1 with drawn := w1.drawn + 1 } : World) = y0 at *
  refine seg 2 [0, 1, 2, 3, 4] rfl (by kernel_rfl) whole_blind (C0.out) (by kernel_rfl) ?_
  change wpQuiet _ _ _ _ (_ :: _ :: _ :: _ :: _ :: []) _
  repeat (first
    | go_big_quiet_skip
    | (go_big_quiet_want
       first
       | (refine q_map (.tmp 18) rfl bt 1 rfl (some mb) FT.out ?_
          simp only [Act.put, List.setIfInBounds_toArray, List.set_cons_zero, List.set_cons_succ]
          go_big_quiet_on)
       | (refine q_load 144 (.tmp 3) rfl gv 0 rfl [.int .i64 (l : Int), .int .i64 (o : Int)] _ FV.out Tryz.underlying144 rfl (by kernel_rfl) ?_
          simp only [Act.put, List.setIfInBounds_toArray, List.set_cons_zero, List.set_cons_succ]
          go_big_quiet_on)
       | (go_big_quiet_op
          go_big_quiet_on)))
  refine wpQuiet_nil ?_
  refine lone_do (i := 5) 1 rfl (by kernel_rfl) rfl (by rfl) ?_
  intro K hK
  refine oper_look 123 (.tmp 19) (.tmp 20) rfl (some mb) (kv l o) rfl rfl _ (FM.out _ C0.out) ?_
  refine hK _ _ C0.out ?_
  clear hK K
  simp only [Act.put, List.setIfInBounds_toArray, List.set_cons_zero, List.set_cons_succ]
  refine lone_last (i := 6) 0 rfl rfl (by kernel_rfl) rfl (by rfl) ?_
  intro K hK
  refine oper_all 23 (.tmp 4) (.tmp 21) rfl g1 23 (nums .u8 (List.replicate 32 0)) (nums .u8 x) rfl rfl (F1.out _ C0.out) HL.out (sH HX.out) (nums_one _ _) ?_
  intro y1 B1 G1
  refine hK _ _ ?_
  clear hK K
  refine anyC_done (by kernel_rfl) ⟨rfl, ?_⟩
  simp only [Act.put]
  have ZZ : Below w.heap.size w y1 := by
    have z1 := Z.trans ((CE.out _ C0.out).mono Z.size)
    exact grown_below z1 G1 z1.size hg1
  clear C0 CK CA CE hCp G1
  go_wp2
  (try simp only [Exit.inBlock, Exit.then])
  refine bodyPost_ret (Sh.res_row rfl _ g1 23 _ _ rfl B1 Tryz.underlying23 rfl (sH HX.out)) rfl ⟨rfl, ZZ⟩
theorem twhole_any (bt l o : Nat) (hl : l ≤ 1000000000000000) (ho : o ≤ 1000000000000000) (x : List Nat) (hx : Hh x) (w : World) (h : Wh w bt l o x) :
    Calls Tryz.prog 99 #[.pointer (some ⟨bt, 0, none⟩), kv l o] w fun e w' => e = .returned (.agg (nums .u8 x).toArray) ∧ Below w.heap.size w w' := by
  rcases h with ⟨h0, b, off, n, cap, m, h1, h2, h3⟩ | ⟨h0, v, mb, n, D, h1, h2, h3⟩
  · exact whole_leaf bt l o h0 x hx w b off n cap m h1 h2 h3
  · exact whole_map bt l o h0 hl ho x hx w v mb n D h1 h2 h3
end Go.Proofs.YtlefdnjokppibaaGreatDoor.Mer
namespace Go.Proofs.YtlefdnjokppibaaGreatDoor.Mer
open Go Go.RowKit Go.Maps Sh
/-- all whole halves of a tree's leaves are there. -/
def AllW (w : World) (bt : Nat) (L : List (List Nat)) : Prop := ∀ l o, (o + 1) * 2 ^ l ≤ L.length → Wh w bt l o (Mk.R nd em (Mk.sg L (l, o)))
theorem AllW.below {w w' : World} {bt : Nat} {L : List (List Nat)} (h : AllW w bt L) (g : Below w.heap.size w w') : AllW w' bt L := fun l o ho => (h l o ho).below g
def sgd (L : List (List Nat)) (f d : Nat) : List (List Nat) := (L.drop f).take d
theorem sgd_hl {L : List (List Nat)} (h : Hl L) (f d : Nat) : Hl (sgd L f d) := (h.drop f).take d
set_option maxHeartbeats 2000000 in
set_option maxRecDepth 8000 in
theorem root_step (bt : Nat) (L : List (List Nat)) (hL : Hl L) (hlen : L.length ≤ 2000000) (w : World) (hW : AllW w bt L) (f d k p t : Nat) (hf : f = p * 2 ^ k) (hd1 : 2 ^ k ≤ d) (hd2 : d < 2 ^ (k + 1)) (ht : t = f + d) (hfd : t ≤ L.length)
    (kr : 2 ^ k < d → ∀ W, Below w.heap.size w W → Calls Tryz.prog 79 #[.pointer (some ⟨bt, 0, none⟩), .int .i64 ((f + 2 ^ k : Nat) : Int), .int .i64 (t : Int)] W fun e w' => e = .returned (.agg (nums .u8 (Mk.R nd em (sgd L (f + 2 ^ k) (d - 2 ^ k)))).toArray) ∧ Below W.heap.size W w') :
    Calls Tryz.prog 79 #[.pointer (some ⟨bt, 0, none⟩), .int .i64 (f : Int), .int .i64 (t : Int)] w fun e w' => e = .returned (.agg (nums .u8 (Mk.R nd em (sgd L f d))).toArray) ∧ Below w.heap.size w w' := by
  have hp0 := Mk.pow_pos2 k
  have hk : k ≤ 40 := by
    refine Nat.le_of_not_lt fun h => ?_
    have h2 := Nat.pow_le_pow_right (n := 2) (by decide) (Nat.le_of_lt h)
    omega
  have hp1 : p ≤ 2000000 := by have := Nat.le_mul_of_pos_right p hp0; omega
  obtain ⟨e1, he1⟩ : ∃ e1 : Nat, Hid (e1 = f + 2 ^ k) := ⟨_, rfl⟩
  have e1b : e1 ≤ 4000000 := by rw [he1.out]; omega
  have he2 : (p + 1) * 2 ^ k = e1 := by rw [he1.out, hf, Nat.add_mul, Nat.one_mul]
  have KE : Hid (∀ W, Calls Tryz.prog 101 #[.agg #[.int .i64 (k : Int), .int .i64 (p : Int)]] W fun e w' => e = .returned (.int .i64 (e1 : Int)) ∧ Below W.heap.size W w') := fun W => by
    have := end_any' k p (by omega) (by omega) (by rw [he2]; omega) W
    rw [he2] at this
    exact this
  have hpk : (p + 1) * 2 ^ k ≤ L.length := by rw [he2, he1.out]; omega
  obtain ⟨x, hx⟩ : ∃ x, Hid (x = Mk.R nd em (Mk.sg L (k, p))) := ⟨_, rfl⟩
  have hWk : Wh w bt k p x := by rw [hx.out]; exact hW k p hpk
  have HX : Hid (Hh x) := by show Hh x; rw [hx.out]; exact R_hh ((hL.drop _).take _)
  have hsub : (t : Int) - (f : Int) = (d : Int) := by omega
  have hwr : IntKind.u64.wrap (d : Int) = (d : Int) := by rw [IntKind.wrap_u64]; omega
  have hbl : Lib.bitLen d = k + 1 := bitLen_of hd1 hd2 (by omega)
  have hdiv : (f : Int) / 2 ^ k = (p : Int) := by
    have : f / 2 ^ k = p := by rw [hf, Nat.mul_div_cancel _ hp0]
    rw [← this]; simp
  have hkr : Hid (2 ^ k < d → ∀ W, Below w.heap.size w W → Calls Tryz.prog 79 #[.pointer (some ⟨bt, 0, none⟩), .int .i64 (e1 : Int), .int .i64 (t : Int)] W fun e w' => e = .returned (.agg (nums .u8 (Mk.R nd em (sgd L (f + 2 ^ k) (d - 2 ^ k)))).toArray) ∧ Below W.heap.size W w') := by
    intro h; rw [he1.out]; exact kr h
  have hsg : Hid (x = Mk.R nd em (sgd L f (2 ^ k))) := by show _ = _; rw [hx.out, hf]; rfl
  obtain ⟨ans, hans⟩ : ∃ ans, Hid (ans = Mk.R nd em (sgd L f d)) := ⟨_, rfl⟩
  have HS : Hid (2 ^ k < d → ans = nd x (Mk.R nd em (sgd L (f + 2 ^ k) (d - 2 ^ k)))) := fun h => by
    have hl : (sgd L f d).length = d := by unfold sgd; rw [List.length_take, List.length_drop]; omega
    rw [hans.out, Mk.R_split nd em (T := k) (by rw [hl]; exact h) (by rw [hl]; omega), hsg.out]
    unfold sgd
    rw [List.take_take, Nat.min_eq_left (by omega), List.drop_take, List.drop_drop]
  have HD : Hid (2 ^ k ≤ d) := hd1
  have HT : Hid (t = f + d) := ht
  have HL' : Hid (Hl L) := hL
  rw [← hans.out]
  clear hf hd1 hd2 ht kr hL hW hpk he2 hp0
  go_enter Tryz.func79, Tryz.ntmps79
  go_wp2_with (refine Sh.al_zero rfl 23 rfl _ Sh.z25 ?_)
  intro g1 w1 l1 B1 G1
  have Z := (Below.refl w.heap.size w).grown G1 (Nat.le_refl _) (by simp)
  clear G1
  go_wp2_with fail
  have KL := len_any d (by omega) w1
  rw [hbl] at KL
  refine KL.mono ?_
  rintro e w1' ⟨rfl, hw1⟩
  rw [hw1]
  clear hw1 w1' KL hbl
  go_wp2_with fail
  obtain ⟨w2, HW2, G2⟩ : ∃ w2, w1.alloc (Obj.cells #[.int .i64 (k : Int), .int .i64 (p : Int)] 144) = w2 ∧ Hid (Below w1.heap.size w1 w2 ∧ Sh.Blk w2 w1.heap.size 144 [.int .i64 (k : Int), .int .i64 (p : Int)]) := ⟨_, rfl, (Below.refl _ _).alloc (Nat.le_refl _) _, Sh.blk_new w1 _ _⟩
  rw [HW2]
  clear HW2
  have BV := G2.out.2
  have B1 := B1.below G2.out.1 B1.lt
  have Z := Z.trans (G2.out.1.mono Z.size)
  obtain ⟨gv, hgv⟩ : ∃ gv, w1.heap.size = gv := ⟨_, rfl⟩
  rw [hgv] at BV ⊢
  clear G2 hgv
  refine (KE.out w2).mono ?_
  rintro e w3 ⟨rfl, Z3⟩
  have BV := BV.below Z3 BV.lt
  have B1 := B1.below Z3 B1.lt
  have Z := Z.trans (Z3.mono Z.size)
  have HW3 := hWk.below Z
  clear Z3 hWk
  by_cases hd : d = 2 ^ k
  · have heq : ((e1 : Int) == (t : Int)) = true := by rw [beq_iff_eq]; have := he1.out; have := HT.out; omega
    have ha : ans = x := by rw [hans.out, hsg.out, hd]
    subst ha
    clear hd
    go_wp2_with (refine ld_mid rfl 144 (.tmp 8) rfl gv 0 rfl [.int .i64 (k : Int), .int .i64 (p : Int)] _ BV.all Tryz.underlying144 rfl (by kernel_rfl) ?_)
    refine (twhole_any bt k p (by omega) (by omega) ans HX.out w3 HW3).mono ?_
    rintro e w4 ⟨rfl, Z4⟩
    have B1 := B1.below Z4 B1.lt
    have Z := Z.trans (Z4.mono Z.size)
    have HNl : Hid ((nums .u8 ans).length = (nums .u8 (List.replicate 32 0)).length) := by show _ = _; rw [nums_length, nums_length, HX.out.1, List.length_replicate]
    have HNs : Hid ((Tryz.prog.info? 23).map (·.size) = some (nums .u8 ans).length) := sH HX.out
    clear Z4 HW3 BV
    go_wp2_with (refine Sh.st_all rfl 23 (.tmp 6) (.tmp 26) rfl g1 23 (nums .u8 (List.replicate 32 0)) (nums .u8 ans) rfl rfl B1 HNl.out HNs.out (nums_one _ _) ?_)
    intro w5 B5 G5
    go_wp2
    (try simp only [Exit.inBlock, Exit.then])
    refine bodyPost_ret (Sh.res_row rfl _ g1 23 _ _ rfl B5 Tryz.underlying23 rfl HNs.out) rfl ⟨rfl, grown_below Z G5 Z.size l1⟩
  · have hne : ((e1 : Int) == (t : Int)) = false := by rw [beq_eq_false_iff_ne]; have := he1.out; have := HT.out; omega
    have hlt : 2 ^ k < d := by have := HD.out; omega
    obtain ⟨y, hy⟩ : ∃ y, Hid (y = Mk.R nd em (sgd L (f + 2 ^ k) (d - 2 ^ k))) := ⟨_, rfl⟩
    have HY : Hid (Hh y) := by show Hh y; rw [hy.out]; exact R_hh (sgd_hl HL'.out _ _)
    have ha : ans = nd x y := by rw [HS.out hlt, hy.out]
    subst ha
    have KR : Hid (∀ W, Below w.heap.size w W → Calls Tryz.prog 79 #[.pointer (some ⟨bt, 0, none⟩), .int .i64 (e1 : Int), .int .i64 (t : Int)] W fun e w' => e = .returned (.agg (nums .u8 y).toArray) ∧ Below W.heap.size W w') := by
      have := hkr.out hlt
      rw [← hy.out] at this
      exact this
    clear hd hlt hkr HS hans hsg
    go_wp2_with fail
    obtain ⟨C, hC⟩ : ∃ C : World → Prop, C = fun W => Below w3.heap.size w3 W := ⟨_, rfl⟩
    have FV : Hid (∀ W, C W → W.rangeAt gv 0 [.int .i64 (k : Int), .int .i64 (p : Int)]) := fun W hW => by rw [hC] at hW; exact (BV.below hW BV.lt).all
    have FW : Hid (∀ W, C W → Wh W bt k p x) := fun W hW => by rw [hC] at hW; exact HW3.below hW
    have FB : Hid (∀ W, C W → Below w.heap.size w W) := fun W hW => by rw [hC] at hW; exact Z.trans (hW.mono Z.size)
    have F1 : Hid (∀ W, C W → Sh.Blk W g1 23 (nums .u8 (List.replicate 32 0))) := fun W hW => by rw [hC] at hW; exact B1.below hW B1.lt
    have CK : Hid (∀ W W', C W → Below W.heap.size W W' → C W') := fun W W' h1 h2 => by rw [hC] at h1 ⊢; exact h1.trans (h2.mono h1.size)
    have CA : Hid (∀ W W', C W → Below w3.heap.size W W' → C W') := fun W W' h1 h2 => by rw [hC] at h1 ⊢; exact h1.trans h2
    have CE : Hid (∀ W, C W → Below w3.heap.size w3 W) := fun W h => by rw [hC] at h; exact h
    have C0 : Hid (C { w3 with drawn := w3.drawn + 1 }) := by rw [hC]; exact Below.drew (Below.refl _ _)
    clear hC
    refine region_calm C 9 (by kernel_rfl) ?_
    have hCp : ∀ p : Prop, (∀ W, C W → p) ↔ p := fun p => ⟨fun h => h _ C0.out, fun h _ _ => h⟩
    generalize ({ w3 with drawn := w3.drawn + 1 } : World) = y0 at *
    refine seg 5 [0, 1, 3, 4, 6] rfl (by kernel_rfl) whole_blind (C0.out) (by kernel_rfl) ?_
    change wpQuiet _ _ _ _ (_ :: _ :: _ :: _ :: _ :: []) _
    repeat (first
      | go_big_quiet_skip
      | (go_big_quiet_want
         first
         | (refine q_load 144 (.tmp 8) rfl gv 0 rfl [.int .i64 (k : Int), .int .i64 (p : Int)] _ FV.out Tryz.underlying144 rfl (by kernel_rfl) ?_
            simp only [Act.put, List.setIfInBounds_toArray, List.set_cons_zero, List.set_cons_succ]
            go_big_quiet_on)
         | (go_big_quiet_op
            go_big_quiet_on)))
    refine wpQuiet_nil ?_
    refine lone_do (i := 2) 4 rfl (by kernel_rfl) rfl (by rfl) ?_
    intro K hK
    refine oper_calls 99 _ _ rfl #[.pointer (some ⟨bt, 0, none⟩), .agg #[.int .i64 (k : Int), .int .i64 (p : Int)]] (by rw [List.map_toArray]; rfl) (enters Tryz.func99 (by kernel_rfl) rfl) (fun v w' => v = .agg (nums .u8 x).toArray ∧ Below y0.heap.size y0 w') ((twhole_any bt k p (by omega) (by omega) x HX.out y0 (FW.out _ C0.out)).mono (by rintro e w' ⟨rfl, g⟩; exact ⟨_, rfl, rfl, g⟩)) ?_
    rintro v y1 ⟨rfl, Z1⟩
    have C1 : Hid (C y1) := CK.out _ _ C0.out Z1
    clear Z1
    refine hK _ _ (C1.out) ?_
    clear hK K
    simp only [Act.put, List.setIfInBounds_toArray, List.set_cons_zero, List.set_cons_succ]
    refine lone_do (i := 5) 3 rfl (by kernel_rfl) rfl (by rfl) ?_
    intro K hK
    refine oper_calls 101 _ _ rfl #[.agg #[.int .i64 (k : Int), .int .i64 (p : Int)]] (by rw [List.map_toArray]; rfl) (enters Tryz.func101 (by kernel_rfl) rfl) (fun v w' => v = .int .i64 (e1 : Int) ∧ Below y1.heap.size y1 w') ((KE.out y1).mono (by rintro e w' ⟨rfl, g⟩; exact ⟨_, rfl, rfl, g⟩)) ?_
    rintro v y2 ⟨rfl, Z2⟩
    have C2 : Hid (C y2) := CK.out _ _ C1.out Z2
    clear Z2
    refine hK _ _ (C2.out) ?_
    clear hK K
    simp only [Act.put, List.setIfInBounds_toArray, List.set_cons_zero, List.set_cons_succ]
    refine lone_do (i := 7) 2 rfl (by kernel_rfl) rfl (by rfl) ?_
    intro K hK
    refine oper_calls 79 _ _ rfl #[.pointer (some ⟨bt, 0, none⟩), .int .i64 (e1 : Int), .int .i64 (t : Int)] (by rw [List.map_toArray]; rfl) (enters Tryz.func79 (by kernel_rfl) rfl) (fun v w' => v = .agg (nums .u8 y).toArray ∧ Below y2.heap.size y2 w') ((KR.out y2 (FB.out _ C2.out)).mono (by rintro e w' ⟨rfl, g⟩; exact ⟨_, rfl, rfl, g⟩)) ?_
    rintro v y3 ⟨rfl, Z3⟩
    have C3 : Hid (C y3) := CK.out _ _ C2.out Z3
    clear Z3
    refine hK _ _ (C3.out) ?_
    clear hK K
    simp only [Act.put, List.setIfInBounds_toArray, List.set_cons_zero, List.set_cons_succ]
    refine lone_do (i := 8) 1 rfl (by kernel_rfl) rfl (by rfl) ?_
    intro K hK
    refine oper_calls 47 _ _ rfl #[.agg (nums .u8 x).toArray, .agg (nums .u8 y).toArray] (by rw [List.map_toArray]; rfl) (enters Tryz.func47 (by kernel_rfl) rfl) (fun v w' => v = .agg (nums .u8 (nd x y)).toArray ∧ Below y3.heap.size y3 w') ((node_any x y HX.out.1 HY.out.1 HX.out.2 HY.out.2 y3).mono (by rintro e w' ⟨rfl, g⟩; exact ⟨_, rfl, rfl, g⟩)) ?_
    rintro v y4 ⟨rfl, Z4⟩
    have C4 : Hid (C y4) := CK.out _ _ C3.out Z4
    clear Z4
    refine hK _ _ (C4.out) ?_
    clear hK K
    simp only [Act.put, List.setIfInBounds_toArray, List.set_cons_zero, List.set_cons_succ]
    refine lone_last (i := 9) 0 rfl rfl (by kernel_rfl) rfl (by rfl) ?_
    intro K hK
    refine oper_all 23 (.tmp 6) (.tmp 35) rfl g1 23 (nums .u8 (List.replicate 32 0)) (nums .u8 (nd x y)) rfl rfl (F1.out _ C4.out) (by rw [nums_length, nums_length, (nd_hh x y).1, List.length_replicate]) (sH (nd_hh x y)) (nums_one _ _) ?_
    intro y5 B5 G5
    refine hK _ _ ?_
    clear hK K
    refine anyC_done (by kernel_rfl) ⟨rfl, ?_⟩
    simp only [Act.put]
    have Z := Z.trans ((CE.out _ C4.out).mono Z.size)
    clear C0 C1 C2 C3 C4 CK CA CE FV FW FB F1 hCp
    go_wp2
    (try simp only [Exit.inBlock, Exit.then])
    refine bodyPost_ret (Sh.res_row rfl _ g1 23 _ _ rfl B5 Tryz.underlying23 rfl (sH (nd_hh x y))) rfl ⟨rfl, grown_below Z G5 Z.size l1⟩
theorem root_all (bt : Nat) (L : List (List Nat)) (hL : Hl L) (hlen : L.length ≤ 2000000) : ∀ (N lv o d : Nat) (w : World), lv < N → AllW w bt L → 1 ≤ d → d ≤ 2 ^ lv → o * 2 ^ lv + d ≤ L.length →
    Calls Tryz.prog 79 #[.pointer (some ⟨bt, 0, none⟩), .int .i64 ((o * 2 ^ lv : Nat) : Int), .int .i64 ((o * 2 ^ lv + d : Nat) : Int)] w fun e w' => e = .returned (.agg (nums .u8 (Mk.R nd em (sgd L (o * 2 ^ lv) d))).toArray) ∧ Below w.heap.size w w'
  | 0, lv, _, _, _, h, _, _, _, _ => by omega
  | N + 1, lv, o, d, w, h, hW, h1, h2, h3 => by
    have a := Nat.log2_self_le (n := d) (by omega)
    have b := Nat.lt_log2_self (n := d)
    obtain ⟨k, hk⟩ : ∃ k, Nat.log2 d = k := ⟨_, rfl⟩
    rw [hk] at a b
    have hkl : k ≤ lv := by
      refine Nat.le_of_not_lt fun hc => ?_
      have := Nat.pow_lt_pow_right (a := 2) (by decide) hc
      omega
    have e : o * 2 ^ lv = o * 2 ^ (lv - k) * 2 ^ k := by rw [Nat.mul_assoc, ← Nat.pow_add]; congr 2; omega
    refine root_step bt L hL hlen w hW (o * 2 ^ lv) d k (o * 2 ^ (lv - k)) _ e a b rfl h3 fun hlt W hB => ?_
    have hkl2 : k < lv := by
      rcases Nat.lt_or_eq_of_le hkl with hc | hc
      · exact hc
      · rw [hc] at hlt; omega
    have hk1 : 2 ^ (k + 1) = 2 ^ k + 2 ^ k := by rw [Nat.pow_succ]; omega
    have ih := root_all bt L hL hlen N k (o * 2 ^ (lv - k) + 1) (d - 2 ^ k) W (by omega) (hW.below hB) (by omega) (by omega) (by rw [Nat.add_mul, Nat.one_mul, ← e]; omega)
    rw [Nat.add_mul, Nat.one_mul, ← e, show o * 2 ^ lv + 2 ^ k + (d - 2 ^ k) = o * 2 ^ lv + d by omega] at ih
    exact ih
end Go.Proofs.YtlefdnjokppibaaGreatDoor.Mer
namespace Go.Proofs.YtlefdnjokppibaaGreatDoor.Mer
open Go.RowKit Sh
end Go.Proofs.YtlefdnjokppibaaGreatDoor.Mer
namespace Go.Proofs.YtlefdnjokppibaaGreatDoor.Mer
open Go Go.RowKit Sh
/-- where a part of a slice of digests begins. -/
def lo (a : Option Addr) (cap k : Nat) : Option Addr := if cap = k then a else a.map (·.add (k * 32))
section
variable {o : Oper} {a : Act} {w : World} {K : Act → World → Prop} {Q : Exit → Act → World → Prop}
end
end Go.Proofs.YtlefdnjokppibaaGreatDoor.Mer
namespace Go.Proofs.YtlefdnjokppibaaGreatDoor.Mer
open Go.RowKit Sh
end Go.Proofs.YtlefdnjokppibaaGreatDoor.Mer
namespace Go.Proofs.YtlefdnjokppibaaGreatDoor.Sh
open Go.RowKit Mt
end Go.Proofs.YtlefdnjokppibaaGreatDoor.Sh
namespace Go.Proofs.YtlefdnjokppibaaGreatDoor.Sh
open Go.RowKit Mt
end Go.Proofs.YtlefdnjokppibaaGreatDoor.Sh
namespace Go.Proofs.YtlefdnjokppibaaGreatDoor.Mer
open Go Go.RowKit Sh
section
variable {C : World → Prop} {z : Nat} {Q : Exit → Act → World → Prop}
def firstL (ops : Array Oper) (z : Nat) (listed : Array Bool) (i : Nat) : Bool := lastOn ops z i && ((Region.ready .any ops listed).contains i && Region.free .any ops listed i)
end
end Go.Proofs.YtlefdnjokppibaaGreatDoor.Mer
