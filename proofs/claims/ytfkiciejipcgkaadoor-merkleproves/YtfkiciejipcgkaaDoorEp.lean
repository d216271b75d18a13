/-
  Maps by halves: keys, what a map of roots holds; and the roots of halves over lists.
-/
import Derived.Test.YtfkiciejipcgkaaDoorEi
import Derived.Maps.Own
import Derived.Maps.Views
import Derived.DeepKeys4
namespace Go.Proofs.YtfkiciejipcgkaaDoor
open Go Go.RowKit Go.Maps Sh
def kv (l o : Nat) : Value := .agg #[.int .i64 (l : Int), .int .i64 (o : Int)]
theorem laidOut : laidOutB Tryd.prog = true := by kernel_rfl
theorem half_row : (54 : TypeId) < Tryd.prog.types.size := of_decide_eq_true (by kernel_rfl)
theorem half_wide : (match Tryd.prog.underlying 54 with | some (.array _ _) | some (.struct _) => true | _ => false) = true := by rw [Tryd.underlying54]
theorem half_keyed : Keyed Tryd.prog 54 := Keyed.of_law (deep_law_laid laidOut (m := 2) (by omega) half_row (by kernel_rfl) half_wide)
theorem key_some (l o : Nat) (hl : l ≤ 1000000000000000) (ho : o ≤ 1000000000000000) : ∃ kl, keyOf Tryd.prog 54 (kv l o) = some kl := by
  have hk : Tryd.prog.keyType 54 = true := by kernel_rfl
  have hf : (kv l o).formed Tryd.prog 54 = true := by
    unfold kv Value.formed
    rw [Tryd.underlying54]
    simp only [List.size_toArray, List.length_cons, List.length_nil]
    kernel_rfl
  have h1 : ∀ (d n : Nat), n ≤ 1000000000000000 → Tryd.prog.keyLits (d + 1) 3 [.int .i64 (n : Int)] = some [.int .i64 (n : Int)] := fun d n hn => by
    unfold Program.keyLits
    simp only [Tryd.underlying3]
    exact if_pos ⟨trivial, by simp [Lit.wf, IntKind.min, IntKind.max, IntKind.signed, IntKind.bits]; omega⟩
  have hc : Tryd.prog.cellsOf 54 = 2 := by kernel_rfl
  have hc3 : Tryd.prog.cellsOf 3 = 1 := by kernel_rfl
  obtain ⟨d, hd⟩ : ∃ d, Tryd.prog.types.size = d + 1 := ⟨Tryd.prog.types.size - 1, (Nat.succ_pred_eq_of_pos (Nat.lt_of_le_of_lt (Nat.zero_le _) half_row)).symm⟩
  have h2 : Tryd.prog.keyLits (Tryd.prog.types.size + 1) 54 (kv l o).cells.toList = some [.int .i64 (l : Int), .int .i64 (o : Int)] := by
    rw [hd]
    unfold Program.keyLits
    simp only [Tryd.underlying54]
    show (if [Value.int .i64 (l : Int), .int .i64 (o : Int)].length = Tryd.prog.cellsOf 54 then _ else none) = _
    rw [if_pos (by rw [hc]; rfl)]
    simp only [hc3]
    simp [List.range_succ, kv, Value.cells, h1 d l hl, h1 d o ho]
  have h3 : keyOf Tryd.prog 54 (kv l o) = some (.string (keyBytes [.int .i64 (l : Int), .int .i64 (o : Int)])) := by
    unfold keyOf
    rw [Tryd.underlying54]
    simp only [hk, hf, Bool.and_self, if_true, h2, Option.map_some]
  exact ⟨_, h3⟩
theorem kv_inj {l o l' o' : Nat} (h : kv l o = kv l' o') : l = l' ∧ o = o' := by
  unfold kv at h
  simp at h
  omega
/-- how an element of the map reads. -/
def hR (v : Value) : Option (DataW Value × List MemPlace) := some (.held v, [])
def zv : Value := .agg (nums .u8 (List.replicate 32 0)).toArray
theorem zv_run (w : World) : (zeroValue 30).run Tryd.prog w = .ok zv w := Tryd.zeroValue30 w
/-- the map bears x at a half. -/
def Bears (D : DataW Value) (l o : Nat) (x : List Nat) : Prop := ∀ kl, keyOf Tryd.prog 54 (kv l o) = some kl → D.atKey kl (.held zv) = .held (.agg (nums .u8 x).toArray)
theorem Bears.look {D : DataW Value} {l o n mb : Nat} {x : List Nat} {w : World} (h : Bears D l o x) (hl : l ≤ 1000000000000000) (ho : o ≤ 1000000000000000) (hm : w.ownsMap Tryd.prog 54 hR mb n D) : (Instr.lookup 60 (.map (some mb)) (kv l o) false).run Tryd.prog w = .ok (.agg (nums .u8 x).toArray) w := by
  obtain ⟨kl, hk⟩ := key_some l o hl ho
  obtain ⟨v, ps, hrun, hv⟩ := hm.lookup half_keyed Tryd.underlying60 (zv_run w) (zd := .held zv) (zp := []) rfl hk
  rw [h kl hk] at hv
  have hv' : some (DataW.held v, ([] : List MemPlace)) = some (DataW.held (.agg (nums .u8 x).toArray), ps) := hv
  injection hv' with e
  injection e with e1 e2
  injection e1 with e1
  rw [hrun, e1]
theorem Bears.put_same {D : DataW Value} {l o : Nat} {x : List Nat} {kl : Lit} (hD : IsMap D) (hk : keyOf Tryd.prog 54 (kv l o) = some kl) : Bears (D.put kl (.held (.agg (nums .u8 x).toArray))) l o x := fun kl' hk' => by
  rw [hk] at hk'
  injection hk' with e
  subst e
  exact atKey_put_same hD (half_keyed.key hk) _ _
theorem Bears.put_other {D : DataW Value} {l o l' o' : Nat} {x : List Nat} {d : DataW Value} {kl : Lit} (h : Bears D l' o' x) (hk : keyOf Tryd.prog 54 (kv l o) = some kl) (hne : ¬ (l' = l ∧ o' = o)) : Bears (D.put kl d) l' o' x := fun kl' hk' => by
  rw [atKey_put_other]
  · exact h kl' hk'
  · rintro rfl
    exact hne (kv_inj (half_keyed.inj hk' hk))
theorem isMap_put {D : DataW Value} {kl : Lit} {d : DataW Value} (h : IsMap D) : IsMap (D.put kl d) := by
  obtain ⟨es, rfl⟩ := h
  exact ⟨_, rfl⟩
/-- a map bears the root of each whole half of leaves. -/
def MOK (D : DataW Value) (L : List (List Nat)) : Prop := ∀ l o, 1 ≤ l → (o + 1) * 2 ^ l ≤ L.length → Bears D l o (Mk.R nd em (Mk.sg L (l, o)))
theorem sg_two (L : List (List Nat)) (j o : Nat) (h : (o + 1) * 2 ^ (j + 1) ≤ L.length) : Mk.R nd em (Mk.sg L (j + 1, o)) = nd (Mk.R nd em (Mk.sg L (j, 2 * o))) (Mk.R nd em (Mk.sg L (j, 2 * o + 1))) := by
  have hp := Mk.pow_pos2 j
  have e : 2 ^ (j + 1) = 2 * 2 ^ j := by rw [Nat.pow_succ, Nat.mul_comm]
  have e1 : (o + 1) * 2 ^ (j + 1) = o * 2 ^ (j + 1) + 2 ^ (j + 1) := by rw [Nat.add_mul, Nat.one_mul]
  have hl : (Mk.sg L (j + 1, o)).length = 2 ^ (j + 1) := by unfold Mk.sg; rw [List.length_take, List.length_drop]; simp only; omega
  rw [Mk.R_split nd em (T := j) (by rw [hl, e]; omega) (by rw [hl]; exact Nat.le_refl _)]
  have a1 : (Mk.sg L (j + 1, o)).take (2 ^ j) = Mk.sg L (j, 2 * o) := by
    unfold Mk.sg
    simp only
    rw [List.take_take, Nat.min_eq_left (by omega), e, show o * (2 * 2 ^ j) = 2 * o * 2 ^ j by rw [← Nat.mul_assoc, Nat.mul_comm o 2]]
  have a2 : (Mk.sg L (j + 1, o)).drop (2 ^ j) = Mk.sg L (j, 2 * o + 1) := by
    unfold Mk.sg
    simp only
    rw [List.drop_take, List.drop_drop, e, show 2 * 2 ^ j - 2 ^ j = 2 ^ j by omega, show o * (2 * 2 ^ j) + 2 ^ j = (2 * o + 1) * 2 ^ j by rw [Nat.add_mul, Nat.one_mul, ← Nat.mul_assoc, Nat.mul_comm o 2]]
  rw [a1, a2]
theorem sg_app (L M : List (List Nat)) (l o : Nat) (h : (o + 1) * 2 ^ l ≤ L.length) : Mk.sg (L ++ M) (l, o) = Mk.sg L (l, o) := by
  unfold Mk.sg
  simp only
  rw [Nat.add_mul, Nat.one_mul] at h
  generalize 2 ^ l = p at *
  rw [List.drop_append_of_le_length (by omega), List.take_append_of_le_length (by rw [List.length_drop]; omega)]
theorem sg_leaf (L : List (List Nat)) (o : Nat) (x : List Nat) (h : L[o]? = some x) : Mk.R nd em (Mk.sg L (0, o)) = x := by
  unfold Mk.sg
  obtain ⟨h1, h2⟩ := List.getElem?_eq_some_iff.1 h
  simp only [Nat.pow_zero, Nat.mul_one]
  rw [List.take_one, List.head?_drop, h]
  exact Mk.R_one nd em x
theorem R_hh {L : List (List Nat)} (hL : Hl L) : Hh (Mk.R nd em L) := by
  match hm : L with
  | [] => exact em_hh
  | [x] => rw [Mk.R_one]; exact hL x (by simp)
  | x :: y :: r =>
    obtain ⟨T, a, b⟩ := Mk.two_exists (x :: y :: r).length (by simp)
    rw [Mk.R_split nd em a b]
    exact nd_hh _ _
end Go.Proofs.YtfkiciejipcgkaaDoor
