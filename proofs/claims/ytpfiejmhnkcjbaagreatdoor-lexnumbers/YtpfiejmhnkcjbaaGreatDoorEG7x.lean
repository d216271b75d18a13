/-
  Regions that draw: one of several operations comes up; what each kind of operation does. · Appending, as an operation of a region. · codec's appendValue at decimals. · codec's appendKids. · The document's lex: classes of bytes. · The document's lex: words, signs. · The document's lex: signs. · The document's lex: small letters. · The document's lex: numbers.
-/
import Derived.Test.YtpfiejmhnkcjbaaGreatDoorEG6x
import Derived.Test.YtpfiejmhnkcjbaaGreatDoorEG1x
import Derived.Test.YtpfiejmhnkcjbaaGreatDoorEG3x
import Derived.Laws.BytesArg
import Derived.Laws.IdiomStrings
namespace Go.Proofs.YtpfiejmhnkcjbaaGreatDoor
open Go Go.RowKit
set_option linter.unusedVariables false
section
variable {P : Program} {C : World → Prop} {z : Nat} {Q : Exit → Act → World → Prop}
end
section
variable {o : Oper} {a : Act} {w : World} {K : Act → World → Prop} {Q : Exit → Act → World → Prop}
end
end Go.Proofs.YtpfiejmhnkcjbaaGreatDoor
namespace Go.Proofs.YtpfiejmhnkcjbaaGreatDoor
open Go.RowKit Math
set_option linter.unusedVariables false
end Go.Proofs.YtpfiejmhnkcjbaaGreatDoor
namespace Go.Proofs.YtpfiejmhnkcjbaaGreatDoor
open Go.RowKit Math
set_option linter.unusedVariables false
end Go.Proofs.YtpfiejmhnkcjbaaGreatDoor
namespace Go.Proofs.YtpfiejmhnkcjbaaGreatDoor
open Go.RowKit Math
set_option linter.unusedVariables false
theorem al_zero {P : Program} {ops : Array Oper} {rest : List Oper} {o : Oper} {a : Act} {w : World} {Q : Exit → Act → World → Prop} (hg : o.guard = none) (t : TypeId) (ho : o.op = .alloc t) (cs : List Value) (hz : (P.info? t).map (fun i => i.zero.map (·.cells)) = some (some cs.toArray))
    (h : ∀ g w', w.heap.size ≤ g → Blk w' g t cs → w.grownBy w' none → wpList P ops Q rest (a.put o.dst (.pointer (some ⟨g, 0, none⟩))) w') : wpList P ops Q (o :: rest) a w := by
  refine wpList_plain hg fun K hK => ?_
  unfold Oper.wp execOp
  cases hi : P.info? t with
  | none => simp [hi] at hz
  | some i =>
    cases hq : i.zero with
    | none => simp [hi, hq] at hz
    | some z =>
      have hc : z.cells = cs.toArray := by simpa [hi, hq] using hz
      have hzv : (zeroValue t).run P w = .ok z w := by simp [zeroValue, typeInfo, hi, hq]
      simp only [ho, Sem.run_bind, Instr.alloc, hzv, newVar, newRow, run_newObj_alloc, Sem.run_pure, Result.andThen_ok, hc]
      exact hK _ _ (h _ _ (Nat.le_refl _) (blk_new w t cs) (World.grownBy_alloc w _ none))
theorem z25 : (Tryz.prog.info? 41).map (fun i => i.zero.map (·.cells)) = some (some zer.toArray) := by kernel_rfl
theorem below_new {w w1 w2 : World} {g : Nat} (h1 : w.grownBy w1 none) (hg : w.heap.size ≤ g) (h2 : w1.grownBy w2 (some g)) : Below w.heap.size w w2 := by
  have b1 : Below w.heap.size w w1 := (Below.refl _ _).grown h1 (Nat.le_refl _) (fun k e => by cases e)
  exact b1.grown h2 h1.size (fun k e => by injection e with e; omega)
end Go.Proofs.YtpfiejmhnkcjbaaGreatDoor
namespace Go.Proofs.YtpfiejmhnkcjbaaGreatDoor
open Go.RowKit Lx
set_option linter.unusedVariables false
set_option linter.unusedSimpArgs false
theorem bgetL (s : ByteArray) (k : Nat) (h : k < s.size) : (bts s).getD k 0 = (s[k]'h).toNat := by
  unfold bts
  rw [List.getD_eq_getElem?_getD, List.getElem?_map]
  have : s.data.toList[k]? = some (s[k]'h) := by
    rw [Array.getElem?_toList, Array.getElem?_eq_getElem (by exact h)]
    rfl
  rw [this]
  rfl
theorem idxL (s : ByteArray) (k : Nat) (h : k < s.size) (w : World) : (Instr.index 9 (.string s) (.int .i64 (k : Int))).run Tryz.prog w = .ok (.int .u8 (((bts s).getD k 0 : Nat) : Int)) w := by
  have e3 : s[k]? = some (s[k]'h) := by simp [h]
  rw [bgetL s k h]
  simp [Instr.index, asIntOf, run_underlying Tryz.underlying9, e3]
theorem oct_getD (s : ByteArray) (k : Nat) : (bts s).getD k 0 < 256 := by
  rw [List.getD_eq_getElem?_getD]
  cases h : (bts s)[k]? with
  | none => simp
  | some x => exact bts_oct s x (List.mem_of_getElem? h)
theorem bts_midL (s : ByteArray) (i n : Nat) (h : i + n ≤ s.size) : bts (s.extract i (i + n)) = ((bts s).drop i).take n := by
  unfold bts
  rw [ByteArray.data_extract, Array.toList_extract, List.extract_eq_take_drop, List.map_take, List.map_drop, show i + n - i = n by omega]
theorem bts_dropL (s : ByteArray) (i : Nat) (h : i < s.size) : (bts s).drop i = (bts s).getD i 0 :: (bts s).drop (i + 1) := by
  rw [List.drop_eq_getElem_cons (by rw [bts_len]; exact h)]
  congr 1
  rw [List.getD_eq_getElem?_getD, List.getElem?_eq_getElem (by rw [bts_len]; exact h)]
  rfl
end Go.Proofs.YtpfiejmhnkcjbaaGreatDoor
namespace Go.Proofs.YtpfiejmhnkcjbaaGreatDoor
open Go.RowKit Lx
set_option linter.unusedVariables false
set_option linter.unusedSimpArgs false
/-! ### signs -/
end Go.Proofs.YtpfiejmhnkcjbaaGreatDoor
namespace Go.Proofs.YtpfiejmhnkcjbaaGreatDoor
open Go.RowKit Lx
set_option linter.unusedVariables false
set_option linter.unusedSimpArgs false
end Go.Proofs.YtpfiejmhnkcjbaaGreatDoor
namespace Go.Proofs.YtpfiejmhnkcjbaaGreatDoor
open Go.RowKit Lx
set_option linter.unusedVariables false
set_option linter.unusedSimpArgs false
theorem sml_oct {L : List Nat} (h : ∀ x ∈ L, x < 256) : ∀ x ∈ sml L, x < 256 := fun x hx => by
  obtain ⟨y, hy, rfl⟩ := List.mem_map.1 hx
  have := h y hy
  show (if 65 ≤ y ∧ y ≤ 90 then y + 32 else y) < 256
  split <;> omega
end Go.Proofs.YtpfiejmhnkcjbaaGreatDoor
namespace Go.Proofs.YtpfiejmhnkcjbaaGreatDoor
open Go.RowKit Lx
set_option linter.unusedVariables false
set_option linter.unusedSimpArgs false
theorem tw_at {f : Nat → Bool} : ∀ (r : List Nat) (k : Nat), k ≤ (r.takeWhile f).length → (k < (r.takeWhile f).length ↔ ∃ c, r[k]? = some c ∧ f c = true)
  | [], k, h => by simp
  | c :: r, k, h => by
    rw [List.takeWhile_cons] at h ⊢
    split at h
    · rename_i hc
      rw [if_pos hc]
      cases k with
      | zero => simp [hc]
      | succ k =>
        simp only [List.length_cons] at h ⊢
        rw [List.getElem?_cons_succ, ← tw_at r k (by omega)]
        omega
    · rename_i hc
      rw [if_neg hc]
      simp only [List.length_nil] at h
      obtain rfl : k = 0 := by omega
      simp [hc]
theorem dw_drop {f : Nat → Bool} (r : List Nat) : r.dropWhile f = r.drop (r.takeWhile f).length := by
  have h := List.takeWhile_append_dropWhile (p := f) (l := r)
  conv => rhs; rw [← h]
  rw [List.takeWhile_append_dropWhile]
  conv => rhs; arg 2; rw [← h]
  rw [List.drop_left]
/-- A number's end by places. -/
theorem nuE_at (r : List Nat) : (r[(r.takeWhile isDg).length]? = some 46 ∧ (∃ d, r[(r.takeWhile isDg).length + 1]? = some d ∧ isDg d = true) ∧ nuE r = ((r.takeWhile isDg).length + 1 + ((r.drop ((r.takeWhile isDg).length + 1)).takeWhile isDg).length, true)) ∨
    (¬ (r[(r.takeWhile isDg).length]? = some 46 ∧ ∃ d, r[(r.takeWhile isDg).length + 1]? = some d ∧ isDg d = true) ∧ nuE r = ((r.takeWhile isDg).length, false)) := by
  have h := dw_drop (f := isDg) r
  unfold nuE
  obtain ⟨A, hA⟩ : ∃ A, (r.takeWhile isDg).length = A := ⟨_, rfl⟩
  rw [hA] at h ⊢
  have e0 : r[A]? = (r.dropWhile isDg)[0]? := by rw [h, List.getElem?_drop, Nat.add_zero]
  have e1 : r[A + 1]? = (r.dropWhile isDg)[1]? := by rw [h, List.getElem?_drop]
  rw [e0, e1]
  have e2 : r.drop (A + 1) = (r.dropWhile isDg).drop 1 := by rw [h, List.drop_drop]
  rw [e2]
  cases hd : r.dropWhile isDg with
  | nil => right; simp
  | cons p q =>
    cases q with
    | nil => right; simp
    | cons d q =>
      by_cases hc : p = 46 ∧ isDg d = true
      · left
        refine ⟨by simp [hc.1], ⟨d, rfl, hc.2⟩, ?_⟩
        simp only [if_pos hc]
        rfl
      · right
        refine ⟨fun hh => hc ?_, by simp only [if_neg hc]⟩
        obtain ⟨h1, d', h2, h3⟩ := hh
        simp only [List.getElem?_cons_zero, Option.some.injEq] at h1
        simp only [List.getElem?_cons_succ, List.getElem?_cons_zero, Option.some.injEq] at h2
        subst h2
        exact ⟨h1, h3⟩
theorem lt_some {L : List Nat} {i : Nat} (h : i < L.length) : L[i]? = some (L.getD i 0) := by rw [List.getD_eq_getElem?_getD, List.getElem?_eq_getElem h]; rfl
end Go.Proofs.YtpfiejmhnkcjbaaGreatDoor
