/-
  The document's own Dec. · The document's own wide numbers: by, add. · Operations of a region that read no memory: they may be taken first, whatever else is to come. · The document's own least. · The document's own least. · The document's own least. · The document's own least. · The document's own least. · The document's own least. · The document's own least. · The document's own least. · The document's own least. · The document's own least. · The document's own least. · The document's own least. · The document's own least. · The document's own least. · The document's own least. · The document's own least. · The document's own least. · The document's own least. · The document's own least. · The document's own least. · The document's own least. · The document's own least. · The document's own least. · The document's own least. · The document's own least. · The document's own least. · The document's own least of any wide number. · The document's own check of values whose kind is Int or Decimal; Check; Is. · The document's own Equal of two numbers; got. · The law package's got and known. · The document's own sign and Ten. · The document's own sums, differences, products, and turned round: their walks. · The document's own sums, differences, products, and turned round: what they answer. · The document's own Text. · Both Texts, of any value: they answer alike. · decimal's looks at a text: isDigits, isWhole, isPart, isNought.
-/
import Derived.Test.YtmlfhplhiedfjaaGreatDoorBD6Ty
import Derived.Laws.BytesArg
import Derived.Test.YtmlfhplhiedfjaaGreatDoorBG9x
import Derived.Test.YtmlfhplhiedfjaaGreatDoorBG8x
import Derived.Test.YtmlfhplhiedfjaaGreatDoorBG3x
namespace Go.Proofs.YtmlfhplhiedfjaaGreatDoor.D6
open Go.RowKit Go.Sort
set_option linter.unusedVariables false
theorem dec_step {v : Nat} (h : 10 ≤ v) : Lib.decDigits v = Lib.decDigits (v / 10) ++ [UInt8.ofNat (48 + v % 10)] := by
  rw [Lib.decDigits, dif_neg (by omega)]
theorem app_list (a b : ByteArray) : (a ++ b).data.toList = a.data.toList ++ b.data.toList := by simp [ByteArray.data_append]
theorem of_list {l : List UInt8} {a : ByteArray} (h : l = a.data.toList) : (⟨l.toArray⟩ : ByteArray) = a := by
  subst h
  simp
theorem size_list (a : ByteArray) : a.size = a.data.toList.length := by
  rw [Array.length_toList]
  rfl
end Go.Proofs.YtmlfhplhiedfjaaGreatDoor.D6
namespace Go.Proofs.YtmlfhplhiedfjaaGreatDoor.D6
open Go.RowKit
set_option linter.unusedVariables false
end Go.Proofs.YtmlfhplhiedfjaaGreatDoor.D6
namespace Go.Proofs.YtmlfhplhiedfjaaGreatDoor.D6
open Go.RowKit
set_option linter.unusedVariables false
section
variable {P : Program} {ops : Array Oper} {Z : List Nat} {Q : Exit → Act → World → Prop}
end
end Go.Proofs.YtmlfhplhiedfjaaGreatDoor.D6
namespace Go.Proofs.YtmlfhplhiedfjaaGreatDoor.D6
open Go.RowKit
set_option linter.unusedVariables false
end Go.Proofs.YtmlfhplhiedfjaaGreatDoor.D6
namespace Go.Proofs.YtmlfhplhiedfjaaGreatDoor.D6
open Go.RowKit
set_option linter.unusedVariables false
end Go.Proofs.YtmlfhplhiedfjaaGreatDoor.D6
namespace Go.Proofs.YtmlfhplhiedfjaaGreatDoor.D6
open Go.RowKit
set_option linter.unusedVariables false
end Go.Proofs.YtmlfhplhiedfjaaGreatDoor.D6
namespace Go.Proofs.YtmlfhplhiedfjaaGreatDoor.D6
open Go.RowKit
set_option linter.unusedVariables false
end Go.Proofs.YtmlfhplhiedfjaaGreatDoor.D6
namespace Go.Proofs.YtmlfhplhiedfjaaGreatDoor.D6
open Go.RowKit
set_option linter.unusedVariables false
end Go.Proofs.YtmlfhplhiedfjaaGreatDoor.D6
namespace Go.Proofs.YtmlfhplhiedfjaaGreatDoor.D6
open Go.RowKit
set_option linter.unusedVariables false
end Go.Proofs.YtmlfhplhiedfjaaGreatDoor.D6
namespace Go.Proofs.YtmlfhplhiedfjaaGreatDoor.D6
open Go.RowKit
set_option linter.unusedVariables false
end Go.Proofs.YtmlfhplhiedfjaaGreatDoor.D6
namespace Go.Proofs.YtmlfhplhiedfjaaGreatDoor.D6
open Go.RowKit
set_option linter.unusedVariables false
end Go.Proofs.YtmlfhplhiedfjaaGreatDoor.D6
namespace Go.Proofs.YtmlfhplhiedfjaaGreatDoor.D6
open Go.RowKit
set_option linter.unusedVariables false
end Go.Proofs.YtmlfhplhiedfjaaGreatDoor.D6
namespace Go.Proofs.YtmlfhplhiedfjaaGreatDoor.D6
open Go.RowKit
set_option linter.unusedVariables false
end Go.Proofs.YtmlfhplhiedfjaaGreatDoor.D6
namespace Go.Proofs.YtmlfhplhiedfjaaGreatDoor.D6
open Go.RowKit
set_option linter.unusedVariables false
end Go.Proofs.YtmlfhplhiedfjaaGreatDoor.D6
namespace Go.Proofs.YtmlfhplhiedfjaaGreatDoor.D6
open Go.RowKit
set_option linter.unusedVariables false
end Go.Proofs.YtmlfhplhiedfjaaGreatDoor.D6
namespace Go.Proofs.YtmlfhplhiedfjaaGreatDoor.D6
open Go.RowKit
set_option linter.unusedVariables false
end Go.Proofs.YtmlfhplhiedfjaaGreatDoor.D6
namespace Go.Proofs.YtmlfhplhiedfjaaGreatDoor.D6
open Go.RowKit
set_option linter.unusedVariables false
end Go.Proofs.YtmlfhplhiedfjaaGreatDoor.D6
namespace Go.Proofs.YtmlfhplhiedfjaaGreatDoor.D6
open Go.RowKit
set_option linter.unusedVariables false
end Go.Proofs.YtmlfhplhiedfjaaGreatDoor.D6
namespace Go.Proofs.YtmlfhplhiedfjaaGreatDoor.D6
open Go.RowKit
set_option linter.unusedVariables false
end Go.Proofs.YtmlfhplhiedfjaaGreatDoor.D6
namespace Go.Proofs.YtmlfhplhiedfjaaGreatDoor.D6
open Go.RowKit
set_option linter.unusedVariables false
end Go.Proofs.YtmlfhplhiedfjaaGreatDoor.D6
namespace Go.Proofs.YtmlfhplhiedfjaaGreatDoor.D6
open Go.RowKit
set_option linter.unusedVariables false
end Go.Proofs.YtmlfhplhiedfjaaGreatDoor.D6
namespace Go.Proofs.YtmlfhplhiedfjaaGreatDoor.D6
open Go.RowKit
set_option linter.unusedVariables false
end Go.Proofs.YtmlfhplhiedfjaaGreatDoor.D6
namespace Go.Proofs.YtmlfhplhiedfjaaGreatDoor.D6
open Go.RowKit
set_option linter.unusedVariables false
end Go.Proofs.YtmlfhplhiedfjaaGreatDoor.D6
namespace Go.Proofs.YtmlfhplhiedfjaaGreatDoor.D6
open Go.RowKit
set_option linter.unusedVariables false
end Go.Proofs.YtmlfhplhiedfjaaGreatDoor.D6
namespace Go.Proofs.YtmlfhplhiedfjaaGreatDoor.D6
open Go.RowKit
set_option linter.unusedVariables false
end Go.Proofs.YtmlfhplhiedfjaaGreatDoor.D6
namespace Go.Proofs.YtmlfhplhiedfjaaGreatDoor.D6
open Go.RowKit
set_option linter.unusedVariables false
end Go.Proofs.YtmlfhplhiedfjaaGreatDoor.D6
namespace Go.Proofs.YtmlfhplhiedfjaaGreatDoor.D6
open Go.RowKit
set_option linter.unusedVariables false
end Go.Proofs.YtmlfhplhiedfjaaGreatDoor.D6
namespace Go.Proofs.YtmlfhplhiedfjaaGreatDoor.D6
open Go.RowKit
set_option linter.unusedVariables false
end Go.Proofs.YtmlfhplhiedfjaaGreatDoor.D6
namespace Go.Proofs.YtmlfhplhiedfjaaGreatDoor.D6
open Go.RowKit
set_option linter.unusedVariables false
end Go.Proofs.YtmlfhplhiedfjaaGreatDoor.D6
namespace Go.Proofs.YtmlfhplhiedfjaaGreatDoor.D6
open Go.RowKit
set_option linter.unusedVariables false
end Go.Proofs.YtmlfhplhiedfjaaGreatDoor.D6
namespace Go.Proofs.YtmlfhplhiedfjaaGreatDoor.D6
open Go.RowKit
set_option linter.unusedVariables false
end Go.Proofs.YtmlfhplhiedfjaaGreatDoor.D6
namespace Go.Proofs.YtmlfhplhiedfjaaGreatDoor.D6
open Go.RowKit
set_option linter.unusedVariables false
set_option maxRecDepth 8000 in
set_option maxHeartbeats 4000000 in
theorem equal_no (k n s k2 n2 s2 : Int) (na na2 ka ka2 : Option Addr) (nc kc nc2 kc2 : Nat) (w : World) (hE : ¬ (k = k2 ∧ n = n2 ∧ s = s2)) :
    Calls Tryz.prog 20 #[.agg #[.int .i64 k, .int .i64 n, .int .i64 s, .string ⟨#[]⟩, .slice na 0 nc, .slice ka 0 kc], .agg #[.int .i64 k2, .int .i64 n2, .int .i64 s2, .string ⟨#[]⟩, .slice na2 0 nc2, .slice ka2 0 kc2]] w fun e w' => e = .returned (.bool false) ∧ Grow w w' := by
  go_enter Tryz.func20, Tryz.ntmps20
  go_wp2
  all_goals first
    | (go_ret; exact ⟨rfl, ((Grow.refl _).alloc _).alloc _⟩)
    | (exfalso; apply hE; simp_all; done)
    | (exfalso; simp only [bne_eq_false_iff_eq] at *; apply hE; refine ⟨?_, ?_, ?_⟩ <;> first | assumption | omega)
set_option maxRecDepth 8000 in
theorem equal_yes (k n s : Int) (na na2 ka ka2 : Option Addr) (nc kc nc2 kc2 : Nat) (w : World) :
    Calls Tryz.prog 20 #[.agg #[.int .i64 k, .int .i64 n, .int .i64 s, .string ⟨#[]⟩, .slice na 0 nc, .slice ka 0 kc], .agg #[.int .i64 k, .int .i64 n, .int .i64 s, .string ⟨#[]⟩, .slice na2 0 nc2, .slice ka2 0 kc2]] w fun e w' => e = .returned (.bool true) ∧ Grow w w' := by
  go_enter Tryz.func20, Tryz.ntmps20
  go_wp2
  go_loopw [5] (fun i wr => i = .int .i64 0 ∧ wr = (w.alloc (Obj.cells #[.int .i64 k, .int .i64 n, .int .i64 s, .string ⟨#[]⟩, .slice na 0 nc, .slice ka 0 kc] 38)).alloc (Obj.cells #[.int .i64 k, .int .i64 n, .int .i64 s, .string ⟨#[]⟩, .slice na2 0 nc2, .slice ka2 0 kc2] 38)) (fun _ _ => 0)
  case atStart => exact ⟨rfl, rfl⟩
  case round =>
    obtain ⟨rfl, rfl⟩ := hrel
    go_wp2
    go_loopw [6] (fun i wr => i = .int .i64 0 ∧ wr = (w.alloc (Obj.cells #[.int .i64 k, .int .i64 n, .int .i64 s, .string ⟨#[]⟩, .slice na 0 nc, .slice ka 0 kc] 38)).alloc (Obj.cells #[.int .i64 k, .int .i64 n, .int .i64 s, .string ⟨#[]⟩, .slice na2 0 nc2, .slice ka2 0 kc2] 38)) (fun _ _ => 0)
    case atStart => exact ⟨rfl, rfl⟩
    case round =>
      obtain ⟨rfl, rfl⟩ := hrel
      go_wp2
      go_ret
      exact ⟨rfl, ((Grow.refl _).alloc _).alloc _⟩
end Go.Proofs.YtmlfhplhiedfjaaGreatDoor.D6
namespace Go.Proofs.YtmlfhplhiedfjaaGreatDoor.D6
open Go.RowKit
set_option linter.unusedVariables false
end Go.Proofs.YtmlfhplhiedfjaaGreatDoor.D6
namespace Go.Proofs.YtmlfhplhiedfjaaGreatDoor.D6
open Go.RowKit
set_option linter.unusedVariables false
end Go.Proofs.YtmlfhplhiedfjaaGreatDoor.D6
namespace Go.Proofs.YtmlfhplhiedfjaaGreatDoor.D6
open Go.RowKit
set_option linter.unusedVariables false
theorem sB : (Tryz.prog.info? 4).map (·.size) = some 1 := by kernel_rfl
end Go.Proofs.YtmlfhplhiedfjaaGreatDoor.D6
namespace Go.Proofs.YtmlfhplhiedfjaaGreatDoor.D6
open Go.RowKit
set_option linter.unusedVariables false
section
variable (k1 n1 : Int) (s1 : Nat) (na1 : Option Addr) (nc1 : Nat) (ka1 : Option Addr) (kc1 : Nat) (k2 n2 : Int) (s2 : Nat) (na2 : Option Addr) (nc2 : Nat) (ka2 : Option Addr) (kc2 : Nat)
  (i1 : isNum k1 n1 s1 ⟨#[]⟩ 0 0 = true) (i2 : isNum k2 n2 s2 ⟨#[]⟩ 0 0 = true) (f1 : -9223372036854775808 ≤ n1 ∧ n1 < 9223372036854775808) (f2 : -9223372036854775808 ≤ n2 ∧ n2 < 9223372036854775808) (q1 : s1 ≤ 18) (q2 : s2 ≤ 18)
include i1 in
include i1 i2 f1 f2 q1 q2
omit i2 f2 q2 in
end
end Go.Proofs.YtmlfhplhiedfjaaGreatDoor.D6
namespace Go.Proofs.YtmlfhplhiedfjaaGreatDoor.D6
open Go.RowKit
set_option linter.unusedVariables false
def strSize : Value → Nat
  | .string b => b.size
  | _ => 0
end Go.Proofs.YtmlfhplhiedfjaaGreatDoor.D6
namespace Go.Proofs.YtmlfhplhiedfjaaGreatDoor.D6
open Go.RowKit
set_option linter.unusedVariables false
end Go.Proofs.YtmlfhplhiedfjaaGreatDoor.D6
namespace Go.Proofs.YtmlfhplhiedfjaaGreatDoor.D6
open Go.RowKit
set_option linter.unusedVariables false
theorem trimZ (s c : ByteArray) (w : World) (hs : s.size ≤ 9223372036854775807) (hc : c.size < 4294967281) (ha : c.data.toList.all (fun b => decide (b.toNat < 128)) = true) :
    Calls Tryz.prog 175 #[.string s, .string c] w fun e w' => e = .returned (.string ⟨(Lib.trimS s.data.toList c.data.toList).toArray⟩) ∧ Grow w w' :=
  Any.strings_Trim_laid Tryz.lays160 (by kernel_rfl) s c w hs hc (ascii_of_all ha)
theorem dw_nil {p : UInt8 → Bool} : ∀ m : List UInt8, (∀ x ∈ m.dropWhile p, p x = true) → m.dropWhile p = []
  | [], _ => rfl
  | a :: m, h => by
    rw [List.dropWhile_cons] at h ⊢
    split at h
    · rename_i ha
      rw [if_pos ha]
      exact dw_nil m h
    · rename_i ha
      exact absurd (h a (List.mem_cons_self ..)) ha
theorem dw_iff {p : UInt8 → Bool} : ∀ m : List UInt8, m.dropWhile p = [] ↔ ∀ x ∈ m, p x = true
  | [] => by simp
  | a :: m => by
    rw [List.dropWhile_cons]
    split
    · rename_i ha
      rw [dw_iff m]
      simp [ha]
    · rename_i ha
      simp [ha]
theorem trim_all (l cs : List UInt8) : Lib.trimS l cs = [] ↔ l.all (cs.contains ·) = true := by
  unfold Lib.trimS Lib.trimLeftS Lib.trimRightS
  constructor
  · intro h
    have h1 := (dw_iff _).1 h
    have h2 := dw_nil l.reverse (fun x hx => h1 x (List.mem_reverse.2 hx))
    have h3 := (dw_iff _).1 h2
    exact List.all_eq_true.2 fun x hx => h3 x (List.mem_reverse.2 hx)
  · intro h
    have h3 := List.all_eq_true.1 h
    rw [(dw_iff _).2 (fun x hx => h3 x (List.mem_reverse.1 hx))]
    rfl
/-- Digits alone, at least one. -/
def dig10 (b : UInt8) : Bool := decide (48 ≤ b.toNat ∧ b.toNat ≤ 57)
theorem dig10_set (b : UInt8) : ([48, 49, 50, 51, 52, 53, 54, 55, 56, 57] : List UInt8).contains b = dig10 b := by
  have h : ∀ n : Nat, n < 256 → ([48, 49, 50, 51, 52, 53, 54, 55, 56, 57] : List UInt8).contains (UInt8.ofNat n) = dig10 (UInt8.ofNat n) := by decide +kernel
  have := h b.toNat b.toNat_lt
  rwa [UInt8.ofNat_toNat] at this
def allDig (l : List UInt8) : Bool := !l.isEmpty && l.all dig10
theorem str_nil (a : ByteArray) : (a.toList == []) = decide (a.data.toList = []) := by
  rw [Lib.toList_data]
  cases a.data.toList <;> rfl
set_option maxRecDepth 8000 in
theorem isDigits_any (s : ByteArray) (hs : s.size ≤ 1000000) (w : World) : Calls Tryz.prog 174 #[.string s] w fun e w' => e = .returned (.bool (allDig s.data.toList)) ∧ Grow w w' := by
  obtain ⟨T, hT⟩ : ∃ T : ByteArray, T = ⟨(Lib.trimS s.data.toList (⟨#[48, 49, 50, 51, 52, 53, 54, 55, 56, 57]⟩ : ByteArray).data.toList).toArray⟩ := ⟨_, rfl⟩
  have K := Lib.hid (fun W => trimZ s ⟨#[48, 49, 50, 51, 52, 53, 54, 55, 56, 57]⟩ W (by omega) (by decide) (by decide))
  rw [← hT] at K
  have HT : Hid ((T.toList == []) = s.data.toList.all dig10) := by
    show _ = _
    rw [str_nil, hT]
    have := trim_all s.data.toList [48, 49, 50, 51, 52, 53, 54, 55, 56, 57]
    rw [show (fun x => ([48, 49, 50, 51, 52, 53, 54, 55, 56, 57] : List UInt8).contains x) = dig10 from funext dig10_set] at this
    show decide (Lib.trimS s.data.toList [48, 49, 50, 51, 52, 53, 54, 55, 56, 57] = []) = _
    cases h : s.data.toList.all dig10 with
    | true => exact decide_eq_true (this.2 h)
    | false => exact decide_eq_false (fun e => by rw [this.1 e] at h; cases h)
  by_cases h0 : (s.toList == []) = true
  · have e : allDig s.data.toList = false := by
      rw [str_nil, decide_eq_true_eq] at h0
      rw [h0]; rfl
    rw [e]
    clear HT hT e
    go_enter Tryz.func174, Tryz.ntmps174
    go_wp2
    go_ret
    exact ⟨rfl, Grow.refl _⟩
  · have h0' : (s.toList == []) = false := by simpa using h0
    have e : Hid (allDig s.data.toList = s.data.toList.all dig10) := by
      show _ = _
      rw [str_nil, decide_eq_false_iff_not] at h0'
      cases hl : s.data.toList with
      | nil => exact absurd hl h0'
      | cons a b => rfl
    have HR : Hid ((T.toList == []) = allDig s.data.toList) := by show _ = _; rw [HT.out, e.out]
    generalize allDig s.data.toList = R at *
    clear HT e h0 hT
    have hr := HR.out
    go_enter Tryz.func174, Tryz.ntmps174
    go_wp2_with fail
    refine (K.out _).mono ?_
    rintro e w2 ⟨rfl, g⟩
    have G : Hid (Grow w w2) := g
    clear g
    go_wp2
    go_ret
    exact ⟨rfl, G.out⟩
end Go.Proofs.YtmlfhplhiedfjaaGreatDoor.D6
