/-
  The document's own Dec. · The document's own wide numbers: by, add. · Operations of a region that read no memory: they may be taken first, whatever else is to come. · The document's own least. · The document's own least. · The document's own least. · The document's own least. · The document's own least. · The document's own least. · The document's own least. · The document's own least. · The document's own least. · The document's own least. · The document's own least. · The document's own least. · The document's own least. · The document's own least. · The document's own least. · The document's own least. · The document's own least. · The document's own least. · The document's own least. · The document's own least. · The document's own least. · The document's own least. · The document's own least. · The document's own least. · The document's own least. · The document's own least. · The document's own least of any wide number. · The document's own check of values whose kind is Int or Decimal; Check; Is. · The document's own Equal of two numbers; got. · The law package's got and known. · The document's own sign and Ten. · The document's own sums, differences, products, and turned round: their walks. · The document's own sums, differences, products, and turned round: what they answer.
-/
import Derived.Test.YtmlfhplhiedfjaaGreatDoorCD6Ty
import Derived.Laws.BytesArg
import Derived.Test.YtmlfhplhiedfjaaGreatDoorCG16x
import Derived.Test.YtmlfhplhiedfjaaGreatDoorCG15x
import Derived.Test.YtmlfhplhiedfjaaGreatDoorCG11x
namespace Go.Proofs.YtmlfhplhiedfjaaGreatDoor.D6
open Go.RowKit Go.Sort
set_option linter.unusedVariables false
theorem dec_step {v : Nat} (h : 10 ≤ v) : Lib.decDigits v = Lib.decDigits (v / 10) ++ [UInt8.ofNat (48 + v % 10)] := by
  rw [Lib.decDigits, dif_neg (by omega)]
theorem app_list (a b : ByteArray) : (a ++ b).data.toList = a.data.toList ++ b.data.toList := by simp [ByteArray.data_append]
theorem of_list {l : List UInt8} {a : ByteArray} (h : l = a.data.toList) : (⟨l.toArray⟩ : ByteArray) = a := by
  subst h
  simp
theorem size_list (a : ByteArray) : a.size = a.data.toList.length := by
  rw [Array.length_toList]
  rfl
theorem conv_one (wr : World) (v : Nat) (D : ByteArray) (hD : D.data.toList = [UInt8.ofNat (48 + v % 10)]) :
    (convert 52 9 (.slice (some ⟨wr.heap.size, 0, none⟩) 1 1)).run Tryz.prog (wr.alloc (Obj.cells #[.int .u8 (48 + (v : Int) % 10)] 5)) = .ok (.string D) (wr.alloc (Obj.cells #[.int .u8 (48 + (v : Int) % 10)] 5)) := by
  have h := run_convert_bytes_back (P := Tryz.prog) (wr.alloc (Obj.cells #[.int .u8 (48 + (v : Int) % 10)] 5)) 52 9 5 ⟨wr.heap.size, 0, none⟩ 1 [UInt8.ofNat (48 + v % 10)] Tryz.underlying52 Tryz.underlying5 Tryz.underlying9 (fun j hj => by
    have : j = 0 := by simpa using hj
    subst this
    rw [Lib.add_plain, World.cell?_alloc_new]
    have e : ((48 + v % 10 : Nat) : Int) = 48 + (v : Int) % 10 := by omega
    have e2 : (UInt8.ofNat (48 + v % 10)).toNat = 48 + v % 10 := by
      rw [UInt8.toNat_ofNat']
      omega
    simp only [List.getElem_cons_zero, e2, e]
    rfl)
  rw [of_list hD.symm] at h
  exact h
set_option maxRecDepth 8000 in
theorem decR (u : Nat) (hu : u < 18446744073709551616) (w : World) : Calls Tryz.prog 64 #[.int .u64 (u : Int)] w fun e w' => e = .returned (.string ⟨(Lib.decDigits u).toArray⟩) ∧ Grow w w' := by
  have H20 : Hid ((Lib.decDigits u).length ≤ 20) := by
    have := (dig_size u hu).2
    rw [size_list] at this
    exact this
  go_enter Tryz.func64, Tryz.ntmps64
  go_wp2
  go_loopw [0, 3] (fun p q wr => ∃ (v : Nat) (S : ByteArray), v < 18446744073709551616 ∧ S.size ≤ 20 ∧ p = .int .u64 (v : Int) ∧ q = .string S ∧ Hid (Lib.decDigits u = Lib.decDigits v ++ S.data.toList ∧ Grow w wr)) (fun p _ _ => (intOf p).toNat)
  case atStart => exact ⟨u, ⟨#[]⟩, hu, by decide, rfl, rfl, (List.append_nil _).symm, Grow.refl _⟩
  case round =>
    obtain ⟨v, S, hv, hS, rfl, rfl, HI⟩ := hrel
    obtain ⟨D, hD⟩ : ∃ D : ByteArray, D.data.toList = [UInt8.ofNat (48 + v % 10)] := ⟨⟨[UInt8.ofNat (48 + v % 10)].toArray⟩, rfl⟩
    have hcv := conv_one wr v D hD
    have hDs : D.size = 1 := by rw [size_list, hD]; rfl
    have HDD := Lib.hid hD
    clear hD
    have hsz : ¬ 9223372036854775807 < D.size + S.size := by omega
    by_cases h10 : v < 10
    · have HR : Hid ((⟨(Lib.decDigits u).toArray⟩ : ByteArray) = D ++ S ∧ Grow w wr) := by
        refine ⟨of_list ?_, HI.out.2⟩
        rw [app_list, HDD.out, HI.out.1, Lib.decDigits_one h10, Nat.mod_eq_of_lt h10]
      have e0 : (v : Int) / 10 = 0 := by omega
      go_wp2
      go_ret
      exact ⟨by rw [HR.out.1]; rfl, HR.out.2.alloc _⟩
    · have e0 : (v : Int) / 10 = ((v / 10 : Nat) : Int) := by omega
      have e1 : ¬ (v / 10 : Nat) = 0 := by omega
      have HR : Hid (Lib.decDigits u = Lib.decDigits (v / 10) ++ (D ++ S).data.toList ∧ Grow w wr ∧ v / 10 < v) := by
        refine ⟨?_, HI.out.2, by omega⟩
        rw [app_list, HDD.out, HI.out.1, dec_step (by omega), List.append_assoc]
      obtain ⟨v', hv'⟩ : ∃ v', v / 10 = v' := ⟨_, rfl⟩
      rw [hv'] at e0 e1 HR
      have hlt : v' < 18446744073709551616 := by omega
      clear hv'
      go_wp2
      go_roundw
      case rel =>
        have q := H20.out
        rw [HR.out.1, List.length_append, ← size_list] at q
        exact ⟨v', D ++ S, hlt, by omega, rfl, rfl, HR.out.1, HR.out.2.1.alloc _⟩
      case measure => have := HR.out.2.2; simp [intOf]; omega
end Go.Proofs.YtmlfhplhiedfjaaGreatDoor.D6
namespace Go.Proofs.YtmlfhplhiedfjaaGreatDoor.D6
open Go.RowKit
set_option linter.unusedVariables false
end Go.Proofs.YtmlfhplhiedfjaaGreatDoor.D6
namespace Go.Proofs.YtmlfhplhiedfjaaGreatDoor.D6
open Go.RowKit
set_option linter.unusedVariables false
section
variable {P : Program} {ops : Array Oper} {Z : List Nat} {Q : Exit → Act → World → Prop}
end
end Go.Proofs.YtmlfhplhiedfjaaGreatDoor.D6
namespace Go.Proofs.YtmlfhplhiedfjaaGreatDoor.D6
open Go.RowKit
set_option linter.unusedVariables false
end Go.Proofs.YtmlfhplhiedfjaaGreatDoor.D6
namespace Go.Proofs.YtmlfhplhiedfjaaGreatDoor.D6
open Go.RowKit
set_option linter.unusedVariables false
end Go.Proofs.YtmlfhplhiedfjaaGreatDoor.D6
namespace Go.Proofs.YtmlfhplhiedfjaaGreatDoor.D6
open Go.RowKit
set_option linter.unusedVariables false
end Go.Proofs.YtmlfhplhiedfjaaGreatDoor.D6
namespace Go.Proofs.YtmlfhplhiedfjaaGreatDoor.D6
open Go.RowKit
set_option linter.unusedVariables false
end Go.Proofs.YtmlfhplhiedfjaaGreatDoor.D6
namespace Go.Proofs.YtmlfhplhiedfjaaGreatDoor.D6
open Go.RowKit
set_option linter.unusedVariables false
end Go.Proofs.YtmlfhplhiedfjaaGreatDoor.D6
namespace Go.Proofs.YtmlfhplhiedfjaaGreatDoor.D6
open Go.RowKit
set_option linter.unusedVariables false
end Go.Proofs.YtmlfhplhiedfjaaGreatDoor.D6
namespace Go.Proofs.YtmlfhplhiedfjaaGreatDoor.D6
open Go.RowKit
set_option linter.unusedVariables false
end Go.Proofs.YtmlfhplhiedfjaaGreatDoor.D6
namespace Go.Proofs.YtmlfhplhiedfjaaGreatDoor.D6
open Go.RowKit
set_option linter.unusedVariables false
end Go.Proofs.YtmlfhplhiedfjaaGreatDoor.D6
namespace Go.Proofs.YtmlfhplhiedfjaaGreatDoor.D6
open Go.RowKit
set_option linter.unusedVariables false
end Go.Proofs.YtmlfhplhiedfjaaGreatDoor.D6
namespace Go.Proofs.YtmlfhplhiedfjaaGreatDoor.D6
open Go.RowKit
set_option linter.unusedVariables false
end Go.Proofs.YtmlfhplhiedfjaaGreatDoor.D6
namespace Go.Proofs.YtmlfhplhiedfjaaGreatDoor.D6
open Go.RowKit
set_option linter.unusedVariables false
end Go.Proofs.YtmlfhplhiedfjaaGreatDoor.D6
namespace Go.Proofs.YtmlfhplhiedfjaaGreatDoor.D6
open Go.RowKit
set_option linter.unusedVariables false
end Go.Proofs.YtmlfhplhiedfjaaGreatDoor.D6
namespace Go.Proofs.YtmlfhplhiedfjaaGreatDoor.D6
open Go.RowKit
set_option linter.unusedVariables false
end Go.Proofs.YtmlfhplhiedfjaaGreatDoor.D6
namespace Go.Proofs.YtmlfhplhiedfjaaGreatDoor.D6
open Go.RowKit
set_option linter.unusedVariables false
end Go.Proofs.YtmlfhplhiedfjaaGreatDoor.D6
namespace Go.Proofs.YtmlfhplhiedfjaaGreatDoor.D6
open Go.RowKit
set_option linter.unusedVariables false
end Go.Proofs.YtmlfhplhiedfjaaGreatDoor.D6
namespace Go.Proofs.YtmlfhplhiedfjaaGreatDoor.D6
open Go.RowKit
set_option linter.unusedVariables false
end Go.Proofs.YtmlfhplhiedfjaaGreatDoor.D6
namespace Go.Proofs.YtmlfhplhiedfjaaGreatDoor.D6
open Go.RowKit
set_option linter.unusedVariables false
end Go.Proofs.YtmlfhplhiedfjaaGreatDoor.D6
namespace Go.Proofs.YtmlfhplhiedfjaaGreatDoor.D6
open Go.RowKit
set_option linter.unusedVariables false
end Go.Proofs.YtmlfhplhiedfjaaGreatDoor.D6
namespace Go.Proofs.YtmlfhplhiedfjaaGreatDoor.D6
open Go.RowKit
set_option linter.unusedVariables false
end Go.Proofs.YtmlfhplhiedfjaaGreatDoor.D6
namespace Go.Proofs.YtmlfhplhiedfjaaGreatDoor.D6
open Go.RowKit
set_option linter.unusedVariables false
end Go.Proofs.YtmlfhplhiedfjaaGreatDoor.D6
namespace Go.Proofs.YtmlfhplhiedfjaaGreatDoor.D6
open Go.RowKit
set_option linter.unusedVariables false
end Go.Proofs.YtmlfhplhiedfjaaGreatDoor.D6
namespace Go.Proofs.YtmlfhplhiedfjaaGreatDoor.D6
open Go.RowKit
set_option linter.unusedVariables false
end Go.Proofs.YtmlfhplhiedfjaaGreatDoor.D6
namespace Go.Proofs.YtmlfhplhiedfjaaGreatDoor.D6
open Go.RowKit
set_option linter.unusedVariables false
end Go.Proofs.YtmlfhplhiedfjaaGreatDoor.D6
namespace Go.Proofs.YtmlfhplhiedfjaaGreatDoor.D6
open Go.RowKit
set_option linter.unusedVariables false
end Go.Proofs.YtmlfhplhiedfjaaGreatDoor.D6
namespace Go.Proofs.YtmlfhplhiedfjaaGreatDoor.D6
open Go.RowKit
set_option linter.unusedVariables false
end Go.Proofs.YtmlfhplhiedfjaaGreatDoor.D6
namespace Go.Proofs.YtmlfhplhiedfjaaGreatDoor.D6
open Go.RowKit
set_option linter.unusedVariables false
end Go.Proofs.YtmlfhplhiedfjaaGreatDoor.D6
namespace Go.Proofs.YtmlfhplhiedfjaaGreatDoor.D6
open Go.RowKit
set_option linter.unusedVariables false
end Go.Proofs.YtmlfhplhiedfjaaGreatDoor.D6
namespace Go.Proofs.YtmlfhplhiedfjaaGreatDoor.D6
open Go.RowKit
set_option linter.unusedVariables false
set_option maxRecDepth 8000 in
theorem rcheck_yes3 (n : Int) (na : Option Addr) (nc : Nat) (ka : Option Addr) (kc : Nat) (w : World) :
    Calls Tryz.prog 94 #[.agg #[.int .i64 3, .int .i64 n, .int .i64 0, .string ⟨#[]⟩, .slice na 0 nc, .slice ka 0 kc], .int .i64 1] w fun e w' => e = .returned (.int .i64 0) ∧ Grow w w' := by
  go_enter Tryz.func94, Tryz.ntmps94
  go_wp2
  go_loopw [8] (fun i wr => i = .int .i64 0 ∧ wr = w.alloc (Obj.cells #[.int .i64 3, .int .i64 n, .int .i64 0, .string ⟨#[]⟩, .slice na 0 nc, .slice ka 0 kc] 38)) (fun _ _ => 0)
  case atStart => exact ⟨rfl, rfl⟩
  case round =>
    obtain ⟨rfl, rfl⟩ := hrel
    go_wp2
    go_ret
    exact ⟨rfl, (Grow.refl _).alloc _⟩
set_option maxRecDepth 8000 in
theorem rcheck_yes4 (n s : Int) (h1 : 1 ≤ s) (h2 : s ≤ 18) (h3 : ¬ n.tmod 10 = 0) (na : Option Addr) (nc : Nat) (ka : Option Addr) (kc : Nat) (w : World) :
    Calls Tryz.prog 94 #[.agg #[.int .i64 4, .int .i64 n, .int .i64 s, .string ⟨#[]⟩, .slice na 0 nc, .slice ka 0 kc], .int .i64 1] w fun e w' => e = .returned (.int .i64 0) ∧ Grow w w' := by
  have hb : (n.tmod 10 == 0) = false := by simp [h3]
  go_enter Tryz.func94, Tryz.ntmps94
  go_wp2
  go_loopw [8] (fun i wr => i = .int .i64 0 ∧ wr = w.alloc (Obj.cells #[.int .i64 4, .int .i64 n, .int .i64 s, .string ⟨#[]⟩, .slice na 0 nc, .slice ka 0 kc] 38)) (fun _ _ => 0)
  case atStart => exact ⟨rfl, rfl⟩
  case round =>
    obtain ⟨rfl, rfl⟩ := hrel
    go_wp2
    go_ret
    exact ⟨rfl, (Grow.refl _).alloc _⟩
theorem not_num3 {n s : Int} {t : ByteArray} {nl kl : Nat} (h : isNum 3 n s t nl kl = false) : ¬ s = 0 ∨ (s = 0 ∧ (t.toList == []) = false) ∨ (s = 0 ∧ (t.toList == []) = true ∧ 0 < kl) ∨ (s = 0 ∧ (t.toList == []) = true ∧ kl = 0 ∧ 0 < nl) := by
  by_cases h0 : s = 0
  · right
    cases h1 : (t.toList == [])
    · exact .inl ⟨h0, rfl⟩
    · right
      by_cases h2 : kl = 0
      · right
        refine ⟨h0, rfl, h2, ?_⟩
        apply Nat.pos_of_ne_zero
        intro h3
        have : t.toList = [] := by simpa using h1
        simp [isNum, h0, h2, h3, this] at h
      · exact .inl ⟨h0, rfl, by omega⟩
  · exact .inl h0
set_option maxRecDepth 8000 in
set_option maxHeartbeats 1000000 in
theorem rcheck_no3 (n s : Int) (t : ByteArray) (na : Option Addr) (nl nc : Nat) (ka : Option Addr) (kl kc : Nat) (h : isNum 3 n s t nl kl = false) (w : World) :
    Calls Tryz.prog 94 #[.agg #[.int .i64 3, .int .i64 n, .int .i64 s, .string t, .slice na nl nc, .slice ka kl kc], .int .i64 1] w fun e w' => e = .returned (.int .i64 3) ∧ Grow w w' := by
  rcases not_num3 h with h0 | ⟨rfl, h0⟩ | ⟨rfl, h1, h0⟩ | ⟨rfl, h1, rfl, h0⟩
  all_goals
    clear h
    go_enter Tryz.func94, Tryz.ntmps94
    go_wp2
    all_goals
      go_ret
      exact ⟨rfl, (Grow.refl _).alloc _⟩
theorem not_num4 {n s : Int} {t : ByteArray} {nl kl : Nat} (h : isNum 4 n s t nl kl = false) : s < 1 ∨ (1 ≤ s ∧ 18 < s) ∨ (1 ≤ s ∧ s ≤ 18 ∧ (n.tmod 10 == 0) = true) ∨ (1 ≤ s ∧ s ≤ 18 ∧ (n.tmod 10 == 0) = false ∧ (t.toList == []) = false) ∨ (1 ≤ s ∧ s ≤ 18 ∧ (n.tmod 10 == 0) = false ∧ (t.toList == []) = true ∧ 0 < kl) ∨ (1 ≤ s ∧ s ≤ 18 ∧ (n.tmod 10 == 0) = false ∧ (t.toList == []) = true ∧ kl = 0 ∧ 0 < nl) := by
  by_cases a : s < 1
  · exact .inl a
  by_cases b : 18 < s
  · exact .inr (.inl ⟨by omega, b⟩)
  cases c : (n.tmod 10 == 0)
  · cases d : (t.toList == [])
    · exact .inr (.inr (.inr (.inl ⟨by omega, by omega, rfl, rfl⟩)))
    · by_cases e : kl = 0
      · refine .inr (.inr (.inr (.inr (.inr ⟨by omega, by omega, rfl, rfl, e, ?_⟩))))
        apply Nat.pos_of_ne_zero
        intro h3
        have h4 : t.toList = [] := by simpa using d
        have h5 : ¬ n.tmod 10 = 0 := by simpa using c
        have h6 : 1 ≤ s := by omega
        have h7 : s ≤ 18 := by omega
        simp [isNum, e, h3, h4, h5, h6, h7] at h
      · exact .inr (.inr (.inr (.inr (.inl ⟨by omega, by omega, rfl, rfl, by omega⟩))))
  · exact .inr (.inr (.inl ⟨by omega, by omega, rfl⟩))
set_option maxRecDepth 8000 in
set_option maxHeartbeats 1000000 in
theorem rcheck_no4 (n s : Int) (t : ByteArray) (na : Option Addr) (nl nc : Nat) (ka : Option Addr) (kl kc : Nat) (h : isNum 4 n s t nl kl = false) (w : World) :
    Calls Tryz.prog 94 #[.agg #[.int .i64 4, .int .i64 n, .int .i64 s, .string t, .slice na nl nc, .slice ka kl kc], .int .i64 1] w fun e w' => e = .returned (.int .i64 3) ∧ Grow w w' := by
  rcases not_num4 h with h0 | ⟨_, h0⟩ | ⟨_, _, h0⟩ | ⟨_, _, _, h0⟩ | ⟨_, _, _, h1, h0⟩ | ⟨_, _, _, h1, rfl, h0⟩
  all_goals
    clear h
    go_enter Tryz.func94, Tryz.ntmps94
    go_wp2
    all_goals
      go_ret
      exact ⟨rfl, (Grow.refl _).alloc _⟩
theorem rCheck_num (k n s : Int) (hk : k = 3 ∨ k = 4) (t : ByteArray) (na : Option Addr) (nl nc : Nat) (ka : Option Addr) (kl kc : Nat) (w : World) :
    Calls Tryz.prog 51 #[.agg #[.int .i64 k, .int .i64 n, .int .i64 s, .string t, .slice na nl nc, .slice ka kl kc]] w fun e w' => e = .returned (.int .i64 (chkN (isNum k n s t nl kl))) ∧ Grow w w' := by
  have K : Hid (∀ W, Calls Tryz.prog 94 #[.agg #[.int .i64 k, .int .i64 n, .int .i64 s, .string t, .slice na nl nc, .slice ka kl kc], .int .i64 1] W fun e w' => e = .returned (.int .i64 (chkN (isNum k n s t nl kl))) ∧ Grow W w') := fun W => by
    cases hN : isNum k n s t nl kl with
    | false =>
      rcases hk with rfl | rfl
      · exact rcheck_no3 n s t na nl nc ka kl kc hN W
      · exact rcheck_no4 n s t na nl nc ka kl kc hN W
    | true =>
      obtain ⟨rfl, rfl, rfl, ⟨rfl, rfl⟩ | ⟨rfl, h1, h2, h3⟩⟩ := isNum_yes hN
      · exact rcheck_yes3 n na nc ka kc W
      · exact rcheck_yes4 n s h1 h2 h3 na nc ka kc W
  generalize chkN (isNum k n s t nl kl) = E at *
  clear hk
  go_enter Tryz.func51, Tryz.ntmps51
  go_wp2_with fail
  refine (K.out _).mono ?_
  rintro e w2 ⟨rfl, g2⟩
  have G : Hid (Grow w w2) := Grow.trans ((Grow.refl _).alloc _) g2
  clear g2 K
  go_wp2
  go_ret
  exact ⟨rfl, G.out⟩
set_option maxRecDepth 8000 in
theorem isR_any (k n s : Int) (t : ByteArray) (na : Option Addr) (nl nc : Nat) (ka : Option Addr) (kl kc : Nat) (w : World) :
    Calls Tryz.prog 111 #[.agg #[.int .i64 k, .int .i64 n, .int .i64 s, .string t, .slice na nl nc, .slice ka kl kc]] w fun e w' => e = .returned (.bool (isNum k n s t nl kl)) ∧ Grow w w' := by
  by_cases hk : k = 3 ∨ k = 4
  · have K : Hid (∀ W, Calls Tryz.prog 51 #[.agg #[.int .i64 k, .int .i64 n, .int .i64 s, .string t, .slice na nl nc, .slice ka kl kc]] W fun e w' => e = .returned (.int .i64 (chkN (isNum k n s t nl kl))) ∧ Grow W w') := fun W => rCheck_num k n s hk t na nl nc ka kl kc W
    have HE : Hid ((chkN (isNum k n s t nl kl) == 0) = isNum k n s t nl kl) := by
      show _ = _
      cases isNum k n s t nl kl <;> rfl
    generalize chkN (isNum k n s t nl kl) = E at *
    generalize isNum k n s t nl kl = R at *
    rcases hk with rfl | rfl
    all_goals
      go_enter Tryz.func111, Tryz.ntmps111
      go_wp2_with fail
      refine (K.out _).mono ?_
      rintro e w2 ⟨rfl, g2⟩
      have G : Hid (Grow w w2) := Grow.trans ((Grow.refl _).alloc _) g2
      clear g2 K
      have he := HE.out
      go_wp2
      go_ret
      exact ⟨rfl, G.out⟩
  · have h3 : ¬ k = 3 := fun e => hk (.inl e)
    have h4 : ¬ k = 4 := fun e => hk (.inr e)
    have e : isNum k n s t nl kl = false := by simp [isNum, h3, h4]
    rw [e]
    clear hk e
    go_enter Tryz.func111, Tryz.ntmps111
    go_wp2
    go_ret
    exact ⟨rfl, (Grow.refl _).alloc _⟩
end Go.Proofs.YtmlfhplhiedfjaaGreatDoor.D6
namespace Go.Proofs.YtmlfhplhiedfjaaGreatDoor.D6
open Go.RowKit
set_option linter.unusedVariables false
set_option maxRecDepth 8000 in
set_option maxHeartbeats 4000000 in
theorem equal_no (k n s k2 n2 s2 : Int) (na na2 ka ka2 : Option Addr) (nc kc nc2 kc2 : Nat) (w : World) (hE : ¬ (k = k2 ∧ n = n2 ∧ s = s2)) :
    Calls Tryz.prog 20 #[.agg #[.int .i64 k, .int .i64 n, .int .i64 s, .string ⟨#[]⟩, .slice na 0 nc, .slice ka 0 kc], .agg #[.int .i64 k2, .int .i64 n2, .int .i64 s2, .string ⟨#[]⟩, .slice na2 0 nc2, .slice ka2 0 kc2]] w fun e w' => e = .returned (.bool false) ∧ Grow w w' := by
  go_enter Tryz.func20, Tryz.ntmps20
  go_wp2
  all_goals first
    | (go_ret; exact ⟨rfl, ((Grow.refl _).alloc _).alloc _⟩)
    | (exfalso; apply hE; simp_all; done)
    | (exfalso; simp only [bne_eq_false_iff_eq] at *; apply hE; refine ⟨?_, ?_, ?_⟩ <;> first | assumption | omega)
set_option maxRecDepth 8000 in
theorem equal_yes (k n s : Int) (na na2 ka ka2 : Option Addr) (nc kc nc2 kc2 : Nat) (w : World) :
    Calls Tryz.prog 20 #[.agg #[.int .i64 k, .int .i64 n, .int .i64 s, .string ⟨#[]⟩, .slice na 0 nc, .slice ka 0 kc], .agg #[.int .i64 k, .int .i64 n, .int .i64 s, .string ⟨#[]⟩, .slice na2 0 nc2, .slice ka2 0 kc2]] w fun e w' => e = .returned (.bool true) ∧ Grow w w' := by
  go_enter Tryz.func20, Tryz.ntmps20
  go_wp2
  go_loopw [5] (fun i wr => i = .int .i64 0 ∧ wr = (w.alloc (Obj.cells #[.int .i64 k, .int .i64 n, .int .i64 s, .string ⟨#[]⟩, .slice na 0 nc, .slice ka 0 kc] 38)).alloc (Obj.cells #[.int .i64 k, .int .i64 n, .int .i64 s, .string ⟨#[]⟩, .slice na2 0 nc2, .slice ka2 0 kc2] 38)) (fun _ _ => 0)
  case atStart => exact ⟨rfl, rfl⟩
  case round =>
    obtain ⟨rfl, rfl⟩ := hrel
    go_wp2
    go_loopw [6] (fun i wr => i = .int .i64 0 ∧ wr = (w.alloc (Obj.cells #[.int .i64 k, .int .i64 n, .int .i64 s, .string ⟨#[]⟩, .slice na 0 nc, .slice ka 0 kc] 38)).alloc (Obj.cells #[.int .i64 k, .int .i64 n, .int .i64 s, .string ⟨#[]⟩, .slice na2 0 nc2, .slice ka2 0 kc2] 38)) (fun _ _ => 0)
    case atStart => exact ⟨rfl, rfl⟩
    case round =>
      obtain ⟨rfl, rfl⟩ := hrel
      go_wp2
      go_ret
      exact ⟨rfl, ((Grow.refl _).alloc _).alloc _⟩
end Go.Proofs.YtmlfhplhiedfjaaGreatDoor.D6
namespace Go.Proofs.YtmlfhplhiedfjaaGreatDoor.D6
open Go.RowKit
set_option linter.unusedVariables false
end Go.Proofs.YtmlfhplhiedfjaaGreatDoor.D6
namespace Go.Proofs.YtmlfhplhiedfjaaGreatDoor.D6
open Go.RowKit
set_option linter.unusedVariables false
end Go.Proofs.YtmlfhplhiedfjaaGreatDoor.D6
namespace Go.Proofs.YtmlfhplhiedfjaaGreatDoor.D6
open Go.RowKit
set_option linter.unusedVariables false
theorem sB : (Tryz.prog.info? 4).map (·.size) = some 1 := by kernel_rfl
end Go.Proofs.YtmlfhplhiedfjaaGreatDoor.D6
namespace Go.Proofs.YtmlfhplhiedfjaaGreatDoor.D6
open Go.RowKit
set_option linter.unusedVariables false
theorem absG (x : Int) (h0 : -9223372036854775808 ≤ x) (h1 : x < 9223372036854775808) (w : World) : Calls Tryz.prog 112 #[.int .i64 x] w fun e w' => e = .returned (.int .u64 (x.natAbs : Int)) ∧ Grow w w' :=
  (abs65 x h0 h1 w).mono fun e w' ⟨he, hw⟩ => ⟨he, by rw [hw]; exact Grow.refl _⟩
section
variable (k1 n1 : Int) (s1 : Nat) (na1 : Option Addr) (nc1 : Nat) (ka1 : Option Addr) (kc1 : Nat) (k2 n2 : Int) (s2 : Nat) (na2 : Option Addr) (nc2 : Nat) (ka2 : Option Addr) (kc2 : Nat)
  (i1 : isNum k1 n1 s1 ⟨#[]⟩ 0 0 = true) (i2 : isNum k2 n2 s2 ⟨#[]⟩ 0 0 = true) (f1 : -9223372036854775808 ≤ n1 ∧ n1 < 9223372036854775808) (f2 : -9223372036854775808 ≤ n2 ∧ n2 < 9223372036854775808) (q1 : s1 ≤ 18) (q2 : s2 ≤ 18)
include i1 in
theorem isR_yes (w : World) : Calls Tryz.prog 111 #[.agg #[.int .i64 k1, .int .i64 n1, .int .i64 (s1 : Int), .string ⟨#[]⟩, .slice na1 0 nc1, .slice ka1 0 kc1]] w fun e w' => e = .returned (.bool true) ∧ Grow w w' := by
  have := isR_any k1 n1 s1 ⟨#[]⟩ na1 0 nc1 ka1 0 kc1 w
  rw [i1] at this
  exact this
include i1 i2 f1 f2 q1 q2
omit i2 f2 q2 in
end
end Go.Proofs.YtmlfhplhiedfjaaGreatDoor.D6
