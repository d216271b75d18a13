/-
  The document's own Dec. · decimal's looks at a text: isDigits, isWhole, isPart, isNought.
-/
import Derived.Test.YtpfiejmhnkcjbaaGreatDoorEG34x
import Derived.Laws.BytesArg
namespace Go.Proofs.YtpfiejmhnkcjbaaGreatDoor.D6
open Go.RowKit Go.Sort
set_option linter.unusedVariables false
theorem dec_step {v : Nat} (h : 10 ≤ v) : Lib.decDigits v = Lib.decDigits (v / 10) ++ [UInt8.ofNat (48 + v % 10)] := by
  rw [Lib.decDigits, dif_neg (by omega)]
theorem app_list (a b : ByteArray) : (a ++ b).data.toList = a.data.toList ++ b.data.toList := by simp [ByteArray.data_append]
theorem of_list {l : List UInt8} {a : ByteArray} (h : l = a.data.toList) : (⟨l.toArray⟩ : ByteArray) = a := by
  subst h
  simp
theorem size_list (a : ByteArray) : a.size = a.data.toList.length := by
  rw [Array.length_toList]
  rfl
theorem conv_one (wr : World) (v : Nat) (D : ByteArray) (hD : D.data.toList = [UInt8.ofNat (48 + v % 10)]) :
    (convert 34 9 (.slice (some ⟨wr.heap.size, 0, none⟩) 1 1)).run Tryz.prog (wr.alloc (Obj.cells #[.int .u8 (48 + (v : Int) % 10)] 5)) = .ok (.string D) (wr.alloc (Obj.cells #[.int .u8 (48 + (v : Int) % 10)] 5)) := by
  have h := run_convert_bytes_back (P := Tryz.prog) (wr.alloc (Obj.cells #[.int .u8 (48 + (v : Int) % 10)] 5)) 34 9 5 ⟨wr.heap.size, 0, none⟩ 1 [UInt8.ofNat (48 + v % 10)] Tryz.underlying34 Tryz.underlying5 Tryz.underlying9 (fun j hj => by
    have : j = 0 := by simpa using hj
    subst this
    rw [Lib.add_plain, World.cell?_alloc_new]
    have e : ((48 + v % 10 : Nat) : Int) = 48 + (v : Int) % 10 := by omega
    have e2 : (UInt8.ofNat (48 + v % 10)).toNat = 48 + v % 10 := by
      rw [UInt8.toNat_ofNat']
      omega
    simp only [List.getElem_cons_zero, e2, e]
    rfl)
  rw [of_list hD.symm] at h
  exact h
set_option maxRecDepth 8000 in
theorem decR (u : Nat) (hu : u < 18446744073709551616) (w : World) : Calls Tryz.prog 27 #[.int .u64 (u : Int)] w fun e w' => e = .returned (.string ⟨(Lib.decDigits u).toArray⟩) ∧ Grow w w' := by
  have H20 : Hid ((Lib.decDigits u).length ≤ 20) := by
    have := (dig_size u hu).2
    rw [size_list] at this
    exact this
  go_enter Tryz.func27, Tryz.ntmps27
  go_wp2
  go_loopw [0, 3] (fun p q wr => ∃ (v : Nat) (S : ByteArray), v < 18446744073709551616 ∧ S.size ≤ 20 ∧ p = .int .u64 (v : Int) ∧ q = .string S ∧ Hid (Lib.decDigits u = Lib.decDigits v ++ S.data.toList ∧ Grow w wr)) (fun p _ _ => (intOf p).toNat)
  case atStart => exact ⟨u, ⟨#[]⟩, hu, by decide, rfl, rfl, (List.append_nil _).symm, Grow.refl _⟩
  case round =>
    obtain ⟨v, S, hv, hS, rfl, rfl, HI⟩ := hrel
    obtain ⟨D, hD⟩ : ∃ D : ByteArray, D.data.toList = [UInt8.ofNat (48 + v % 10)] := ⟨⟨[UInt8.ofNat (48 + v % 10)].toArray⟩, rfl⟩
    have hcv := conv_one wr v D hD
    have hDs : D.size = 1 := by rw [size_list, hD]; rfl
    have HDD := Lib.hid hD
    clear hD
    have hsz : ¬ 9223372036854775807 < D.size + S.size := by omega
    by_cases h10 : v < 10
    · have HR : Hid ((⟨(Lib.decDigits u).toArray⟩ : ByteArray) = D ++ S ∧ Grow w wr) := by
        refine ⟨of_list ?_, HI.out.2⟩
        rw [app_list, HDD.out, HI.out.1, Lib.decDigits_one h10, Nat.mod_eq_of_lt h10]
      have e0 : (v : Int) / 10 = 0 := by omega
      go_wp2
      go_ret
      exact ⟨by rw [HR.out.1]; rfl, HR.out.2.alloc _⟩
    · have e0 : (v : Int) / 10 = ((v / 10 : Nat) : Int) := by omega
      have e1 : ¬ (v / 10 : Nat) = 0 := by omega
      have HR : Hid (Lib.decDigits u = Lib.decDigits (v / 10) ++ (D ++ S).data.toList ∧ Grow w wr ∧ v / 10 < v) := by
        refine ⟨?_, HI.out.2, by omega⟩
        rw [app_list, HDD.out, HI.out.1, dec_step (by omega), List.append_assoc]
      obtain ⟨v', hv'⟩ : ∃ v', v / 10 = v' := ⟨_, rfl⟩
      rw [hv'] at e0 e1 HR
      have hlt : v' < 18446744073709551616 := by omega
      clear hv'
      go_wp2
      go_roundw
      case rel =>
        have q := H20.out
        rw [HR.out.1, List.length_append, ← size_list] at q
        exact ⟨v', D ++ S, hlt, by omega, rfl, rfl, HR.out.1, HR.out.2.1.alloc _⟩
      case measure => have := HR.out.2.2; simp [intOf]; omega
end Go.Proofs.YtpfiejmhnkcjbaaGreatDoor.D6
namespace Go.Proofs.YtpfiejmhnkcjbaaGreatDoor.D6
open Go.RowKit
set_option linter.unusedVariables false
theorem trimZ (s c : ByteArray) (w : World) (hs : s.size ≤ 9223372036854775807) (hc : c.size < 4294967281) (ha : c.data.toList.all (fun b => decide (b.toNat < 128)) = true) :
    Calls Tryz.prog 100 #[.string s, .string c] w fun e w' => e = .returned (.string ⟨(Lib.trimS s.data.toList c.data.toList).toArray⟩) ∧ Grow w w' :=
  Any.strings_Trim_laid Tryz.lays160 (by kernel_rfl) s c w hs hc (ascii_of_all ha)
theorem dw_nil {p : UInt8 → Bool} : ∀ m : List UInt8, (∀ x ∈ m.dropWhile p, p x = true) → m.dropWhile p = []
  | [], _ => rfl
  | a :: m, h => by
    rw [List.dropWhile_cons] at h ⊢
    split at h
    · rename_i ha
      rw [if_pos ha]
      exact dw_nil m h
    · rename_i ha
      exact absurd (h a (List.mem_cons_self ..)) ha
theorem dw_iff {p : UInt8 → Bool} : ∀ m : List UInt8, m.dropWhile p = [] ↔ ∀ x ∈ m, p x = true
  | [] => by simp
  | a :: m => by
    rw [List.dropWhile_cons]
    split
    · rename_i ha
      rw [dw_iff m]
      simp [ha]
    · rename_i ha
      simp [ha]
theorem trim_all (l cs : List UInt8) : Lib.trimS l cs = [] ↔ l.all (cs.contains ·) = true := by
  unfold Lib.trimS Lib.trimLeftS Lib.trimRightS
  constructor
  · intro h
    have h1 := (dw_iff _).1 h
    have h2 := dw_nil l.reverse (fun x hx => h1 x (List.mem_reverse.2 hx))
    have h3 := (dw_iff _).1 h2
    exact List.all_eq_true.2 fun x hx => h3 x (List.mem_reverse.2 hx)
  · intro h
    have h3 := List.all_eq_true.1 h
    rw [(dw_iff _).2 (fun x hx => h3 x (List.mem_reverse.1 hx))]
    rfl
/-- Digits alone, at least one. -/
def dig10 (b : UInt8) : Bool := decide (48 ≤ b.toNat ∧ b.toNat ≤ 57)
theorem dig10_set (b : UInt8) : ([48, 49, 50, 51, 52, 53, 54, 55, 56, 57] : List UInt8).contains b = dig10 b := by
  have h : ∀ n : Nat, n < 256 → ([48, 49, 50, 51, 52, 53, 54, 55, 56, 57] : List UInt8).contains (UInt8.ofNat n) = dig10 (UInt8.ofNat n) := by decide +kernel
  have := h b.toNat b.toNat_lt
  rwa [UInt8.ofNat_toNat] at this
def allDig (l : List UInt8) : Bool := !l.isEmpty && l.all dig10
theorem str_nil (a : ByteArray) : (a.toList == []) = decide (a.data.toList = []) := by
  rw [Lib.toList_data]
  cases a.data.toList <;> rfl
set_option maxRecDepth 8000 in
theorem isDigits_any (s : ByteArray) (hs : s.size ≤ 1000000) (w : World) : Calls Tryz.prog 99 #[.string s] w fun e w' => e = .returned (.bool (allDig s.data.toList)) ∧ Grow w w' := by
  obtain ⟨T, hT⟩ : ∃ T : ByteArray, T = ⟨(Lib.trimS s.data.toList (⟨#[48, 49, 50, 51, 52, 53, 54, 55, 56, 57]⟩ : ByteArray).data.toList).toArray⟩ := ⟨_, rfl⟩
  have K := Lib.hid (fun W => trimZ s ⟨#[48, 49, 50, 51, 52, 53, 54, 55, 56, 57]⟩ W (by omega) (by decide) (by decide))
  rw [← hT] at K
  have HT : Hid ((T.toList == []) = s.data.toList.all dig10) := by
    show _ = _
    rw [str_nil, hT]
    have := trim_all s.data.toList [48, 49, 50, 51, 52, 53, 54, 55, 56, 57]
    rw [show (fun x => ([48, 49, 50, 51, 52, 53, 54, 55, 56, 57] : List UInt8).contains x) = dig10 from funext dig10_set] at this
    show decide (Lib.trimS s.data.toList [48, 49, 50, 51, 52, 53, 54, 55, 56, 57] = []) = _
    cases h : s.data.toList.all dig10 with
    | true => exact decide_eq_true (this.2 h)
    | false => exact decide_eq_false (fun e => by rw [this.1 e] at h; cases h)
  by_cases h0 : (s.toList == []) = true
  · have e : allDig s.data.toList = false := by
      rw [str_nil, decide_eq_true_eq] at h0
      rw [h0]; rfl
    rw [e]
    clear HT hT e
    go_enter Tryz.func99, Tryz.ntmps99
    go_wp2
    go_ret
    exact ⟨rfl, Grow.refl _⟩
  · have h0' : (s.toList == []) = false := by simpa using h0
    have e : Hid (allDig s.data.toList = s.data.toList.all dig10) := by
      show _ = _
      rw [str_nil, decide_eq_false_iff_not] at h0'
      cases hl : s.data.toList with
      | nil => exact absurd hl h0'
      | cons a b => rfl
    have HR : Hid ((T.toList == []) = allDig s.data.toList) := by show _ = _; rw [HT.out, e.out]
    generalize allDig s.data.toList = R at *
    clear HT e h0 hT
    have hr := HR.out
    go_enter Tryz.func99, Tryz.ntmps99
    go_wp2_with fail
    refine (K.out _).mono ?_
    rintro e w2 ⟨rfl, g⟩
    have G : Hid (Grow w w2) := g
    clear g
    go_wp2
    go_ret
    exact ⟨rfl, G.out⟩
end Go.Proofs.YtpfiejmhnkcjbaaGreatDoor.D6
