/-
  The document's own Dec.
-/
import Derived.Test.YtbafmdjlnmeofaaGreatDoorTy
import Derived.Laws.BytesArg
namespace Go.Proofs.YtbafmdjlnmeofaaGreatDoor
open Go.RowKit Go.Sort
set_option linter.unusedVariables false
theorem dec_step {v : Nat} (h : 10 ≤ v) : Lib.decDigits v = Lib.decDigits (v / 10) ++ [UInt8.ofNat (48 + v % 10)] := by
  rw [Lib.decDigits, dif_neg (by omega)]
theorem app_list (a b : ByteArray) : (a ++ b).data.toList = a.data.toList ++ b.data.toList := by simp [ByteArray.data_append]
theorem of_list {l : List UInt8} {a : ByteArray} (h : l = a.data.toList) : (⟨l.toArray⟩ : ByteArray) = a := by
  subst h
  simp
theorem size_list (a : ByteArray) : a.size = a.data.toList.length := by
  rw [Array.length_toList]
  rfl
theorem conv_one (wr : World) (v : Nat) (D : ByteArray) (hD : D.data.toList = [UInt8.ofNat (48 + v % 10)]) :
    (convert 82 9 (.slice (some ⟨wr.heap.size, 0, none⟩) 1 1)).run Tryz.prog (wr.alloc (Obj.cells #[.int .u8 (48 + (v : Int) % 10)] 5)) = .ok (.string D) (wr.alloc (Obj.cells #[.int .u8 (48 + (v : Int) % 10)] 5)) := by
  have h := run_convert_bytes_back (P := Tryz.prog) (wr.alloc (Obj.cells #[.int .u8 (48 + (v : Int) % 10)] 5)) 82 9 5 ⟨wr.heap.size, 0, none⟩ 1 [UInt8.ofNat (48 + v % 10)] Tryz.underlying82 Tryz.underlying5 Tryz.underlying9 (fun j hj => by
    have : j = 0 := by simpa using hj
    subst this
    rw [Lib.add_plain, World.cell?_alloc_new]
    have e : ((48 + v % 10 : Nat) : Int) = 48 + (v : Int) % 10 := by omega
    have e2 : (UInt8.ofNat (48 + v % 10)).toNat = 48 + v % 10 := by
      rw [UInt8.toNat_ofNat']
      omega
    simp only [List.getElem_cons_zero, e2, e]
    rfl)
  rw [of_list hD.symm] at h
  exact h
set_option maxRecDepth 8000 in
theorem decR (u : Nat) (hu : u < 18446744073709551616) (w : World) : Calls Tryz.prog 44 #[.int .u64 (u : Int)] w fun e w' => e = .returned (.string ⟨(Lib.decDigits u).toArray⟩) ∧ Grow w w' := by
  have H20 : Hid ((Lib.decDigits u).length ≤ 20) := by
    have := (dig_size u hu).2
    rw [size_list] at this
    exact this
  go_enter Tryz.func44, Tryz.ntmps44
  go_wp2
  go_loopw [0, 3] (fun p q wr => ∃ (v : Nat) (S : ByteArray), v < 18446744073709551616 ∧ S.size ≤ 20 ∧ p = .int .u64 (v : Int) ∧ q = .string S ∧ Hid (Lib.decDigits u = Lib.decDigits v ++ S.data.toList ∧ Grow w wr)) (fun p _ _ => (intOf p).toNat)
  case atStart => exact ⟨u, ⟨#[]⟩, hu, by decide, rfl, rfl, (List.append_nil _).symm, Grow.refl _⟩
  case round =>
    obtain ⟨v, S, hv, hS, rfl, rfl, HI⟩ := hrel
    obtain ⟨D, hD⟩ : ∃ D : ByteArray, D.data.toList = [UInt8.ofNat (48 + v % 10)] := ⟨⟨[UInt8.ofNat (48 + v % 10)].toArray⟩, rfl⟩
    have hcv := conv_one wr v D hD
    have hDs : D.size = 1 := by rw [size_list, hD]; rfl
    have HDD := Lib.hid hD
    clear hD
    have hsz : ¬ 9223372036854775807 < D.size + S.size := by omega
    by_cases h10 : v < 10
    · have HR : Hid ((⟨(Lib.decDigits u).toArray⟩ : ByteArray) = D ++ S ∧ Grow w wr) := by
        refine ⟨of_list ?_, HI.out.2⟩
        rw [app_list, HDD.out, HI.out.1, Lib.decDigits_one h10, Nat.mod_eq_of_lt h10]
      have e0 : (v : Int) / 10 = 0 := by omega
      go_wp2
      go_ret
      exact ⟨by rw [HR.out.1]; rfl, HR.out.2.alloc _⟩
    · have e0 : (v : Int) / 10 = ((v / 10 : Nat) : Int) := by omega
      have e1 : ¬ (v / 10 : Nat) = 0 := by omega
      have HR : Hid (Lib.decDigits u = Lib.decDigits (v / 10) ++ (D ++ S).data.toList ∧ Grow w wr ∧ v / 10 < v) := by
        refine ⟨?_, HI.out.2, by omega⟩
        rw [app_list, HDD.out, HI.out.1, dec_step (by omega), List.append_assoc]
      obtain ⟨v', hv'⟩ : ∃ v', v / 10 = v' := ⟨_, rfl⟩
      rw [hv'] at e0 e1 HR
      have hlt : v' < 18446744073709551616 := by omega
      clear hv'
      go_wp2
      go_roundw
      case rel =>
        have q := H20.out
        rw [HR.out.1, List.length_append, ← size_list] at q
        exact ⟨v', D ++ S, hlt, by omega, rfl, rfl, HR.out.1, HR.out.2.1.alloc _⟩
      case measure => have := HR.out.2.2; simp [intOf]; omega
end Go.Proofs.YtbafmdjlnmeofaaGreatDoor
