/-
  The contract of the document's own Hex.
-/
import Derived.Test.YtajikbnnlhokbaaIdx
import Derived.BigQuiet
import Derived.Laws.Concat
namespace Go.Proofs.Ytajikbnnlhokbaa
open Go.RowKit Math
/-- One digit as a text. -/
def one (d : Nat) : ByteArray := { data := #[UInt8.ofNat (dig d)] }
theorem bn_one : ∀ d : Nat, d < 16 → bn (one d) = [dig d] := by
  intro d hd
  match d, hd with
  | 0, _ | 1, _ | 2, _ | 3, _ | 4, _ | 5, _ | 6, _ | 7, _ | 8, _ | 9, _ | 10, _ | 11, _ | 12, _ | 13, _ | 14, _ | 15, _ => rfl
  | n + 16, h => omega
theorem cut_one : ∀ d : Nat, d < 16 → hexT.extract d (d + 1) = one d := by
  intro d hd
  match d, hd with
  | 0, _ | 1, _ | 2, _ | 3, _ | 4, _ | 5, _ | 6, _ | 7, _ | 8, _ | 9, _ | 10, _ | 11, _ | 12, _ | 13, _ | 14, _ | 15, _ => apply ByteArray.ext; decide
  | n + 16, h => omega
theorem cut_run (d : Nat) (hd : d < 16) (w : World) : (Instr.slice 9 (.string hexT) (some (.int .u8 (d : Int))) (some (.int .u8 ((d : Int) + 1))) none).run Try.prog w = .ok (.string (one d)) w := by
  have hz : hexT.size = 16 := rfl
  rw [run_slice_string w 9 hexT .u8 .u8 (d : Int) ((d : Int) + 1) Try.underlying9 (by omega) (by omega) (by omega)]
  rw [show ((d : Int)).toNat = d by omega, show ((d : Int) + 1).toNat = d + 1 by omega, cut_one d hd]
theorem bn_append (s t : ByteArray) : bn (s ++ t) = bn s ++ bn t := by simp [bn]
theorem bn_inj {s t : ByteArray} (h : bn s = bn t) : s = t := by
  apply ByteArray.ext
  apply Array.ext'
  exact List.map_inj_right (fun _ _ e => UInt8.toNat_inj.1 e) |>.1 h
theorem bn_nums (l : List Nat) (h : Oct l) : bn (strOfNums (l.map fun n : Nat => (n : Int))) = l := by
  unfold bn
  rw [strOfNums_data, List.map_map, List.map_map]
  conv => rhs; rw [← List.map_id l]
  apply List.map_congr_left
  intro x hx
  have := h x hx
  simp [UInt8.toNat_ofNat']
  omega
/-- The digits of so many bytes. -/
def dl (h : List Nat) : Nat → List Nat
  | 0 => []
  | k + 1 => dl h k ++ [dig (h.getD k 0 / 16), dig (h.getD k 0 % 16)]
theorem dl_len (h : List Nat) : ∀ k, (dl h k).length = 2 * k
  | 0 => rfl
  | k + 1 => by rw [dl, List.length_append, dl_len h k]; rfl
theorem dl_oct (h : List Nat) : ∀ k, Oct (dl h k)
  | 0 => fun _ hx => by cases hx
  | k + 1 => fun x hx => by
    rw [dl] at hx
    rcases List.mem_append.1 hx with hx | hx
    · exact dl_oct h k x hx
    · simp only [List.mem_cons, List.not_mem_nil, or_false] at hx
      rcases hx with rfl | rfl <;> exact dig_lt _
theorem hexL_dl (h : List Nat) : ∀ k, k ≤ 32 → hexL h k = dl h k ++ List.replicate (64 - 2 * k) 0
  | 0, _ => by simp [hexL, dl]
  | k + 1, hk => by
    rw [hexL, hexL_dl h k (by omega), dl]
    have e : List.replicate (64 - 2 * k) 0 = 0 :: 0 :: List.replicate (64 - 2 * (k + 1)) 0 := by
      rw [show 64 - 2 * k = (64 - 2 * (k + 1)) + 1 + 1 by omega]; rfl
    rw [e]
    have l := dl_len h k
    generalize dl h k = p at *
    generalize List.replicate (64 - 2 * (k + 1)) 0 = q
    rw [← l]
    simp
set_option maxHeartbeats 1000000 in
set_option maxRecDepth 8000 in
theorem rhex_any (h : List Nat) (hl : h.length = 32) (ho : Hid (Oct h)) (M : Nat) (hM : Hid (M = 32)) (w : World) :
    Calls Try.prog 20 #[.agg (nums .u8 h).toArray] w fun e w' => e = .returned (.string (strOfNums ((hexL h M).map fun n : Nat => (n : Int)))) ∧ Below w.heap.size w w' := by
  go_enter Try.func20, Try.ntmps20
  go_wp2_with (refine al_box rfl 25 (.tmp 0) rfl (nums .u8 h) rfl ?_)
  intro g1 w1 l1 B1 G1
  have Z := (Below.refl w.heap.size w).grown G1 (Nat.le_refl _) (by simp)
  clear G1
  go_wp2
  go_loopw [4, 3] (fun i t wr => ∃ (k : Nat) (S : ByteArray), k ≤ 32 ∧ i = .int .i64 (k : Int) ∧ t = .string S ∧ Hid (bn S = dl h k) ∧ Blk wr g1 25 (nums .u8 h) ∧ Below w.heap.size w wr) (fun i _ _ => 32 - (intOf i).toNat)
  case atStart => exact ⟨0, _, by omega, rfl, rfl, rfl, B1, Z⟩
  case round =>
    clear B1 Z
    obtain ⟨k, S, hk, rfl, rfl, HS, B1, Z⟩ := hrel
    by_cases hlt : k < 32
    · have hcl := B1.num k (by omega)
      have hx := oct_get ho.out k
      have HD : Hid (dl h (k + 1) = dl h k ++ ([dig (h.getD k 0 / 16)] ++ [dig (h.getD k 0 % 16)])) := rfl
      generalize h.getD k 0 = x at hcl hx HD
      obtain ⟨d1, h1, h1l, D1⟩ : ∃ d1 : Nat, IntKind.u8.wrap ((x : Int) / 16) = (d1 : Int) ∧ d1 < 16 ∧ Hid (d1 = x / 16) := ⟨x / 16, by rw [IntKind.wrap_u8']; omega, by omega, rfl⟩
      obtain ⟨d2, h2, h2l, D2⟩ : ∃ d2 : Nat, (x : Int).tmod 16 = (d2 : Int) ∧ d2 < 16 ∧ Hid (d2 = x % 16) := ⟨x % 16, by rw [Int.tmod_eq_emod_of_nonneg (by omega)]; omega, by omega, rfl⟩
      have e1 : IntKind.u8.wrap ((d1 : Int) + 1) = (d1 : Int) + 1 := by rw [IntKind.wrap_u8']; omega
      have e2 : IntKind.u8.wrap ((d2 : Int) + 1) = (d2 : Int) + 1 := by rw [IntKind.wrap_u8']; omega
      rw [← D1.out, ← D2.out, ← bn_one d1 h1l, ← bn_one d2 h2l] at HD
      have c1 := cut_run d1 h1l
      have c2 := cut_run d2 h2l
      unfold hexT at c1 c2
      have s1 : (one d1).size = 1 := rfl
      have s2 : (one d2).size = 1 := rfl
      generalize one d1 = T1 at c1 HD s1
      generalize one d2 = T2 at c2 HD s2
      have HL : S.size = 2 * k := by rw [← bn_len, HS.out, dl_len]
      obtain ⟨U1, hU1, L1⟩ : ∃ U1, U1 = S ++ T1 ∧ U1.size = 2 * k + 1 := ⟨_, rfl, by rw [ByteArray.size_append, HL, s1]⟩
      have a1 : ∀ W, (Op.stringOp .add S T1).run Try.prog W = .ok (.string U1) W := fun W => by rw [hU1]; exact run_string_add_sum _ _ _ (by rw [HL, s1]; omega)
      obtain ⟨U2, hU2⟩ : ∃ U2, U2 = U1 ++ T2 := ⟨_, rfl⟩
      have a2 : ∀ W, (Op.stringOp .add U1 T2).run Try.prog W = .ok (.string U2) W := fun W => by rw [hU2]; exact run_string_add_sum _ _ _ (by rw [L1, s2]; omega)
      have HU : Hid (bn U2 = dl h (k + 1)) := by
        show _ = _
        rw [hU2, hU1, bn_append, bn_append, HS.out, List.append_assoc]; exact HD.out.symm
      clear hU2 hU1 L1 s1 s2 HL
      go_wp2
      go_quiet (fail)
      generalize hwq : wr.drewN nq = wq
      have B1 : Blk wq g1 25 (nums .u8 h) := by rw [← hwq]; exact B1.drewN nq
      have Z : Below w.heap.size w wq := by rw [← hwq]; exact below_drewN Z nq
      clear hwq hcl a1 a2 c1 c2 e1 e2 h1 h2
      go_wp2
      go_roundw
      case rel => exact ⟨k + 1, _, by omega, by go_num, rfl, HU, B1, Z⟩
      case measure => simp [intOf]; omega
    · obtain rfl : k = M := by have := hM.out; omega
      have HE : Hid (strOfNums ((hexL h k).map fun n : Nat => (n : Int)) = S) := by
        apply bn_inj
        have e : hexL h k = dl h k := by
          rw [hexL_dl h k hk, show 64 - 2 * k = 0 by have := hM.out; omega]; simp
        rw [e, bn_nums _ (dl_oct h k)]
        exact HS.out.symm
      go_wp2
      go_ret
      exact ⟨congrArg (fun s => Ending.returned (Value.string s)) HE.out.symm, Z⟩
#print axioms rhex_any
end Go.Proofs.Ytajikbnnlhokbaa
