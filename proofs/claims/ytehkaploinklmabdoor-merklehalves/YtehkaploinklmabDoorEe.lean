/-
  Halves: where one begins and ends, on which side it stands; the last whole one; the node of two roots; the document's own half.
-/
import Derived.Test.YtehkaploinklmabDoorEd
import Derived.Test.YtehkaploinklmabDoorEc
import Derived.Test.YtehkaploinklmabDoorEl
import Derived.Test.YtehkaploinklmabDoorSNode
namespace Go.Proofs.YtehkaploinklmabDoor
open Go.RowKit Sh
theorem bits_i64 (op : BinOp) (f : Nat → Nat → Nat) (a b : Nat) (ha : a < 9223372036854775808) (hb : b < 9223372036854775808) (hf : f a b < 9223372036854775808)
    (h : bits op .i64 (a : Int) (b : Int) = IntKind.i64.wrap ((f (BitVec.ofInt 64 (a : Int)).toNat (BitVec.ofInt 64 (b : Int)).toNat : Nat) : Int)) : bits op .i64 (a : Int) (b : Int) = ((f a b : Nat) : Int) := by
  have h1 : ∀ a : Nat, a < 9223372036854775808 → (BitVec.ofInt 64 (a : Int)).toNat = a := fun a ha => by
    rw [BitVec.ofInt_natCast, BitVec.toNat_ofNat]; exact Nat.mod_eq_of_lt (by omega)
  rw [h, h1 a ha, h1 b hb]
  simp only [IntKind.wrap, IntKind.signed, IntKind.bits]
  simp
  omega
theorem and_one (a : Nat) (ha : a < 9223372036854775807) : bits .and .i64 (a : Int) 1 = ((a % 2 : Nat) : Int) := by
  rw [← Nat.and_one_is_mod]
  exact bits_i64 .and (fun a b => a &&& b) a 1 (by omega) (by omega) (Nat.lt_of_le_of_lt Nat.and_le_left (by omega)) (by rw [← BitVec.toNat_and]; rfl)
theorem xor_one_eq (a : Nat) : a ^^^ 1 = Mk.xr a := by
  have h1 : (a ^^^ 1) / 2 = a / 2 := by rw [Nat.xor_div_two]; simp
  have h2 := Nat.xor_mod_two_eq_one (a := a) (b := 1)
  unfold Mk.xr
  split <;> omega
theorem xor_one' (a : Nat) (ha : a < 9223372036854775807) : bits .xor .i64 (a : Int) 1 = ((Mk.xr a : Nat) : Int) := by
  have hx : Mk.xr a < 9223372036854775808 := by unfold Mk.xr; split <;> omega
  rw [← xor_one_eq] at hx ⊢
  exact bits_i64 .xor (fun a b => a ^^^ b) a 1 (by omega) (by omega) hx (by rw [← BitVec.toNat_xor]; rfl)
theorem wrap_small {n : Nat} {x : Int} (e : x = (n : Int)) (h : n < 9223372036854775808) : wrap64 x = (n : Int) := by rw [e]; simp only [wrap64]; omega
theorem cast_shl (o l : Nat) : (o : Int) * 2 ^ l = ((o * 2 ^ l : Nat) : Int) := by rw [Int.natCast_mul, Int.natCast_pow]; rfl
theorem end_any' (l o : Nat) (hl : l ≤ 60) (h0 : o ≤ 1000000000000000) (ho : (o + 1) * 2 ^ l ≤ 1000000000000000) (w : World) :
    Calls Tryd.prog 19 #[.agg #[.int .i64 (l : Int), .int .i64 (o : Int)]] w fun e w' => e = .returned (.int .i64 (((o + 1) * 2 ^ l : Nat) : Int)) ∧ Below w.heap.size w w' := by
  have e : wrap64 (((o : Int) + 1) * 2 ^ l) = (((o + 1) * 2 ^ l : Nat) : Int) := wrap_small (cast_shl (o + 1) l) (by omega)
  go_enter Tryd.func19, Tryd.ntmps19
  go_wp2
  go_ret
  exact ⟨by rw [e]; rfl, (Below.refl _ _).alloc (Nat.le_refl _) _⟩
end Go.Proofs.YtehkaploinklmabDoor
