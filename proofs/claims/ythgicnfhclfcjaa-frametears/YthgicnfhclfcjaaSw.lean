/-
  The walk of FrameSees.
-/
import Derived.Test.YthgicnfhclfcjaaEw
namespace Go.Proofs.Ythgicnfhclfcjaa
open Go.RowKit Math
set_option linter.unusedVariables false
theorem xor_ne {x y : Nat} (hy : y ≠ 0) : x ^^^ y ≠ x := by
  intro h
  have h2 : x ^^^ y = x ^^^ 0 := by rw [Nat.xor_zero]; exact h
  exact hy (xor_lc h2)
theorem and30 (n : Int) : bits .and .i64 n 1073741823 = n % 1073741824 := by
  have h127 : (BitVec.ofInt 64 1073741823).toNat = 2 ^ 30 - 1 := by decide
  have key : (BitVec.ofInt 64 n &&& BitVec.ofInt 64 1073741823).toNat = (n % ((2 ^ 64 : Nat) : Int)).toNat % 2 ^ 30 := by
    rw [BitVec.toNat_and, BitVec.toNat_ofInt, h127, Nat.and_two_pow_sub_one_eq_mod]
  show IntKind.i64.wrap ((BitVec.ofInt 64 n &&& BitVec.ofInt 64 1073741823).toNat : Nat) = n % 1073741824
  rw [key, IntKind.wrap_i64]
  omega
set_option maxHeartbeats 1000000 in
theorem sees_walk (a0 a1 : Option Addr) (cap cap1 : Nat) (l m : List Nat) (a2 a3 : Int) (w3 : (Lit.int .u8 a3).wf = true) (w : World) (hc : Byt w a0 l) (hb : Oct l) (hnil : a0 = none → cap = 0) (hmax : l.length ≤ 140737488351232) (hc1 : Byt w a1 m) (hb1 : Oct m) (hnil1 : a1 = none → cap1 = 0) (hmax1 : m.length ≤ 140737488351232) :
    Calls Try.prog 6 #[.slice a0 l.length cap, .slice a1 m.length cap1, .int .i64 a2, .int .u8 a3] w fun e w' => e = .returned (.bool true) ∧ Below w.heap.size w w' := by
  obtain ⟨l3, u3⟩ := bounds_u8 w3
  clear w3
  by_cases hbig : (4000 : Int) < (l.length : Int) + (m.length : Int)
  · clear hc hb hc1 hb1
    go_enter Try.func6, Try.ntmps6
    go_wp2
    go_ret
    exact ⟨rfl, Below.refl _ _⟩
  by_cases hby : (a3 == 0) = true
  · clear hc hb hc1 hb1
    go_enter Try.func6, Try.ntmps6
    go_wp2
    go_ret
    exact ⟨rfl, Below.refl _ _⟩
  have hby : (a3 == 0) = false := by simpa using hby
  obtain ⟨y, rfl⟩ := Int.eq_ofNat_of_zero_le l3
  obtain ⟨k, hk, hk30⟩ : ∃ k : Nat, bits .and .i64 a2 1073741823 = (k : Int) ∧ k < 1073741824 :=
    ⟨(a2 % 1073741824).toNat, by rw [and30]; omega, by omega⟩
  have HE : Hid (Calls Try.prog 10 #[.slice a0 l.length cap] w fun e w' => ∃ g c, e = .returned (.tuple #[.slice (some ⟨g, 0, none⟩) (l.length + 12) c, .int .i64 0]) ∧ Own w' w.heap.size (.slice (some ⟨g, 0, none⟩) (l.length + 12) c) (rcd l) ∧ Below w.heap.size w w') :=
    enc_any a0 cap l (by omega) w hc hb hnil
  have HD : Hid (∀ j z, j < l.length + 12 → z < 256 → z ≠ (rcd l).getD j 0 → dec ((rcd l).set j z ++ m) = ([], 0, 4)) := fun j z hj hz hne => dec_sees l m j z (by omega) hb (by rw [rcd_length]; exact hj) hz hne
  have HO : Hid (∀ j z, z < 256 → Oct ((rcd l).set j z ++ m)) := fun j z hz => oct_app (oct_set (rcd_oct hb) j z hz) hb1
  have HG : Hid (Oct (rcd l)) := rcd_oct hb
  have hrl : (rcd l).length = l.length + 12 := rcd_length l
  generalize rcd l = R at *
  have HC1 : Hid (Byt w a1 m) := hc1
  have HN : Hid (∀ j z, (R.set j z ++ m).length ≤ 1000000) := fun j z => by simp; omega
  have hsum : (l.length : Int) + (m.length : Int) ≤ 4000 := by omega
  have h12 : (((l.length : Int) + 12) == 0) = false := by simp; omega
  clear hc hc1 hb hb1 hbig
  go_enter Try.func6, Try.ntmps6
  go_wp2_with fail
  refine HE.out.mono ?_
  rintro e w1 ⟨g, c, rfl, o1, b1⟩
  clear HE
  have s1 := b1.size
  have x1 : Hid (Byt (w1.alloc (.cells #[] 5)) (some ⟨g, 0, none⟩) R) := .inr ⟨g, 0, rfl, (own_cells o1 (by omega)).below ((Below.refl _ _).alloc (Nat.le_refl _) _)⟩
  have oe : Hid (Own (w1.alloc (.cells #[] 5)) w.heap.size (.slice (some ⟨w1.heap.size, 0, none⟩) 0 0) []) := own_empty w1 _ s1
  have b1' : Below w.heap.size w (w1.alloc (.cells #[] 5)) := b1.alloc s1 _
  clear o1 b1
  go_wp2_with (at_builtin; go_must (refine app_bytes rfl (.tmp 36) (.tmp 37) rfl w.heap.size _ [] rfl oe.out _ _ _ R hrl.symm rfl x1.out (by simp) (by simp; omega) (by simp; omega) ?_))
  intro v2 w2 o2 g2
  have b2 := below_app b1' b1'.size oe.out g2
  have s2 := b2.size
  clear g2 b1' oe x1
  obtain ⟨g3, c3, rfl, hg3, hgs3, hlc3, hcm3, hcell⟩ := o2.form (by omega)
  have hlt : k % (l.length + 12) < l.length + 12 := Nat.mod_lt _ (by omega)
  have hmod : (k : Int) % ((l.length : Int) + 12) = ((k % (l.length + 12) : Nat) : Int) := by rw [Int.natCast_emod, Int.natCast_add]; rfl
  have hfr := World.ownsRow.frozenAt o2 (k % (l.length + 12))
  have hce := hcell (k % (l.length + 12)) (by omega)
  rw [Nat.zero_add] at hce
  have hx := oct_get HG.out (k % (l.length + 12))
  obtain ⟨z, hz, hz256, HZ⟩ : ∃ z : Nat, bits .xor .u8 ((R.getD (k % (l.length + 12)) 0 : Nat) : Int) (y : Int) = (z : Int) ∧ z < 256 ∧ Hid (z = R.getD (k % (l.length + 12)) 0 ^^^ y) :=
    ⟨_, u8_xor_nat _ y hx (by omega), Nat.xor_lt_two_pow (n := 8) (by omega) (by omega), rfl⟩
  have HD2 := HD.out (k % (l.length + 12)) z hlt hz256 (by rw [HZ.out]; exact xor_ne (by intro h; subst h; simp at hby))
  have o3 := own_put rfl o2 (k % (l.length + 12)) z
  have b3 := b2.setCell (p := ⟨g3, k % (l.length + 12), none⟩) hg3 (.int .u8 (z : Int))
  have HO2 := HO.out (k % (l.length + 12)) z hz256
  have HN2 := HN.out (k % (l.length + 12)) z
  have HX : Hid (dec (R.set (k % (l.length + 12)) z ++ m) = ([], 0, 4) ∧ Oct (R.set (k % (l.length + 12)) z ++ m) ∧ (R.set (k % (l.length + 12)) z ++ m).length ≤ 1000000) := ⟨HD2, HO2, HN2⟩
  have hl3 : (R.set (k % (l.length + 12)) z).length = l.length + 12 := by simpa using hrl
  have hcc : (R.length : Int) = (l.length : Int) + 12 := by omega
  generalize R.set (k % (l.length + 12)) z = R2 at *
  generalize R.getD (k % (l.length + 12)) 0 = x at *
  generalize hj : k % (l.length + 12) = j at *
  clear HD HO HN HD2 HO2 HN2 HG HZ hcell b2 hj o2
  have HC3 : Hid (Byt (w2.setCell ⟨g3, j, none⟩ (.int .u8 (z : Int))) a1 m) := HC1.out.below b3
  have s3 := b3.size
  rw [hrl] at *
  go_wp2_with (at_builtin; go_must (refine app_bytes rfl (.tmp 51) (.tmp 52) rfl w.heap.size _ R2 rfl o3 a1 _ cap1 m rfl rfl HC3.out hnil1 (by omega) s3 ?_))
  intro v4 w4 o4 g4
  have b4 := below_app b3 s3 o3 g4
  clear g4 b3 s3 o3 HC3
  go_wp2_with fail
  refine (dec_v o4 HX.out.2.2 HX.out.2.1).mono ?_
  rintro e w5 ⟨v5, rfl, o5, d5⟩
  have b5 := b4.trans (d5.mono b4.size)
  rw [HX.out.1] at o5 ⊢
  obtain ⟨a5, c5, rfl, _⟩ := o5.shape
  clear o4 d5 o5
  go_wp2_with fail
  refine (known_any w5).mono ?_
  rintro e w6 ⟨rfl, d6⟩
  go_wp2
  go_ret
  exact ⟨rfl, b5.trans (d6.mono b5.size)⟩
end Go.Proofs.Ythgicnfhclfcjaa
