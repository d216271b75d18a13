import Derived.Test.YtpfiejmhnkcjbaaGreatDoorHG17x
import Derived.Test.YtpfiejmhnkcjbaaGreatDoorHLxj
namespace Go.Proofs.YtpfiejmhnkcjbaaGreatDoor
set_option maxHeartbeats 4000000
set_option maxRecDepth 8000
open Go.RowKit Lx
set_option linter.unusedVariables false
set_option linter.unusedSimpArgs false
theorem tells_walk (s : ByteArray) (w : World) (hX : ∃ tx, TxP tx w /\ TxC tx) (hN : ∃ nu, (NuP nu w /\ NuDot nu) /\ NuC nu) : Calls Tryz.prog 3 #[.string s] w fun e w' => e = .returned (.bool true) /\ Hid (Below w.heap.size w w') := by
 obtain ⟨tx, hX, hXC⟩ := hX
 obtain ⟨nu, hN, hNC⟩ := hN
 by_cases hbig : 1500 < s.size
 . have x1 : (1500 : Int) < (s.size : Int) := by omega
   clear hX hN hXC hNC
   go_enter Tryz.func3, Tryz.ntmps3
   go_wp2
   go_ret
   exact ⟨rfl, Below.refl _ _⟩
 have x1 : ¬ (1500 : Int) < (s.size : Int) := by omega
 have KL := lex_any tx nu s (by omega) w (fun _ => hX) (fun _ => hN)
 have KR := fun W => rlex_any tx nu hXC hNC s (by omega) W
 have hLn : (lexR tx nu (bts s) 0).1.length <= 100000 := by
  have := lexR_len tx nu (bts s).length (bts s) 0 (Nat.le_refl _)
  rw [bts_len] at this
  omega
 clear hX hN hXC hNC hbig
 go_enter Tryz.func3, Tryz.ntmps3
 go_wp2_with fail
 refine KL.mono ?_
 rintro e w1 ⟨hA, q⟩
 have HB1 : Hid (Below w.heap.size w w1) := q.out
 clear q KL
 cases hq : (lexR tx nu (bts s) 0).2 with
 | some p =>
   have e1 := lexA_bad hA hq
   subst e1
   clear hA
   go_wp2_with fail
   refine (KR _).mono ?_
   rintro e w2 ⟨hA, q⟩
   have e1 := lexA_bad hA hq
   subst e1
   have HB2 : Hid (Below w.heap.size w w2) := HB1.out.trans (q.out.mono HB1.out.size)
   clear q hA KR hq hLn
   have KT := fun W => tokens_any [] (by decide) (.slice none 0 0) (.slice none 0 0) W ⟨none, 0, rfl, .inl rfl⟩ ⟨none, 0, rfl, .inl rfl⟩
   go_wp2_with fail
   refine (KT _).mono ?_
   rintro e w3 ⟨rfl, q⟩
   have HB3 : Hid (Below w.heap.size w w3) := HB2.out.trans (q.out.mono HB2.out.size)
   clear q KT
   go_wp2_with fail
   refine (known_any _).mono ?_
   rintro e w4 ⟨rfl, q⟩
   have HF : Hid (Below w.heap.size w w4) := HB3.out.trans (q.out.mono HB3.out.size)
   clear q
   go_wp2
   go_ret
   exact ⟨rfl, HF.out⟩
 | none =>
   obtain ⟨v1, e1, hT1⟩ := lexA_ok hA hq
   subst e1
   have HT1 : Hid (TkS w1 v1 (lexR tx nu (bts s) 0).1) := hT1
   clear hA hT1
   go_wp2_with fail
   refine (KR _).mono ?_
   rintro e w2 ⟨hA, q⟩
   obtain ⟨v2, e1, hT2⟩ := lexA_ok hA hq
   subst e1
   have HB2 : Hid (Below w.heap.size w w2) := HB1.out.trans (q.out.mono HB1.out.size)
   have KT := tokens_any _ hLn v1 v2 w2 (HT1.out.below q.out) hT2
   clear q hA KR hq hT2 hLn HT1
   go_wp2_with fail
   refine KT.mono ?_
   rintro e w3 ⟨rfl, q⟩
   have HB3 : Hid (Below w.heap.size w w3) := HB2.out.trans (q.out.mono HB2.out.size)
   clear q KT
   go_wp2_with fail
   refine (known_any _).mono ?_
   rintro e w4 ⟨rfl, q⟩
   have HF : Hid (Below w.heap.size w w4) := HB3.out.trans (q.out.mono HB3.out.size)
   clear q
   go_wp2
   go_ret
   exact ⟨rfl, HF.out⟩
end Go.Proofs.YtpfiejmhnkcjbaaGreatDoor
