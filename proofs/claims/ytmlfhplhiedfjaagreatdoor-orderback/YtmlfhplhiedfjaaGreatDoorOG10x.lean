/-
  order's numbers: appendAbove; appendNumber. · order's appendNumber.
-/
import Derived.Test.YtmlfhplhiedfjaaGreatDoorOG9x
namespace Go.Proofs.YtmlfhplhiedfjaaGreatDoor
open Go.RowKit Math
set_option linter.unusedVariables false
set_option linter.unusedSimpArgs false
theorem al_zero {P : Program} {ops : Array Oper} {rest : List Oper} {o : Oper} {a : Act} {w : World} {Q : Exit → Act → World → Prop} (hg : o.guard = none) (t : TypeId) (ho : o.op = .alloc t) (cs : List Value) (hz : (P.info? t).map (fun i => i.zero.map (·.cells)) = some (some cs.toArray))
    (h : ∀ g w', w.heap.size ≤ g → Blk w' g t cs → w.grownBy w' none → wpList P ops Q rest (a.put o.dst (.pointer (some ⟨g, 0, none⟩))) w') : wpList P ops Q (o :: rest) a w := by
  refine wpList_plain hg fun K hK => ?_
  unfold Oper.wp execOp
  cases hi : P.info? t with
  | none => simp [hi] at hz
  | some i =>
    cases hq : i.zero with
    | none => simp [hi, hq] at hz
    | some z =>
      have hc : z.cells = cs.toArray := by simpa [hi, hq] using hz
      have hzv : (zeroValue t).run P w = .ok z w := by simp [zeroValue, typeInfo, hi, hq]
      simp only [ho, Sem.run_bind, Instr.alloc, hzv, newVar, newRow, run_newObj_alloc, Sem.run_pure, Result.andThen_ok, hc]
      exact hK _ _ (h _ _ (Nat.le_refl _) (blk_new w t cs) (World.grownBy_alloc w _ none))
theorem z19 : (Tryz.prog.info? 140).map (fun i => i.zero.map (·.cells)) = some (some (vals (List.replicate 19 0)).toArray) := by kernel_rfl
theorem room_set (a' d : Nat) (low : List Nat) : (vals (List.replicate (a' + 1) 0 ++ low)).set a' (.int .u8 ((d : Nat) : Int)) = vals (List.replicate a' 0 ++ d :: low) := by
  rw [← vals_set]
  congr 1
  rw [List.replicate_succ', List.append_assoc, List.set_append_right _ _ (by simp)]
  simp
theorem dgs_split (m a m' : Nat) (low : List Nat) (h : dgs 20 m = dgs (a + 2) m' ++ low) (hm : m' ≠ 0) : dgs 20 m = dgs (a + 1) (m' / 10) ++ (m' % 10) :: low := by
  rw [h, dgs, if_neg hm, List.append_assoc]
  rfl
theorem room_cells {w : World} {g : Nat} {t : TypeId} (a : Nat) (low : List Nat) (h : Blk w g t (vals (List.replicate a 0 ++ low))) : Cells w g a low := fun i hi => by
  rw [h.cell, vals_get _ _ (by simp; omega)]
  congr 3
  rw [List.getD_eq_getElem?_getD, List.getD_eq_getElem?_getD, List.getElem?_append_right (by simp)]
  simp
theorem trz_map (low : List Nat) (k : Nat) (hk : k ≤ low.length) (h1 : ∀ j, k ≤ j → j < (low.map (· + 1)).length → (low.map (· + 1)).getD j 0 = 1) (h2 : (low.map (· + 1)).getD (k - 1) 0 ≠ 1) (h0 : 0 < k) : (low.map (· + 1)).take k = (trz low).map (· + 1) := by
  have hg : ∀ j, j < low.length → (low.map (· + 1)).getD j 0 = low.getD j 0 + 1 := fun j hj => by simp [List.getD_eq_getElem?_getD, hj]
  rw [trz_take low k hk (fun j hj hj2 => by have := h1 j hj (by simpa using hj2); rw [hg j hj2] at this; omega) (fun _ e => h2 (by rw [hg _ (by omega), e])), List.map_take]
theorem dgs_head : ∀ (f n : Nat), n < 10 ^ f → 0 < n → (dgs f n).getD 0 0 ≠ 0
  | 0, n, h, h0 => by simp at h; omega
  | f + 1, n, h, h0 => by
    rw [dgs, if_neg (by omega)]
    rw [Nat.pow_succ] at h
    by_cases hz : n / 10 = 0
    · rw [hz]
      have : dgs f 0 = [] := by cases f <;> rfl
      rw [this]
      simp
      omega
    · have h1 := dgs_head f (n / 10) (by omega) (by omega)
      have h2 : 0 < (dgs f (n / 10)).length := by
        cases f with
        | zero => simp at h; omega
        | succ f => exact dgs_pos f _ hz
      rwa [List.getD_eq_getElem?_getD, List.getElem?_append_left h2, ← List.getD_eq_getElem?_getD]
theorem len19 : Tryz.prog.arrayLen 140 = 19 := by kernel_rfl
theorem elem19 : Tryz.prog.elem 140 = 5 := by kernel_rfl
theorem sl19 (g a : Nat) (ha : a < 19) (n : Nat) (hn : n = 19 - a) (w : World) : (Instr.sliceAt 140 (.pointer (some ⟨g, 0, none⟩)) (some (.int .i64 (a : Int))) none none).run Tryz.prog w = .ok (.slice (some ⟨g, a, none⟩) n n) w := by
  subst hn
  rw [run_sliceAt_array_l w 140 ⟨g, 0, none⟩ (by rw [len19, elem19]; exact Tryz.underlying140) .i64 (a : Int) (by omega) (by rw [len19]; omega), elem19, Tryz.sizeOf5, len19]
  simp [slicedAt, Addr.add, show ¬ 19 = a by omega]
  exact fun h => h.symm
set_option maxRecDepth 8000 in
set_option maxHeartbeats 1000000 in
theorem kAb (v : Value) (l : List Nat) (m : Nat) (s : Int) (B : Nat) (W : World) (ho : Own W B v l) (hB : B ≤ W.heap.size) (hl : l.length ≤ 800000000) (hm : 0 < m) (hm2 : m < 10000000000000000000) (hs0 : 0 ≤ s) (hs1 : s ≤ 18) :
    Calls Tryz.prog 81 #[v, .int .u64 (m : Int), .int .i64 s] W fun e w' => ∃ v', e = .returned v' ∧ Ap B W w' v v' (l ++ posB m s) := by
  have HO : Hid (Own W B v l) := ho
  have HP : Hid (posB m s = (192 + ((dgs 20 m).length : Int) - s).toNat :: ((trz (dgs 20 m)).map (· + 1) ++ [0])) := rfl
  clear ho
  go_enter Tryz.func81, Tryz.ntmps81
  go_wp2_with (refine al_zero rfl 140 rfl (vals (List.replicate 19 0)) z19 ?_)
  intro g w1 hg1 Bz G1
  have B1 : Below W.heap.size W w1 := (Below.refl _ _).grown G1 (Nat.le_refl _) (fun k e => by cases e)
  have HB1 : Hid (Below W.heap.size W w1) := B1
  have HZ : Hid (Blk w1 g 140 (vals (List.replicate 19 0))) := Bz
  clear G1 Bz B1
  go_wp2
  go_loopw [1, 8] (fun sz at' wr => ∃ (a m' : Nat) (low : List Nat), sz = .int .u64 (m' : Int) ∧ at' = .int .i64 (a : Int) ∧ a ≤ 19 ∧ m' ≤ m ∧ Hid (m' < 10 ^ a) ∧ Hid (low.length = 19 - a ∧ dgs 20 m = dgs (a + 1) m' ++ low) ∧ Hid (Blk wr g 140 (vals (List.replicate a 0 ++ low.map (· + 1)))) ∧ Hid (Below W.heap.size W wr)) (fun sz _ _ => (intOf sz).toNat)
  case atStart => exact ⟨19, m, [], rfl, rfl, Nat.le_refl _, Nat.le_refl _, (by show m < 10 ^ 19; omega), ⟨rfl, by simp⟩, (by show Blk w1 g _ (vals (List.replicate 19 0 ++ [])); rw [List.append_nil]; exact HZ.out), HB1.out⟩
  case round =>
    clear HZ HB1
    obtain ⟨a, m', low, rfl, rfl, ha, hmm, Hm, HL, HB, HW⟩ := hrel
    by_cases h0 : 0 < m'
    · obtain ⟨a, rfl⟩ : ∃ b, a = b + 1 := ⟨a - 1, by
        rcases Nat.eq_zero_or_pos a with rfl | h
        · have := Hm.out; simp at this; omega
        · omega⟩
      obtain ⟨d, hd⟩ : ∃ d, d = m' % 10 := ⟨_, rfl⟩
      have hd10 : d < 10 := by omega
      have hde : (m' : Int) % 10 = (d : Int) := by omega
      have HDD : Hid (d = m' % 10) := hd
      clear hd
      have hcell : wr.cell? ⟨g, a, none⟩ = some (.int .u8 0) := by
        rw [HB.out.cell, vals_get _ _ (by simp; omega)]
        congr 2
        simp [List.getD_eq_getElem?_getD, List.replicate_succ']
      have hfz := HB.out.frozen a
      have HB2 : Hid (Blk (wr.setCell ⟨g, a, none⟩ (.int .u8 (1 + (d : Int)))) g 140 (vals (List.replicate a 0 ++ ((d :: low).map (· + 1))))) := by
        have := HB.out.set a (.int .u8 ((d + 1 : Nat) : Int))
        rw [room_set] at this
        rw [show (1 + (d : Int)) = ((d + 1 : Nat) : Int) by omega]
        exact this
      have HW2 : Hid (Below W.heap.size W (wr.setCell ⟨g, a, none⟩ (.int .u8 (1 + (d : Int))))) := HW.out.setCell hg1 _
      have HL2 : Hid ((d :: low).length = 19 - a ∧ dgs 20 m = dgs (a + 1) (m' / 10) ++ (d :: low)) := ⟨by have := HL.out.1; simp; omega, by rw [HDD.out]; exact dgs_split m a m' low HL.out.2 (by omega)⟩
      have Hm2 : Hid (m' / 10 < 10 ^ a) := by
        show _ < _
        have := Hm.out
        rw [Nat.pow_succ] at this
        omega
      clear HB HW HL Hm
      go_wp2
      go_roundw
      case rel => exact ⟨a, m' / 10, d :: low, by go_num, by go_num, by omega, by omega, Hm2.out, HL2.out, HB2.out, HW2.out⟩
      case measure => simp [intOf]; omega
    · obtain rfl : m' = 0 := by omega
      have hlow : dgs 20 m = low := by
        rw [HL.out.2]
        rfl
      have hll : low.length = 19 - a := HL.out.1
      have hpos : 0 < low.length := by rw [← hlow]; exact dgs_pos 19 m (by omega)
      have HD : Hid (dgs 20 m = low) := hlow
      have HO1 : Hid (Own wr B v l) := HO.out.below HW.out
      have hsz := HW.out.size
      have HNE : Hid (v.ownBlock ≠ some g) := fun e => by
        have := (World.ownsRow.lt HO.out _ e).2
        omega
      obtain ⟨x, hx⟩ : ∃ x : Nat, x = (192 + (low.length : Int) - s).toNat := ⟨_, rfl⟩
      have hx256 : 192 + ((low.length : Int) - s) = (x : Int) := by omega
      have hx2 : x < 256 := by omega
      have hla : (19 : Int) - (a : Int) = (low.length : Int) := by omega
      have HLL : Hid (low.length = 19 - a) := hll
      have hll2 : low.length ≤ 19 := by omega
      have HXE : Hid (x = (192 + (low.length : Int) - s).toNat) := hx
      have hsl : ∀ w : World, (Instr.sliceAt 140 (.pointer (some ⟨g, 0, none⟩)) (some (.int .i64 (a : Int))) none none).run Tryz.prog w = .ok (.slice (some ⟨g, a, none⟩) low.length low.length) w := fun w => sl19 g a (by have := HLL.out; omega) low.length HLL.out w
      clear hlow hll hx h0 hmm hla
      clear HL Hm HO
      go_wp2_with (at_builtin; go_must (refine ap_bytes rfl (.tmp 29) (.tmp 33) rfl B v l rfl (HO1.out.alloc _) _ _ _ [x] rfl rfl (byt_lit wr [x]) (by simp) (by simp; omega) (by simp; omega) ?_))
      intro v2 w2 A2
      have HA2 : Hid (Ap B wr w2 v v2 (l ++ [x])) := Ap.after ((Below.refl _ _).alloc (Nat.le_refl _) _) A2
      have HR2 : Hid (Blk w2 g 140 (vals (List.replicate a 0 ++ low.map (· + 1)))) := A2.blk (HB.out.alloc _) HNE.out
      have HC2 : Hid (Cells w2 g a (low.map (· + 1))) := room_cells a _ HR2.out
      have hs2 := HA2.out.gr.size
      have HNE2 : Hid (v2.ownBlock ≠ some g) := fun e => by
        rcases HA2.out.ob _ e with h | h
        · exact HNE.out h
        · have := HB.out.lt
          omega
      have HOl : Hid (Oct (low.map (· + 1))) := fun y hy => by
        obtain ⟨z, hz, rfl⟩ := List.mem_map.1 hy
        rw [← HD.out] at hz
        have := dgs_lt 20 m z hz
        omega
      have hfirst : (low.map (· + 1)).getD 0 0 ≠ 1 := by
        have h1 := dgs_head 20 m (by omega) hm
        rw [HD.out] at h1
        rw [List.getD_eq_getElem?_getD, List.getElem?_map, List.getElem?_eq_getElem hpos]
        rw [List.getD_eq_getElem?_getD, List.getElem?_eq_getElem hpos] at h1
        simp at h1 ⊢
        exact h1
      have KT := trim_any (W := w2) g a low.length (low.map (· + 1)) HC2.out (by simp) (by omega) HOl.out (by simpa using hpos) hfirst
      rw [List.length_map] at KT
      clear A2 HB hfirst hsl
      go_wp2_with fail
      refine KT.mono ?_
      rintro e w3 ⟨k, rfl, hw3, HK⟩
      have hw3' := hw3.symm
      subst hw3'
      clear KT hw3
      obtain ⟨hk1, hk2, hk3, hk4⟩ := HK.out
      have HTk : Hid ((low.map (· + 1)).take k = (trz low).map (· + 1)) := trz_map low k hk1 (by simpa using hk3) hk4 hk2
      have hTl : ((low.map (· + 1)).take k).length = k := by rw [List.length_take, List.length_map]; omega
      have HBk : Hid (Byt w2 (some ⟨g, a, none⟩) ((low.map (· + 1)).take k)) := .inr ⟨g, a, rfl, fun i hi => by
        rw [hTl] at hi
        rw [HC2.out i (by rw [List.length_map]; omega)]
        congr 3
        rw [List.getD_eq_getElem?_getD, List.getD_eq_getElem?_getD, List.getElem?_take, if_pos hi]⟩
      clear hk3 hk4 HK
      have hk19 : k ≤ 19 := by omega
      clear hk1
      go_wp2_with (at_builtin; go_must (refine ap_bytes rfl (.tmp 35) (.tmp 37) rfl B v2 (l ++ [x]) rfl HA2.out.own (some ⟨g, a, none⟩) k low.length ((low.map (· + 1)).take k) hTl.symm rfl HBk.out (by simp) (by rw [hTl]; simp; omega) (by omega) ?_))
      intro v4 w4 A4
      have A4 : Ap B w2 w4 v2 v4 ((l ++ [x]) ++ (low.map (· + 1)).take k) := by simpa using A4
      have HA4 : Hid (Ap B wr w4 v v4 ((l ++ [x]) ++ (low.map (· + 1)).take k)) := HA2.out.trans A4
      have hs4 := HA4.out.gr.size
      have hlen4 : ((l ++ [x]) ++ (low.map (· + 1)).take k).length ≤ 800000100 := by rw [List.length_append, hTl]; simp; omega
      clear A4 HBk hTl
      go_wp2_with (at_builtin; go_must (refine ap_bytes rfl (.tmp 39) (.tmp 40) rfl B v4 ((l ++ [x]) ++ (low.map (· + 1)).take k) rfl (HA4.out.own.alloc _) _ _ _ [0] rfl rfl (byt_lit w4 [0]) (by simp) (by simp only [List.length_singleton]; omega) (by simp; omega) ?_))
      intro v5 w5 A5
      have XA : Ap B W w5 v v5 (l ++ posB m s) := by
        have h1 := HA4.out.trans (Ap.after ((Below.refl _ _).alloc (Nat.le_refl _) _) A5)
        rw [HTk.out] at h1
        have h2 : l ++ posB m s = l ++ [x] ++ (trz low).map (· + 1) ++ [0] := by
          rw [HP.out, HD.out, ← HXE.out]
          simp
        rw [h2]
        have h3 : Ap B wr w5 v v5 (l ++ [x] ++ (trz low).map (· + 1) ++ [0]) := by simpa using h1
        exact Ap.after HW.out h3
      have HXA : Hid _ := XA
      clear XA A5 HA4
      go_wp2
      go_ret
      exact ⟨v5, rfl, HXA.out⟩
end Go.Proofs.YtmlfhplhiedfjaaGreatDoor
namespace Go.Proofs.YtmlfhplhiedfjaaGreatDoor
open Go.RowKit Math
set_option linter.unusedVariables false
set_option linter.unusedSimpArgs false
theorem posB_oct (m : Nat) (s : Int) (hm2 : m < 10000000000000000000) (hs0 : 0 ≤ s) (hs1 : s ≤ 18) : Oct (posB m s) := by
  intro x hx
  have hl := dgs_len 20 m
  unfold posB at hx
  rcases List.mem_cons.1 hx with rfl | hx
  · omega
  rcases List.mem_append.1 hx with hx | hx
  · obtain ⟨z, hz, rfl⟩ := List.mem_map.1 hx
    have := dgs_lt 20 m z (trz_mem hz)
    omega
  · obtain rfl := List.mem_singleton.1 hx
    omega
theorem posB_len (m : Nat) (s : Int) : (posB m s).length ≤ 22 := by
  have h1 := dgs_len 20 m
  have h2 := trz_len (dgs 20 m)
  unfold posB
  simp
  omega
theorem posB_pos (m : Nat) (s : Int) : 0 < (posB m s).length := by unfold posB; simp
theorem getD_right (l m : List Nat) (k : Nat) : (l ++ m).getD (l.length + k) 0 = m.getD k 0 := by
  rw [List.getD_eq_getElem?_getD, List.getD_eq_getElem?_getD, List.getElem?_append_right (by omega)]
  simp
theorem numB_zero (s : Int) : numB 0 s = [128] := rfl
theorem numB_pos (m : Nat) (s : Int) (h : 0 < m) : numB (m : Int) s = posB m s := by
  unfold numB
  rw [if_neg (by omega), if_neg (by omega)]
  simp
theorem numB_neg (m : Nat) (s : Int) (h : 0 < m) : numB (-(m : Int)) s = turnB (posB m s) := by
  unfold numB
  rw [if_neg (by omega), if_pos (by omega)]
  simp
def box6 (k n s : Int) (t : ByteArray) (na : Option Addr) (nl nc : Nat) (ka : Option Addr) (kl kc : Nat) : List Value := [.int .i64 k, .int .i64 n, .int .i64 s, .string t, .slice na nl nc, .slice ka kl kc]
set_option maxRecDepth 8000 in
theorem kNum_zero (k s : Int) (t : ByteArray) (na : Option Addr) (nl nc : Nat) (ka : Option Addr) (kl kc : Nat) (v : Value) (l : List Nat) (B : Nat) (W : World) (ho : Own W B v l) (hB : B ≤ W.heap.size) (hl : l.length ≤ 800000000) :
    Calls Tryz.prog 38 #[v, .agg #[.int .i64 k, .int .i64 0, .int .i64 s, .string t, .slice na nl nc, .slice ka kl kc]] W fun e w' => ∃ v', e = .returned v' ∧ Ap B W w' v v' (l ++ [128]) := by
  obtain ⟨W1, HW1⟩ : ∃ W1, Hid (W.alloc (.cells #[.int .i64 k, .int .i64 0, .int .i64 s, .string t, .slice na nl nc, .slice ka kl kc] 38) = W1) := ⟨_, rfl⟩
  have HB1 : Hid (Below W.heap.size W W1) := by rw [← HW1.out]; exact (Below.refl _ _).alloc (Nat.le_refl _) _
  have HO1 : Hid (Own W1 B v l) := by rw [← HW1.out]; exact ho.alloc _
  have hz1 : W1.heap.size = W.heap.size + 1 := by have := HW1.out; subst this; simp
  clear ho
  go_enter Tryz.func38, Tryz.ntmps38
  go_wp2_with (at_builtin; go_must (generalize hWW : World.alloc W _ = W9; obtain rfl : W1 = W9 := (by rw [← hWW, ← HW1.out]); clear hWW HW1; refine ap_bytes rfl (.tmp 10) (.tmp 11) rfl B v l rfl (HO1.out.alloc _) _ _ _ [128] rfl rfl (by have := byt_lit W1 [128]; rw [hz1] at this; exact this) (by simp) (by simp; omega) (by simp; omega) ?_))
  intro v1 w1 A1
  have HA : Hid (Ap B W w1 v v1 (l ++ [128])) := Ap.after HB1.out (Ap.after ((Below.refl _ _).alloc (Nat.le_refl _) _) A1)
  clear A1
  go_wp2
  go_ret
  exact ⟨v1, rfl, HA.out⟩
set_option maxRecDepth 8000 in
theorem kNum_pos (k s : Int) (m : Nat) (t : ByteArray) (na : Option Addr) (nl nc : Nat) (ka : Option Addr) (kl kc : Nat) (v : Value) (l : List Nat) (B : Nat) (W : World) (ho : Own W B v l) (hB : B ≤ W.heap.size) (hl : l.length ≤ 800000000) (hm : 0 < m) (hm2 : m < 9223372036854775808) (hs0 : 0 ≤ s) (hs1 : s ≤ 18) :
    Calls Tryz.prog 38 #[v, .agg #[.int .i64 k, .int .i64 (m : Int), .int .i64 s, .string t, .slice na nl nc, .slice ka kl kc]] W fun e w' => ∃ v', e = .returned v' ∧ Ap B W w' v v' (l ++ posB m s) := by
  obtain ⟨W1, HW1⟩ : ∃ W1, Hid (W.alloc (.cells #[.int .i64 k, .int .i64 (m : Int), .int .i64 s, .string t, .slice na nl nc, .slice ka kl kc] 38) = W1) := ⟨_, rfl⟩
  have HX : Hid (Blk W1 W.heap.size 38 (box6 k m s t na nl nc ka kl kc)) := by rw [← HW1.out]; exact blk_new W 38 (box6 k m s t na nl nc ka kl kc)
  have HB1 : Hid (Below W.heap.size W W1) := by rw [← HW1.out]; exact (Below.refl _ _).alloc (Nat.le_refl _) _
  have HO1 : Hid (Own W1 B v l) := by rw [← HW1.out]; exact ho.alloc _
  have hz1 : W1.heap.size = W.heap.size + 1 := by have := HW1.out; subst this; simp
  have HN : Hid (v.ownBlock ≠ some W.heap.size) := ho.ne
  have K := kAb v l m s B W1 HO1.out (by omega) hl hm (by omega) hs0 hs1
  obtain ⟨ax, c, rfl, _⟩ := ho.byt
  have h0 : ((m : Int) == 0) = false := beq_eq_false_iff_ne.2 (by omega)
  clear ho
  go_enter Tryz.func38, Tryz.ntmps38
  go_wp2_with fail
  generalize hWW : World.alloc W _ = W9
  obtain rfl : W1 = W9 := by rw [← hWW, ← HW1.out]
  clear hWW HW1
  refine K.mono ?_
  rintro e w1 ⟨v1, rfl, A1⟩
  have HA : Hid (Ap B W w1 (.slice ax l.length c) v1 (l ++ posB m s)) := Ap.after HB1.out A1
  have c1 : w1.cell? ⟨W.heap.size, 1, none⟩ = some (.int .i64 (m : Int)) := (A1.blk HX.out HN.out).cell 1
  clear A1 K
  go_wp2
  go_ret
  exact ⟨v1, rfl, HA.out⟩
set_option maxRecDepth 8000 in
theorem kNum_neg (k s : Int) (m : Nat) (t : ByteArray) (na : Option Addr) (nl nc : Nat) (ka : Option Addr) (kl kc : Nat) (v : Value) (l : List Nat) (B : Nat) (W : World) (ho : Own W B v l) (hB : B ≤ W.heap.size) (hl : l.length ≤ 800000000) (hm : 0 < m) (hm2 : m ≤ 9223372036854775808) (hs0 : 0 ≤ s) (hs1 : s ≤ 18) :
    Calls Tryz.prog 38 #[v, .agg #[.int .i64 k, .int .i64 (-(m : Int)), .int .i64 s, .string t, .slice na nl nc, .slice ka kl kc]] W fun e w' => ∃ v', e = .returned v' ∧ Ap B W w' v v' (l ++ turnB (posB m s)) := by
  obtain ⟨W1, HW1⟩ : ∃ W1, Hid (W.alloc (.cells #[.int .i64 k, .int .i64 (-(m : Int)), .int .i64 s, .string t, .slice na nl nc, .slice ka kl kc] 38) = W1) := ⟨_, rfl⟩
  have HX : Hid (Blk W1 W.heap.size 38 (box6 k (-(m : Int)) s t na nl nc ka kl kc)) := by rw [← HW1.out]; exact blk_new W 38 (box6 k (-(m : Int)) s t na nl nc ka kl kc)
  have HB1 : Hid (Below W.heap.size W W1) := by rw [← HW1.out]; exact (Below.refl _ _).alloc (Nat.le_refl _) _
  have HO1 : Hid (Own W1 B v l) := by rw [← HW1.out]; exact ho.alloc _
  have hz1 : W1.heap.size = W.heap.size + 1 := by have := HW1.out; subst this; simp
  have HN : Hid (v.ownBlock ≠ some W.heap.size) := ho.ne
  have K := kAb v l m s B W1 HO1.out (by omega) hl hm (by omega) hs0 hs1
  obtain ⟨ax, c, rfl, _⟩ := ho.byt
  have h0 : ((-(m : Int)) == 0) = false := beq_eq_false_iff_ne.2 (by omega)
  have h1 : decide (-(m : Int) < 0) = true := decide_eq_true (by omega)
  have hwrap : IntKind.u64.wrap (-IntKind.u64.wrap (-(m : Int))) = (m : Int) := by
    have e : ∀ x, IntKind.u64.wrap x = x % 18446744073709551616 := fun _ => rfl
    rw [e, e]
    omega
  have hpl := posB_len m s
  have hpp := posB_pos m s
  have HPo : Hid (Oct (posB m s)) := posB_oct m s (by omega) hs0 hs1
  generalize posB m s = P at *
  clear ho
  go_enter Tryz.func38, Tryz.ntmps38
  go_wp2_with fail
  generalize hWW : World.alloc W _ = W9
  obtain rfl : W1 = W9 := by rw [← hWW, ← HW1.out]
  clear hWW HW1 hwrap
  refine K.mono ?_
  rintro e w1 ⟨v1, rfl, A1⟩
  have HA : Hid (Ap B W w1 (.slice ax l.length c) v1 (l ++ P)) := Ap.after HB1.out A1
  have HX1 : Hid (Blk w1 W.heap.size 38 (box6 k (-(m : Int)) s t na nl nc ka kl kc)) := A1.blk HX.out HN.out
  have c1 : w1.cell? ⟨W.heap.size, 1, none⟩ = some (.int .i64 (-(m : Int))) := HX1.out.cell 1
  obtain ⟨g, cp, rfl, _, _, hlc, hcm, _⟩ := A1.own.form (by rw [List.length_append]; omega)
  unfold maxLen at hcm
  have KT := turn_any g l.length cp B (l ++ P) w1 A1.own (fun j => by rw [getD_right]; exact oct_get HPo.out j) (by rw [List.length_append]; omega) (by rw [List.length_append]; omega) hcm hlc (cp - l.length)
  rw [List.length_append, Nat.add_sub_cancel_left, trn_end] at KT
  rw [List.length_append] at hlc
  have hne : ¬ (cp = l.length) := by omega
  have hlp : (l ++ P).length = l.length + P.length := List.length_append
  clear A1 K
  have HA' : Hid (Ap B W w1 (.slice ax l.length c) (.slice (some ⟨g, 0, none⟩) (l.length + P.length) cp) (l ++ P)) := by rw [← hlp]; exact HA.out
  clear HA hlp
  go_wp2_with fail
  refine KT.mono ?_
  rintro e w2 ⟨rfl, H2⟩
  have HF : Hid (Ap B W w2 (.slice ax l.length c) (.slice (some ⟨g, 0, none⟩) (l.length + P.length) cp) (l ++ turnB P)) := HA'.out.trans ⟨H2.out.1, H2.out.2, fun b hb => .inl hb⟩
  clear KT H2 HA' c1
  go_wp2
  go_ret
  exact ⟨_, rfl, HF.out⟩
theorem kNum (k n s : Int) (t : ByteArray) (na : Option Addr) (nl nc : Nat) (ka : Option Addr) (kl kc : Nat) (v : Value) (l : List Nat) (B : Nat) (W : World) (ho : Own W B v l) (hB : B ≤ W.heap.size) (hl : l.length ≤ 800000000) (n0 : -9223372036854775808 ≤ n) (n1 : n < 9223372036854775808) (hs0 : 0 ≤ s) (hs1 : s ≤ 18) :
    Calls Tryz.prog 38 #[v, .agg #[.int .i64 k, .int .i64 n, .int .i64 s, .string t, .slice na nl nc, .slice ka kl kc]] W fun e w' => ∃ v', e = .returned v' ∧ Ap B W w' v v' (l ++ numB n s) := by
  rcases Int.lt_trichotomy n 0 with h | rfl | h
  · obtain ⟨m, rfl⟩ : ∃ m : Nat, n = -(m : Int) := ⟨n.natAbs, by omega⟩
    rw [numB_neg m s (by omega)]
    exact kNum_neg k s m t na nl nc ka kl kc v l B W ho hB hl (by omega) (by omega) hs0 hs1
  · rw [numB_zero]
    exact kNum_zero k s t na nl nc ka kl kc v l B W ho hB hl
  · obtain ⟨m, rfl⟩ : ∃ m : Nat, n = (m : Int) := ⟨n.natAbs, by omega⟩
    rw [numB_pos m s (by omega)]
    exact kNum_pos k s m t na nl nc ka kl kc v l B W ho hB hl (by omega) (by omega) hs0 hs1
end Go.Proofs.YtmlfhplhiedfjaaGreatDoor
