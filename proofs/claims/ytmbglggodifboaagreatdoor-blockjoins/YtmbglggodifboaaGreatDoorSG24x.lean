/-
  The contract of octet.ReadUvarint: any bytes as a number, or refused. · The contract of the document's own ReadUvarint: it answers what octet.ReadUvarint does. · codec's reader: fail, take, next. · codec's reader: take, next. · codec's reader: next, uvarint, signed, truth, length. · codec's reader: uvarint, signed, truth, length.
-/
import Derived.Test.YtmbglggodifboaaGreatDoorSG3x
import Derived.Test.YtmbglggodifboaaGreatDoorSG10x
namespace Go.Proofs.YtmbglggodifboaaGreatDoor
open Go.RowKit Math
def tri (r : Nat × Nat × Nat) : Value := .tuple #[.int .u64 r.1, .int .i64 r.2.1, .int .i64 r.2.2]
theorem tri_ret {r : Nat × Nat × Nat} {a b c : Nat} (h : r = (a, b, c)) {x y z : Int} (hx : x = a) (hy : y = b) (hz : z = c) : Ending.returned (.tuple #[.int .u64 x, .int .i64 y, .int .i64 z]) = Ending.returned (tri r) := by
  subst h hx hy hz; rfl
set_option maxHeartbeats 400000 in
theorem ruv_any (a : Option Addr) (cap : Nat) (l : List Nat) (hn : l.length ≤ 1000000) (w : World) (hc : Byt w a l) (hb : Oct l) :
    Calls Tryz.prog 112 #[.slice a l.length cap] w fun e w' => e = .returned (tri (ruv l 0 0)) ∧ w' = w := by
  go_enter Tryz.func112, Tryz.ntmps112
  go_wp2
  go_loop [5, 10] (fun s i => ∃ k v : Nat, k ≤ l.length ∧ k ≤ 9 ∧ i = .int .i64 k ∧ s = .int .u64 v ∧ v < 18446744073709551616 ∧ Hid (ruv l 0 0 = ruv (l.drop k) k v)) (fun _ i => l.length - (intOf i).toNat)
  case atStart => exact ⟨0, 0, by omega, by omega, rfl, rfl, by omega, rfl⟩
  case round =>
    obtain ⟨k, v, hk, hk9, rfl, rfl, hv, HR⟩ := hrel
    by_cases hlt : k < l.length
    · rcases hc with rfl | ⟨b, off, rfl, hc⟩
      · simp at hlt
      have hck := hc k hlt
      have hx := oct_get hb k
      have HD : Hid (ruv l 0 0 = ruv (l.getD k 0 :: l.drop (k + 1)) k v) := by show _ = _; rw [HR.out, drop_get l k hlt]
      generalize l.getD k 0 = x at hx hck HD
      obtain ⟨v', he, hv', hd⟩ : ∃ v' : Nat, bits .or .u64 (v : Int) (IntKind.u64.wrap (IntKind.u64.wrap (bits .and .u8 (x : Int) 127) * 2 ^ (7 * k))) = (v' : Int) ∧ v' < 18446744073709551616 ∧ Hid (v' = acc v x k) :=
        ⟨_, acc_bits v x k hv hx, acc_lt v x k hv, rfl⟩
      clear hb hc HR
      by_cases h9 : ((k : Int) == 9) = true
      · have hk9' : k = 9 := by simp at h9; omega
        have hk0 : 0 < k := by omega
        by_cases hx1 : x ≤ 1
        · have hx0 : ((x : Int) == 0) = true ∨ ((x : Int) == 0) = false := by cases ((x : Int) == 0) <;> simp
          rcases hx0 with hx0 | hx0
          · have hx00 : x = 0 := by simpa using hx0
            have HZ : Hid (ruv l 0 0 = (0, 0, 3)) := by show _ = _; rw [HD.out, ruv_zero _ _ _ _ (by omega) hx00]
            clear HD hk9' hx00
            go_wp2
            go_ret3
            exact ⟨tri_ret HZ.out rfl rfl rfl, rfl⟩
          · have hx00 : ¬ x = 0 := by simpa using hx0
            have HZ : Hid (ruv l 0 0 = (v', k + 1, 0)) := by show _ = _; rw [HD.out, ruv_end _ _ _ _ (by omega) (by omega) (by omega), hd.out]
            clear HD hk9' hx00
            go_wp2
            go_ret3
            exact ⟨tri_ret HZ.out rfl (by omega) rfl, rfl⟩
        · have HZ : Hid (ruv l 0 0 = (0, 0, 3)) := by show _ = _; rw [HD.out, ruv_nine _ _ _ _ hk9' (by omega)]
          clear HD hk9'
          go_wp2
          go_ret3
          exact ⟨tri_ret HZ.out rfl rfl rfl, rfl⟩
      · have hk9' : ¬ k = 9 := by intro h; subst h; simp at h9
        have h9 : ((k : Int) == 9) = false := by simpa using h9
        by_cases h127 : 127 < x
        · have HZ : Hid (ruv l 0 0 = ruv (l.drop (k + 1)) (k + 1) v') := by show _ = _; rw [HD.out, ruv_more _ _ _ _ (by omega) h127, hd.out]
          have hk9' : k < 9 := by omega
          clear HD
          go_wp2
          go_round
          case rel => exact ⟨k + 1, v', by omega, by omega, by go_num, rfl, hv', HZ⟩
          case measure => simp [intOf]; omega
        · have hx0 : ((x : Int) == 0) = true ∨ ((x : Int) == 0) = false := by cases ((x : Int) == 0) <;> simp
          by_cases hk0 : 0 < k
          · rcases hx0 with hx0 | hx0
            · have hx00 : x = 0 := by simpa using hx0
              have HZ : Hid (ruv l 0 0 = (0, 0, 3)) := by show _ = _; rw [HD.out, ruv_zero _ _ _ _ hk0 hx00]
              clear HD hk9' hx00
              go_wp2
              go_ret3
              exact ⟨tri_ret HZ.out rfl rfl rfl, rfl⟩
            · have hx00 : ¬ x = 0 := by simpa using hx0
              have HZ : Hid (ruv l 0 0 = (v', k + 1, 0)) := by show _ = _; rw [HD.out, ruv_end _ _ _ _ (by omega) (by omega) (by omega), hd.out]
              clear HD hk9' hx00
              go_wp2
              go_ret3
              exact ⟨tri_ret HZ.out rfl (by omega) rfl, rfl⟩
          · have HZ : Hid (ruv l 0 0 = (v', k + 1, 0)) := by show _ = _; rw [HD.out, ruv_end _ _ _ _ (by omega) (by omega) (by omega), hd.out]
            clear HD hk9' hx0
            go_wp2
            go_ret3
            exact ⟨tri_ret HZ.out rfl (by omega) rfl, rfl⟩
    · have HZ : Hid (ruv l 0 0 = (0, 0, 2)) := by show _ = _; rw [HR.out, List.drop_of_length_le (by omega)]; rfl
      clear HR hc hb
      go_wp2
      go_ret3
      exact ⟨tri_ret HZ.out rfl rfl rfl, rfl⟩

end Go.Proofs.YtmbglggodifboaaGreatDoor
namespace Go.Proofs.YtmbglggodifboaaGreatDoor
open Go.RowKit Math
end Go.Proofs.YtmbglggodifboaaGreatDoor
namespace Go.Proofs.YtmbglggodifboaaGreatDoor
open Go.RowKit Math
set_option linter.unusedVariables false
set_option maxRecDepth 8000 in
theorem or_any (a b : Int) (g c : Nat) (w : World) (h0 : w.cell? ⟨g, 0, none⟩ = some (.int .i64 a)) (h1 : w.cell? ⟨g, 1, none⟩ = some (.int .i64 b)) :
    Calls Tryz.prog 97 #[.slice (some ⟨g, 0, none⟩) 2 c] w fun e w' => e = .returned (.int .i64 (if a ≠ 0 then a else b)) ∧ w' = w := by
  have H0 : Hid (w.cell? ⟨g, 0, none⟩ = some (.int .i64 a)) := h0
  have H1 : Hid (w.cell? ⟨g, 1, none⟩ = some (.int .i64 b)) := h1
  clear h0 h1
  obtain ⟨E, HE⟩ : ∃ E, Hid ((if a ≠ 0 then a else b) = E) := ⟨_, rfl⟩
  rw [HE.out]
  go_enter Tryz.func97, Tryz.ntmps97
  go_wp2
  go_loopw [8] (fun i wr => ∃ k : Nat, k ≤ 2 ∧ i = .int .i64 (k : Int) ∧ wr = w ∧ Hid (1 ≤ k → a = 0) ∧ Hid (2 ≤ k → b = 0)) (fun i _ => 2 - (intOf i).toNat)
  case atStart => exact ⟨0, by omega, rfl, rfl, fun h => by omega, fun h => by omega⟩
  case round =>
    obtain ⟨k, hk, rfl, rfl, HA, HB⟩ := hrel
    by_cases k2 : k = 2
    · subst k2
      have ha := HA.out (by omega)
      have hb := HB.out (by omega)
      go_wp2
      go_ret
      exact ⟨ret_int (by rw [← HE.out, ha, hb]; rfl), rfl⟩
    by_cases k1 : k = 1
    · subst k1
      have c1 := H1.out
      by_cases hb : b = 0
      · have hbb : (b != 0) = false := by simpa using hb
        have HB0 : Hid (b = 0) := hb
        clear hb
        go_wp2
        go_roundw
        case rel => exact ⟨2, by omega, rfl, trivial, fun _ => HA.out (by omega), fun _ => HB0.out⟩
        case measure => simp [intOf]
      · have hbb : (b != 0) = true := by simpa using hb
        have ha := HA.out (by omega)
        have HAA : Hid (a = 0) := ha
        clear ha
        go_wp2
        go_ret
        exact ⟨ret_int (by rw [← HE.out, if_neg (by simpa using HAA.out)]), rfl⟩
    obtain rfl : k = 0 := by omega
    have c0 := H0.out
    by_cases ha : a = 0
    · have hab : (a != 0) = false := by simpa using ha
      have HA0 : Hid (a = 0) := ha
      clear ha
      go_wp2
      go_roundw
      case rel => exact ⟨1, by omega, rfl, trivial, fun _ => HA0.out, fun h => by omega⟩
      case measure => simp [intOf]
    · have hab : (a != 0) = true := by simpa using ha
      go_wp2
      go_ret
      exact ⟨ret_int (by rw [← HE.out, if_pos ha]), rfl⟩
theorem or_lit (a b : Int) (w : World) : Calls Tryz.prog 97 #[.slice (some ⟨w.heap.size, 0, none⟩) 2 2] (w.alloc (.cells #[.int .i64 a, .int .i64 b] 29)) fun e w' => e = .returned (.int .i64 (if a ≠ 0 then a else b)) ∧ w' = w.alloc (.cells #[.int .i64 a, .int .i64 b] 29) :=
  or_any a b w.heap.size 2 _ (by simp [World.cell?_alloc_new]) (by simp [World.cell?_alloc_new])
/-- The reader in memory, and what is as it was. -/
structure Ro (r : Nat) (ab : Option Addr) (cb N : Nat) (W w' : World) (i : Nat) (err : Int) : Prop where
  blk : Blk w' r 170 [.slice ab N cb, .int .i64 (i : Int), .int .i64 err]
  le : i ≤ N
  gr : W.grownBy w' (some r)
theorem Ro.trans {r : Nat} {ab : Option Addr} {cb N : Nat} {W w1 w2 : World} {i j : Nat} {e f : Int} (h : Ro r ab cb N W w1 i e) (k : Ro r ab cb N w1 w2 j f) : Ro r ab cb N W w2 j f := ⟨k.blk, k.le, h.gr.trans k.gr⟩
theorem Ro.after {r : Nat} {ab : Option Addr} {cb N : Nat} {W w1 w2 : World} {j : Nat} {f : Int} (g : Below W.heap.size W w1) (k : Ro r ab cb N w1 w2 j f) : Ro r ab cb N W w2 j f :=
  ⟨k.blk, k.le, ⟨k.gr.os.trans g.os, k.gr.tape.trans g.tape, k.gr.output.trans g.output, Nat.le_trans g.size k.gr.size, fun i hi hne => (k.gr.block i (Nat.lt_of_lt_of_le hi g.size) hne).trans (g.block i hi)⟩⟩
theorem s30 : (Tryz.prog.info? 29).map (·.size) = some 1 := by kernel_rfl
theorem s3 : (Tryz.prog.info? 3).map (·.size) = some 1 := by kernel_rfl
set_option maxRecDepth 8000 in
theorem fail_any (r : Nat) (ab : Option Addr) (cb N i : Nat) (hi : i ≤ N) (err e : Int) (W : World) (hb : Blk W r 170 [.slice ab N cb, .int .i64 (i : Int), .int .i64 err]) :
    Calls Tryz.prog 128 #[.pointer (some ⟨r, 0, none⟩), .int .i64 e] W fun e' w' => e' = .returned (.tuple #[]) ∧ Hid (Ro r ab cb N W w' i (if err ≠ 0 then err else e)) := by
  have c2 : W.cell? ⟨r, 2, none⟩ = some (.int .i64 err) := hb.cell 2
  have HB : Hid (Blk (W.alloc (.cells #[.int .i64 err, .int .i64 e] 29)) r 170 [.slice ab N cb, .int .i64 (i : Int), .int .i64 err]) := hb.alloc _
  have HG : Hid (W.grownBy (W.alloc (.cells #[.int .i64 err, .int .i64 e] 29)) (some r)) := World.grownBy_alloc W _ _
  have K := or_lit err e W
  generalize (if err ≠ 0 then err else e) = E at *
  clear hb
  go_enter Tryz.func128, Tryz.ntmps128
  go_wp2_with fail
  refine K.mono ?_
  clear K
  generalize W.alloc (.cells #[.int .i64 err, .int .i64 e] 29) = W1 at *
  rintro e w1 ⟨rfl, hw⟩
  have hw' := hw.symm
  subst hw'
  clear hw
  go_wp2_with (refine st_one rfl 29 (.tmp 13) (.tmp 11) rfl r 2 170 _ _ rfl rfl rfl rfl (by simp) HB.out s30 ?_)
  intro w2 b2 g2
  have HR : Hid (Ro r ab cb N W w2 i E) := ⟨b2, hi, HG.out.trans g2⟩
  clear b2 g2 HB HG
  go_wp2
  go_end0
  exact ⟨rfl, HR.out⟩
end Go.Proofs.YtmbglggodifboaaGreatDoor
namespace Go.Proofs.YtmbglggodifboaaGreatDoor
open Go.RowKit Math
set_option linter.unusedVariables false
theorem Blk.drewN {w : World} {b : Nat} {t : TypeId} {vs : List Value} (h : Blk w b t vs) (q : Nat) : Blk (w.drewN q) b t vs := by
  unfold Blk at *; simpa using h
theorem grown_dq (w : World) (q : Nat) (row : Option Nat) : w.grownBy (w.drewN q) row := ⟨rfl, rfl, rfl, Nat.le_refl _, fun _ _ _ => rfl⟩
set_option maxRecDepth 8000 in
theorem take_ok (r : Nat) (bb ob cb N i n j : Nat) (hj : i + n = j) (hi : j ≤ N) (hN : N ≤ 1000000) (hcb : N ≤ cb) (hcm : cb ≤ 9223372036854775807) (W : World) (hb : Blk W r 170 [.slice (some ⟨bb, ob, none⟩) N cb, .int .i64 (i : Int), .int .i64 0]) :
    Calls Tryz.prog 135 #[.pointer (some ⟨r, 0, none⟩), .int .i64 (n : Int)] W fun e w' => ∃ o c, e = .returned (.slice (some ⟨bb, o, none⟩) n c) ∧ Hid (Ro r (some ⟨bb, ob, none⟩) cb N W w' j 0 ∧ (0 < n → o = ob + i)) := by
  have c0 : W.cell? ⟨r, 0, none⟩ = some (.slice (some ⟨bb, ob, none⟩) N cb) := hb.cell 0
  have c1 : W.cell? ⟨r, 1, none⟩ = some (.int .i64 (i : Int)) := hb.cell 1
  have c2 : W.cell? ⟨r, 2, none⟩ = some (.int .i64 0) := hb.cell 2
  have HB : Hid (Blk W r 170 [.slice (some ⟨bb, ob, none⟩) N cb, .int .i64 (i : Int), .int .i64 0]) := hb
  have hgt : decide ((N : Int) - (i : Int) < (n : Int)) = false := by simp; omega
  have hin : (i : Int) + (n : Int) = (j : Int) := by omega
  have hjn : (j : Int) - (n : Int) = (i : Int) := by omega
  have hij : i ≤ j := by omega
  have hjcb : j ≤ cb := by omega
  have hje : j - i = n := by omega
  clear hb hj
  go_enter Tryz.func135, Tryz.ntmps135
  go_wp2
  go_quiet (fail)
  have HB2 : Hid (Blk (W.drewN nq) r 170 [.slice (some ⟨bb, ob, none⟩) N cb, .int .i64 (i : Int), .int .i64 0]) := HB.out.drewN nq
  have HG2 : Hid (W.grownBy (W.drewN nq) (some r)) := grown_dq W nq _
  generalize W.drewN nq = W2 at *
  clear c0 c1 c2 HB
  have c0 : W2.cell? ⟨r, 0, none⟩ = some (.slice (some ⟨bb, ob, none⟩) N cb) := HB2.out.cell 0
  have c1 : W2.cell? ⟨r, 1, none⟩ = some (.int .i64 (i : Int)) := HB2.out.cell 1
  have c2 : W2.cell? ⟨r, 2, none⟩ = some (.int .i64 0) := HB2.out.cell 2
  go_wp2_with (refine st_one rfl 3 (.tmp 31) (.tmp 29) rfl r 1 170 _ (.int .i64 (j : Int)) rfl rfl rfl rfl (by simp) HB2.out s3 ?_)
  intro w3 b3 g3
  have HR : Hid (Ro r (some ⟨bb, ob, none⟩) cb N W w3 j 0) := ⟨b3, hi, HG2.out.trans g3⟩
  clear c0 c1 c2 HB2 HG2 b3 g3
  have d0 : w3.cell? ⟨r, 0, none⟩ = some (.slice (some ⟨bb, ob, none⟩) N cb) := HR.out.blk.cell 0
  have d1 : w3.cell? ⟨r, 1, none⟩ = some (.int .i64 (j : Int)) := HR.out.blk.cell 1
  go_wp2
  go_quiet (fail)
  have HR3 : Hid (Ro r (some ⟨bb, ob, none⟩) cb N W (w3.drewN nq) j 0) := ⟨HR.out.blk.drewN nq, HR.out.le, HR.out.gr.trans (grown_dq _ _ _)⟩
  generalize w3.drewN nq = w4 at *
  clear HR d0 d1
  by_cases hci : cb = i
  · subst hci
    have hn0 : ¬ 0 < n := by omega
    go_wp2
    go_ret
    exact ⟨_, _, rfl, HR3.out, fun h => absurd h hn0⟩
  · go_wp2
    go_ret
    first
    | exact ⟨_, _, rfl, HR3.out, fun h => rfl⟩
    | exact ⟨_, ⟨_, rfl⟩, HR3.out, fun h => rfl⟩
    | exact ⟨_, rfl, ⟨HR3.out, fun h => rfl⟩⟩
set_option maxRecDepth 8000 in
theorem take_no (r : Nat) (ab : Option Addr) (cb N i n : Nat) (hi : i ≤ N) (hN : N ≤ 1000000) (err : Int) (hne : err ≠ 0 ∨ N < i + n) (W : World) (hb : Blk W r 170 [.slice ab N cb, .int .i64 (i : Int), .int .i64 err]) :
    Calls Tryz.prog 135 #[.pointer (some ⟨r, 0, none⟩), .int .i64 (n : Int)] W fun e w' => e = .returned (.slice none 0 0) ∧ Hid (Ro r ab cb N W w' i (if err ≠ 0 then err else 2)) := by
  have c0 : W.cell? ⟨r, 0, none⟩ = some (.slice ab N cb) := hb.cell 0
  have c1 : W.cell? ⟨r, 1, none⟩ = some (.int .i64 (i : Int)) := hb.cell 1
  have c2 : W.cell? ⟨r, 2, none⟩ = some (.int .i64 err) := hb.cell 2
  have HB : Hid (Blk W r 170 [.slice ab N cb, .int .i64 (i : Int), .int .i64 err]) := hb
  obtain ⟨E, HE⟩ : ∃ E, Hid ((if err ≠ 0 then err else 2) = E) := ⟨_, rfl⟩
  have hEn : (E != 0) = true := by
    rw [← HE.out]
    by_cases h : err = 0
    · simp [h]
    · simp [h]
  rw [HE.out]
  clear hb
  by_cases hs : N < i + n
  · have hgt : decide ((N : Int) - (i : Int) < (n : Int)) = true := by simp; omega
    go_enter Tryz.func135, Tryz.ntmps135
    go_wp2
    go_quiet (fail)
    have HB2 : Hid (Blk (W.drewN nq) r 170 [.slice ab N cb, .int .i64 (i : Int), .int .i64 err]) := HB.out.drewN nq
    have HG2 : Hid (W.grownBy (W.drewN nq) (some r)) := grown_dq W nq _
    generalize W.drewN nq = W2 at *
    have K := fail_any r ab cb N i hi err 2 W2 HB2.out
    rw [HE.out] at K
    clear c0 c1 c2 HB
    go_wp2_with fail
    refine K.mono ?_
    clear K
    rintro e w3 ⟨rfl, H3⟩
    have HR : Hid (Ro r ab cb N W w3 i E) := ⟨H3.out.blk, H3.out.le, HG2.out.trans H3.out.gr⟩
    have d2 : w3.cell? ⟨r, 2, none⟩ = some (.int .i64 E) := H3.out.blk.cell 2
    clear H3 HB2 HG2
    go_wp2
    go_ret
    exact ⟨rfl, HR.out⟩
  · have hgt : decide ((N : Int) - (i : Int) < (n : Int)) = false := by simp; omega
    have hr0 : err ≠ 0 := by omega
    have hEe : E = err := by rw [← HE.out, if_pos hr0]
    subst hEe
    clear HE hne
    go_enter Tryz.func135, Tryz.ntmps135
    go_wp2
    go_quiet (fail)
    have HR : Hid (Ro r ab cb N W (W.drewN nq) i E) := ⟨HB.out.drewN nq, hi, grown_dq _ _ _⟩
    generalize W.drewN nq = W2 at *
    have d2 : W2.cell? ⟨r, 2, none⟩ = some (.int .i64 E) := HR.out.blk.cell 2
    clear c0 c1 c2 HB
    go_wp2
    go_ret
    exact ⟨rfl, HR.out⟩
end Go.Proofs.YtmbglggodifboaaGreatDoor
namespace Go.Proofs.YtmbglggodifboaaGreatDoor
open Go.RowKit Math
set_option linter.unusedVariables false
/-- What a reader reads. -/
structure En (w0 W : World) (r : Nat) (ab : Option Addr) (cb : Nat) (L : List Nat) : Prop where
  byt : Byt w0 ab L
  oct : Oct L
  bl : Below w0.heap.size w0 W
  lt : w0.heap.size ≤ r
  len : L.length ≤ 1000000
  cap : L.length ≤ cb
  cm : cb ≤ 9223372036854775807
  nil : ab = none → cb = 0
theorem En.ro {w0 W w' : World} {r : Nat} {ab : Option Addr} {cb : Nat} {L : List Nat} {i : Nat} {err : Int} (h : En w0 W r ab cb L) (k : Ro r ab cb L.length W w' i err) : En w0 w' r ab cb L :=
  ⟨h.byt, h.oct, h.bl.grown k.gr h.bl.size (fun x e => by injection e with e; have := h.lt; omega), h.lt, h.len, h.cap, h.cm, h.nil⟩
theorem En.below {w0 W w' : World} {r : Nat} {ab : Option Addr} {cb : Nat} {L : List Nat} (h : En w0 W r ab cb L) (k : Below W.heap.size W w') : En w0 w' r ab cb L :=
  ⟨h.byt, h.oct, h.bl.trans (k.mono h.bl.size), h.lt, h.len, h.cap, h.cm, h.nil⟩
theorem En.ptr {w0 W : World} {r : Nat} {ab : Option Addr} {cb : Nat} {L : List Nat} (h : En w0 W r ab cb L) (hL : 0 < L.length) : ∃ bb ob, ab = some ⟨bb, ob, none⟩ ∧ Cells w0 bb ob L := by
  rcases h.byt with e | ⟨bb, ob, e, hc⟩
  · rw [e] at hL; simp at hL
  · exact ⟨bb, ob, e, hc⟩
theorem En.cell {w0 W : World} {r : Nat} {bb ob cb : Nat} {L : List Nat} (h : En w0 W r (some ⟨bb, ob, none⟩) cb L) {i : Nat} (hi : i < L.length) : W.cell? ⟨bb, ob + i, none⟩ = some (.int .u8 ((L.getD i 0 : Nat) : Int)) := by
  rcases h.byt with e | ⟨b, o, e, hc⟩
  · rw [e] at hi; simp at hi
  · simp only [Option.some.injEq, Addr.mk.injEq, and_true] at e
    obtain ⟨rfl, rfl⟩ := e
    have := hc i hi
    rw [← this]
    exact h.bl.cell (p := ⟨bb, ob + i, none⟩) (cell_lt this)
/-- One step of a reader: behind an error nothing is done. -/
def St {α : Type} (f : Rdr α) (L : List Nat) (i : Nat) (err : Int) (j : Nat) (err' : Int) (x : α) : Prop :=
  (err ≠ 0 ∧ j = i ∧ err' = err) ∨ (err = 0 ∧ ((f (L.drop i) = .ok (x, L.drop j) ∧ err' = 0 ∧ i ≤ j) ∨ ∃ e : Nat, f (L.drop i) = .error e ∧ err' = (e : Int) ∧ e ≠ 0))
def RdC {α : Type} (F : Nat) (f : Rdr α) (val : α → Value) (P Z : α → Prop) : Prop := ∀ (w0 W : World) (r : Nat) (ab : Option Addr) (cb : Nat) (L : List Nat) (i : Nat) (err : Int), En w0 W r ab cb L → Blk W r 170 [.slice ab L.length cb, .int .i64 (i : Int), .int .i64 err] → i ≤ L.length →
  Calls Tryz.prog F #[.pointer (some ⟨r, 0, none⟩)] W fun e w' => ∃ x j err', e = .returned (val x) ∧ P x ∧ (err' ≠ 0 → Z x) ∧ Hid (Ro r ab cb L.length W w' j err' ∧ St f L i err j err' x)
set_option maxRecDepth 8000 in
theorem next_any : RdC 129 byR (fun x => .int .i64 (x : Int)) (· < 256) (· = 0) := by
  intro w0 W r ab cb L i err hE hb hi
  have hlen := hE.len
  have hcap := hE.cap
  have hcm := hE.cm
  by_cases hno : err ≠ 0 ∨ L.length < i + 1
  · have K := take_no r ab cb L.length i 1 hi hE.len err hno W hb
    obtain ⟨E, HEE⟩ : ∃ E, Hid ((if err ≠ 0 then err else 2) = E) := ⟨_, rfl⟩
    rw [HEE.out] at K
    have HS : Hid (St byR L i err i E 0) := by
      by_cases he : err = 0
      · right
        refine ⟨he, .inr ⟨2, ?_, ?_, by decide⟩⟩
        · rw [List.drop_of_length_le (by omega)]; rfl
        · rw [← HEE.out, if_neg (by simpa using he)]; rfl
      · left
        exact ⟨he, rfl, by rw [← HEE.out, if_pos he]⟩
    clear hb hE
    go_enter Tryz.func129, Tryz.ntmps129
    go_wp2_with fail
    refine K.mono ?_
    clear K
    rintro e w1 ⟨rfl, H1⟩
    go_wp2
    go_ret
    exact ⟨0, i, E, rfl, by decide, fun _ => rfl, H1.out, HS.out⟩
  have herr : err = 0 := by omega
  subst herr
  have hlt : i < L.length := by omega
  obtain ⟨bb, ob, rfl, hc⟩ := hE.ptr (by omega)
  have K := take_ok r bb ob cb L.length i 1 (i + 1) rfl (by omega) hE.len hE.cap hE.cm W hb
  have HE : Hid (En w0 W r (some ⟨bb, ob, none⟩) cb L) := hE
  have hx : L.getD i 0 < 256 := oct_get hE.oct i
  have HS : Hid (St byR L i 0 (i + 1) 0 (L.getD i 0)) := .inr ⟨rfl, .inl ⟨by rw [drop_get L i hlt]; rfl, rfl, by omega⟩⟩
  clear hb hc hE
  go_enter Tryz.func129, Tryz.ntmps129
  go_wp2_with fail
  refine K.mono ?_
  clear K
  rintro e w1 ⟨oo, c, rfl, H1⟩
  have ha := H1.out.2 (by omega)
  subst ha
  have HR : Hid (Ro r (some ⟨bb, ob, none⟩) cb L.length W w1 (i + 1) 0) := H1.out.1
  have cx : w1.cell? ⟨bb, ob + i, none⟩ = some (.int .u8 ((L.getD i 0 : Nat) : Int)) := (HE.out.ro HR.out).cell hlt
  generalize L.getD i 0 = x at *
  clear H1 HE
  go_wp2
  go_ret
  exact ⟨x, i + 1, 0, rfl, hx, fun h => absurd rfl h, HR.out, HS.out⟩
theorem ruv_bad : ∀ (l : List Nat) (k v : Nat), (ruv l k v).2.2 ≠ 0 → (ruv l k v).1 = 0 ∧ (ruv l k v).2.1 = 0
  | [], k, v, h => ⟨rfl, rfl⟩
  | x :: l, k, v, h => by
    unfold ruv at h ⊢
    split
    · exact ⟨rfl, rfl⟩
    · next h1 =>
      rw [if_neg h1] at h
      split
      · next h2 =>
        rw [if_pos h2] at h
        exact ruv_bad l _ _ h
      · next h2 =>
        rw [if_neg h2] at h
        split
        · exact ⟨rfl, rfl⟩
        · next h3 =>
          rw [if_neg h3] at h
          exact absurd rfl h
theorem ruv_good {l : List Nat} (ho : Oct l) (h : (ruv l 0 0).2.2 = 0) : (ruv l 0 0).1 < 18446744073709551616 ∧ (ruv l 0 0).2.1 ≤ l.length ∧ (ruv l 0 0).2.1 ≤ 10 ∧ 0 < (ruv l 0 0).2.1 := by
  obtain ⟨q, r, e1, e2, e3, _, e5⟩ := ruv_inv l 0 0 (ruv l 0 0).1 (ruv l 0 0).2.1 ho (by decide) (by decide) (by
    generalize ruv l 0 0 = t at *
    obtain ⟨a, b, c⟩ := t
    simp only at h
    rw [h])
  have e3 : (ruv l 0 0).1 = q := by simpa using e3
  refine ⟨e5, ?_, ?_, ?_⟩
  · rw [e2, Nat.zero_add]
    conv => rhs; rw [e1]
    simp
  · rw [e2, Nat.zero_add]
    exact uv_ten q (by omega)
  · rw [e2, Nat.zero_add]
    exact uv_pos q
end Go.Proofs.YtmbglggodifboaaGreatDoor
namespace Go.Proofs.YtmbglggodifboaaGreatDoor
open Go.RowKit Math
set_option linter.unusedVariables false
set_option maxRecDepth 8000 in
theorem uv_err (r : Nat) (ab : Option Addr) (cb N i : Nat) (err : Int) (he : err ≠ 0) (W : World) (hb : Blk W r 170 [.slice ab N cb, .int .i64 (i : Int), .int .i64 err]) :
    Calls Tryz.prog 132 #[.pointer (some ⟨r, 0, none⟩)] W fun e w' => e = .returned (.int .u64 0) ∧ w' = W := by
  have c2 : W.cell? ⟨r, 2, none⟩ = some (.int .i64 err) := hb.cell 2
  have hne : (err != 0) = true := by simpa using he
  clear hb
  go_enter Tryz.func132, Tryz.ntmps132
  go_wp2
  go_ret
  exact ⟨rfl, rfl⟩
set_option maxRecDepth 8000 in
theorem uv_end (r : Nat) (bb ob N j u n e : Nat) (hj : N + n = j) (hn : n ≤ 10) (hN : N ≤ 1000000) (hjN : j ≤ N) (W : World) (hb : Blk W r 170 [.slice (some ⟨bb, ob, none⟩) N N, .int .i64 (N : Int), .int .i64 0])
    (KS : Hid (∀ q, Calls Tryz.prog 112 #[.slice (some ⟨bb, ob, none⟩) 0 0] (W.drewN q) fun e' w' => e' = .returned (.tuple #[.int .u64 (u : Int), .int .i64 (n : Int), .int .i64 (e : Int)]) ∧ w' = W.drewN q)) :
    Calls Tryz.prog 132 #[.pointer (some ⟨r, 0, none⟩)] W fun e' w' => e' = .returned (.int .u64 (u : Int)) ∧ Hid (Ro r (some ⟨bb, ob, none⟩) N N W w' j (e : Int)) := by
  have c0 : W.cell? ⟨r, 0, none⟩ = some (.slice (some ⟨bb, ob, none⟩) N N) := hb.cell 0
  have c1 : W.cell? ⟨r, 1, none⟩ = some (.int .i64 (N : Int)) := hb.cell 1
  have c2 : W.cell? ⟨r, 2, none⟩ = some (.int .i64 0) := hb.cell 2
  have HB : Hid (Blk W r 170 [.slice (some ⟨bb, ob, none⟩) N N, .int .i64 (N : Int), .int .i64 0]) := hb
  have hin : (N : Int) + (n : Int) = (j : Int) := by omega
  clear hb hj
  go_enter Tryz.func132, Tryz.ntmps132
  go_wp2
  go_quiet (exact Calls.quiet_of_same (KS.out _))
  clear KS
  have HB2 : Hid (Blk (W.drewN nq) r 170 [.slice (some ⟨bb, ob, none⟩) N N, .int .i64 (N : Int), .int .i64 0]) := HB.out.drewN nq
  have HG2 : Hid (W.grownBy (W.drewN nq) (some r)) := grown_dq W nq _
  generalize W.drewN nq = W2 at *
  have K := fail_any r (some ⟨bb, ob, none⟩) N N N (Nat.le_refl _) 0 (e : Int) W2 HB2.out
  simp only [ne_eq, not_true_eq_false, if_false] at K
  clear c0 c1 c2 HB
  go_wp2_with fail
  refine K.mono ?_
  clear K
  rintro e' w3 ⟨rfl, H3⟩
  have HB3 : Hid (Blk w3 r 170 [.slice (some ⟨bb, ob, none⟩) N N, .int .i64 (N : Int), .int .i64 (e : Int)]) := H3.out.blk
  have HG3 : Hid (W.grownBy w3 (some r)) := HG2.out.trans H3.out.gr
  have d1 : w3.cell? ⟨r, 1, none⟩ = some (.int .i64 (N : Int)) := HB3.out.cell 1
  clear H3 HB2 HG2
  go_wp2_with (refine st_one rfl 3 (.tmp 35) (.tmp 33) rfl r 1 170 _ (.int .i64 (j : Int)) rfl rfl rfl rfl (by simp) HB3.out s3 ?_)
  intro w4 b4 g4
  have HR : Hid (Ro r (some ⟨bb, ob, none⟩) N N W w4 j (e : Int)) := ⟨b4, hjN, HG3.out.trans g4⟩
  clear b4 g4 HB3 HG3 d1
  go_wp2
  go_ret
  exact ⟨rfl, HR.out⟩
set_option maxRecDepth 8000 in
theorem uv_mid (r : Nat) (bb ob cb N i j u n e : Nat) (hj : i + n = j) (hn : n ≤ 10) (hi : i ≤ N) (hN : N ≤ 1000000) (hcb : N ≤ cb) (hcm : cb ≤ 9223372036854775807) (hjN : j ≤ N) (hci : ¬ cb = i) (W : World) (hb : Blk W r 170 [.slice (some ⟨bb, ob, none⟩) N cb, .int .i64 (i : Int), .int .i64 0])
    (KS : Hid (∀ q, Calls Tryz.prog 112 #[.slice (some ⟨bb, ob + i, none⟩) (N - i) (cb - i)] (W.drewN q) fun e' w' => e' = .returned (.tuple #[.int .u64 (u : Int), .int .i64 (n : Int), .int .i64 (e : Int)]) ∧ w' = W.drewN q)) :
    Calls Tryz.prog 132 #[.pointer (some ⟨r, 0, none⟩)] W fun e' w' => e' = .returned (.int .u64 (u : Int)) ∧ Hid (Ro r (some ⟨bb, ob, none⟩) cb N W w' j (e : Int)) := by
  have c0 : W.cell? ⟨r, 0, none⟩ = some (.slice (some ⟨bb, ob, none⟩) N cb) := hb.cell 0
  have c1 : W.cell? ⟨r, 1, none⟩ = some (.int .i64 (i : Int)) := hb.cell 1
  have c2 : W.cell? ⟨r, 2, none⟩ = some (.int .i64 0) := hb.cell 2
  have HB : Hid (Blk W r 170 [.slice (some ⟨bb, ob, none⟩) N cb, .int .i64 (i : Int), .int .i64 0]) := hb
  have hin : (i : Int) + (n : Int) = (j : Int) := by omega
  have hiN : (i : Int) ≤ (N : Int) := by omega
  clear hb hj
  go_enter Tryz.func132, Tryz.ntmps132
  go_wp2
  go_quiet (exact Calls.quiet_of_same (KS.out _))
  clear KS
  have HB2 : Hid (Blk (W.drewN nq) r 170 [.slice (some ⟨bb, ob, none⟩) N cb, .int .i64 (i : Int), .int .i64 0]) := HB.out.drewN nq
  have HG2 : Hid (W.grownBy (W.drewN nq) (some r)) := grown_dq W nq _
  generalize W.drewN nq = W2 at *
  have K := fail_any r (some ⟨bb, ob, none⟩) cb N i hi 0 (e : Int) W2 HB2.out
  simp only [ne_eq, not_true_eq_false, if_false] at K
  clear c0 c1 c2 HB
  go_wp2_with fail
  refine K.mono ?_
  clear K
  rintro e' w3 ⟨rfl, H3⟩
  have HB3 : Hid (Blk w3 r 170 [.slice (some ⟨bb, ob, none⟩) N cb, .int .i64 (i : Int), .int .i64 (e : Int)]) := H3.out.blk
  have HG3 : Hid (W.grownBy w3 (some r)) := HG2.out.trans H3.out.gr
  have d1 : w3.cell? ⟨r, 1, none⟩ = some (.int .i64 (i : Int)) := HB3.out.cell 1
  clear H3 HB2 HG2
  go_wp2_with (refine st_one rfl 3 (.tmp 35) (.tmp 33) rfl r 1 170 _ (.int .i64 (j : Int)) rfl rfl rfl rfl (by simp) HB3.out s3 ?_)
  intro w4 b4 g4
  have HR : Hid (Ro r (some ⟨bb, ob, none⟩) cb N W w4 j (e : Int)) := ⟨b4, hjN, HG3.out.trans g4⟩
  clear b4 g4 HB3 HG3 d1
  go_wp2
  go_ret
  exact ⟨rfl, HR.out⟩
end Go.Proofs.YtmbglggodifboaaGreatDoor
