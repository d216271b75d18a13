import Derived.Test.YtmbglggodifboaaGreatSG2x
import Derived.Test.YtmbglggodifboaaGreatSG11x
set_option maxHeartbeats 400000
set_option maxRecDepth 8000
set_option linter.unusedVariables false
namespace Go.Proofs.YtmbglggodifboaaGreat
open Go.RowKit Math
def tri (r : Nat × Nat × Nat) : Value := .tuple #[.int .u64 r.1, .int .i64 r.2.1, .int .i64 r.2.2]
theorem tri_ret {r : Nat × Nat × Nat} {a b c : Nat} (h : r = (a, b, c)) {x y z : Int} (hx : x = a) (hy : y = b) (hz : z = c) : Ending.returned (.tuple #[.int .u64 x, .int .i64 y, .int .i64 z]) = Ending.returned (tri r) := by
 subst h hx hy hz; rfl
theorem ruv_any (a : Option Addr) (cap : Nat) (l : List Nat) (hn : l.length <= 1000000) (w : World) (hc : Byt w a l) (hb : Oct l) :
 Calls Tryz.prog 62 #[.slice a l.length cap] w fun e w' => e = .returned (tri (ruv l 0 0)) /\ w' = w := by
 go_enter Tryz.func62, Tryz.ntmps62
 go_wp2
 go_loop [5, 10] (fun s i => ∃ k v : Nat, k <= l.length /\ k <= 9 /\ i = .int .i64 k /\ s = .int .u64 v /\ v < 18446744073709551616 /\ Hid (ruv l 0 0 = ruv (l.drop k) k v)) (fun _ i => l.length - (intOf i).toNat)
 case atStart => exact ⟨0, 0, by omega, by omega, rfl, rfl, by omega, rfl⟩
 case round =>
  obtain ⟨k, v, hk, hk9, rfl, rfl, hv, HR⟩ := hrel
  by_cases hlt : k < l.length
  . rcases hc with rfl | ⟨b, off, rfl, hc⟩
    . simp at hlt
    have hck := hc k hlt
    have hx := oct_get hb k
    have HD : Hid (ruv l 0 0 = ruv (l.getD k 0 :: l.drop (k + 1)) k v) := by show _ = _; rw [HR.out, drop_get l k hlt]
    generalize l.getD k 0 = x at hx hck HD
    obtain ⟨v', he, hv', hd⟩ : ∃ v' : Nat, bits .or .u64 (v : Int) (IntKind.u64.wrap (IntKind.u64.wrap (bits .and .u8 (x : Int) 127) * 2 ^ (7 * k))) = (v' : Int) /\ v' < 18446744073709551616 /\ Hid (v' = acc v x k) :=
     ⟨_, acc_bits v x k hv hx, acc_lt v x k hv, rfl⟩
    clear hb hc HR
    by_cases h9 : ((k : Int) == 9) = true
    . have hk9' : k = 9 := by simp at h9; omega
      have hk0 : 0 < k := by omega
      by_cases hx1 : x <= 1
      . have hx0 : ((x : Int) == 0) = true ∨ ((x : Int) == 0) = false := by cases ((x : Int) == 0) <;> simp
        rcases hx0 with hx0 | hx0
        . have hx00 : x = 0 := by simpa using hx0
          have HZ : Hid (ruv l 0 0 = (0, 0, 3)) := by show _ = _; rw [HD.out, ruv_zero _ _ _ _ (by omega) hx00]
          clear HD hk9' hx00
          go_wp2
          go_ret3
          exact ⟨tri_ret HZ.out rfl rfl rfl, rfl⟩
        . have hx00 : ¬ x = 0 := by simpa using hx0
          have HZ : Hid (ruv l 0 0 = (v', k + 1, 0)) := by show _ = _; rw [HD.out, ruv_end _ _ _ _ (by omega) (by omega) (by omega), hd.out]
          clear HD hk9' hx00
          go_wp2
          go_ret3
          exact ⟨tri_ret HZ.out rfl (by omega) rfl, rfl⟩
      . have HZ : Hid (ruv l 0 0 = (0, 0, 3)) := by show _ = _; rw [HD.out, ruv_nine _ _ _ _ hk9' (by omega)]
        clear HD hk9'
        go_wp2
        go_ret3
        exact ⟨tri_ret HZ.out rfl rfl rfl, rfl⟩
    . have hk9' : ¬ k = 9 := by intro h; subst h; simp at h9
      have h9 : ((k : Int) == 9) = false := by simpa using h9
      by_cases h127 : 127 < x
      . have HZ : Hid (ruv l 0 0 = ruv (l.drop (k + 1)) (k + 1) v') := by show _ = _; rw [HD.out, ruv_more _ _ _ _ (by omega) h127, hd.out]
        have hk9' : k < 9 := by omega
        clear HD
        go_wp2
        go_round
        case rel => exact ⟨k + 1, v', by omega, by omega, by go_num, rfl, hv', HZ⟩
        case measure => simp [intOf]; omega
      . have hx0 : ((x : Int) == 0) = true ∨ ((x : Int) == 0) = false := by cases ((x : Int) == 0) <;> simp
        by_cases hk0 : 0 < k
        . rcases hx0 with hx0 | hx0
          . have hx00 : x = 0 := by simpa using hx0
            have HZ : Hid (ruv l 0 0 = (0, 0, 3)) := by show _ = _; rw [HD.out, ruv_zero _ _ _ _ hk0 hx00]
            clear HD hk9' hx00
            go_wp2
            go_ret3
            exact ⟨tri_ret HZ.out rfl rfl rfl, rfl⟩
          . have hx00 : ¬ x = 0 := by simpa using hx0
            have HZ : Hid (ruv l 0 0 = (v', k + 1, 0)) := by show _ = _; rw [HD.out, ruv_end _ _ _ _ (by omega) (by omega) (by omega), hd.out]
            clear HD hk9' hx00
            go_wp2
            go_ret3
            exact ⟨tri_ret HZ.out rfl (by omega) rfl, rfl⟩
        . have HZ : Hid (ruv l 0 0 = (v', k + 1, 0)) := by show _ = _; rw [HD.out, ruv_end _ _ _ _ (by omega) (by omega) (by omega), hd.out]
          clear HD hk9' hx0
          go_wp2
          go_ret3
          exact ⟨tri_ret HZ.out rfl (by omega) rfl, rfl⟩
  . have HZ : Hid (ruv l 0 0 = (0, 0, 2)) := by show _ = _; rw [HR.out, List.drop_of_length_le (by omega)]; rfl
    clear HR hc hb
    go_wp2
    go_ret3
    exact ⟨tri_ret HZ.out rfl rfl rfl, rfl⟩
theorem ruv_ten (x v : Nat) (l : List Nat) (h : 127 < x) : ruv (x :: l) 9 v = (0, 0, 3) := ruv_nine x 9 v l rfl (by omega)
theorem ruvr_any (a : Option Addr) (cap : Nat) (l : List Nat) (hn : l.length <= 1000000) (w : World) (hc : Byt w a l) (hb : Oct l) :
 Calls Tryz.prog 46 #[.slice a l.length cap] w fun e w' => e = .returned (tri (ruv l 0 0)) /\ w' = w := by
 go_enter Tryz.func46, Tryz.ntmps46
 go_wp2
 go_loop [5, 6] (fun s i => ∃ k v : Nat, k <= 10 /\ i = .int .i64 k /\ s = .int .u64 v /\ v < 18446744073709551616 /\ ((k < 10 /\ k <= l.length /\ Hid (ruv l 0 0 = ruv (l.drop k) k v)) ∨ (k = 10 /\ Hid (ruv l 0 0 = (0, 0, 3))))) (fun _ i => 10 - (intOf i).toNat)
 case atStart => exact ⟨0, 0, by omega, rfl, rfl, by omega, .inl ⟨by omega, by omega, rfl⟩⟩
 case round =>
  obtain ⟨k, v, hk, rfl, rfl, hv, ⟨hk9, hkl, HR⟩ | ⟨hk10, HR⟩⟩ := hrel
  . by_cases hlt : k < l.length
    . rcases hc with rfl | ⟨b, off, rfl, hc⟩
      . simp at hlt
      have hck := hc k hlt
      have hx := oct_get hb k
      have HD : Hid (ruv l 0 0 = ruv (l.getD k 0 :: l.drop (k + 1)) k v) := by show _ = _; rw [HR.out, drop_get l k hlt]
      have hkl : ((k : Int) == (l.length : Int)) = false := by simp; omega
      generalize l.getD k 0 = x at hx hck HD
      obtain ⟨v', he, hv', hd⟩ : ∃ v' : Nat, bits .or .u64 (v : Int) (IntKind.u64.wrap (IntKind.u64.wrap (bits .and .u8 (x : Int) 127) * 2 ^ (7 * k))) = (v' : Int) /\ v' < 18446744073709551616 /\ Hid (v' = acc v x k) :=
       ⟨_, acc_bits v x k hv hx, acc_lt v x k hv, rfl⟩
      clear hb hc HR
      by_cases h127 : 127 < x
      . have HZ : Hid ((k + 1 < 10 /\ k + 1 <= l.length /\ Hid (ruv l 0 0 = ruv (l.drop (k + 1)) (k + 1) v')) ∨ (k + 1 = 10 /\ Hid (ruv l 0 0 = (0, 0, 3)))) := by
         by_cases h9 : k = 9
         . right; subst h9; exact ⟨rfl, HD.out.trans (ruv_ten x v _ h127)⟩
         . left; exact ⟨by omega, by omega, by show _ = _; rw [HD.out, ruv_more _ _ _ _ (by omega) h127, hd.out]⟩
        clear HD
        go_wp2
        go_round
        case rel => exact ⟨k + 1, v', by omega, by go_num, rfl, hv', HZ.out⟩
        case measure => simp [intOf]; omega
      . have hx0 : ((x : Int) == 0) = true ∨ ((x : Int) == 0) = false := by cases ((x : Int) == 0) <;> simp
        by_cases h9 : ((k : Int) == 9) = true
        . have hk9' : k = 9 := by simp at h9; omega
          have hk0 : 0 < k := by omega
          by_cases hx1 : x <= 1
          . rcases hx0 with hx0 | hx0
            . have hx00 : x = 0 := by simpa using hx0
              have HZ : Hid (ruv l 0 0 = (0, 0, 3)) := by show _ = _; rw [HD.out, ruv_zero _ _ _ _ hk0 hx00]
              clear HD hk9' hx00
              go_wp2
              go_ret3
              exact ⟨tri_ret HZ.out rfl rfl rfl, rfl⟩
            . have hx00 : ¬ x = 0 := by simpa using hx0
              have HZ : Hid (ruv l 0 0 = (v', k + 1, 0)) := by show _ = _; rw [HD.out, ruv_end _ _ _ _ (by omega) (by omega) (by omega), hd.out]
              clear HD hk9' hx00
              go_wp2
              go_ret3
              exact ⟨tri_ret HZ.out rfl (by omega) rfl, rfl⟩
          . have HZ : Hid (ruv l 0 0 = (0, 0, 3)) := by show _ = _; rw [HD.out, ruv_nine _ _ _ _ hk9' (by omega)]
            clear HD hk9' hx0
            go_wp2
            go_ret3
            exact ⟨tri_ret HZ.out rfl rfl rfl, rfl⟩
        . have hk9' : ¬ k = 9 := by intro h; subst h; simp at h9
          have h9 : ((k : Int) == 9) = false := by simpa using h9
          by_cases hk0 : 0 < k
          . rcases hx0 with hx0 | hx0
            . have hx00 : x = 0 := by simpa using hx0
              have HZ : Hid (ruv l 0 0 = (0, 0, 3)) := by show _ = _; rw [HD.out, ruv_zero _ _ _ _ hk0 hx00]
              clear HD hk9' hx00
              go_wp2
              go_ret3
              exact ⟨tri_ret HZ.out rfl rfl rfl, rfl⟩
            . have hx00 : ¬ x = 0 := by simpa using hx0
              have HZ : Hid (ruv l 0 0 = (v', k + 1, 0)) := by show _ = _; rw [HD.out, ruv_end _ _ _ _ (by omega) (by omega) (by omega), hd.out]
              clear HD hk9' hx00
              go_wp2
              go_ret3
              exact ⟨tri_ret HZ.out rfl (by omega) rfl, rfl⟩
          . have HZ : Hid (ruv l 0 0 = (v', k + 1, 0)) := by show _ = _; rw [HD.out, ruv_end _ _ _ _ (by omega) (by omega) (by omega), hd.out]
            clear HD hk9' hx0
            go_wp2
            go_ret3
            exact ⟨tri_ret HZ.out rfl (by omega) rfl, rfl⟩
    . have HZ : Hid (ruv l 0 0 = (0, 0, 2)) := by show _ = _; rw [HR.out, List.drop_of_length_le (by omega)]; rfl
      have hkl : ((k : Int) == (l.length : Int)) = true := by simp; omega
      clear HR hc hb
      go_wp2
      go_ret3
      exact ⟨tri_ret HZ.out rfl rfl rfl, rfl⟩
  . have hk10 : ¬ ((k : Int) < 10) := by omega
    clear hc hb
    go_wp2
    go_ret3
    exact ⟨tri_ret HR.out rfl rfl rfl, rfl⟩
theorem or_any (a b : Int) (g c : Nat) (w : World) (h0 : w.cell? ⟨g, 0, none⟩ = some (.int .i64 a)) (h1 : w.cell? ⟨g, 1, none⟩ = some (.int .i64 b)) :
 Calls Tryz.prog 45 #[.slice (some ⟨g, 0, none⟩) 2 c] w fun e w' => e = .returned (.int .i64 (if a ≠ 0 then a else b)) /\ w' = w := by
 have H0 : Hid (w.cell? ⟨g, 0, none⟩ = some (.int .i64 a)) := h0
 have H1 : Hid (w.cell? ⟨g, 1, none⟩ = some (.int .i64 b)) := h1
 clear h0 h1
 obtain ⟨E, HE⟩ : ∃ E, Hid ((if a ≠ 0 then a else b) = E) := ⟨_, rfl⟩
 rw [HE.out]
 go_enter Tryz.func45, Tryz.ntmps45
 go_wp2
 go_loopw [8] (fun i wr => ∃ k : Nat, k <= 2 /\ i = .int .i64 (k : Int) /\ wr = w /\ Hid (1 <= k -> a = 0) /\ Hid (2 <= k -> b = 0)) (fun i _ => 2 - (intOf i).toNat)
 case atStart => exact ⟨0, by omega, rfl, rfl, fun h => by omega, fun h => by omega⟩
 case round =>
  obtain ⟨k, hk, rfl, rfl, HA, HB⟩ := hrel
  by_cases k2 : k = 2
  . subst k2
    have ha := HA.out (by omega)
    have hb := HB.out (by omega)
    go_wp2
    go_ret
    exact ⟨ret_int (by rw [<- HE.out, ha, hb]; rfl), rfl⟩
  by_cases k1 : k = 1
  . subst k1
    have c1 := H1.out
    by_cases hb : b = 0
    . have hbb : (b != 0) = false := by simpa using hb
      have HB0 : Hid (b = 0) := hb
      clear hb
      go_wp2
      go_roundw
      case rel => exact ⟨2, by omega, rfl, trivial, fun _ => HA.out (by omega), fun _ => HB0.out⟩
      case measure => simp [intOf]
    . have hbb : (b != 0) = true := by simpa using hb
      have ha := HA.out (by omega)
      have HAA : Hid (a = 0) := ha
      clear ha
      go_wp2
      go_ret
      exact ⟨ret_int (by rw [<- HE.out, if_neg (by simpa using HAA.out)]), rfl⟩
  obtain rfl : k = 0 := by omega
  have c0 := H0.out
  by_cases ha : a = 0
  . have hab : (a != 0) = false := by simpa using ha
    have HA0 : Hid (a = 0) := ha
    clear ha
    go_wp2
    go_roundw
    case rel => exact ⟨1, by omega, rfl, trivial, fun _ => HA0.out, fun h => by omega⟩
    case measure => simp [intOf]
  . have hab : (a != 0) = true := by simpa using ha
    go_wp2
    go_ret
    exact ⟨ret_int (by rw [<- HE.out, if_pos ha]), rfl⟩
theorem or_lit (a b : Int) (w : World) : Calls Tryz.prog 45 #[.slice (some ⟨w.heap.size, 0, none⟩) 2 2] (w.alloc (.cells #[.int .i64 a, .int .i64 b] 30)) fun e w' => e = .returned (.int .i64 (if a ≠ 0 then a else b)) /\ w' = w.alloc (.cells #[.int .i64 a, .int .i64 b] 30) :=
 or_any a b w.heap.size 2 _ (by simp [World.cell?_alloc_new]) (by simp [World.cell?_alloc_new])
structure Ro (r : Nat) (ab : Option Addr) (cb N : Nat) (W w' : World) (i : Nat) (err : Int) : Prop where
 blk : Blk w' r 156 [.slice ab N cb, .int .i64 (i : Int), .int .i64 err]
 le : i <= N
 gr : W.grownBy w' (some r)
theorem Ro.trans {r : Nat} {ab : Option Addr} {cb N : Nat} {W w1 w2 : World} {i j : Nat} {e f : Int} (h : Ro r ab cb N W w1 i e) (k : Ro r ab cb N w1 w2 j f) : Ro r ab cb N W w2 j f := ⟨k.blk, k.le, h.gr.trans k.gr⟩
theorem Ro.after {r : Nat} {ab : Option Addr} {cb N : Nat} {W w1 w2 : World} {j : Nat} {f : Int} (g : Below W.heap.size W w1) (k : Ro r ab cb N w1 w2 j f) : Ro r ab cb N W w2 j f :=
 ⟨k.blk, k.le, ⟨k.gr.os.trans g.os, k.gr.tape.trans g.tape, k.gr.output.trans g.output, Nat.le_trans g.size k.gr.size, fun i hi hne => (k.gr.block i (Nat.lt_of_lt_of_le hi g.size) hne).trans (g.block i hi)⟩⟩
theorem s30 : (Tryz.prog.info? 30).map (·.size) = some 1 := by kernel_rfl
theorem s3 : (Tryz.prog.info? 3).map (·.size) = some 1 := by kernel_rfl
theorem fail_any (r : Nat) (ab : Option Addr) (cb N i : Nat) (hi : i <= N) (err e : Int) (W : World) (hb : Blk W r 156 [.slice ab N cb, .int .i64 (i : Int), .int .i64 err]) :
 Calls Tryz.prog 108 #[.pointer (some ⟨r, 0, none⟩), .int .i64 e] W fun e' w' => e' = .returned (.tuple #[]) /\ Hid (Ro r ab cb N W w' i (if err ≠ 0 then err else e)) := by
 have c2 : W.cell? ⟨r, 2, none⟩ = some (.int .i64 err) := hb.cell 2
 have HB : Hid (Blk (W.alloc (.cells #[.int .i64 err, .int .i64 e] 30)) r 156 [.slice ab N cb, .int .i64 (i : Int), .int .i64 err]) := hb.alloc _
 have HG : Hid (W.grownBy (W.alloc (.cells #[.int .i64 err, .int .i64 e] 30)) (some r)) := World.grownBy_alloc W _ _
 have K := or_lit err e W
 generalize (if err ≠ 0 then err else e) = E at *
 clear hb
 go_enter Tryz.func108, Tryz.ntmps108
 go_wp2_with fail
 refine K.mono ?_
 clear K
 generalize W.alloc (.cells #[.int .i64 err, .int .i64 e] 30) = W1 at *
 rintro e w1 ⟨rfl, hw⟩
 have hw' := hw.symm
 subst hw'
 clear hw
 go_wp2_with (refine st_one rfl 30 (.tmp 13) (.tmp 11) rfl r 2 156 _ _ rfl rfl rfl rfl (by simp) HB.out s30 ?_)
 intro w2 b2 g2
 have HR : Hid (Ro r ab cb N W w2 i E) := ⟨b2, hi, HG.out.trans g2⟩
 clear b2 g2 HB HG
 go_wp2
 go_end0
 exact ⟨rfl, HR.out⟩
theorem Blk.drewN {w : World} {b : Nat} {t : TypeId} {vs : List Value} (h : Blk w b t vs) (q : Nat) : Blk (w.drewN q) b t vs := by
 unfold Blk at *; simpa using h
theorem grown_dq (w : World) (q : Nat) (row : Option Nat) : w.grownBy (w.drewN q) row := ⟨rfl, rfl, rfl, Nat.le_refl _, fun _ _ _ => rfl⟩
theorem take_ok (r : Nat) (bb ob cb N i n j : Nat) (hj : i + n = j) (hi : j <= N) (hN : N <= 1000000) (hcb : N <= cb) (hcm : cb <= 9223372036854775807) (W : World) (hb : Blk W r 156 [.slice (some ⟨bb, ob, none⟩) N cb, .int .i64 (i : Int), .int .i64 0]) :
 Calls Tryz.prog 115 #[.pointer (some ⟨r, 0, none⟩), .int .i64 (n : Int)] W fun e w' => ∃ o c, e = .returned (.slice (some ⟨bb, o, none⟩) n c) /\ Hid (Ro r (some ⟨bb, ob, none⟩) cb N W w' j 0 /\ (0 < n -> o = ob + i)) := by
 have c0 : W.cell? ⟨r, 0, none⟩ = some (.slice (some ⟨bb, ob, none⟩) N cb) := hb.cell 0
 have c1 : W.cell? ⟨r, 1, none⟩ = some (.int .i64 (i : Int)) := hb.cell 1
 have c2 : W.cell? ⟨r, 2, none⟩ = some (.int .i64 0) := hb.cell 2
 have HB : Hid (Blk W r 156 [.slice (some ⟨bb, ob, none⟩) N cb, .int .i64 (i : Int), .int .i64 0]) := hb
 have hgt : decide ((N : Int) - (i : Int) < (n : Int)) = false := by simp; omega
 have hin : (i : Int) + (n : Int) = (j : Int) := by omega
 have hjn : (j : Int) - (n : Int) = (i : Int) := by omega
 have hij : i <= j := by omega
 have hjcb : j <= cb := by omega
 have hje : j - i = n := by omega
 clear hb hj
 go_enter Tryz.func115, Tryz.ntmps115
 go_wp2
 go_quiet (fail)
 have HB2 : Hid (Blk (W.drewN nq) r 156 [.slice (some ⟨bb, ob, none⟩) N cb, .int .i64 (i : Int), .int .i64 0]) := HB.out.drewN nq
 have HG2 : Hid (W.grownBy (W.drewN nq) (some r)) := grown_dq W nq _
 generalize W.drewN nq = W2 at *
 clear c0 c1 c2 HB
 have c0 : W2.cell? ⟨r, 0, none⟩ = some (.slice (some ⟨bb, ob, none⟩) N cb) := HB2.out.cell 0
 have c1 : W2.cell? ⟨r, 1, none⟩ = some (.int .i64 (i : Int)) := HB2.out.cell 1
 have c2 : W2.cell? ⟨r, 2, none⟩ = some (.int .i64 0) := HB2.out.cell 2
 go_wp2_with (refine st_one rfl 3 (.tmp 31) (.tmp 29) rfl r 1 156 _ (.int .i64 (j : Int)) rfl rfl rfl rfl (by simp) HB2.out s3 ?_)
 intro w3 b3 g3
 have HR : Hid (Ro r (some ⟨bb, ob, none⟩) cb N W w3 j 0) := ⟨b3, hi, HG2.out.trans g3⟩
 clear c0 c1 c2 HB2 HG2 b3 g3
 have d0 : w3.cell? ⟨r, 0, none⟩ = some (.slice (some ⟨bb, ob, none⟩) N cb) := HR.out.blk.cell 0
 have d1 : w3.cell? ⟨r, 1, none⟩ = some (.int .i64 (j : Int)) := HR.out.blk.cell 1
 go_wp2
 go_quiet (fail)
 have HR3 : Hid (Ro r (some ⟨bb, ob, none⟩) cb N W (w3.drewN nq) j 0) := ⟨HR.out.blk.drewN nq, HR.out.le, HR.out.gr.trans (grown_dq _ _ _)⟩
 generalize w3.drewN nq = w4 at *
 clear HR d0 d1
 by_cases hci : cb = i
 . subst hci
   have hn0 : ¬ 0 < n := by omega
   go_wp2
   go_ret
   exact ⟨_, _, rfl, HR3.out, fun h => absurd h hn0⟩
 . go_wp2
   go_ret
   first
   | exact ⟨_, _, rfl, HR3.out, fun h => rfl⟩
   | exact ⟨_, ⟨_, rfl⟩, HR3.out, fun h => rfl⟩
   | exact ⟨_, rfl, ⟨HR3.out, fun h => rfl⟩⟩
theorem take_no (r : Nat) (ab : Option Addr) (cb N i n : Nat) (hi : i <= N) (hN : N <= 1000000) (err : Int) (hne : err ≠ 0 ∨ N < i + n) (W : World) (hb : Blk W r 156 [.slice ab N cb, .int .i64 (i : Int), .int .i64 err]) :
 Calls Tryz.prog 115 #[.pointer (some ⟨r, 0, none⟩), .int .i64 (n : Int)] W fun e w' => e = .returned (.slice none 0 0) /\ Hid (Ro r ab cb N W w' i (if err ≠ 0 then err else 2)) := by
 have c0 : W.cell? ⟨r, 0, none⟩ = some (.slice ab N cb) := hb.cell 0
 have c1 : W.cell? ⟨r, 1, none⟩ = some (.int .i64 (i : Int)) := hb.cell 1
 have c2 : W.cell? ⟨r, 2, none⟩ = some (.int .i64 err) := hb.cell 2
 have HB : Hid (Blk W r 156 [.slice ab N cb, .int .i64 (i : Int), .int .i64 err]) := hb
 obtain ⟨E, HE⟩ : ∃ E, Hid ((if err ≠ 0 then err else 2) = E) := ⟨_, rfl⟩
 have hEn : (E != 0) = true := by
  rw [<- HE.out]
  by_cases h : err = 0
  . simp [h]
  . simp [h]
 rw [HE.out]
 clear hb
 by_cases hs : N < i + n
 . have hgt : decide ((N : Int) - (i : Int) < (n : Int)) = true := by simp; omega
   go_enter Tryz.func115, Tryz.ntmps115
   go_wp2
   go_quiet (fail)
   have HB2 : Hid (Blk (W.drewN nq) r 156 [.slice ab N cb, .int .i64 (i : Int), .int .i64 err]) := HB.out.drewN nq
   have HG2 : Hid (W.grownBy (W.drewN nq) (some r)) := grown_dq W nq _
   generalize W.drewN nq = W2 at *
   have K := fail_any r ab cb N i hi err 2 W2 HB2.out
   rw [HE.out] at K
   clear c0 c1 c2 HB
   go_wp2_with fail
   refine K.mono ?_
   clear K
   rintro e w3 ⟨rfl, H3⟩
   have HR : Hid (Ro r ab cb N W w3 i E) := ⟨H3.out.blk, H3.out.le, HG2.out.trans H3.out.gr⟩
   have d2 : w3.cell? ⟨r, 2, none⟩ = some (.int .i64 E) := H3.out.blk.cell 2
   clear H3 HB2 HG2
   go_wp2
   go_ret
   exact ⟨rfl, HR.out⟩
 . have hgt : decide ((N : Int) - (i : Int) < (n : Int)) = false := by simp; omega
   have hr0 : err ≠ 0 := by omega
   have hEe : E = err := by rw [<- HE.out, if_pos hr0]
   subst hEe
   clear HE hne
   go_enter Tryz.func115, Tryz.ntmps115
   go_wp2
   go_quiet (fail)
   have HR : Hid (Ro r ab cb N W (W.drewN nq) i E) := ⟨HB.out.drewN nq, hi, grown_dq _ _ _⟩
   generalize W.drewN nq = W2 at *
   have d2 : W2.cell? ⟨r, 2, none⟩ = some (.int .i64 E) := HR.out.blk.cell 2
   clear c0 c1 c2 HB
   go_wp2
   go_ret
   exact ⟨rfl, HR.out⟩
end Go.Proofs.YtmbglggodifboaaGreat
