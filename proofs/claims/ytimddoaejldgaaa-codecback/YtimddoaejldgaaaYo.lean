/-
  The law CodecOne, walked.
-/
import Derived.Test.YtimddoaejldgaaaXl
import Derived.Test.YtimddoaejldgaaaEql
import Derived.Test.YtimddoaejldgaaaGrt
namespace Go.Proofs.Ytimddoaejldgaaa
open Go.RowKit Go.ChangeShapes Go.WideShapes Math
set_option linter.unusedVariables false
set_option linter.unusedSimpArgs false
theorem enc_ok {p : Vt} (h : encE p = 0) : chkV p 1 = 0 ∧ encB p = encV p ∧ (encV p).length ≤ 65536 := by
  by_cases h1 : chkV p 1 = 0
  · by_cases h2 : 65536 < (encV p).length
    · have := (encE_long h1 h2).1
      omega
    · exact ⟨h1, (encE_yes h1 h2).2, by omega⟩
  · have := (encE_no h1).1
    omega
/-- Two values have the same bytes just if they are one. -/
theorem enc_iff {p q : Vt} (hp : WfV p) (hq : WfV q) (ep : encE p = 0) (eq : encE q = 0) : encB p = encB q ↔ p = q := by
  obtain ⟨a1, a2, _⟩ := enc_ok ep
  obtain ⟨b1, b2, _⟩ := enc_ok eq
  rw [a2, b2]
  exact ⟨fun h => enc_one hp hq a1 b1 h, fun h => by rw [h]⟩
theorem enc_of {p : Vt} (ep : encE p = 0) : Oct (encB p) ∧ (encB p).length ≤ 65536 := by
  obtain ⟨a1, a2, a3⟩ := enc_ok ep
  rw [a2]
  exact ⟨encV_oct p (chk1 a1), a3⟩
set_option maxRecDepth 8000 in
set_option maxHeartbeats 2000000 in
theorem one_walk (p q : Vt) (hp : WfV p) (hq : WfV q) (na : Option Addr) (nc : Nat) (ka : Option Addr) (kc : Nat) (na2 : Option Addr) (nc2 : Nat) (ka2 : Option Addr) (kc2 : Nat) (W : World) (hv : Vl W p na nc ka kc) (hv2 : Vl W q na2 nc2 ka2 kc2) :
    Calls Try.prog 6 #[.agg #[.int .i64 p.1.k, .int .i64 p.1.n, .int .i64 p.1.s, .string p.1.t, .slice na p.1.ns.length nc, .slice ka p.2.list.length kc], .agg #[.int .i64 q.1.k, .int .i64 q.1.n, .int .i64 q.1.s, .string q.1.t, .slice na2 q.1.ns.length nc2, .slice ka2 q.2.list.length kc2]] W fun e w' => e = .returned (.bool true) ∧ Below W.heap.size W w' := by
  obtain ⟨W3, HW3⟩ : ∃ W3, Hid (((W.alloc (.cells #[.int .i64 p.1.k, .int .i64 p.1.n, .int .i64 p.1.s, .string p.1.t, .slice na p.1.ns.length nc, .slice ka p.2.list.length kc] 25)).alloc (.cells #[.int .i64 q.1.k, .int .i64 q.1.n, .int .i64 q.1.s, .string q.1.t, .slice na2 q.1.ns.length nc2, .slice ka2 q.2.list.length kc2] 25)).alloc (.cells #[.int .i64 0] 3) = W3) := ⟨_, rfl⟩
  have HBW : Hid (Below W.heap.size W W3) := by rw [← HW3.out]; exact (((Below.refl _ _).alloc (Nat.le_refl _) _).alloc (by simp) _).alloc (by simp; omega) _
  have HX : Hid (Blk W3 W.heap.size 25 (six p.1 na nc ka p.2.list.length kc)) := by rw [← HW3.out]; exact ((blk_new W 25 (six p.1 na nc ka p.2.list.length kc)).alloc _).alloc _
  have HY : Hid (Blk W3 (W.heap.size + 1) 25 (six q.1 na2 nc2 ka2 q.2.list.length kc2)) := by
    rw [← HW3.out]
    have h := (blk_new (W.alloc (.cells #[.int .i64 p.1.k, .int .i64 p.1.n, .int .i64 p.1.s, .string p.1.t, .slice na p.1.ns.length nc, .slice ka p.2.list.length kc] 25)) 25 (six q.1 na2 nc2 ka2 q.2.list.length kc2)).alloc (.cells #[.int .i64 0] 3)
    rw [show (W.alloc (.cells #[.int .i64 p.1.k, .int .i64 p.1.n, .int .i64 p.1.s, .string p.1.t, .slice na p.1.ns.length nc, .slice ka p.2.list.length kc] 25)).heap.size = W.heap.size + 1 by simp] at h
    exact h
  have HZ : Hid (Blk W3 (W.heap.size + 2) 3 [.int .i64 ((0 : Nat) : Int)]) := by
    rw [← HW3.out]
    have h := blk_new ((W.alloc (.cells #[.int .i64 p.1.k, .int .i64 p.1.n, .int .i64 p.1.s, .string p.1.t, .slice na p.1.ns.length nc, .slice ka p.2.list.length kc] 25)).alloc (.cells #[.int .i64 q.1.k, .int .i64 q.1.n, .int .i64 q.1.s, .string q.1.t, .slice na2 q.1.ns.length nc2, .slice ka2 q.2.list.length kc2] 25)) 3 [.int .i64 0]
    rw [show ((W.alloc (.cells #[.int .i64 p.1.k, .int .i64 p.1.n, .int .i64 p.1.s, .string p.1.t, .slice na p.1.ns.length nc, .slice ka p.2.list.length kc] 25)).alloc (.cells #[.int .i64 q.1.k, .int .i64 q.1.n, .int .i64 q.1.s, .string q.1.t, .slice na2 q.1.ns.length nc2, .slice ka2 q.2.list.length kc2] 25)).heap.size = W.heap.size + 2 by simp] at h
    exact h
  have HV : Hid (Vl W p na nc ka kc) := hv
  have HV2 : Hid (Vl W q na2 nc2 ka2 kc2) := hv2
  have HWp : Hid (WfV p) := hp
  have HWq : Hid (WfV q) := hq
  clear hv hv2 hp hq
  have KG := great_any _ p (Nat.le_refl _) HWp.out na nc ka kc (W.heap.size + 2) 0 W W3 HV.out HBW.out (by omega) HZ.out (by omega)
  have c0 : W3.cell? ⟨W.heap.size, 0, none⟩ = some (.int .i64 p.1.k) := HX.out.cell 0
  have c1 : W3.cell? ⟨W.heap.size, 1, none⟩ = some (.int .i64 p.1.n) := HX.out.cell 1
  have c2 : W3.cell? ⟨W.heap.size, 2, none⟩ = some (.int .i64 p.1.s) := HX.out.cell 2
  have c3 : W3.cell? ⟨W.heap.size, 3, none⟩ = some (.string p.1.t) := HX.out.cell 3
  have c4 : W3.cell? ⟨W.heap.size, 4, none⟩ = some (.slice na p.1.ns.length nc) := HX.out.cell 4
  have c5 : W3.cell? ⟨W.heap.size, 5, none⟩ = some (.slice ka p.2.list.length kc) := HX.out.cell 5
  go_enter Try.func6, Try.ntmps6
  go_wp2_with fail
  generalize hWW : World.alloc (World.alloc (World.alloc W _) _) _ = W9
  obtain rfl : W3 = W9 := by rw [← hWW, ← HW3.out]
  clear hWW HW3
  refine KG.mono ?_
  clear KG c0 c1 c2 c3 c4 c5
  rintro e w4 ⟨m4, rfl, H4⟩
  have HB4 : Hid (Below W.heap.size W w4) := HBW.out.grown H4.out.gr HBW.out.size (fun x e => by injection e with e; omega)
  have HX4 : Hid (Blk w4 W.heap.size 25 (six p.1 na nc ka p.2.list.length kc)) := HX.out.kept H4.out.gr (by intro c; injection c with c; omega)
  have HY4 : Hid (Blk w4 (W.heap.size + 1) 25 (six q.1 na2 nc2 ka2 q.2.list.length kc2)) := HY.out.kept H4.out.gr (by intro c; injection c with c; omega)
  have HZ4 : Hid (Blk w4 (W.heap.size + 2) 3 [.int .i64 (m4 : Int)]) := H4.out.blk
  have HM4 : Hid (m4 ≤ 3000 → ws p ≤ m4) := fun h => by have := H4.out.ge h; omega
  clear H4 HX HY HZ HBW
  by_cases hg : 3000 < m4
  · have hgb : decide (3000 < m4) = true := by simp [hg]
    go_wp2
    go_ret
    exact ⟨rfl, HB4.out⟩
  have hgb : decide (3000 < m4) = false := by simp [hg]
  have hwp : ws p ≤ 100000 := by have := HM4.out (by omega); omega
  have KG := great_any _ q (Nat.le_refl _) HWq.out na2 nc2 ka2 kc2 (W.heap.size + 2) m4 W w4 HV2.out HB4.out (by omega) HZ4.out (by omega)
  have c0 : w4.cell? ⟨W.heap.size + 1, 0, none⟩ = some (.int .i64 q.1.k) := HY4.out.cell 0
  have c1 : w4.cell? ⟨W.heap.size + 1, 1, none⟩ = some (.int .i64 q.1.n) := HY4.out.cell 1
  have c2 : w4.cell? ⟨W.heap.size + 1, 2, none⟩ = some (.int .i64 q.1.s) := HY4.out.cell 2
  have c3 : w4.cell? ⟨W.heap.size + 1, 3, none⟩ = some (.string q.1.t) := HY4.out.cell 3
  have c4 : w4.cell? ⟨W.heap.size + 1, 4, none⟩ = some (.slice na2 q.1.ns.length nc2) := HY4.out.cell 4
  have c5 : w4.cell? ⟨W.heap.size + 1, 5, none⟩ = some (.slice ka2 q.2.list.length kc2) := HY4.out.cell 5
  go_wp2_with fail
  refine KG.mono ?_
  clear KG c0 c1 c2 c3 c4 c5 HM4
  rintro e w5 ⟨m5, rfl, H5⟩
  have HB5 : Hid (Below W.heap.size W w5) := HB4.out.grown H5.out.gr HB4.out.size (fun x e => by injection e with e; omega)
  have HX5 : Hid (Blk w5 W.heap.size 25 (six p.1 na nc ka p.2.list.length kc)) := HX4.out.kept H5.out.gr (by intro c; injection c with c; omega)
  have HY5 : Hid (Blk w5 (W.heap.size + 1) 25 (six q.1 na2 nc2 ka2 q.2.list.length kc2)) := HY4.out.kept H5.out.gr (by intro c; injection c with c; omega)
  have HM5 : Hid (m5 ≤ 3000 → ws q ≤ m5) := fun h => by have := H5.out.ge h; omega
  clear H5 HX4 HY4 HZ4 HB4
  by_cases hg5 : 3000 < m5
  · have hgb5 : decide (3000 < m5) = true := by simp [hg5]
    go_wp2
    go_ret
    exact ⟨rfl, HB5.out⟩
  have hgb5 : decide (3000 < m5) = false := by simp [hg5]
  have hwq : ws q ≤ 100000 := by have := HM5.out (by omega); omega
  have KE := encode_any p HWp.out hwp na nc ka kc w5 (HV.out.below HB5.out)
  have HI : Hid (encE p = 0 → encE q = 0 → (encB p = encB q ↔ p = q)) := enc_iff HWp.out HWq.out
  have HO : Hid (encE p = 0 → Oct (encB p) ∧ (encB p).length ≤ 65536) := enc_of
  have HO2 : Hid (encE q = 0 → Oct (encB q) ∧ (encB q).length ≤ 65536) := enc_of
  have c0 : w5.cell? ⟨W.heap.size, 0, none⟩ = some (.int .i64 p.1.k) := HX5.out.cell 0
  have c1 : w5.cell? ⟨W.heap.size, 1, none⟩ = some (.int .i64 p.1.n) := HX5.out.cell 1
  have c2 : w5.cell? ⟨W.heap.size, 2, none⟩ = some (.int .i64 p.1.s) := HX5.out.cell 2
  have c3 : w5.cell? ⟨W.heap.size, 3, none⟩ = some (.string p.1.t) := HX5.out.cell 3
  have c4 : w5.cell? ⟨W.heap.size, 4, none⟩ = some (.slice na p.1.ns.length nc) := HX5.out.cell 4
  have c5 : w5.cell? ⟨W.heap.size, 5, none⟩ = some (.slice ka p.2.list.length kc) := HX5.out.cell 5
  clear HM5
  go_wp2_with fail
  refine KE.mono ?_
  clear KE c0 c1 c2 c3 c4 c5
  rintro e w6 ⟨v6, rfl, H6⟩
  have HB6 : Hid (Below W.heap.size W w6) := HB5.out.trans (H6.out.2.mono HB5.out.size)
  have HX6 : Hid (Blk w6 W.heap.size 25 (six p.1 na nc ka p.2.list.length kc)) := HX5.out.below H6.out.2 HX5.out.lt
  have HY6 : Hid (Blk w6 (W.heap.size + 1) 25 (six q.1 na2 nc2 ka2 q.2.list.length kc2)) := HY5.out.below H6.out.2 HY5.out.lt
  obtain ⟨a6, k6, rfl, hb6, hn6, _, _⟩ := H6.out.1.byt
  have HY7 : Hid (Byt w6 a6 (encB p)) := hb6
  clear H6 HX5 HY5 HB5 hb6 hn6
  have KE := encode_any q HWq.out hwq na2 nc2 ka2 kc2 w6 (HV2.out.below HB6.out)
  have c0 : w6.cell? ⟨W.heap.size + 1, 0, none⟩ = some (.int .i64 q.1.k) := HY6.out.cell 0
  have c1 : w6.cell? ⟨W.heap.size + 1, 1, none⟩ = some (.int .i64 q.1.n) := HY6.out.cell 1
  have c2 : w6.cell? ⟨W.heap.size + 1, 2, none⟩ = some (.int .i64 q.1.s) := HY6.out.cell 2
  have c3 : w6.cell? ⟨W.heap.size + 1, 3, none⟩ = some (.string q.1.t) := HY6.out.cell 3
  have c4 : w6.cell? ⟨W.heap.size + 1, 4, none⟩ = some (.slice na2 q.1.ns.length nc2) := HY6.out.cell 4
  have c5 : w6.cell? ⟨W.heap.size + 1, 5, none⟩ = some (.slice ka2 q.2.list.length kc2) := HY6.out.cell 5
  go_wp2_with fail
  refine KE.mono ?_
  clear KE c0 c1 c2 c3 c4 c5
  rintro e w7 ⟨v7, rfl, H7⟩
  have HB7 : Hid (Below W.heap.size W w7) := HB6.out.trans (H7.out.2.mono HB6.out.size)
  have HX7 : Hid (Blk w7 W.heap.size 25 (six p.1 na nc ka p.2.list.length kc)) := HX6.out.below H7.out.2 HX6.out.lt
  have HY7b : Hid (Blk w7 (W.heap.size + 1) 25 (six q.1 na2 nc2 ka2 q.2.list.length kc2)) := HY6.out.below H7.out.2 HY6.out.lt
  obtain ⟨a7, k7, rfl, hb7, hn7, _, _⟩ := H7.out.1.byt
  have HBy : Hid (Byt w7 a7 (encB q)) := hb7
  have HBx : Hid (Byt w7 a6 (encB p)) := HY7.out.below H7.out.2
  clear H7 HX6 HY6 HB6 hb7 hn7 HY7
  generalize encE p = E1 at *
  generalize encE q = E2 at *
  generalize encB p = l1 at *
  generalize encB q = l2 at *
  have KK := known_any w7
  by_cases h1 : E1 = 0
  case neg =>
    have hb : (E1 != 0) = true := by simpa using h1
    go_wp2_with fail
    refine KK.mono ?_
    clear KK
    rintro e w8 ⟨rfl, H8⟩
    have HB8 : Hid (Below W.heap.size W w8) := HB7.out.trans (H8.out.mono HB7.out.size)
    go_wp2
    go_ret
    exact ⟨rfl, HB8.out⟩
  subst h1
  by_cases h2 : E2 = 0
  case neg =>
    have hb : (E2 != 0) = true := by simpa using h2
    go_wp2_with fail
    refine KK.mono ?_
    clear KK
    rintro e w8 ⟨rfl, H8⟩
    have HB8 : Hid (Below W.heap.size W w8) := HB7.out.trans (H8.out.mono HB7.out.size)
    go_wp2
    go_ret
    exact ⟨rfl, HB8.out⟩
  subst h2
  clear KK
  have hiff := HI.out rfl rfl
  have HIF : Hid (l1 = l2 ↔ p = q) := hiff
  obtain ⟨ho1, hl1⟩ := HO.out rfl
  obtain ⟨ho2, hl2⟩ := HO2.out rfl
  clear hiff HI HO HO2
  have Ho : Hid (Oct l1 ∧ Oct l2) := ⟨ho1, ho2⟩
  clear ho1 ho2
  obtain ⟨C, hC⟩ : ∃ C : World → Prop, C = fun w' => Blk w' W.heap.size 25 (six p.1 na nc ka p.2.list.length kc) ∧ Blk w' (W.heap.size + 1) 25 (six q.1 na2 nc2 ka2 q.2.list.length kc2) := ⟨_, rfl⟩
  have CN : Hid (∀ w', C w' → Nd w' W.heap.size 0 p.1 na nc ka p.2.list.length kc) := fun w' h => by rw [hC] at h; exact ⟨h.1.cell 0, h.1.cell 1, h.1.cell 2, h.1.cell 3, h.1.cell 4, h.1.cell 5⟩
  have CM : Hid (∀ w', C w' → Nd w' (W.heap.size + 1) 0 q.1 na2 nc2 ka2 q.2.list.length kc2) := fun w' h => by rw [hC] at h; exact ⟨h.2.cell 0, h.2.cell 1, h.2.cell 2, h.2.cell 3, h.2.cell 4, h.2.cell 5⟩
  have CB : Hid (∀ w1 w2, C w1 → Below w1.heap.size w1 w2 → C w2) := fun w1 w2 h k => by rw [hC] at h ⊢; exact ⟨h.1.below k h.1.lt, h.2.below k h.2.lt⟩
  have D0 : Hid (Below w7.heap.size w7 { w7 with drawn := w7.drawn + 1 }) := Below.drew (Below.refl _ _)
  have C0 : Hid (C { w7 with drawn := w7.drawn + 1 }) := CB.out _ _ (by rw [hC]; exact ⟨HX7.out, HY7b.out⟩) D0.out
  clear hC
  go_wp2
  refine region_calm C 10 (by kernel_rfl) ?_
  have HB0 : Hid (Below W.heap.size W { w7 with drawn := w7.drawn + 1 }) := HB7.out.trans (D0.out.mono HB7.out.size)
  have HBx0 := HBx.out.below D0.out
  have HBy0 := HBy.out.below D0.out
  have hCp : ∀ p : Prop, (∀ W, C W → p) ↔ p := fun p => ⟨fun h => h _ C0.out, fun h _ _ => h⟩
  clear D0 HX7 HY7b HB7 HBx HBy
  generalize ({ w7 with drawn := w7.drawn + 1 } : World) = v0 at *
  refine seg 7 [0, 1, 3, 4] rfl (by kernel_rfl) whole_blind C0.out (by kernel_rfl) ?_
  change wpQuiet _ _ _ _ (_ :: _ :: _ :: _ :: []) _
  repeat (first
    | go_big_quiet_skip
    | (go_big_quiet_want
       first
       | (refine q_val (.tmp 2) rfl W.heap.size 0 rfl p.1 na nc ka p.2.list.length kc CN.out ?_
          simp only [Act.put, List.setIfInBounds_toArray, List.set_cons_zero, List.set_cons_succ]
          go_big_quiet_on)
       | (refine q_val (.tmp 3) rfl (W.heap.size + 1) 0 rfl q.1 na2 nc2 ka2 q.2.list.length kc2 CM.out ?_
          simp only [Act.put, List.setIfInBounds_toArray, List.set_cons_zero, List.set_cons_succ]
          go_big_quiet_on)
       | (go_big_quiet_op
          go_big_quiet_on)))
  refine wpQuiet_nil ?_
  refine lone_do (i := 2) 6 rfl (by kernel_rfl) rfl (by rfl) ?_
  intro K hK
  refine oper_call 14 #[.tmp 33, .tmp 34] #[29, 29] rfl #[.slice a6 l1.length k6, .slice a7 l2.length k7] (by rw [List.map_toArray]; rfl) (enters Try.func14 (by kernel_rfl) rfl) (fun v' w' => ∃ t, v' = .bool t ∧ (t = true ↔ l1 = l2) ∧ Below v0.heap.size v0 w') ((same_two a6 a7 k6 k7 l1 l2 (by omega) (by omega) v0 HBx0 HBy0 Ho.out.1 Ho.out.2).mono fun e' w' ⟨t, h1, h2⟩ => ⟨_, h1, t, rfl, h2.out.1, by obtain ⟨n, hn⟩ := h2.out.2; rw [hn]; exact below_drewN (Below.refl _ _) n⟩) ?_
  rintro _ w8 ⟨t8, rfl, ht8, hb8⟩
  have c8 := CB.out _ _ C0.out hb8
  refine hK _ _ c8 ?_
  simp only [Act.put, List.setIfInBounds_toArray, List.set_cons_zero, List.set_cons_succ]
  have HB8 : Hid (Below W.heap.size W w8) := HB0.out.trans (hb8.mono HB0.out.size)
  clear hCp C0 HB0 hb8 HBx0 HBy0
  refine lone_do (i := 5) 5 rfl (by kernel_rfl) rfl (by rfl) ?_
  intro K hK
  refine oper_call 15 #[.tmp 36, .tmp 37] #[25, 25] rfl #[.agg #[.int .i64 p.1.k, .int .i64 p.1.n, .int .i64 p.1.s, .string p.1.t, .slice na p.1.ns.length nc, .slice ka p.2.list.length kc], .agg #[.int .i64 q.1.k, .int .i64 q.1.n, .int .i64 q.1.s, .string q.1.t, .slice na2 q.1.ns.length nc2, .slice ka2 q.2.list.length kc2]] (by rw [List.map_toArray]; rfl) (enters Try.func15 (by kernel_rfl) rfl) (fun v' w' => ∃ t, v' = .bool t ∧ (t = true ↔ p = q) ∧ Below w8.heap.size w8 w') ((equal_any _ p (Nat.le_refl _) HWp.out q HWq.out na nc ka kc na2 nc2 ka2 kc2 w8 (HV.out.below HB8.out) (HV2.out.below HB8.out)).mono fun e' w' ⟨t, h1, h2⟩ => ⟨_, h1, t, rfl, h2.out.1, h2.out.2⟩) ?_
  rintro _ w9 ⟨t9, rfl, ht9, hb9⟩
  have c9 := CB.out _ _ c8 hb9
  refine hK _ _ c9 ?_
  simp only [Act.put, List.setIfInBounds_toArray, List.set_cons_zero, List.set_cons_succ]
  have HB9 : Hid (Below W.heap.size W w9) := HB8.out.trans (hb9.mono HB8.out.size)
  obtain rfl : t8 = t9 := by
    have h := HIF.out
    cases t8 <;> cases t9 <;> simp_all
  clear ht8 ht9 hb9 c8 HB8 HIF
  have hCp : ∀ p : Prop, (∀ W, C W → p) ↔ p := fun p => ⟨fun h => h _ c9, fun h _ _ => h⟩
  cases t8
  all_goals
    refine lone_calm (i := 6) 4 rfl (by kernel_rfl) rfl rfl c9 ?_
    go_big_quiet_want
    go_big_quiet_op
    go_big_quiet_on
    refine wpQuiet_nil ?_
    refine lone_calm (i := 7) 3 rfl (by kernel_rfl) rfl rfl c9 ?_
    go_big_quiet_want
    go_big_quiet_op
    go_big_quiet_on
    refine wpQuiet_nil ?_
    refine lone_do (i := 8) 2 rfl (by kernel_rfl) rfl (by rfl) ?_
    intro K hK
    refine oper_call 16 #[] #[] rfl #[] (by rw [List.map_toArray]; rfl) (enters Try.func16 (by kernel_rfl) rfl) (fun v' w' => v' = .bool true ∧ Below w9.heap.size w9 w') ((known_any w9).mono fun e' w' ⟨h1, h2⟩ => ⟨_, h1, rfl, h2.out⟩) ?_
    rintro _ w10 ⟨rfl, hb10⟩
    have c10 := CB.out _ _ c9 hb10
    refine hK _ _ c10 ?_
    simp only [Act.put, List.setIfInBounds_toArray, List.set_cons_zero, List.set_cons_succ]
    have HB10 : Hid (Below W.heap.size W w10) := HB9.out.trans (hb10.mono HB9.out.size)
    clear hb10 hCp c9 HB9
    have hCp : ∀ p : Prop, (∀ W, C W → p) ↔ p := fun p => ⟨fun h => h _ c10, fun h _ _ => h⟩
    refine lone_calm (i := 9) 1 rfl (by kernel_rfl) rfl rfl c10 ?_
    go_big_quiet_want
    go_big_quiet_op
    go_big_quiet_on
    refine wpQuiet_nil ?_
    refine lone_calm (i := 10) 0 rfl (by kernel_rfl) rfl rfl c10 ?_
    go_big_quiet_want
    go_big_quiet_op
    go_big_quiet_on
    refine wpQuiet_nil ?_
    refine anyC_done (by kernel_rfl) ⟨rfl, ?_⟩
    clear c10 hCp CN CM CB
    go_wp2
    go_ret
    exact ⟨rfl, HB10.out⟩
end Go.Proofs.Ytimddoaejldgaaa
