/-
  The law CodecCuts, walked.
-/
import Derived.Test.YtimddoaejldgaaaXq
import Derived.Test.YtimddoaejldgaaaYo
namespace Go.Proofs.Ytimddoaejldgaaa
open Go.RowKit Go.ChangeShapes Go.WideShapes Math
set_option linter.unusedVariables false
set_option linter.unusedSimpArgs false
theorem and30 (n : Int) : bits .and .i64 n 1073741823 = n % 1073741824 := by
  have h127 : (BitVec.ofInt 64 1073741823).toNat = 2 ^ 30 - 1 := by decide
  have key : (BitVec.ofInt 64 n &&& BitVec.ofInt 64 1073741823).toNat = (n % ((2 ^ 64 : Nat) : Int)).toNat % 2 ^ 30 := by
    rw [BitVec.toNat_and, BitVec.toNat_ofInt, h127, Nat.and_two_pow_sub_one_eq_mod]
  show IntKind.i64.wrap ((BitVec.ofInt 64 n &&& BitVec.ofInt 64 1073741823).toNat : Nat) = n % 1073741824
  rw [key, IntKind.wrap_i64]
  omega
theorem Byt.take {w : World} {a : Option Addr} {l : List Nat} (h : Byt w a l) (k : Nat) (hk : k ≤ l.length) : Byt w a (l.take k) := by
  rcases h with rfl | ⟨b, o, rfl, hc⟩
  · exact .inl (by simp)
  · refine .inr ⟨b, o, rfl, ?_⟩
    have : Cells w b o (l.take k ++ l.drop k) := by rw [List.take_append_drop]; exact hc
    exact this.left
theorem encV_pos {p : Vt} (hw : WfV p) (hc : chkV p 1 = 0) : encV p ≠ [] := fun e => by
  have h := enc_back p hw hc []
  rw [e] at h
  cases h
theorem decE_cut {p : Vt} (hw : WfV p) (hc : chkV p 1 = 0) (k : Nat) (hk : k < (encV p).length) : decE ((encV p).take k) = 2 := by
  have h := enc_cut p hw hc (encV_oct p (chk1 hc)) ((encV p).take k) ((encV p).drop k) (List.take_append_drop _ _).symm (by intro c; have := congrArg List.length c; simp at this; omega)
  unfold decE
  rw [h]
  rfl
theorem decE_more {p : Vt} (hw : WfV p) (hc : chkV p 1 = 0) (m : List Nat) (hm : m ≠ []) : decE (encV p ++ m) = 3 := by
  unfold decE
  rw [enc_back p hw hc m]
  simp only
  rw [if_neg (by simpa using chk1 hc), if_pos hm]
set_option maxRecDepth 8000 in
set_option maxHeartbeats 2000000 in
theorem cuts_walk (p : Vt) (hp : WfV p) (na : Option Addr) (nc : Nat) (ka : Option Addr) (kc : Nat) (z : Int) (W : World) (hv : Vl W p na nc ka kc) :
    Calls Try.prog 7 #[.agg #[.int .i64 p.1.k, .int .i64 p.1.n, .int .i64 p.1.s, .string p.1.t, .slice na p.1.ns.length nc, .slice ka p.2.list.length kc], .int .i64 z] W fun e w' => e = .returned (.bool true) ∧ Below W.heap.size W w' := by
  obtain ⟨W3, HW3⟩ : ∃ W3, Hid ((W.alloc (.cells #[.int .i64 p.1.k, .int .i64 p.1.n, .int .i64 p.1.s, .string p.1.t, .slice na p.1.ns.length nc, .slice ka p.2.list.length kc] 25)).alloc (.cells #[.int .i64 0] 3) = W3) := ⟨_, rfl⟩
  have HBW : Hid (Below W.heap.size W W3) := by rw [← HW3.out]; exact ((Below.refl _ _).alloc (Nat.le_refl _) _).alloc (by simp) _
  have HX : Hid (Blk W3 W.heap.size 25 (six p.1 na nc ka p.2.list.length kc)) := by rw [← HW3.out]; exact (blk_new W 25 (six p.1 na nc ka p.2.list.length kc)).alloc _
  have HZ : Hid (Blk W3 (W.heap.size + 1) 3 [.int .i64 ((0 : Nat) : Int)]) := by
    rw [← HW3.out]
    have h := blk_new (W.alloc (.cells #[.int .i64 p.1.k, .int .i64 p.1.n, .int .i64 p.1.s, .string p.1.t, .slice na p.1.ns.length nc, .slice ka p.2.list.length kc] 25)) 3 [.int .i64 0]
    rw [show (W.alloc (.cells #[.int .i64 p.1.k, .int .i64 p.1.n, .int .i64 p.1.s, .string p.1.t, .slice na p.1.ns.length nc, .slice ka p.2.list.length kc] 25)).heap.size = W.heap.size + 1 by simp] at h
    exact h
  have HV : Hid (Vl W p na nc ka kc) := hv
  have HWp : Hid (WfV p) := hp
  clear hv hp
  have KG := great_any _ p (Nat.le_refl _) HWp.out na nc ka kc (W.heap.size + 1) 0 W W3 HV.out HBW.out (by omega) HZ.out (by omega)
  have c0 : W3.cell? ⟨W.heap.size, 0, none⟩ = some (.int .i64 p.1.k) := HX.out.cell 0
  have c1 : W3.cell? ⟨W.heap.size, 1, none⟩ = some (.int .i64 p.1.n) := HX.out.cell 1
  have c2 : W3.cell? ⟨W.heap.size, 2, none⟩ = some (.int .i64 p.1.s) := HX.out.cell 2
  have c3 : W3.cell? ⟨W.heap.size, 3, none⟩ = some (.string p.1.t) := HX.out.cell 3
  have c4 : W3.cell? ⟨W.heap.size, 4, none⟩ = some (.slice na p.1.ns.length nc) := HX.out.cell 4
  have c5 : W3.cell? ⟨W.heap.size, 5, none⟩ = some (.slice ka p.2.list.length kc) := HX.out.cell 5
  go_enter Try.func7, Try.ntmps7
  go_wp2_with fail
  generalize hWW : World.alloc (World.alloc W _) _ = W9
  obtain rfl : W3 = W9 := by rw [← hWW, ← HW3.out]
  clear hWW HW3
  refine KG.mono ?_
  clear KG c0 c1 c2 c3 c4 c5
  rintro e w4 ⟨m4, rfl, H4⟩
  have HB4 : Hid (Below W.heap.size W w4) := HBW.out.grown H4.out.gr HBW.out.size (fun x e => by injection e with e; omega)
  have HX4 : Hid (Blk w4 W.heap.size 25 (six p.1 na nc ka p.2.list.length kc)) := HX.out.kept H4.out.gr (by intro c; injection c with c; omega)
  have HM4 : Hid (m4 ≤ 3000 → ws p ≤ m4) := fun h => by have := H4.out.ge h; omega
  clear H4 HX HZ HBW
  by_cases hg : 3000 < m4
  · have hgb : decide (3000 < m4) = true := by simp [hg]
    go_wp2
    go_ret
    exact ⟨rfl, HB4.out⟩
  have hgb : decide (3000 < m4) = false := by simp [hg]
  have hwp : ws p ≤ 100000 := by have := HM4.out (by omega); omega
  have KE := encode_any p HWp.out hwp na nc ka kc w4 (HV.out.below HB4.out)
  have HOk : Hid (encE p = 0 → chkV p 1 = 0 ∧ encB p = encV p ∧ (encV p).length ≤ 65536) := enc_ok
  have c0 : w4.cell? ⟨W.heap.size, 0, none⟩ = some (.int .i64 p.1.k) := HX4.out.cell 0
  have c1 : w4.cell? ⟨W.heap.size, 1, none⟩ = some (.int .i64 p.1.n) := HX4.out.cell 1
  have c2 : w4.cell? ⟨W.heap.size, 2, none⟩ = some (.int .i64 p.1.s) := HX4.out.cell 2
  have c3 : w4.cell? ⟨W.heap.size, 3, none⟩ = some (.string p.1.t) := HX4.out.cell 3
  have c4 : w4.cell? ⟨W.heap.size, 4, none⟩ = some (.slice na p.1.ns.length nc) := HX4.out.cell 4
  have c5 : w4.cell? ⟨W.heap.size, 5, none⟩ = some (.slice ka p.2.list.length kc) := HX4.out.cell 5
  clear HM4
  go_wp2_with fail
  refine KE.mono ?_
  clear KE c0 c1 c2 c3 c4 c5
  rintro e w6 ⟨v6, rfl, H6⟩
  have HB6 : Hid (Below W.heap.size W w6) := HB4.out.trans (H6.out.2.mono HB4.out.size)
  obtain ⟨a6, k6, rfl, hb6, hn6, hlc6, hcm6⟩ := H6.out.1.byt
  have HBy : Hid (Byt w6 a6 (encB p)) := hb6
  have HNl : Hid (a6 = none → k6 = 0) := hn6
  clear H6 HX4 HB4 hb6 hn6
  have hcm : k6 ≤ 9223372036854775807 := by simpa [maxLen] using hcm6
  clear hcm6
  generalize encE p = E1 at *
  by_cases h1 : E1 = 0
  case neg =>
    have KK := known_any w6
    have hb : (E1 != 0) = true := by simpa using h1
    go_wp2_with fail
    refine KK.mono ?_
    clear KK
    rintro e w8 ⟨rfl, H8⟩
    have HB8 : Hid (Below W.heap.size W w8) := HB6.out.trans (H8.out.mono HB6.out.size)
    go_wp2
    go_ret
    exact ⟨rfl, HB8.out⟩
  subst h1
  obtain ⟨hc1, hbv, hl65⟩ := HOk.out rfl
  have HC1 : Hid (chkV p 1 = 0) := hc1
  have HD1 : Hid (∀ k, k < (encV p).length → decE ((encV p).take k) = 2) := fun k hk => decE_cut HWp.out HC1.out k hk
  have HD2 : Hid (decE (encV p ++ [0]) = 3) := decE_more HWp.out HC1.out [0] (by simp)
  have HSm : Hid (Sm (rdV 16) (encV p ++ [0]) 0) := sm_enc HWp.out HC1.out hl65 [0]
  have HOc : Hid (Oct (encV p)) := encV_oct p (chk1 HC1.out)
  have hpos : 0 < (encV p).length := by
    have := encV_pos HWp.out HC1.out
    exact List.length_pos_iff.2 this
  rw [hbv] at HBy hlc6 ⊢
  clear HOk hc1 hbv HC1
  generalize encV p = l at *
  obtain ⟨k, hk, hk30⟩ : ∃ k : Nat, bits .and .i64 z 1073741823 = (k : Int) ∧ k < 1073741824 :=
    ⟨(z % 1073741824).toNat, by rw [and30]; omega, by omega⟩
  obtain ⟨kk, hkk⟩ : ∃ kk, kk = k % l.length := ⟨_, rfl⟩
  have hlt : kk < l.length := by rw [hkk]; exact Nat.mod_lt _ hpos
  have hmod : (k : Int) % (l.length : Int) = (kk : Int) := by rw [hkk, Int.natCast_emod]
  clear hkk
  have hl0 : ((l.length : Int) == 0) = false := beq_eq_false_iff_ne.2 (by omega)
  have hT : (l.take (kk)).length = kk := by rw [List.length_take]; omega
  have KD := decode_any (l.take (kk)) (valL_any (sm_short (by rw [hT]; omega))) a6 k6 w6 (HBy.out.take _ (by omega)) (fun x hx => HOc.out x (List.mem_of_mem_take hx)) (by rw [hT]; omega) (by rw [hT]; omega) hcm HNl.out
  rw [hT, HD1.out _ hlt] at KD
  clear HD1 hT
  generalize decP (l.take (kk)) = q at *
  go_wp2_with fail
  refine KD.mono ?_
  clear KD
  rintro e w7 ⟨na2, nc2, ka2, kc2, rfl, H7⟩
  go_wp2_with (refine al_zero rfl 25 rfl zer z25 ?_)
  intro g8 w8 hg8 B8 gr8
  go_wp2_with (refine st_all rfl 25 (.tmp 8) (.tmp 34) rfl g8 25 zer (six q.1 na2 nc2 ka2 q.2.list.length kc2) rfl rfl B8 rfl s25 (six_one _ _ _ _ _ _) ?_)
  intro w9 B9 gr9
  have G9 : Hid (Below w7.heap.size w7 w9) := below_new gr8 hg8 gr9
  have HB9 : Hid (Below W.heap.size W w9) := by
    have h7 := HB6.out.trans (H7.out.bl.mono HB6.out.size)
    exact h7.trans (G9.out.mono h7.size)
  have HBy9 : Hid (Byt w9 a6 l) := (HBy.out.below H7.out.bl).below G9.out
  clear B8 gr8 B9 gr9 G9 H7 HB6 HBy
  obtain ⟨x1, HX1⟩ : ∃ x1, Hid (w9.alloc (.cells #[] 5) = x1) := ⟨_, rfl⟩
  have HOe : Hid (Own x1 W.heap.size (.slice (some ⟨w9.heap.size, 0, none⟩) 0 0) []) := by rw [← HX1.out]; exact own_empty w9 _ HB9.out.size
  have GX1 : Hid (Below w9.heap.size w9 x1) := by rw [← HX1.out]; exact (Below.refl _ _).alloc (Nat.le_refl _) _
  have HBx1 : Hid (Below W.heap.size W x1) := HB9.out.trans (GX1.out.mono HB9.out.size)
  have HByx : Hid (Byt x1 a6 l) := HBy9.out.below GX1.out
  have hsx : W.heap.size ≤ x1.heap.size := HBx1.out.size
  clear HB9 HBy9 GX1
  go_wp2_with (at_builtin; go_must (generalize hWW : World.alloc w9 _ = W9; obtain rfl : x1 = W9 := (by rw [← hWW, ← HX1.out]); clear hWW HX1; refine app_bytes rfl (.tmp 37) (.tmp 38) rfl W.heap.size _ [] rfl HOe.out a6 l.length k6 l rfl rfl HByx.out HNl.out (by simp; omega) hsx ?_))
  intro v2 x2 o2 gx2
  have HO2 : Hid (Own x2 W.heap.size v2 l) := o2
  have HBx2 : Hid (Below W.heap.size W x2) := below_app HBx1.out HBx1.out.size HOe.out gx2
  clear o2 gx2 HBx1 HByx HOe hsx
  obtain ⟨x3, HX3⟩ : ∃ x3, Hid (x2.alloc (.cells #[.int .u8 0] 5) = x3) := ⟨_, rfl⟩
  have HO3 : Hid (Own x3 W.heap.size v2 l) := by rw [← HX3.out]; exact HO2.out.alloc _
  have HB3 : Hid (Byt x3 (some ⟨x2.heap.size, 0, none⟩) [0]) := by rw [← HX3.out]; exact byt_lit x2 [0]
  have HBx3 : Hid (Below W.heap.size W x3) := by rw [← HX3.out]; exact HBx2.out.alloc HBx2.out.size _
  have hsx : W.heap.size ≤ x3.heap.size := HBx3.out.size
  clear HO2 HBx2
  go_wp2_with (at_builtin; go_must (generalize hWW : World.alloc x2 _ = W9; obtain rfl : x3 = W9 := (by rw [← hWW, ← HX3.out]); clear hWW HX3; refine app_bytes rfl (.tmp 39) (.tmp 40) rfl W.heap.size v2 l rfl HO3.out (some ⟨x2.heap.size, 0, none⟩) 1 1 [0] rfl rfl HB3.out (by intro h; cases h) (by simp; omega) hsx ?_))
  intro v4 x4 o4 gx4
  have HBx4 : Hid (Below W.heap.size W x4) := below_app HBx3.out HBx3.out.size HO3.out gx4
  obtain ⟨a4, k4, rfl, hb4, hn4, hlc4, hcm4⟩ := o4.byt
  have hl1 : (l ++ [0]).length = l.length + 1 := by simp
  have KD := decode_any (l ++ [0]) (valL_any HSm.out) a4 k4 x4 hb4 (by
    intro x hx
    rcases List.mem_append.1 hx with hx | hx
    · exact HOc.out x hx
    · simp at hx; omega) (by rw [hl1]; omega) hlc4 (by simpa [maxLen] using hcm4) hn4
  rw [HD2.out] at KD
  clear o4 gx4 HO3 HB3 HBx3 hsx hb4 hn4 hcm4 HD2 HSm
  generalize decP (l ++ [0]) = q4 at *
  rw [hl1] at KD hlc4
  simp only [hl1]
  go_wp2_with fail
  refine KD.mono ?_
  clear KD
  rintro e x5 ⟨na5, nc5, ka5, kc5, rfl, H5⟩
  go_wp2_with (refine al_zero rfl 25 rfl zer z25 ?_)
  intro g10 x6 hg10 B10 gr10
  go_wp2_with (refine st_all rfl 25 (.tmp 10) (.tmp 43) rfl g10 25 zer (six q4.1 na5 nc5 ka5 q4.2.list.length kc5) rfl rfl B10 rfl s25 (six_one _ _ _ _ _ _) ?_)
  intro x7 B11 gr11
  have G7 : Hid (Below x5.heap.size x5 x7) := below_new gr10 hg10 gr11
  have HB7 : Hid (Below W.heap.size W x7) := by
    have h7 := HBx4.out.trans (H5.out.bl.mono HBx4.out.size)
    exact h7.trans (G7.out.mono h7.size)
  clear B10 gr10 B11 gr11 G7 H5 HBx4
  have KK := known_any x7
  go_wp2_with fail
  refine KK.mono ?_
  clear KK
  rintro e x8 ⟨rfl, H8⟩
  have HB8 : Hid (Below W.heap.size W x8) := HB7.out.trans (H8.out.mono HB7.out.size)
  go_wp2
  go_ret
  exact ⟨rfl, HB8.out⟩
end Go.Proofs.Ytimddoaejldgaaa
