/-
  Beginnings of a block's bytes are not too long to be read. Over lists, no program is named. · The law BlockCuts, walked.
-/
import Derived.Test.YtmbglggodifboabQG48x
import Derived.Test.YtmbglggodifboabQG49x
namespace Go.Proofs.Ytmbglggodifboab.Sh
open Go Go.RowKit Math Mt
set_option linter.unusedVariables false
theorem good_more {α : Type} {f : Rdr α} (h : Good f) {l r : List Nat} {x : α} (ho : Oct l) (e : f l = .ok (x, r)) (m : List Nat) : f (l ++ m) = .ok (x, r ++ m) ∧ Oct r := by
  obtain ⟨c, rfl, h2, _⟩ := h l x r ho e
  rw [List.append_assoc]
  exact ⟨h2 _, ho.right⟩
theorem bsf_pre {l m : List Nat} (ho : Oct l) (h : bSf (l ++ m)) : bSf l := by
  intro ix tm tx n pv k es l1 l2 l3 l4 l5 r h1 h2 h3 h4 h5 hk h6
  obtain ⟨a1, a2⟩ := good_more good_n ho h1 m
  obtain ⟨b1, b2⟩ := good_more good_n a2 h2 m
  obtain ⟨c1, c2⟩ := good_more good_n b2 h3 m
  obtain ⟨d1, d2⟩ := good_more (good_take 32) c2 h4 m
  obtain ⟨e1, e2⟩ := good_more good_n d2 h5 m
  obtain ⟨f1, f2⟩ := good_more (good_es k) e2 h6 m
  have hs := h ix tm tx n pv k es _ _ _ _ _ _ a1 b1 c1 d1 e1 hk f1
  intro q hq l6 u r3 g1 g2 g3
  obtain ⟨i1, i2⟩ := good_more good_pre f2 hq m
  obtain ⟨j1, j2⟩ := good_more good_by i2 g1 m
  obtain ⟨k1, k2⟩ := good_more good_n j2 g2 m
  exact hs _ i1 _ _ _ j1 k1 (by rw [List.length_append]; omega)
theorem okinj {α : Type} {x y : α} {r s : List Nat} (h : (Except.ok (x, r) : Except Nat (α × List Nat)) = .ok (y, s)) : x = y ∧ r = s := by
  injection h with h
  injection h with h1 h2
  exact ⟨h1, h2⟩
theorem pre_itm {e : En} (hw : EnW e) (h : mayE e = 0) (m q : List Nat) (hq : preR (itmB true e ++ m) = .ok ((), q)) : e.k = 2 ∧ q = tail e.k (datL e) true ++ m := by
  have hn := (may_form h).num
  have h1 := hn.k; have h2 := hn.tb; have h3 := hn.dc; have h4 := hn.vr; have h5 := hn.ab; have h6 := hn.ae; have h7 := hn.t
  unfold itmB entB at hq
  simp only [List.append_assoc] at hq
  obtain ⟨k, m0, g, hq⟩ := bind_inv hq
  rw [reads_by _ _] at g
  obtain ⟨rfl, rfl⟩ := okinj g
  obtain ⟨x1, m1, g, hq⟩ := bind_inv hq
  rw [reads_nI h2.1 (by omega) _] at g
  obtain ⟨rfl, rfl⟩ := okinj g
  obtain ⟨x2, m2, g, hq⟩ := bind_inv hq
  rw [reads_nI h3.1 (by omega) _] at g
  obtain ⟨rfl, rfl⟩ := okinj g
  obtain ⟨x3, m3, g, hq⟩ := bind_inv hq
  rw [reads_nI h4.1 (by omega) _] at g
  obtain ⟨rfl, rfl⟩ := okinj g
  obtain ⟨x4, m4, g, hq⟩ := bind_inv hq
  have ht := reads_t (s := e.t) (by omega)
  rw [← List.append_assoc (uv e.t.size), ht _] at g
  obtain ⟨rfl, rfl⟩ := okinj g
  obtain ⟨x5, m5, g, hq⟩ := bind_inv hq
  rw [reads_nI h5.1 (by omega) _] at g
  obtain ⟨rfl, rfl⟩ := okinj g
  obtain ⟨x6, m6, g, hq⟩ := bind_inv hq
  rw [reads_nI h6.1 (by omega) _] at g
  obtain ⟨rfl, rfl⟩ := okinj g
  by_cases hk : e.k = 2
  · refine ⟨hk, ?_⟩
    rw [if_pos (by omega), if_pos hk] at hq
    obtain ⟨x7, m7, g, hq⟩ := bind_inv hq
    have hr := reads_take e.h
    rw [hw.h.1] at hr
    rw [hr _] at g
    obtain ⟨rfl, rfl⟩ := okinj g
    exact (ret_inv hq).2
  · rw [if_neg (by omega)] at hq
    cases hq
theorem esf_itm {e : En} (hw : EnW e) (h : mayE e = 0) (m : List Nat) : eSf (itmB true e ++ m) := by
  intro q hq l1 n r g1 g2 g3
  obtain ⟨hk, rfl⟩ := pre_itm hw h m q hq
  obtain ⟨d1, d2, d3, d4⟩ := dat_ok h
  unfold tail at g1
  rw [if_pos hk] at g1
  by_cases c : datL e = []
  · rw [if_pos (.inr c)] at g1
    rw [reads_by 0 _] at g1
    cases (okinj g1).1
  · rw [if_neg (by simp [c])] at g1
    simp only [List.append_assoc] at g1
    rw [reads_by 1 _] at g1
    obtain ⟨_, rfl⟩ := okinj g1
    rw [reads_n (by omega) _] at g2
    obtain ⟨rfl, _⟩ := okinj g2
    omega
theorem bsf_blk {b : Bk} (hw : BkW b) (h : chkB b = 0) (m : List Nat) : bSf (blkB b true ++ m) := by
  intro ix tm tx n pv k es l1 l2 l3 l4 l5 r q1 q2 q3 q4 q5 hk q6
  obtain ⟨⟨h1, h2, h3, h4⟩, hf, hl⟩ := chk_zero h
  unfold blkB hedB at q1
  simp only [List.append_assoc] at q1
  have ht := reads_take b.pv
  rw [hw.pv.1] at ht
  rw [reads_nI h1.1 (by omega) _] at q1
  obtain ⟨_, rfl⟩ := okinj q1
  rw [reads_nI h2.1 (by omega) _] at q2
  obtain ⟨_, rfl⟩ := okinj q2
  rw [reads_nI h3.1 (by omega) _] at q3
  obtain ⟨_, rfl⟩ := okinj q3
  rw [ht _] at q4
  obtain ⟨_, rfl⟩ := okinj q4
  rw [reads_n (by omega) _] at q5
  obtain ⟨rfl, rfl⟩ := okinj q5
  have ha := fst_all hf
  have hs : b.es = b.es.take k ++ b.es.drop k := (List.take_append_drop k b.es).symm
  have e1 : b.es.flatMap (itmB true) ++ m = (b.es.take k).flatMap (itmB true) ++ ((b.es.drop k).flatMap (itmB true) ++ m) := by
    rw [← List.append_assoc, ← List.flatMap_append, List.take_append_drop]
  rw [e1, reads_es k (b.es.take k) (by rw [List.length_take]; omega) (fun e he => hw.es e (List.mem_of_mem_take he)) (fun e he => ha e (List.mem_of_mem_take he)) _] at q6
  obtain ⟨_, rfl⟩ := okinj q6
  rw [List.drop_eq_getElem_cons hk, List.flatMap_cons, List.append_assoc]
  have hm : b.es[k] ∈ b.es := List.getElem_mem hk
  exact esf_itm (hw.es _ hm) (ha _ hm) _
end Go.Proofs.Ytmbglggodifboab.Sh
namespace Go.Proofs.Ytmbglggodifboab.Sh
open Go Go.RowKit Math Mt
set_option linter.unusedVariables false
set_option linter.unusedSimpArgs false
theorem and30b (n : Int) : bits .and .i64 n 1073741823 = n % 1073741824 := by
  have h127 : (BitVec.ofInt 64 1073741823).toNat = 2 ^ 30 - 1 := by decide
  have key : (BitVec.ofInt 64 n &&& BitVec.ofInt 64 1073741823).toNat = (n % ((2 ^ 64 : Nat) : Int)).toNat % 2 ^ 30 := by
    rw [BitVec.toNat_and, BitVec.toNat_ofInt, h127, Nat.and_two_pow_sub_one_eq_mod]
  show IntKind.i64.wrap ((BitVec.ofInt 64 n &&& BitVec.ofInt 64 1073741823).toNat : Nat) = n % 1073741824
  rw [key, IntKind.wrap_i64]
  omega
/-- What is asked of a block's bytes. -/
structure CutL (l : List Nat) : Prop where
  pos : 0 < l.length
  len : l.length ≤ 262144
  oct : Oct l
  cut : ∀ k, k < l.length → decB (l.take k) = 2
  more : decB (l ++ [0]) = 3
  sfc : ∀ k, bSf (l.take k)
  sfm : bSf (l ++ [0])
theorem cut_blk {b : Bk} (hw : BkW b) (h : chkB b = 0) : CutL (blkB b true) := by
  have ho := blk_oct hw (chk_zero h).2.1 true
  refine ⟨?_, (chk_zero h).2.2, ho, fun k hk => ?_, dec_behind hw h (by simp), fun k => ?_, bsf_blk hw h [0]⟩
  · have : (blkB b true).length = (hedB b).length + (uv b.es.length).length + (b.es.flatMap (itmB true)).length := by unfold blkB; simp [Nat.add_assoc]
    have h2 : 32 ≤ (hedB b).length := by unfold hedB; have := hw.pv.1; simp; omega
    omega
  · exact dec_short hw h (m := (blkB b true).drop k) (List.take_append_drop _ _).symm (by intro c; have := congrArg List.length c; simp at this; omega)
  · have := bsf_blk hw h []
    rw [List.append_nil] at this
    refine bsf_pre (m := (blkB b true).drop k) (fun x hx => ho x (List.mem_of_mem_take hx)) ?_
    rw [List.take_append_drop]
    exact this
theorem light_lk {b : Bk} (hb : BkW b) (h : Light b) : ∀ e ∈ b.es, Lk e.v := fun e he => lk_ws (hb.es e he).v (by have := (h.all e he).1; omega)
set_option maxRecDepth 8000 in
set_option maxHeartbeats 1000000 in
theorem cuts_walk (b : Bk) (hb : BkW b) (a : Option Addr) (c : Nat) (z : Int) (W : World) (hE : EsM W a b.es) :
    Calls Try.prog 4 #[.agg (bC b a c).toArray, .int .i64 z] W fun e w' => e = .returned (.bool true) ∧ Below W.heap.size W w' := by
  have HL : Hid (b.pv.length = 32) := hb.pv.1
  have HB : Hid (BkW b) := hb
  have HE : Hid (EsM W a b.es) := hE
  clear hb hE
  go_enter Try.func4, Try.ntmps4
  go_wp2_with (refine al_box rfl 26 (.tmp 0) rfl (bC b a c) rfl ?_)
  intro g2 w1 l1 B2 G0
  have Z1 := (Below.refl W.heap.size W).grown G0 (Nat.le_refl _) (by simp)
  clear G0
  have KH := heavy_any b HB.out a c w1 (HE.out.below Z1)
  go_wp2_with (refine ld_w (by rfl) 26 (.tmp 2) rfl g2 0 rfl (bC b a c) _ B2.all Try.underlying26 rfl (sB HL.out _ _) ?_)
  refine KH.mono ?_
  clear KH
  rintro e w2 ⟨t, rfl, H⟩
  have HZ2 : Hid (Below W.heap.size W w2) := Z1.trans (H.out.1.mono Z1.size)
  have HB2 : Hid (Blk w2 g2 26 (bC b a c)) := B2.below H.out.1 B2.lt
  have HLi : Hid (t = false → Light b) := H.out.2
  clear H Z1 B2
  cases t with
  | true =>
    go_wp2
    go_ret
    exact ⟨rfl, HZ2.out⟩
  | false =>
  have KE := enc_any b HB.out (light_lk HB.out (HLi.out rfl)) a c true w2 (HE.out.below HZ2.out)
  go_wp2_with (refine ld_w (by rfl) 26 (.tmp 2) rfl g2 0 rfl (bC b a c) _ HB2.out.all Try.underlying26 rfl (sB HL.out _ _) ?_)
  refine KE.mono ?_
  clear KE
  rintro e w3 ⟨v, rfl, H⟩
  have HZ3 : Hid (Below W.heap.size W w3) := HZ2.out.trans (H.out.2.mono HZ2.out.size)
  have HO : Hid (Own w3 w2.heap.size v (encL b true)) := H.out.1
  have HC : Hid (chkB b = 0 → CutL (encL b true)) := fun h => by unfold encL; rw [if_pos h]; exact cut_blk HB.out h
  clear H HB2 HLi HZ2
  obtain ⟨E1, HE1⟩ : ∃ E1, Hid (chkB b = E1) := ⟨_, rfl⟩
  obtain ⟨l, Hl⟩ : ∃ l, Hid (encL b true = l) := ⟨_, rfl⟩
  rw [HE1.out]
  rw [HE1.out, Hl.out] at HC
  rw [Hl.out] at HO
  clear HE1 Hl
  by_cases h1 : E1 = 0
  case neg =>
    have KK := bknown_any w3
    have hb1 : (E1 != 0) = true := by simpa using h1
    have hb2 : (E1 == 0) = false := by simpa using h1
    clear HO HC
    go_wp2_with fail
    refine KK.mono ?_
    clear KK
    rintro e w8 ⟨rfl, H8⟩
    have HB8 : Hid (Below W.heap.size W w8) := HZ3.out.trans (H8.out.mono HZ3.out.size)
    go_wp2
    go_ret
    exact ⟨rfl, HB8.out⟩
  subst h1
  have HCL : Hid (CutL l) := HC.out rfl
  have hpos := HCL.out.pos
  have hlen := HCL.out.len
  obtain ⟨a6, k6, rfl, hb6, hn6, hlc6, hcm6⟩ := HO.out.byt
  have HBy : Hid (Byt w3 a6 l) := hb6
  have HNl : Hid (a6 = none → k6 = 0) := hn6
  have hcm : k6 ≤ 9223372036854775807 := by simpa [maxLen] using hcm6
  clear HO hb6 hn6 hcm6 HC
  obtain ⟨k, hk, hk30⟩ : ∃ k : Nat, bits .and .i64 z 1073741823 = (k : Int) ∧ k < 1073741824 :=
    ⟨(z % 1073741824).toNat, by rw [and30b]; omega, by omega⟩
  obtain ⟨kk, hkk⟩ : ∃ kk, kk = k % l.length := ⟨_, rfl⟩
  have hlt : kk < l.length := by rw [hkk]; exact Nat.mod_lt _ hpos
  have hmod : (k : Int) % (l.length : Int) = (kk : Int) := by rw [hkk, Int.natCast_emod]
  clear hkk
  have hl0 : ((l.length : Int) == 0) = false := beq_eq_false_iff_ne.2 (by omega)
  have hT : (l.take kk).length = kk := by rw [List.length_take]; omega
  have KD := bdec_any w3 a6 k6 (l.take kk) (byt_take HBy.out _) HNl.out (by rw [hT]; omega) hcm (fun x hx => HCL.out.oct x (List.mem_of_mem_take hx)) (by rw [hT]; omega) (HCL.out.sfc kk)
  rw [hT, HCL.out.cut kk hlt] at KD
  clear hT
  go_wp2_with fail
  refine KD.mono ?_
  clear KD
  rintro e w4 ⟨a4, c4, rfl, H4⟩
  have G4 : Hid (Below w3.heap.size w3 w4) := H4.out.bl
  have HW4 : Hid ((decK (l.take kk)).pv.length = 32) := H4.out.w.pv.1
  clear H4
  obtain ⟨q4, Hq4⟩ : ∃ q4, Hid (decK (l.take kk) = q4) := ⟨_, rfl⟩
  rw [Hq4.out]
  rw [Hq4.out] at HW4
  clear Hq4
  go_wp2_with (refine al_zero rfl 26 rfl (bC noB none 0) zBl ?_)
  intro g7 w5 l7 B7 gr7
  go_wp2_with (refine st_all rfl 26 (.tmp 7) (.tmp 33) rfl g7 26 (bC noB none 0) (bC q4 a4 c4) rfl rfl B7 (by rw [bC_len HW4.out, bC_len zr_len]) (sB HW4.out _ _) (bC_one _ _ _) ?_)
  intro w6 B8 gr8
  have G6 : Hid (Below w4.heap.size w4 w6) := below_new gr7 l7 gr8
  have G36 : Hid (Below w3.heap.size w3 w6) := G4.out.trans (G6.out.mono G4.out.size)
  have HB9 : Hid (Below W.heap.size W w6) := HZ3.out.trans (G36.out.mono HZ3.out.size)
  have HBy9 : Hid (Byt w6 a6 l) := HBy.out.below G36.out
  clear B7 gr7 B8 gr8 G6 G36 G4 HBy HZ3 HW4
  obtain ⟨x1, HX1⟩ : ∃ x1, Hid (w6.alloc (.cells #[] 5) = x1) := ⟨_, rfl⟩
  have HOe : Hid (Own x1 W.heap.size (.slice (some ⟨w6.heap.size, 0, none⟩) 0 0) []) := by rw [← HX1.out]; exact own_empty w6 _ HB9.out.size
  have GX1 : Hid (Below w6.heap.size w6 x1) := by rw [← HX1.out]; exact (Below.refl _ _).alloc (Nat.le_refl _) _
  have HBx1 : Hid (Below W.heap.size W x1) := HB9.out.trans (GX1.out.mono HB9.out.size)
  have HByx : Hid (Byt x1 a6 l) := HBy9.out.below GX1.out
  have hsx : W.heap.size ≤ x1.heap.size := HBx1.out.size
  clear HB9 HBy9 GX1
  go_wp2_with (at_builtin; go_must (generalize hWW : World.alloc w6 _ = W9; obtain rfl : x1 = W9 := (by rw [← hWW, ← HX1.out]); clear hWW HX1; refine app_bytes rfl (.tmp 36) (.tmp 37) rfl W.heap.size _ [] rfl HOe.out a6 l.length k6 l rfl rfl HByx.out HNl.out (by simp; omega) hsx ?_))
  intro v2 x2 o2 gx2
  have HO2 : Hid (Own x2 W.heap.size v2 l) := o2
  have HBx2 : Hid (Below W.heap.size W x2) := below_app HBx1.out HBx1.out.size HOe.out gx2
  clear o2 gx2 HBx1 HByx HOe hsx
  obtain ⟨x3, HX3⟩ : ∃ x3, Hid (x2.alloc (.cells #[.int .u8 0] 5) = x3) := ⟨_, rfl⟩
  have HO3 : Hid (Own x3 W.heap.size v2 l) := by rw [← HX3.out]; exact HO2.out.alloc _
  have HB3 : Hid (Byt x3 (some ⟨x2.heap.size, 0, none⟩) [0]) := by rw [← HX3.out]; exact byt_lit x2 [0]
  have HBx3 : Hid (Below W.heap.size W x3) := by rw [← HX3.out]; exact HBx2.out.alloc HBx2.out.size _
  have hsx : W.heap.size ≤ x3.heap.size := HBx3.out.size
  clear HO2 HBx2
  go_wp2_with (at_builtin; go_must (generalize hWW : World.alloc x2 _ = W9; obtain rfl : x3 = W9 := (by rw [← hWW, ← HX3.out]); clear hWW HX3; refine app_bytes rfl (.tmp 38) (.tmp 39) rfl W.heap.size v2 l rfl HO3.out (some ⟨x2.heap.size, 0, none⟩) 1 1 [0] rfl rfl HB3.out (by intro h; cases h) (by simp; omega) hsx ?_))
  intro v4 x4 o4 gx4
  have HBx4 : Hid (Below W.heap.size W x4) := below_app HBx3.out HBx3.out.size HO3.out gx4
  obtain ⟨a5, k5, rfl, hb5, hn5, hlc5, hcm5⟩ := o4.byt
  have hl1 : (l ++ [0]).length = l.length + 1 := by simp
  have KD := bdec_any x4 a5 k5 (l ++ [0]) hb5 hn5 hlc5 (by simpa [maxLen] using hcm5) (by
    intro x hx
    rcases List.mem_append.1 hx with hx | hx
    · exact HCL.out.oct x hx
    · simp at hx; omega) (by rw [hl1]; omega) HCL.out.sfm
  rw [HCL.out.more] at KD
  clear o4 gx4 HO3 HB3 HBx3 hsx hb5 hn5 hcm5
  rw [hl1] at KD hlc5
  simp only [hl1]
  go_wp2_with fail
  refine KD.mono ?_
  clear KD
  rintro e x5 ⟨ay, cy, rfl, H5⟩
  have G4 : Hid (Below x4.heap.size x4 x5) := H5.out.bl
  have HW4 : Hid ((decK (l ++ [0])).pv.length = 32) := H5.out.w.pv.1
  clear H5
  obtain ⟨q5, Hq4⟩ : ∃ q4, Hid (decK (l ++ [0]) = q4) := ⟨decK (l ++ [0]), rfl⟩
  rw [Hq4.out]
  rw [Hq4.out] at HW4
  clear Hq4
  go_wp2_with (refine al_zero rfl 26 rfl (bC noB none 0) zBl ?_)
  intro g9 x6 l9 B9 gr9
  go_wp2_with (refine st_all rfl 26 (.tmp 9) (.tmp 42) rfl g9 26 (bC noB none 0) (bC q5 ay cy) rfl rfl B9 (by rw [bC_len HW4.out, bC_len zr_len]) (sB HW4.out _ _) (bC_one _ _ _) ?_)
  intro x7 B10 gr10
  have G7 : Hid (Below x5.heap.size x5 x7) := below_new gr9 l9 gr10
  have HB7 : Hid (Below W.heap.size W x7) := by
    have h7 := HBx4.out.trans (G4.out.mono HBx4.out.size)
    exact h7.trans (G7.out.mono h7.size)
  clear B9 gr9 B10 gr10 G7 G4 HBx4 HW4
  have KK := bknown_any x7
  go_wp2_with fail
  refine KK.mono ?_
  clear KK
  rintro e x8 ⟨rfl, H8⟩
  have HB8 : Hid (Below W.heap.size W x8) := HB7.out.trans (H8.out.mono HB7.out.size)
  go_wp2
  go_ret
  exact ⟨rfl, HB8.out⟩
end Go.Proofs.Ytmbglggodifboab.Sh
