/-
  block's Hash. · The document's in, empty, bare, plain. · The document's bytes of an entry.
-/
import Derived.Test.YtlefdnjokppibaaGreatDoorUG37x
import Derived.Test.YtlefdnjokppibaaGreatDoorUG31x
namespace Go.Proofs.YtlefdnjokppibaaGreatDoor.Sh
open Go Go.RowKit Math Mt
set_option linter.unusedVariables false
set_option linter.unusedSimpArgs false
theorem eH32 (os : List (List Nat)) : H32 (eH os) := D32 _
/-- What Hash answers. -/
def hsA (b : Bk) : List Nat := if chkB b = 0 then bH b else zr
theorem hsA32 (b : Bk) : H32 (hsA b) := by
  unfold hsA
  split
  · exact D32 _
  · exact h32_zr
theorem bd_zh (a : Act) : Tryz.prog.built 23 ((#[] : Array (Nat × Operand)).map fun p => (p.1, a.eval p.2)).toList = some (nums .u8 zr).toArray := by kernel_rfl
theorem tri_ol {ps : List Pk} {es : List En} (h : ps.map triP = es.map triE) : ps.map (·.ol) = es.map entB := by
  have := congrArg (List.map (fun t : List Nat × List Nat × Int => t.1)) h
  rw [List.map_map, List.map_map] at this
  exact this
set_option maxHeartbeats 1000000 in
set_option maxRecDepth 8000 in
theorem bhsh_any (b : Bk) (hb : BkW b) (hws : ∀ e ∈ b.es, Lk e.v) (a : Option Addr) (c : Nat) (w : World) (hE : EsM w a b.es) (hT : Mer.Tb w) :
    Calls Tryz.prog 8 #[.agg (bC b a c).toArray] w fun e w' => e = .returned (.tuple #[.agg (nums .u8 (hsA b)).toArray, .int .i64 (chkB b)]) ∧ Hid (Below w.heap.size w w') := by
  have HL : Hid (b.pv.length = 32) := hb.pv.1
  have HB : Hid (BkW b) := hb
  have HT : Hid (Mer.Tb w) := hT
  have K : Hid (∀ W, EsM W a b.es → Calls Tryz.prog 28 #[.agg (bC b a c).toArray] W fun e w' => ∃ v, e = .returned (.tuple #[v, .int .i64 (chkB b)]) ∧ Hid (PaR W w' b v)) := fun W h => pack_any b hb hws a c W h
  have HE : Hid (EsM w a b.es) := hE
  have H0 : Hid (chkB b = 0 → b.es.length ≤ 200 ∧ hsA b = bH b) := fun h => ⟨by have := (chk_zero h).1.2.2.2.2; omega, by unfold hsA; rw [if_pos h]⟩
  have H1 : Hid (chkB b ≠ 0 → hsA b = zr) := fun h => by unfold hsA; rw [if_neg h]
  have HQ : Hid (∀ W W' v, PaR W W' b v → chkB b = 0 → ∃ (ps : List Pk) (ae : Option Addr) (ce : Nat), v = .slice ae ps.length ce ∧ PkM W' ae ps ∧ ps.map triP = b.es.map triE) := fun W W' v h => h.ok
  obtain ⟨R, hR⟩ : ∃ R, Hid (chkB b = R) := ⟨_, rfl⟩
  obtain ⟨X, hX⟩ : ∃ X, Hid (hsA b = X) := ⟨_, rfl⟩
  rw [hR.out] at K H0 H1 HQ ⊢
  rw [hX.out] at H0 H1 ⊢
  clear hb hE hws hR hT hX
  go_enter Tryz.func8, Tryz.ntmps8
  go_wp2_with (refine al_box rfl 26 (.tmp 0) rfl (bC b a c) rfl ?_)
  intro gb w1 l1 BB G0
  have Z := (Below.refl w.heap.size w).grown G0 (Nat.le_refl _) (by simp)
  clear G0
  go_wp2_with (refine al_zero rfl 23 rfl (nums .u8 zr) zHt ?_)
  intro g2 w2 l2 B2 G0
  have hg2 : w.heap.size ≤ g2 := Nat.le_trans Z.size l2
  have Z := Z.grown G0 Z.size (by simp)
  have BB := BB.kept G0 (by simp)
  clear G0
  have KR := K.out w2 (HE.out.below Z)
  go_wp2_with (refine ld_w (by rfl) 26 (.tmp 1) rfl gb 0 rfl (bC b a c) _ BB.all Tryz.underlying26 rfl (sB HL.out _ _) ?_)
  refine KR.mono ?_
  rintro e w3 ⟨v, rfl, HR⟩
  have BB := BB.below HR.out.bl BB.lt
  have B2 := B2.below HR.out.bl B2.lt
  have Z := Z.trans (HR.out.bl.mono Z.size)
  clear KR K
  by_cases h0 : R = 0
  case neg =>
    obtain rfl : X = zr := H1.out h0
    have hb1 : (R != 0) = true := bne_iff_ne.2 h0
    have hb2 : (R == 0) = false := beq_eq_false_iff_ne.2 h0
    clear HQ H0 H1 HR
    go_wp2_with (first | (refine bd_w (by rfl) 23 #[] rfl (nums .u8 zr) (bd_zh _) ?_) | (refine st_all rfl 23 (.tmp 2) (.tmp 13) rfl g2 23 (nums .u8 zr) (nums .u8 zr) rfl rfl B2 rfl (sH zr_len) (nums_one _ _) ?_))
    intro w4 B4 G0
    have HF : Hid (Below w.heap.size w w4) := Sh.grown_below Z G0 Z.size hg2
    clear G0 B2 BB
    go_wp2
    (try simp only [Exit.inBlock, Exit.then])
    refine bodyPost_ret (res_two rfl _ g2 23 _ _ rfl B4 Tryz.underlying23 rfl (sH zr_len)) rfl ⟨rfl, HF.out⟩
  subst h0
  obtain ⟨ps, ae, ce, rfl, hM, hps⟩ := HQ.out _ _ _ HR.out rfl
  obtain ⟨h200, hel⟩ := H0.out rfl
  have hpl : ps.length = b.es.length := by have := congrArg List.length hps; simpa only [List.length_map] using this
  have HX : Hid (X = D (1 :: (D (hedB b) ++ eH (ps.map (·.ol))))) := by show _ = _; rw [hel, tri_ol hps]; rfl
  have HM : Hid (PkM w3 ae ps) := hM
  have hp2 : ps.length ≤ 200 := by omega
  clear HQ H0 H1 HR hM hel hpl hps h200
  have K := bhead_any b HB.out a c w3
  obtain ⟨hd, hhd⟩ : ∃ hd, Hid (D (hedB b) = hd) := ⟨_, rfl⟩
  have HH1 : Hid (H32 hd) := by rw [← hhd.out]; exact D32 _
  rw [hhd.out] at K HX
  clear hhd
  go_wp2_with (refine ld_w (by rfl) 26 (.tmp 1) rfl gb 0 rfl (bC b a c) _ BB.all Tryz.underlying26 rfl (sB HL.out _ _) ?_)
  refine K.mono ?_
  clear K
  rintro e w4 ⟨rfl, H⟩
  have B2 := B2.below H.out B2.lt
  have Z4 := Z.trans (H.out.mono Z.size)
  have K := ehash_any ps (by omega) ae ce w4 (HM.out.below H.out) (HT.out.grow Z4)
  obtain ⟨eh, heh⟩ : ∃ eh, Hid (eH (ps.map (·.ol)) = eh) := ⟨_, rfl⟩
  have HH2 : Hid (H32 eh) := by rw [← heh.out]; exact eH32 _
  rw [heh.out] at K HX
  clear heh H Z HM
  go_wp2_with fail
  refine K.mono ?_
  clear K
  rintro e w5 ⟨rfl, H⟩
  have B2 := B2.below H.out B2.lt
  have Z5 := Z4.trans (H.out.mono Z4.size)
  clear H Z4
  have K := bjoin_any hd eh HH1.out HH2.out w5
  rw [← HX.out] at K
  have HX3 : Hid (H32 X) := by rw [HX.out]; exact D32 _
  go_wp2_with fail
  refine K.mono ?_
  clear K
  rintro e w6 ⟨rfl, H⟩
  have B2 := B2.below H.out B2.lt
  have Z6 := Z5.trans (H.out.mono Z5.size)
  clear H Z5 HX
  go_wp2_with (refine st_all rfl 23 (.tmp 2) (.tmp 19) rfl g2 23 (nums .u8 zr) (nums .u8 X) rfl rfl B2 (by rw [nums_length, nums_length, HX3.out.1]; rfl) (sH HX3.out.1) (nums_one _ _) ?_)
  intro w7 B7 G0
  have HF : Hid (Below w.heap.size w w7) := Sh.grown_below Z6 G0 Z6.size hg2
  clear G0 B2 BB
  go_wp2
  (try simp only [Exit.inBlock, Exit.then])
  refine bodyPost_ret (res_two rfl _ g2 23 _ _ rfl B7 Tryz.underlying23 rfl (sH HX3.out.1)) rfl ⟨rfl, HF.out⟩
end Go.Proofs.YtlefdnjokppibaaGreatDoor.Sh
namespace Go.Proofs.YtlefdnjokppibaaGreatDoor.Sh
open Go Go.RowKit Math Mt
set_option linter.unusedVariables false
set_option linter.unusedSimpArgs false
set_option maxHeartbeats 400000 in
set_option maxRecDepth 8000 in
theorem in_any (n lo hi : Int) (w : World) (t : Bool) (ht : Hid (t = true ↔ inP n lo hi)) :
    Calls Tryz.prog 30 #[.int .i64 n, .int .i64 lo, .int .i64 hi] w fun e w' => e = .returned (.bool t) ∧ w' = w := by
  by_cases h1 : lo ≤ n
  · by_cases h2 : n ≤ hi
    · obtain rfl : t = true := ht.out.2 ⟨h1, h2⟩
      clear ht
      go_enter Tryz.func30, Tryz.ntmps30
      go_wp2
      go_ret
      exact ⟨rfl, rfl⟩
    · obtain rfl : t = false := Bool.eq_false_iff.2 fun h => h2 (ht.out.1 h).2
      clear ht
      go_enter Tryz.func30, Tryz.ntmps30
      go_wp2
      go_ret
      exact ⟨rfl, rfl⟩
  · obtain rfl : t = false := Bool.eq_false_iff.2 fun h => h1 (ht.out.1 h).1
    clear ht
    go_enter Tryz.func30, Tryz.ntmps30
    go_wp2
    go_ret
    exact ⟨rfl, rfl⟩
theorem vl_nv (w : World) : Vl w nv none 0 none 0 := (vl_lf w 0 0 0 em).vl
theorem bd_nv (a : Act) : Tryz.prog.built 41 ((#[] : Array (Nat × Operand)).map fun p => (p.1, a.eval p.2)).toList = some (six nv.1 none 0 none nv.2.list.length 0).toArray := by kernel_rfl
set_option maxHeartbeats 1000000 in
set_option maxRecDepth 8000 in
theorem empty_any (p : Vt) (hp : WfV p) (na : Option Addr) (nc : Nat) (ka : Option Addr) (kc : Nat) (w : World) (hv : Vl w p na nc ka kc) (t : Bool) (ht : Hid (t = true ↔ p = nv)) :
    Calls Tryz.prog 81 #[.agg (six p.1 na nc ka p.2.list.length kc).toArray] w fun e w' => e = .returned (.bool t) ∧ Hid (Below w.heap.size w w') := by
  have HV : Hid (Vl w p na nc ka kc) := hv
  have HP : Hid (WfV p) := hp
  clear hv hp
  go_enter Tryz.func81, Tryz.ntmps81
  go_wp2_with (refine al_box rfl 41 (.tmp 0) rfl (six p.1 na nc ka p.2.list.length kc) rfl ?_)
  intro g1 w1 l1 B1 G0
  have Z := (Below.refl w.heap.size w).grown G0 (Nat.le_refl _) (by simp)
  clear G0
  have KE := equal_any (wt p) p (Nat.le_refl _) HP.out nv wf_nv na nc ka kc none 0 none 0 w1 (HV.out.below Z) (vl_nv w1)
  go_wp2_with (first
    | (refine ld_w (by rfl) 41 (.tmp 1) rfl g1 0 rfl (six p.1 na nc ka p.2.list.length kc) _ B1.all Tryz.underlying41 rfl (szV _ _ _ _ _ _) ?_)
    | (refine bd_w (by rfl) 41 #[] rfl (six nv.1 none 0 none nv.2.list.length 0) (bd_nv _) ?_))
  refine KE.mono ?_
  rintro e' w3 ⟨t2, rfl, H⟩
  obtain rfl : t = t2 := Bool.eq_iff_iff.2 (ht.out.trans H.out.1.symm)
  have HF : Hid (Below w.heap.size w w3) := Z.trans (H.out.2.mono Z.size)
  clear KE H Z B1
  go_wp2
  go_ret
  exact ⟨rfl, HF.out⟩
set_option maxHeartbeats 1000000 in
set_option maxRecDepth 8000 in
theorem bare_any (e : En) (hl : e.h.length = 32) (na : Option Addr) (nc : Nat) (ka : Option Addr) (kc : Nat) (w : World) :
    Calls Tryz.prog 82 #[.agg (eC e na nc ka kc).toArray] w fun e' w' => e' = .returned (.agg (eC { e with v := nv } none 0 none 0).toArray) ∧ Hid (Below w.heap.size w w') := by
  have HL : Hid (e.h.length = 32) := hl
  clear hl
  go_enter Tryz.func82, Tryz.ntmps82
  go_wp2_with (refine al_box rfl 45 (.tmp 0) rfl (eC e na nc ka kc) rfl ?_)
  intro g1 w1 l1 B1 G0
  have Z := (Below.refl w.heap.size w).grown G0 (Nat.le_refl _) (by simp)
  clear G0
  go_wp2_with (refine al_zero rfl 45 rfl (eC e0 none 0 none 0) zEn ?_)
  intro g2 w2 l2 B2 G0
  have hg2 : w.heap.size ≤ g2 := Nat.le_trans Z.size l2
  have n12 : g1 ≠ g2 := by have := B1.lt; omega
  have Z := Z.grown G0 Z.size (by simp)
  have B1 := B1.kept G0 (by simp)
  clear G0
  have B1 : Blk w2 g1 45 ([.int .i64 e.k, .string e.t, .int .i64 e.tb, .int .i64 e.dc, .int .i64 e.vr] ++ (six e.v.1 na nc ka e.v.2.list.length kc ++ (nums .u8 e.h ++ [.bool e.g, .int .i64 e.ab, .int .i64 e.ae]))) := B1
  go_wp2_with (first
    | (refine bd_w (by rfl) 41 #[] rfl (six nv.1 none 0 none nv.2.list.length 0) (bd_nv _) ?_)
    | (refine st_row rfl 41 (.tmp 4) (.tmp 3) rfl g1 5 45 [.int .i64 e.k, .string e.t, .int .i64 e.tb, .int .i64 e.dc, .int .i64 e.vr] (six e.v.1 na nc ka e.v.2.list.length kc) (nums .u8 e.h ++ [.bool e.g, .int .i64 e.ab, .int .i64 e.ae]) (six nv.1 none 0 none nv.2.list.length 0) rfl rfl rfl B1 rfl (szV _ _ _ _ _ _) (six_one _ _ _ _ _ _) ?_))
  intro w3 B1' G0
  have B1 : Blk w3 g1 45 (eC { e with v := nv } none 0 none 0) := B1'
  have B2 := B2.kept G0 (fun e => n12 (Option.some.inj e).symm)
  have Z := Sh.grown_below Z G0 Z.size l1
  clear G0 B1'
  go_wp2_with (first
    | (refine ld_w (by rfl) 45 (.tmp 1) rfl g1 0 rfl (eC { e with v := nv } none 0 none 0) _ B1.all Tryz.underlying45 rfl (sE (e := { e with v := nv }) HL.out _ _ _ _) ?_)
    | (refine st_all rfl 45 (.tmp 2) (.tmp 5) rfl g2 45 (eC e0 none 0 none 0) (eC { e with v := nv } none 0 none 0) rfl rfl B2 (by rw [eC_len (e := { e with v := nv }) HL.out, eC_len zr_len]) (sE (e := { e with v := nv }) HL.out _ _ _ _) (eC_one _ _ _ _ _) ?_))
  intro w4 B2' G0
  have HF : Hid (Below w.heap.size w w4) := Sh.grown_below Z G0 Z.size hg2
  clear G0 B2 B1 Z
  go_wp2
  (try simp only [Exit.inBlock, Exit.then])
  refine bodyPost_ret (Sh.res_row rfl _ g2 45 _ _ rfl B2' Tryz.underlying45 rfl (sE (e := { e with v := nv }) HL.out _ _ _ _)) rfl ⟨rfl, HF.out⟩
end Go.Proofs.YtlefdnjokppibaaGreatDoor.Sh
namespace Go.Proofs.YtlefdnjokppibaaGreatDoor.Sh
open Go Go.RowKit Math Mt
set_option linter.unusedVariables false
set_option linter.unusedSimpArgs false
set_option maxHeartbeats 400000 in
set_option maxRecDepth 8000 in
theorem u_any (v : Nat) (hv : v < 18446744073709551616) (w : World) :
    Calls Tryz.prog 71 #[.int .u64 (v : Int)] w fun e w' => ∃ r, e = .returned r ∧ Own w' w.heap.size r (uv v) ∧ Below w.heap.size w w' := by
  go_enter Tryz.func71, Tryz.ntmps71
  have K := uvr_any v hv w
  go_wp2_with fail
  refine K.mono ?_
  rintro e w2 ⟨r, rfl, h1, h2⟩
  have HF : Hid (Own w2 w.heap.size r (uv v) ∧ Below w.heap.size w w2) := ⟨h1, h2⟩
  clear K h1 h2
  go_wp2
  go_ret
  exact ⟨r, rfl, HF.out⟩
set_option maxHeartbeats 2000000 in
set_option maxRecDepth 8000 in
theorem rent_any (e : En) (he : EnW e) (hn : Num e) (na : Option Addr) (nc : Nat) (ka : Option Addr) (kc : Nat) (w : World) :
    Calls Tryz.prog 40 #[.agg (eC e na nc ka kc).toArray] w fun e' w' => ∃ v', e' = .returned v' ∧ Hid (Own w' w.heap.size v' (entB e) ∧ Below w.heap.size w w') := by
  have HL : Hid (e.h.length = 32) := he.h.1
  obtain ⟨kn, hkn⟩ : ∃ kn : Nat, e.k = (kn : Int) := ⟨e.k.toNat, by have := hn.k; omega⟩
  have hk8 : kn ≤ 7 := by have := hn.k; omega
  have ht := hn.t
  obtain ⟨tb, htb⟩ : ∃ tb : Nat, e.tb = (tb : Int) := ⟨e.tb.toNat, by have := hn.tb; omega⟩
  have htbb : tb ≤ 2147483648 := by have := hn.tb; omega
  obtain ⟨dc, hdc⟩ : ∃ dc : Nat, e.dc = (dc : Int) := ⟨e.dc.toNat, by have := hn.dc; omega⟩
  have hdcb : dc ≤ 2147483648 := by have := hn.dc; omega
  obtain ⟨vr, hvr⟩ : ∃ vr : Nat, e.vr = (vr : Int) := ⟨e.vr.toNat, by have := hn.vr; omega⟩
  have hvrb : vr ≤ 2147483648 := by have := hn.vr; omega
  obtain ⟨ab, hab⟩ : ∃ ab : Nat, e.ab = (ab : Int) := ⟨e.ab.toNat, by have := hn.ab; omega⟩
  have habb : ab ≤ 2147483648 := by have := hn.ab; omega
  obtain ⟨ae, hae⟩ : ∃ ae : Nat, e.ae = (ae : Int) := ⟨e.ae.toNat, by have := hn.ae; omega⟩
  have haeb : ae ≤ 2147483648 := by have := hn.ae; omega
  have HX : Hid (entB e = [kn] ++ uv tb ++ uv dc ++ uv vr ++ uv e.t.size ++ bts e.t ++ uv ab ++ uv ae ++ (if kn = 2 then e.h else [])) := by
    show _ = _
    unfold entB uvI
    rw [hkn, htb, hdc, hvr, hab, hae]
    simp only [Int.toNat_natCast]
    congr 1
    by_cases h : kn = 2
    · rw [if_pos h, if_pos (by omega)]
    · rw [if_neg h, if_neg (by omega)]
  have ltb : Hid ((uv tb).length ≤ 10) := uv_ten _ (by omega)
  have ldc : Hid ((uv dc).length ≤ 10) := uv_ten _ (by omega)
  have lvr : Hid ((uv vr).length ≤ 10) := uv_ten _ (by omega)
  have lab : Hid ((uv ab).length ≤ 10) := uv_ten _ (by omega)
  have lae : Hid ((uv ae).length ≤ 10) := uv_ten _ (by omega)
  have lts : Hid ((uv e.t.size).length ≤ 10) := uv_ten _ (by omega)
  obtain ⟨Ltb, hLtb⟩ : ∃ L, Hid ([kn] ++ uv tb = L) := ⟨_, rfl⟩
  rw [hLtb.out] at HX
  have mtb : Hid (Ltb.length ≤ 1 + 10) := by show _ ≤ _; rw [← hLtb.out, List.length_append]; simp only [List.length_singleton]; have := ltb.out; omega
  obtain ⟨Ldc, hLdc⟩ : ∃ L, Hid (Ltb ++ uv dc = L) := ⟨_, rfl⟩
  rw [hLdc.out] at HX
  have mdc : Hid (Ldc.length ≤ 1 + 10 + 10) := by show _ ≤ _; rw [← hLdc.out, List.length_append]; have := mtb.out; have := ldc.out; omega
  obtain ⟨Lvr, hLvr⟩ : ∃ L, Hid (Ldc ++ uv vr = L) := ⟨_, rfl⟩
  rw [hLvr.out] at HX
  have mvr : Hid (Lvr.length ≤ 1 + 10 + 10 + 10) := by show _ ≤ _; rw [← hLvr.out, List.length_append]; have := mdc.out; have := lvr.out; omega
  obtain ⟨Lts, hLts⟩ : ∃ L, Hid (Lvr ++ uv e.t.size = L) := ⟨_, rfl⟩
  rw [hLts.out] at HX
  have mts : Hid (Lts.length ≤ 1 + 10 + 10 + 10 + 10) := by show _ ≤ _; rw [← hLts.out, List.length_append]; have := mvr.out; have := lts.out; omega
  obtain ⟨Lt, hLt⟩ : ∃ L, Hid (Lts ++ bts e.t = L) := ⟨_, rfl⟩
  rw [hLt.out] at HX
  have mt : Hid (Lt.length ≤ 1 + 10 + 10 + 10 + 10 + e.t.size) := by show _ ≤ _; rw [← hLt.out, List.length_append, bts_len]; have := mts.out; omega
  obtain ⟨Lab, hLab⟩ : ∃ L, Hid (Lt ++ uv ab = L) := ⟨_, rfl⟩
  rw [hLab.out] at HX
  have mab : Hid (Lab.length ≤ 1 + 10 + 10 + 10 + 10 + e.t.size + 10) := by show _ ≤ _; rw [← hLab.out, List.length_append]; have := mt.out; have := lab.out; omega
  obtain ⟨Lae, hLae⟩ : ∃ L, Hid (Lab ++ uv ae = L) := ⟨_, rfl⟩
  rw [hLae.out] at HX
  have mae : Hid (Lae.length ≤ 1 + 10 + 10 + 10 + 10 + e.t.size + 10 + 10) := by show _ ≤ _; rw [← hLae.out, List.length_append]; have := mab.out; have := lae.out; omega
  clear he hn
  go_enter Tryz.func40, Tryz.ntmps40
  go_wp2_with (refine al_box rfl 45 (.tmp 0) rfl (eC e na nc ka kc) rfl ?_)
  intro ge w1 l1 BE G0
  have HZ0 : Hid (Below w.heap.size w w1) := (Below.refl w.heap.size w).grown G0 (Nat.le_refl _) (by simp)
  clear G0
  have HBE : Hid (Blk w1 ge 45 (eC e na nc ka kc)) := BE
  have CF : Hid (∀ V, Below w1.heap.size w1 V → EnF V ge 0 e na nc ka kc) := fun V h => enF_of HL.out (HBE.out.below h HBE.out.lt).all
  have ck := (enF_of HL.out BE.all).k
  rw [hkn] at ck
  clear BE
  obtain ⟨W1, HW1⟩ : ∃ W1, Hid (w1.alloc (.cells #[.int .u8 (kn : Int)] 5) = W1) := ⟨_, rfl⟩
  have HO : Hid (Own W1 w1.heap.size (.slice (some ⟨w1.heap.size, 0, none⟩) 1 1) [kn]) := by rw [← HW1.out]; exact own_lit1 w1 kn _ (Nat.le_refl _)
  have HZ : Hid (Below w1.heap.size w1 W1) := by rw [← HW1.out]; exact (Below.refl _ _).alloc (Nat.le_refl _) _
  have cx : W1.cell? ⟨ge, 2, none⟩ = some (.int .i64 (tb : Int)) := by have := (CF.out W1 HZ.out).tb; rw [Nat.zero_add, htb] at this; exact this
  rw [← HW1.out] at cx
  have K := u_any tb (by omega) W1
  rw [← HW1.out] at K
  go_wp2_with fail
  refine K.mono ?_
  clear K cx
  rintro e' X1 ⟨r1, rfl, hr1, zr1⟩
  rw [HW1.out] at hr1 zr1
  clear ck
  obtain ⟨ar1, cr1, rfl, hb1, hnl1, hlr1, hcr1⟩ := hr1.byt
  have HB1 : Hid (Byt X1 ar1 (uv tb)) := hb1
  have HN1 : Hid (ar1 = none → cr1 = 0) := hnl1
  have HO1 : Hid (Own X1 w1.heap.size (.slice (some ⟨w1.heap.size, 0, none⟩) 1 1) ([kn])) := HO.out.below zr1
  have HZ1 : Hid (Below w1.heap.size w1 X1) := HZ.out.trans (zr1.mono HZ.out.size)
  have hsz1 : w1.heap.size ≤ X1.heap.size := HZ1.out.size
  clear HO HZ hr1 zr1 hb1 hnl1 hlr1 hcr1
  go_wp2_with (at_builtin; go_must (refine ap_bytes rfl (.tmp 8) (.tmp 12) rfl w1.heap.size (.slice (some ⟨w1.heap.size, 0, none⟩) 1 1) ([kn]) rfl HO1.out ar1 (uv tb).length cr1 (uv tb) rfl rfl HB1.out HN1.out (by simp only [List.length_singleton]; have := ltb.out; omega) hsz1 ?_))
  intro v1 Y1 A1
  have A1 : Ap w1.heap.size X1 Y1 (.slice (some ⟨w1.heap.size, 0, none⟩) 1 1) v1 Ltb := by rw [← hLtb.out]; exact A1
  have HZ : Hid (Below w1.heap.size w1 Y1) := A1.below HO1.out HZ1.out hsz1 (Nat.le_refl _)
  have HO : Hid (Own Y1 w1.heap.size v1 (Ltb)) := A1.own
  clear A1 HO1 HZ1 HB1 HN1 hsz1
  have cx : Y1.cell? ⟨ge, 3, none⟩ = some (.int .i64 (dc : Int)) := by have := (CF.out Y1 HZ.out).dc; rw [Nat.zero_add, hdc] at this; exact this
  have K := u_any dc (by omega) Y1
  go_wp2_with fail
  refine K.mono ?_
  clear K cx
  rintro e' X2 ⟨r2, rfl, hr2, zr2⟩
  obtain ⟨ar2, cr2, rfl, hb2, hnl2, hlr2, hcr2⟩ := hr2.byt
  have HB2 : Hid (Byt X2 ar2 (uv dc)) := hb2
  have HN2 : Hid (ar2 = none → cr2 = 0) := hnl2
  have HO2 : Hid (Own X2 w1.heap.size v1 (Ltb)) := HO.out.below zr2
  have HZ2 : Hid (Below w1.heap.size w1 X2) := HZ.out.trans (zr2.mono HZ.out.size)
  have hsz2 : w1.heap.size ≤ X2.heap.size := HZ2.out.size
  clear HO HZ hr2 zr2 hb2 hnl2 hlr2 hcr2
  go_wp2_with (at_builtin; go_must (refine ap_bytes rfl (.tmp 14) (.tmp 18) rfl w1.heap.size v1 (Ltb) rfl HO2.out ar2 (uv dc).length cr2 (uv dc) rfl rfl HB2.out HN2.out (by have := mtb.out; have := ldc.out; omega) hsz2 ?_))
  intro v2 Y2 A2
  have A2 : Ap w1.heap.size X2 Y2 v1 v2 Ldc := by rw [← hLdc.out]; exact A2
  have HZ : Hid (Below w1.heap.size w1 Y2) := A2.below HO2.out HZ2.out hsz2 (Nat.le_refl _)
  have HO : Hid (Own Y2 w1.heap.size v2 (Ldc)) := A2.own
  clear A2 HO2 HZ2 HB2 HN2 hsz2
  have cx : Y2.cell? ⟨ge, 4, none⟩ = some (.int .i64 (vr : Int)) := by have := (CF.out Y2 HZ.out).vr; rw [Nat.zero_add, hvr] at this; exact this
  have K := u_any vr (by omega) Y2
  go_wp2_with fail
  refine K.mono ?_
  clear K cx
  rintro e' X3 ⟨r3, rfl, hr3, zr3⟩
  obtain ⟨ar3, cr3, rfl, hb3, hnl3, hlr3, hcr3⟩ := hr3.byt
  have HB3 : Hid (Byt X3 ar3 (uv vr)) := hb3
  have HN3 : Hid (ar3 = none → cr3 = 0) := hnl3
  have HO3 : Hid (Own X3 w1.heap.size v2 (Ldc)) := HO.out.below zr3
  have HZ3 : Hid (Below w1.heap.size w1 X3) := HZ.out.trans (zr3.mono HZ.out.size)
  have hsz3 : w1.heap.size ≤ X3.heap.size := HZ3.out.size
  clear HO HZ hr3 zr3 hb3 hnl3 hlr3 hcr3
  go_wp2_with (at_builtin; go_must (refine ap_bytes rfl (.tmp 20) (.tmp 24) rfl w1.heap.size v2 (Ldc) rfl HO3.out ar3 (uv vr).length cr3 (uv vr) rfl rfl HB3.out HN3.out (by have := mdc.out; have := lvr.out; omega) hsz3 ?_))
  intro v3 Y3 A3
  have A3 : Ap w1.heap.size X3 Y3 v2 v3 Lvr := by rw [← hLvr.out]; exact A3
  have HZ : Hid (Below w1.heap.size w1 Y3) := A3.below HO3.out HZ3.out hsz3 (Nat.le_refl _)
  have HO : Hid (Own Y3 w1.heap.size v3 (Lvr)) := A3.own
  clear A3 HO3 HZ3 HB3 HN3 hsz3
  have cx : Y3.cell? ⟨ge, 1, none⟩ = some (.string e.t) := by have := (CF.out Y3 HZ.out).t; rw [Nat.zero_add] at this; exact this
  have K := u_any e.t.size (by omega) Y3
  go_wp2_with fail
  refine K.mono ?_
  clear K cx
  rintro e' X4 ⟨r4, rfl, hr4, zr4⟩
  obtain ⟨ar4, cr4, rfl, hb4, hnl4, hlr4, hcr4⟩ := hr4.byt
  have HB4 : Hid (Byt X4 ar4 (uv e.t.size)) := hb4
  have HN4 : Hid (ar4 = none → cr4 = 0) := hnl4
  have HO4 : Hid (Own X4 w1.heap.size v3 (Lvr)) := HO.out.below zr4
  have HZ4 : Hid (Below w1.heap.size w1 X4) := HZ.out.trans (zr4.mono HZ.out.size)
  have hsz4 : w1.heap.size ≤ X4.heap.size := HZ4.out.size
  clear HO HZ hr4 zr4 hb4 hnl4 hlr4 hcr4
  go_wp2_with (at_builtin; go_must (refine ap_bytes rfl (.tmp 26) (.tmp 31) rfl w1.heap.size v3 (Lvr) rfl HO4.out ar4 (uv e.t.size).length cr4 (uv e.t.size) rfl rfl HB4.out HN4.out (by have := mvr.out; have := lts.out; omega) hsz4 ?_))
  intro v4 Y4 A4
  have A4 : Ap w1.heap.size X4 Y4 v3 v4 Lts := by rw [← hLts.out]; exact A4
  have HZ : Hid (Below w1.heap.size w1 Y4) := A4.below HO4.out HZ4.out hsz4 (Nat.le_refl _)
  have HO : Hid (Own Y4 w1.heap.size v4 (Lts)) := A4.own
  clear A4 HO4 HZ4 HB4 HN4 hsz4
  have cx : Y4.cell? ⟨ge, 1, none⟩ = some (.string e.t) := by have := (CF.out Y4 HZ.out).t; rw [Nat.zero_add] at this; exact this
  have hszt : w1.heap.size ≤ Y4.heap.size := HZ.out.size
  go_wp2_with (at_builtin; go_must (refine ap_str rfl (.tmp 33) (.tmp 35) rfl w1.heap.size v4 (Lts) rfl HO.out e.t rfl (by have := mts.out; omega) hszt ?_))
  intro vt Yt At
  rw [hLt.out] at At
  have HZt : Hid (Below w1.heap.size w1 Yt) := At.below HO.out HZ.out hszt (Nat.le_refl _)
  have HOt : Hid (Own Yt w1.heap.size vt (Lt)) := At.own
  clear At HO HZ cx hszt
  have HO := HOt
  have HZ := HZt
  clear HOt HZt
  have cx : Yt.cell? ⟨ge, 44, none⟩ = some (.int .i64 (ab : Int)) := by have := (CF.out Yt HZ.out).ab; rw [Nat.zero_add, hab] at this; exact this
  have K := u_any ab (by omega) Yt
  go_wp2_with fail
  refine K.mono ?_
  clear K cx
  rintro e' X5 ⟨r5, rfl, hr5, zr5⟩
  obtain ⟨ar5, cr5, rfl, hb5, hnl5, hlr5, hcr5⟩ := hr5.byt
  have HB5 : Hid (Byt X5 ar5 (uv ab)) := hb5
  have HN5 : Hid (ar5 = none → cr5 = 0) := hnl5
  have HO5 : Hid (Own X5 w1.heap.size vt (Lt)) := HO.out.below zr5
  have HZ5 : Hid (Below w1.heap.size w1 X5) := HZ.out.trans (zr5.mono HZ.out.size)
  have hsz5 : w1.heap.size ≤ X5.heap.size := HZ5.out.size
  clear HO HZ hr5 zr5 hb5 hnl5 hlr5 hcr5
  go_wp2_with (at_builtin; go_must (refine ap_bytes rfl (.tmp 37) (.tmp 42) rfl w1.heap.size vt (Lt) rfl HO5.out ar5 (uv ab).length cr5 (uv ab) rfl rfl HB5.out HN5.out (by have := mt.out; have := lab.out; omega) hsz5 ?_))
  intro v5 Y5 A5
  have A5 : Ap w1.heap.size X5 Y5 vt v5 Lab := by rw [← hLab.out]; exact A5
  have HZ : Hid (Below w1.heap.size w1 Y5) := A5.below HO5.out HZ5.out hsz5 (Nat.le_refl _)
  have HO : Hid (Own Y5 w1.heap.size v5 (Lab)) := A5.own
  clear A5 HO5 HZ5 HB5 HN5 hsz5
  have cx : Y5.cell? ⟨ge, 45, none⟩ = some (.int .i64 (ae : Int)) := by have := (CF.out Y5 HZ.out).ae; rw [Nat.zero_add, hae] at this; exact this
  have K := u_any ae (by omega) Y5
  go_wp2_with fail
  refine K.mono ?_
  clear K cx
  rintro e' X6 ⟨r6, rfl, hr6, zr6⟩
  obtain ⟨ar6, cr6, rfl, hb6, hnl6, hlr6, hcr6⟩ := hr6.byt
  have HB6 : Hid (Byt X6 ar6 (uv ae)) := hb6
  have HN6 : Hid (ar6 = none → cr6 = 0) := hnl6
  have HO6 : Hid (Own X6 w1.heap.size v5 (Lab)) := HO.out.below zr6
  have HZ6 : Hid (Below w1.heap.size w1 X6) := HZ.out.trans (zr6.mono HZ.out.size)
  have hsz6 : w1.heap.size ≤ X6.heap.size := HZ6.out.size
  clear HO HZ hr6 zr6 hb6 hnl6 hlr6 hcr6
  go_wp2_with (at_builtin; go_must (refine ap_bytes rfl (.tmp 44) (.tmp 49) rfl w1.heap.size v5 (Lab) rfl HO6.out ar6 (uv ae).length cr6 (uv ae) rfl rfl HB6.out HN6.out (by have := mab.out; have := lae.out; omega) hsz6 ?_))
  intro v6 Y6 A6
  have A6 : Ap w1.heap.size X6 Y6 v5 v6 Lae := by rw [← hLae.out]; exact A6
  have HZ : Hid (Below w1.heap.size w1 Y6) := A6.below HO6.out HZ6.out hsz6 (Nat.le_refl _)
  have HO : Hid (Own Y6 w1.heap.size v6 (Lae)) := A6.own
  clear A6 HO6 HZ6 HB6 HN6 hsz6
  have ck : Y6.cell? ⟨ge, 0, none⟩ = some (.int .i64 (kn : Int)) := by have := (CF.out Y6 HZ.out).k; rw [hkn] at this; exact this
  have HY : Hid (Byt Y6 (some ⟨ge, 11, none⟩) e.h) := .inr ⟨ge, 11, rfl, cells_range (by have := (CF.out Y6 HZ.out).h; rw [Nat.zero_add] at this; exact this)⟩
  have hszz : w1.heap.size ≤ Y6.heap.size := HZ.out.size
  have hw01 : Hid (w.heap.size ≤ w1.heap.size) := HZ0.out.size
  by_cases h2 : kn = 2
  · have hb2 : ((kn : Int) == 2) = true := by rw [h2]; rfl
    rw [if_pos h2] at HX
    clear h2 hkn
    go_wp2_with (at_builtin; go_must (refine ap_bytes rfl (.tmp 54) (.tmp 56) rfl w1.heap.size v6 (Lae) rfl HO.out (some ⟨ge, 11, none⟩) 32 32 e.h HL.out.symm rfl HY.out (by intro h; cases h) (by have := mae.out; have := HL.out; omega) hszz ?_))
    intro v9 w9 A9
    have HF : Hid (Own w9 w.heap.size v9 (entB e) ∧ Below w.heap.size w w9) := ⟨by rw [HX.out]; exact own_mono A9.own hw01.out, HZ0.out.trans ((A9.below HO.out HZ.out hszz (Nat.le_refl _)).mono hw01.out)⟩
    clear A9 HO HY
    go_wp2
    go_ret
    exact ⟨v9, rfl, HF.out⟩
  · have hb2 : ((kn : Int) == 2) = false := beq_eq_false_iff_ne.2 (by omega)
    rw [if_neg h2, List.append_nil] at HX
    have HF : Hid (Own Y6 w.heap.size v6 (entB e) ∧ Below w.heap.size w Y6) := ⟨by rw [HX.out]; exact own_mono HO.out hw01.out, HZ0.out.trans (HZ.out.mono hw01.out)⟩
    clear HO HY h2 hkn
    go_wp2
    go_ret
    exact ⟨_, rfl, HF.out⟩
end Go.Proofs.YtlefdnjokppibaaGreatDoor.Sh
