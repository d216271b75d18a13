/-
  The document's Check and Encode. · What the document's own Path and Sub make, over lists (no program). · The document's own Root.
-/
import Derived.Test.YtlefdnjokppibaaGreatDoorUBr10
import Derived.Test.YtlefdnjokppibaaGreatDoorUG31x
import Derived.Test.YtlefdnjokppibaaGreatDoorUG37x
import Derived.Test.YtlefdnjokppibaaGreatDoorUG34x
import Derived.Test.YtlefdnjokppibaaGreatDoorUG35x
namespace Go.Proofs.YtlefdnjokppibaaGreatDoor.Sh
open Go Go.RowKit Math Mt
set_option linter.unusedVariables false
set_option linter.unusedSimpArgs false
theorem bool_of3 (p : Prop) : ∃ t : Bool, Hid (t = true ↔ p) := by
  by_cases h : p
  · exact ⟨true, ⟨fun _ => h, fun _ => rfl⟩⟩
  · exact ⟨false, ⟨fun q => (by cases q), fun q => absurd q h⟩⟩
theorem fst_here {es : List En} {k : Nat} {e : En} (h0 : fstE (es.take k) = 0) (he : es[k]? = some e) : (mayE e = 0 → fstE (es.take (k + 1)) = 0) ∧ (mayE e ≠ 0 → fstE es = mayE e) := by
  obtain ⟨h1, h2⟩ := List.getElem?_eq_some_iff.1 he
  have e1 : es.take (k + 1) = es.take k ++ [e] := by rw [List.take_succ_eq_append_getElem h1, h2]
  have e2 : fstE (es.take (k + 1)) = mayE e := by rw [e1]; exact fst_snoc h0
  refine ⟨fun h => by rw [e2, h], fun h => ?_⟩
  have e3 : es = es.take (k + 1) ++ es.drop (k + 1) := (List.take_append_drop _ _).symm
  rw [e3, fst_left (by rw [e2]; exact h), e2]
set_option maxHeartbeats 1000000 in
set_option maxRecDepth 8000 in
theorem rchk_any (b : Bk) (hb : BkW b) (hws : ∀ e ∈ b.es, Go.Proofs.YtlefdnjokppibaaGreatDoor.ws e.v ≤ 100000) (a : Option Addr) (c : Nat) (w : World) (hE : EsM w a b.es) :
    Calls Tryz.prog 11 #[.agg (bC b a c).toArray] w fun e' w' => e' = .returned (.int .i64 (chkB b)) ∧ Hid (Below w.heap.size w w') := by
  have HL : Hid (b.pv.length = 32) := hb.pv.1
  have HB : Hid (BkW b) := hb
  have HE : Hid (EsM w a b.es) := hE
  have HW : Hid (∀ e ∈ b.es, Go.Proofs.YtlefdnjokppibaaGreatDoor.ws e.v ≤ 100000) := hws
  have hlen := hb.len
  clear hb hE hws
  go_enter Tryz.func11, Tryz.ntmps11
  go_wp2_with (refine al_box rfl 26 (.tmp 0) rfl (bC b a c) rfl ?_)
  intro gb w1 l1 BB G0
  have HZ : Hid (Below w.heap.size w w1) := (Below.refl w.heap.size w).grown G0 (Nat.le_refl _) (by simp)
  clear G0
  have HBB : Hid (Blk w1 gb 26 (bC b a c)) := BB
  obtain ⟨c0, c1, c2, _, c35⟩ := bkF_of HL.out BB
  clear BB
  obtain ⟨t1, Ht1⟩ := bool_of3 (inP b.ix 0 2147483648)
  have K := in_any b.ix 0 2147483648 w1 t1 Ht1
  go_wp2_with fail
  refine K.mono ?_
  clear K
  rintro e' w1 ⟨rfl, rfl⟩
  cases t1 with
  | false =>
    have HC : Hid (chkB b = 1) := chk_head (fun q => (by cases Ht1.out.2 (q.1)))
    go_wp2
    go_ret
    exact ⟨by rw [HC.out] <;> rfl, HZ.out⟩
  | true =>
  have Pt1 : Hid (inP b.ix 0 2147483648) := Ht1.out.1 rfl
  clear Ht1
  obtain ⟨t2, Ht2⟩ := bool_of3 (inP b.tm 0 9007199254740992)
  have K := in_any b.tm 0 9007199254740992 w1 t2 Ht2
  go_wp2_with fail
  refine K.mono ?_
  clear K
  rintro e' w1 ⟨rfl, rfl⟩
  cases t2 with
  | false =>
    have HC : Hid (chkB b = 1) := chk_head (fun q => (by cases Ht2.out.2 (q.2.1)))
    go_wp2
    go_ret
    exact ⟨by rw [HC.out] <;> rfl, HZ.out⟩
  | true =>
  have Pt2 : Hid (inP b.tm 0 9007199254740992) := Ht2.out.1 rfl
  clear Ht2
  obtain ⟨t3, Ht3⟩ := bool_of3 (inP b.tx 0 9007199254740992)
  have K := in_any b.tx 0 9007199254740992 w1 t3 Ht3
  go_wp2_with fail
  refine K.mono ?_
  clear K
  rintro e' w1 ⟨rfl, rfl⟩
  cases t3 with
  | false =>
    have HC : Hid (chkB b = 1) := chk_head (fun q => (by cases Ht3.out.2 (q.2.2.1)))
    go_wp2
    go_ret
    exact ⟨by rw [HC.out] <;> rfl, HZ.out⟩
  | true =>
  have Pt3 : Hid (inP b.tx 0 9007199254740992) := Ht3.out.1 rfl
  clear Ht3
  obtain ⟨t4, Ht4⟩ := bool_of3 (inP (b.es.length : Int) 1 200)
  have K := in_any (b.es.length : Int) 1 200 w1 t4 Ht4
  go_wp2_with fail
  refine K.mono ?_
  clear K
  rintro e' w1 ⟨rfl, rfl⟩
  cases t4 with
  | false =>
    have HC : Hid (chkB b = 1) := chk_head (fun q => (by cases Ht4.out.2 (q.2.2.2)))
    go_wp2
    go_ret
    exact ⟨by rw [HC.out] <;> rfl, HZ.out⟩
  | true =>
  have Pt4 : Hid (inP (b.es.length : Int) 1 200) := Ht4.out.1 rfl
  clear Ht4
  have HH : Hid (HeadP b (b.es.length : Int)) := ⟨Pt1.out, Pt2.out, Pt3.out, Pt4.out⟩
  have hl2 : b.es.length ≤ 200 := by have := Pt4.out.2; omega
  clear Pt1 Pt2 Pt3 Pt4 c0 c1 c2 c35
  have hw01 : Hid (w.heap.size ≤ w1.heap.size) := HZ.out.size
  go_wp2
  go_loopw [3] (fun i wr => ∃ k : Nat, k ≤ b.es.length ∧ i = .int .i64 (k : Int) ∧ Hid (fstE (b.es.take k) = 0) ∧ Hid (Below w1.heap.size w1 wr)) (fun i _ => b.es.length - (intOf i).toNat)
  case atStart => exact ⟨0, by omega, rfl, rfl, Below.refl _ _⟩
  case round =>
    obtain ⟨k, hk, rfl, HF0, HK⟩ := hrel
    have c35 := (bkF_of HL.out (HBB.out.below HK.out HBB.out.lt)).es
    by_cases hlt : k < b.es.length
    case neg =>
      have HF : Hid (fstE b.es = 0) := by have h := HF0.out; rw [List.take_of_length_le (by omega)] at h; exact h
      have Zr : Below w.heap.size w wr := HZ.out.trans (HK.out.mono hw01.out)
      have HZr : Hid (Below w.heap.size w wr) := Zr
      have HBr : Hid (Blk wr gb 26 (bC b a c)) := HBB.out.below HK.out HBB.out.lt
      have K := rbts_any b HB.out HF.out hl2 HW.out a c true wr (HE.out.below Zr)
      have HCL : Hid (262144 < (blkB b true).length → chkB b = 5) := fun h => chk_long HH.out HF.out h
      have HCY : Hid (¬ 262144 < (blkB b true).length → chkB b = 0) := fun h => chk_yes HH.out HF.out h
      have HBL : Hid ((blkB b true).length ≤ 100000000) := by
        have h1 := itms_len true HB.out.es (fst_all HF.out)
        have h2 := hed_len HB.out
        have h3 := uv_ten b.es.length (by omega)
        show _ ≤ _
        unfold blkB
        simp only [List.length_append]
        omega
      obtain ⟨L, hL⟩ : ∃ L, Hid (blkB b true = L) := ⟨_, rfl⟩
      rw [hL.out] at K HCL HCY HBL
      clear hL HK HF0 Zr
      go_wp2_with (refine ld_w (by rfl) 26 (.tmp 1) rfl gb 0 rfl (bC b a c) _ HBr.out.all Tryz.underlying26 rfl (sB HL.out _ _) ?_)
      refine K.mono ?_
      clear K c35
      rintro e' w9 ⟨v9, rfl, Q⟩
      obtain ⟨ax, cx, rfl, hby, hnil, hlc, hcm⟩ := Q.out.1.byt
      have HF9 : Hid (Below w.heap.size w w9) := HZr.out.trans (Q.out.2.mono HZr.out.size)
      have hbl := HBL.out
      clear Q hby hnil HZr HBr
      by_cases h5 : 262144 < L.length
      · have HC : Hid (chkB b = 5) := HCL.out h5
        have hd : decide ((262144 : Int) < (L.length : Int)) = true := decide_eq_true (by omega)
        clear HCL HCY
        go_wp2
        go_ret
        exact ⟨by rw [HC.out] <;> rfl, HF9.out⟩
      · have HC : Hid (chkB b = 0) := HCY.out h5
        have hd : decide ((262144 : Int) < (L.length : Int)) = false := decide_eq_false (by omega)
        clear HCL HCY
        go_wp2
        go_ret
        exact ⟨by rw [HC.out] <;> rfl, HF9.out⟩
    obtain ⟨e, he⟩ : ∃ e, b.es[k]? = some e := ⟨_, List.getElem?_eq_getElem hlt⟩
    obtain ⟨bb, oo, na, nc, ka, kc, rfl, hM⟩ := HE.out.get he
    have hmem := List.mem_of_getElem? he
    have HEW : Hid (EnW e) := HB.out.es e hmem
    have HLh : Hid (e.h.length = 32) := HEW.out.h.1
    have Zr : Below w.heap.size w wr := HZ.out.trans (HK.out.mono hw01.out)
    have hM' := hM.below Zr
    have HR : Hid (wr.rangeAt bb (oo + k * 46) (eC e na nc ka kc)) := hM'.at'
    have HN0 : Hid (mayE e = 0 → fstE (b.es.take (k + 1)) = 0) := (fst_here HF0.out he).1
    have HN1 : Hid (mayE e ≠ 0 → chkB b = mayE e) := fun h => by
      have h2 := (fst_here HF0.out he).2 h
      rw [chk_may HH.out (by rw [h2]; exact h), h2]
    have K := rmay_any e HEW.out (HW.out e hmem) na nc ka kc wr hM'.vl
    obtain ⟨E, hE⟩ : ∃ E, Hid (mayE e = E) := ⟨_, rfl⟩
    rw [hE.out] at HN0 HN1 K
    clear hE hM hM' hmem Zr HF0 he
    go_wp2_with (refine ld_w (by rfl) 45 (.tmp 38) rfl bb (oo + k * 46) (by first | rfl | simp [Act.eval]) (eC e na nc ka kc) _ HR.out Tryz.underlying45 rfl (sE HLh.out _ _ _ _) ?_)
    refine K.mono ?_
    clear K c35 HR
    rintro e' w3 ⟨rfl, H3⟩
    have HN : Hid (Below w1.heap.size w1 w3) := HK.out.trans (H3.out.mono HK.out.size)
    clear H3 HK
    by_cases h0 : E = 0
    · subst h0
      have HF : Hid (fstE (b.es.take (k + 1)) = 0) := HN0.out rfl
      clear HN0 HN1
      go_wp2
      go_roundw
      case rel => exact ⟨k + 1, by omega, by go_num, HF.out, HN.out⟩
      case measure => simp [intOf]; omega
    · have HC : Hid (chkB b = E) := HN1.out h0
      have HF9 : Hid (Below w.heap.size w w3) := HZ.out.trans (HN.out.mono hw01.out)
      have hb1 : (E != 0) = true := bne_iff_ne.2 h0
      have hb2 : (E == 0) = false := beq_eq_false_iff_ne.2 h0
      clear HN0 HN1 HN
      go_wp2
      go_ret
      exact ⟨by rw [HC.out] <;> rfl, HF9.out⟩
end Go.Proofs.YtlefdnjokppibaaGreatDoor.Sh
namespace Go.Proofs.YtlefdnjokppibaaGreatDoor.Mer
namespace Mk
section
variable {H : Type} (nd : H → H → H) (em : H)
def hd2 (c u : Nat) (w : Bool) (n : Nat) : List (Nat × Nat) := if w = true ∧ u = 0 then wy c (2 * u) n else (c, 2 * u) :: wy c (2 * u) n
end
end Mk
end Go.Proofs.YtlefdnjokppibaaGreatDoor.Mer
namespace Go.Proofs.YtlefdnjokppibaaGreatDoor.Mer
open Go Go.RowKit Go.Maps Sh
/-- Root of at most so many leaves. -/
def RootC (B : Nat) : Prop := ∀ (a : Option Addr) (cap : Nat) (L : List (List Nat)) (w : World), L.length ≤ B → Hl L → L.length ≤ cap → ES (nums .u8) 32 w a L →
    Calls Tryz.prog 19 #[.slice a L.length cap] w fun e w' => e = .returned (.agg (nums .u8 (Mk.R nd em L)).toArray) ∧ Below w.heap.size w w'
set_option maxHeartbeats 2000000 in
set_option maxRecDepth 8000 in
theorem rroot_nil (a : Option Addr) (cap : Nat) (w : World) : Calls Tryz.prog 19 #[.slice a 0 cap] w fun e w' => e = .returned (.agg (nums .u8 em).toArray) ∧ Below w.heap.size w w' := by
  have HS1 : Hid ((Tryz.prog.info? 23).map (·.size) = some (nums .u8 em).length) := sH em_hh
  have HL1 : Hid ((nums .u8 em).length = (nums .u8 (List.replicate 32 0)).length) := by show _ = _; rw [nums_length, nums_length, em_hh.1, List.length_replicate]
  have KS := fun W => rsum_any none 0 [] (by simp) W (.inl rfl) (fun _ => rfl) (by intro x hx; cases hx)
  obtain ⟨E, hE⟩ : ∃ E, E = em := ⟨_, rfl⟩
  have KS' : Hid (∀ W, Calls Tryz.prog 35 #[.slice none 0 0] W fun e w' => e = .returned (.agg (nums .u8 E).toArray) ∧ Below W.heap.size W w') := by rw [hE]; exact KS
  rw [← hE] at HS1 HL1 ⊢
  clear KS hE
  go_enter Tryz.func19, Tryz.ntmps19
  go_wp2_with (refine Sh.al_zero rfl 23 rfl _ Sh.z25 ?_)
  intro g1 w1 l1 B1 G1
  have Z := (Below.refl w.heap.size w).grown G1 (Nat.le_refl _) (by simp)
  clear G1
  go_wp2_with fail
  refine (KS'.out w1).mono ?_
  rintro e w2 ⟨rfl, Z2⟩
  have B1 := B1.below Z2 B1.lt
  have Z := Z.trans (Z2.mono Z.size)
  clear Z2
  go_wp2_with (refine Sh.st_all rfl 23 (.tmp 2) (.tmp 8) rfl g1 23 (nums .u8 (List.replicate 32 0)) (nums .u8 E) rfl rfl B1 HL1.out HS1.out (nums_one _ _) ?_)
  intro we BE GE
  go_wp2
  (try simp only [Exit.inBlock, Exit.then])
  refine bodyPost_ret (Sh.res_row rfl _ g1 23 _ _ rfl BE Tryz.underlying23 rfl HS1.out) rfl ⟨rfl, grown_below Z GE Z.size l1⟩
set_option maxHeartbeats 2000000 in
set_option maxRecDepth 8000 in
theorem rroot_one (a : Option Addr) (cap : Nat) (x : List Nat) (hx : Hh x) (w : World) (hS : ES (nums .u8) 32 w a [x]) : Calls Tryz.prog 19 #[.slice a 1 cap] w fun e w' => e = .returned (.agg (nums .u8 x).toArray) ∧ Below w.heap.size w w' := by
  have HX : Hid (Hh x) := hx
  have HS1 : Hid ((Tryz.prog.info? 23).map (·.size) = some (nums .u8 x).length) := sH hx
  have HL1 : Hid ((nums .u8 x).length = (nums .u8 (List.replicate 32 0)).length) := by show _ = _; rw [nums_length, nums_length, hx.1, List.length_replicate]
  obtain ⟨b, off, rfl, rl⟩ := hS.at (i := 0) (x := x) rfl
  rw [Nat.zero_mul, Nat.add_zero] at rl
  clear hx hS
  go_enter Tryz.func19, Tryz.ntmps19
  go_wp2_with (refine Sh.al_zero rfl 23 rfl _ Sh.z25 ?_)
  intro g1 w1 l1 B1 G1
  have Z := (Below.refl w.heap.size w).grown G1 (Nat.le_refl _) (by simp)
  have RL := range_below rl Z
  clear G1 rl
  go_wp2_with (first | (refine ld_mid rfl 23 (.tmp 12) rfl b off (by first | rfl | simp [Act.eval]) (nums .u8 x) _ RL Tryz.underlying23 rfl (sH HX.out) ?_) | (refine Sh.st_all rfl 23 (.tmp 2) (.tmp 13) rfl g1 23 (nums .u8 (List.replicate 32 0)) (nums .u8 x) rfl rfl B1 HL1.out HS1.out (nums_one _ _) ?_))
  intro we BE GE
  go_wp2
  (try simp only [Exit.inBlock, Exit.then])
  refine bodyPost_ret (Sh.res_row rfl _ g1 23 _ _ rfl BE Tryz.underlying23 rfl HS1.out) rfl ⟨rfl, grown_below Z GE Z.size l1⟩
set_option maxHeartbeats 2000000 in
set_option maxRecDepth 8000 in
theorem rroot_step (T P : Nat) (hP : Hid (P = 2 ^ T)) (ih : RootC P) (L : List (List Nat)) (hL : Hl L) (a : Option Addr) (cap : Nat) (h1 : P < L.length) (h2 : L.length ≤ 2 * P) (hlen : L.length ≤ 1000000) (hcap : L.length ≤ cap) (w : World) (hS : ES (nums .u8) 32 w a L) :
    Calls Tryz.prog 19 #[.slice a L.length cap] w fun e w' => e = .returned (.agg (nums .u8 (Mk.R nd em L)).toArray) ∧ Below w.heap.size w w' := by
  have hp1 : 1 ≤ P := by rw [hP.out]; exact Mk.pow_pos2 T
  obtain ⟨LT, hLT⟩ : ∃ LT, Hid (LT = L.take P) := ⟨_, rfl⟩
  obtain ⟨LD, hLD⟩ : ∃ LD, Hid (LD = L.drop P) := ⟨_, rfl⟩
  have lT : Hid (LT.length = P) := by show _ = _; rw [hLT.out, List.length_take]; omega
  have lD : Hid (LD.length = L.length - P) := by show _ = _; rw [hLD.out, List.length_drop]
  have HLT : Hid (Hl LT) := by show Hl LT; rw [hLT.out]; exact hL.take P
  have HLD : Hid (Hl LD) := by show Hl LD; rw [hLD.out]; exact hL.drop P
  have HA : Hid (ES (nums .u8) 32 w (lo a cap 0) LT) := by show ES _ _ _ _ LT; rw [hLT.out]; exact lo_zero (hS.take P) cap
  have HB : Hid (ES (nums .u8) 32 w (lo a cap P) LD) := by show ES _ _ _ _ LD; rw [hLD.out]; exact hS.lo cap P hcap
  obtain ⟨x, hx⟩ : ∃ x, Hid (x = Mk.R nd em LT) := ⟨_, rfl⟩
  obtain ⟨y, hy⟩ : ∃ y, Hid (y = Mk.R nd em LD) := ⟨_, rfl⟩
  have HX : Hid (Hh x) := by show Hh x; rw [hx.out]; exact R_hh HLT.out
  have HY : Hid (Hh y) := by show Hh y; rw [hy.out]; exact R_hh HLD.out
  have HR : Mk.R nd em L = nd x y := by rw [hx.out, hy.out, hLT.out, hLD.out, hP.out]; exact Mk.R_split nd em (T := T) (by rw [← hP.out]; exact h1) (by rw [Nat.pow_succ, ← hP.out]; omega)
  have KX : Hid (∀ W, ES (nums .u8) 32 W (lo a cap 0) LT → Calls Tryz.prog 19 #[.slice (lo a cap 0) P cap] W fun e w' => e = .returned (.agg (nums .u8 x).toArray) ∧ Below W.heap.size W w') := fun W hW => by
    have K := ih (lo a cap 0) cap LT W (by rw [lT.out]; exact Nat.le_refl _) HLT.out (by rw [lT.out]; omega) hW
    rw [lT.out, ← hx.out] at K; exact K
  have KY : Hid (∀ W, ES (nums .u8) 32 W (lo a cap P) LD → Calls Tryz.prog 19 #[.slice (lo a cap P) (L.length - P) (cap - P)] W fun e w' => e = .returned (.agg (nums .u8 y).toArray) ∧ Below W.heap.size W w') := fun W hW => by
    have K := ih (lo a cap P) (cap - P) LD W (by rw [lD.out]; omega) HLD.out (by rw [lD.out]; omega) hW
    rw [lD.out, ← hy.out] at K; exact K
  have KHH : Hid (∀ W, Calls Tryz.prog 46 #[.int .i64 (L.length : Int)] W fun e w' => e = .returned (.int .i64 (P : Int)) ∧ w' = W) := fun W => half_any L.length T P hP (by rw [← hP.out]; exact h1) (by rw [Nat.pow_succ, ← hP.out]; omega) (by omega) W
  have HNs : Hid ((Tryz.prog.info? 23).map (·.size) = some (nums .u8 (nd x y)).length) := sH (nd_hh _ _)
  have HNl : Hid ((nums .u8 (nd x y)).length = (nums .u8 (List.replicate 32 0)).length) := by show _ = _; rw [nums_length, nums_length, (nd_hh x y).1, List.length_replicate]
  have hne0 : ((L.length : Int) == 0) = false := by rw [beq_eq_false_iff_ne]; omega
  have hne1 : ((L.length : Int) == 1) = false := by rw [beq_eq_false_iff_ne]; omega
  rw [HR]
  clear hL hS ih HR hLT hLD lT lD hx hy
  go_enter Tryz.func19, Tryz.ntmps19
  go_wp2_with (refine Sh.al_zero rfl 23 rfl _ Sh.z25 ?_)
  intro g1 w1 l1 B1 G1
  have Z := (Below.refl w.heap.size w).grown G1 (Nat.le_refl _) (by simp)
  clear G1
  go_wp2_with fail
  refine (KHH.out w1).mono ?_
  rintro e w1' ⟨rfl, hw1⟩
  rw [hw1]
  clear hw1 w1'
  go_wp2_with fail
  obtain ⟨C, hC⟩ : ∃ C : World → Prop, C = fun W => Below w1.heap.size w1 W := ⟨_, rfl⟩
  have FA : Hid (∀ W, C W → ES (nums .u8) 32 W (lo a cap 0) LT) := fun W hW => by rw [hC] at hW; exact HA.out.below (Z.trans (hW.mono Z.size))
  have FB : Hid (∀ W, C W → ES (nums .u8) 32 W (lo a cap P) LD) := fun W hW => by rw [hC] at hW; exact HB.out.below (Z.trans (hW.mono Z.size))
  have F1 : Hid (∀ W, C W → Sh.Blk W g1 23 (nums .u8 (List.replicate 32 0))) := fun W hW => by rw [hC] at hW; exact B1.below hW B1.lt
  have CK : Hid (∀ W W', C W → Below W.heap.size W W' → C W') := fun W W' h1 h2 => by rw [hC] at h1 ⊢; exact h1.trans (h2.mono h1.size)
  have CA : Hid (∀ W W', C W → Below w1.heap.size W W' → C W') := fun W W' h1 h2 => by rw [hC] at h1 ⊢; exact h1.trans h2
  have CE : Hid (∀ W, C W → Below w1.heap.size w1 W) := fun W h => by rw [hC] at h; exact h
  have C0 : Hid (C { w1 with drawn := w1.drawn + 1 }) := by rw [hC]; exact Below.drew (Below.refl _ _)
  clear hC
  refine region_calm C 9 (by kernel_rfl) ?_
  have hCp : ∀ p : Prop, (∀ W, C W → p) ↔ p := fun p => ⟨fun h => h _ C0.out, fun h _ _ => h⟩
  generalize ({ w1 with drawn := w1.drawn + 1 } : World) = y0 at *
  refine seg 4 [0, 1, 2, 4, 5, 6] rfl (by kernel_rfl) whole_blind (C0.out) (by kernel_rfl) ?_
  change wpQuiet _ _ _ _ (_ :: _ :: _ :: _ :: _ :: _ :: []) _
  repeat (first
    | go_big_quiet_skip
    | (go_big_quiet_want
       first
       | (refine q_hi (.tmp 17) (.tmp 18) rfl a L.length cap P rfl rfl (by omega) ?_
          simp only [Act.put, List.setIfInBounds_toArray, List.set_cons_zero, List.set_cons_succ]
          go_big_quiet_on)
       | (refine q_lo (.tmp 21) (.tmp 22) rfl a L.length cap P rfl rfl (by omega) (by omega) ?_
          simp only [Act.put, List.setIfInBounds_toArray, List.set_cons_zero, List.set_cons_succ]
          go_big_quiet_on)
       | (go_big_quiet_op
          go_big_quiet_on)))
  refine wpQuiet_nil ?_
  refine lone_do (i := 3) 3 rfl (by kernel_rfl) rfl (by rfl) ?_
  intro K hK
  refine oper_calls 19 _ _ rfl #[.slice (lo a cap 0) P cap] (by rw [List.map_toArray]; rfl) (enters Tryz.func19 (by kernel_rfl) rfl) (fun v w' => v = .agg (nums .u8 x).toArray ∧ Below y0.heap.size y0 w') ((KX.out y0 (FA.out _ C0.out)).mono (by rintro e w' ⟨rfl, g⟩; exact ⟨_, rfl, rfl, g⟩)) ?_
  rintro v y1 ⟨rfl, Z1⟩
  have C1 : Hid (C y1) := CK.out _ _ C0.out Z1
  clear Z1
  refine hK _ _ (C1.out) ?_
  clear hK K
  simp only [Act.put, List.setIfInBounds_toArray, List.set_cons_zero, List.set_cons_succ]
  refine lone_do (i := 7) 2 rfl (by kernel_rfl) rfl (by rfl) ?_
  intro K hK
  refine oper_calls 19 _ _ rfl #[.slice (lo a cap P) (L.length - P) (cap - P)] (by rw [List.map_toArray]; rfl) (enters Tryz.func19 (by kernel_rfl) rfl) (fun v w' => v = .agg (nums .u8 y).toArray ∧ Below y1.heap.size y1 w') ((KY.out y1 (FB.out _ C1.out)).mono (by rintro e w' ⟨rfl, g⟩; exact ⟨_, rfl, rfl, g⟩)) ?_
  rintro v y2 ⟨rfl, Z2⟩
  have C2 : Hid (C y2) := CK.out _ _ C1.out Z2
  clear Z2
  refine hK _ _ (C2.out) ?_
  clear hK K
  simp only [Act.put, List.setIfInBounds_toArray, List.set_cons_zero, List.set_cons_succ]
  refine lone_do (i := 8) 1 rfl (by kernel_rfl) rfl (by rfl) ?_
  intro K hK
  refine oper_calls 22 _ _ rfl #[.agg (nums .u8 x).toArray, .agg (nums .u8 y).toArray] (by rw [List.map_toArray]; rfl) (enters Tryz.func22 (by kernel_rfl) rfl) (fun v w' => v = .agg (nums .u8 (nd x y)).toArray ∧ Below y2.heap.size y2 w') ((rnode_any x y HX.out.1 HY.out.1 HX.out.2 HY.out.2 y2).mono (by rintro e w' ⟨rfl, g⟩; exact ⟨_, rfl, rfl, g⟩)) ?_
  rintro v y3 ⟨rfl, Z3⟩
  have C3 : Hid (C y3) := CK.out _ _ C2.out Z3
  clear Z3
  refine hK _ _ (C3.out) ?_
  clear hK K
  simp only [Act.put, List.setIfInBounds_toArray, List.set_cons_zero, List.set_cons_succ]
  refine lone_last (i := 9) 0 rfl rfl (by kernel_rfl) rfl (by rfl) ?_
  intro K hK
  refine oper_all 23 (.tmp 2) (.tmp 25) rfl g1 23 (nums .u8 (List.replicate 32 0)) (nums .u8 (nd x y)) rfl rfl (F1.out _ C3.out) HNl.out HNs.out (nums_one _ _) ?_
  intro y4 B4 G4
  refine hK _ _ ?_
  clear hK K
  refine anyC_done (by kernel_rfl) ⟨rfl, ?_⟩
  simp only [Act.put]
  have ZE := grown_below (Z.trans ((CE.out _ C3.out).mono Z.size)) G4 (Z.trans ((CE.out _ C3.out).mono Z.size)).size l1
  clear C0 C1 C2 C3 CK CA CE FA FB F1 hCp
  go_wp2
  (try simp only [Exit.inBlock, Exit.then])
  refine bodyPost_ret (Sh.res_row rfl _ g1 23 _ _ rfl B4 Tryz.underlying23 rfl HNs.out) rfl ⟨rfl, ZE⟩
theorem rroot_all : ∀ T, T ≤ 19 → RootC (2 ^ T)
  | 0, _ => fun a cap L w hn hL hcap hS => by
    match L, hn, hL, hS with
    | [], _, _, _ => exact rroot_nil a cap w
    | [x], _, hL, hS => rw [Mk.R_one]; exact rroot_one a cap x (hL x (by simp)) w hS
    | x :: y :: r, hn, _, _ => simp at hn
  | T + 1, hT => fun a cap L w hn hL hcap hS => by
    have ih := rroot_all T (by omega)
    by_cases hs : L.length ≤ 2 ^ T
    · exact ih a cap L w hs hL hcap hS
    · have hb : 2 ^ (T + 1) ≤ 2 ^ 19 := Nat.pow_le_pow_right (by decide) hT
      have e2 : 2 ^ (T + 1) = 2 * 2 ^ T := by rw [Nat.pow_succ, Nat.mul_comm]
      exact rroot_step T (2 ^ T) rfl ih L hL a cap (by omega) (by omega) (by omega) hcap w hS
theorem rroot_any : RootC 524288 := rroot_all 19 (Nat.le_refl _)
end Go.Proofs.YtlefdnjokppibaaGreatDoor.Mer
