/-
   · 
-/
import Derived.Test.YtpfiejmhnkcjbaaGreatDoorHG38x
import Derived.Test.YtpfiejmhnkcjbaaGreatDoorHG4x
import Derived.Test.YtpfiejmhnkcjbaaGreatDoorHG1x
namespace Go.Proofs.YtpfiejmhnkcjbaaGreatDoor
set_option maxHeartbeats 2000000
set_option maxRecDepth 8000
open Go.RowKit Math
set_option linter.unusedVariables false
set_option linter.unusedSimpArgs false
theorem sh9 (p : Vt) (hkl : p.2.list.length <= 200) (hn : p.1.ns.length = p.2.list.length) (hn2 : ∀ x ∈ p.1.ns, x.size <= 40) (ih : ∀ q ∈ p.2.list, ShC q) (na : Option Addr) (nc : Nat) (ka : Option Addr) (kc : Nat) (w0 W : World) (hv : Vl w0 p na nc ka kc) (hb : Below w0.heap.size w0 W) (hl : (prF p.2 true p.1.ns true).length + 2 <= 700000000) :
 Calls Tryz.prog 91 #[.agg #[.int .i64 9, .int .i64 p.1.n, .int .i64 p.1.s, .string p.1.t, .slice na p.1.ns.length nc, .slice ka p.2.list.length kc]] W fun e w' => e = .returned (.string (ofB (123 :: (prF p.2 true p.1.ns true ++ [125])))) /\ Below W.heap.size W w' := by
 obtain ⟨W1, HW1⟩ : ∃ W1, Hid (W.alloc (.cells #[.int .i64 9, .int .i64 p.1.n, .int .i64 p.1.s, .string p.1.t, .slice na p.1.ns.length nc, .slice ka p.2.list.length kc] 41) = W1) := ⟨_, rfl⟩
 have HB1 : Hid (Below W.heap.size W W1) := by rw [<- HW1.out]; exact (Below.refl _ _).alloc (Nat.le_refl _) _
 have HX1 : Hid (Blk W1 W.heap.size 41 [.int .i64 9, .int .i64 p.1.n, .int .i64 p.1.s, .string p.1.t, .slice na p.1.ns.length nc, .slice ka p.2.list.length kc]) := by rw [<- HW1.out]; exact blk_new W 41 [.int .i64 9, .int .i64 p.1.n, .int .i64 p.1.s, .string p.1.t, .slice na p.1.ns.length nc, .slice ka p.2.list.length kc]
 have c0 : W1.cell? ⟨W.heap.size, 0, none⟩ = some (.int .i64 9) := HX1.out.cell 0
 have c1 : W1.cell? ⟨W.heap.size, 1, none⟩ = some (.int .i64 p.1.n) := HX1.out.cell 1
 have c2 : W1.cell? ⟨W.heap.size, 2, none⟩ = some (.int .i64 p.1.s) := HX1.out.cell 2
 have c3 : W1.cell? ⟨W.heap.size, 3, none⟩ = some (.string p.1.t) := HX1.out.cell 3
 have c4 : W1.cell? ⟨W.heap.size, 4, none⟩ = some (.slice na p.1.ns.length nc) := HX1.out.cell 4
 have c5 : W1.cell? ⟨W.heap.size, 5, none⟩ = some (.slice ka p.2.list.length kc) := HX1.out.cell 5
 have HV : Hid (Vl w0 p na nc ka kc) := hv
 have HI : Hid (∀ q ∈ p.2.list, ShC q) := ih
 have HBw : Hid (Below w0.heap.size w0 W1) := hb.trans (HB1.out.mono hb.size)
 have HT : Hid ((prF p.2 true p.1.ns true).length + 2 <= 700000000) := hl
 have HNl : Hid (p.1.ns.length = p.2.list.length) := hn
 have HN2 : Hid (∀ x ∈ p.1.ns, x.size <= 40) := hn2
 have HD0 : Hid ((⟨#[123]⟩ : ByteArray) = ofB (123 :: []) /\ Below W1.heap.size W1 W1 /\ [] ++ prF (p.2.drop 0) true (p.1.ns.drop 0) (decide (0 = 0)) = prF p.2 true p.1.ns true) := ⟨rfl, Below.refl _ _, by simp [Fo.drop]⟩
 clear hv ih hb hl hn hn2
 go_enter Tryz.func91, Tryz.ntmps91
 go_wp2
 have e1 : W.alloc (.cells #[.int .i64 9, .int .i64 p.1.n, .int .i64 p.1.s, .string p.1.t, .slice na p.1.ns.length nc, .slice ka p.2.list.length kc] 41) = W1 := HW1.out
 rw [e1]
 clear e1 HW1 c0 c1 c2 c3 c4 c5
 go_loopw [9, 10] (fun x i wr => ∃ (k : Nat) (t : ByteArray) (D : List Nat), k <= p.2.list.length /\ x = .string t /\ i = .int .i64 (k : Int) /\ Hid (t = ofB (123 :: D) /\ Below W1.heap.size W1 wr /\ D ++ prF (p.2.drop k) true (p.1.ns.drop k) (decide (k = 0)) = prF p.2 true p.1.ns true)) (fun _ i _ => p.2.list.length - (intOf i).toNat)
 case atStart => exact ⟨0, _, [], by omega, rfl, rfl, HD0.out⟩
 case round =>
  clear HD0
  obtain ⟨k, t, D, hk0, rfl, rfl, HK⟩ := hrel
  have HB : Hid (Below W1.heap.size W1 wr) := HK.out.2.1
  have HD : Hid (D ++ prF (p.2.drop k) true (p.1.ns.drop k) (decide (k = 0)) = prF p.2 true p.1.ns true) := HK.out.2.2
  have Ht : Hid (t = ofB (123 :: D)) := HK.out.1
  clear HK
  have hts : t.size = D.length + 1 := by rw [Ht.out, ofB_size]; simp
  have c5 : wr.cell? ⟨W.heap.size, 5, none⟩ = some (.slice ka p.2.list.length kc) := (HX1.out.below HB.out HX1.out.lt).cell 5
  by_cases hlt : k < p.2.list.length
  case neg =>
   have hD : D = prF p.2 true p.1.ns true := by
    have := HD.out
    rw [Fo.drop_end _ _ (by omega)] at this
    simpa [prF] using this
   have h1 : ¬ 9223372036854775807 < t.size + 1 := by have := HT.out; rw [hts, hD]; omega
   have HF : Hid (t ++ ⟨#[125]⟩ = ofB (123 :: (prF p.2 true p.1.ns true ++ [125])) /\ Below W.heap.size W wr) := by
    refine ⟨?_, HB1.out.trans (HB.out.mono HB1.out.size)⟩
    rw [Ht.out, hD, show (⟨#[125]⟩ : ByteArray) = ofB [125] from rfl, ofB_app]
    simp
   clear hD hts HD Ht HT
   go_wp2
   go_ret
   exact ⟨by rw [<- HF.out.1]; rfl, HF.out.2⟩
  have HBr : Hid (Below w0.heap.size w0 wr) := HBw.out.trans (HB.out.mono HBw.out.size)
  obtain ⟨q, bq, oq, na', nc', ka', kc', hq, rfl, hnd, hvl⟩ := HV.out.kid (Below.refl _ _) (k := k) hlt
  have HQ : Hid (ShC q) := HI.out q (List.mem_of_getElem? hq)
  have HVq : Hid (Vl w0 q na' nc' ka' kc') := hvl
  have HP : Hid (prF (p.2.drop k) true (p.1.ns.drop k) (decide (k = 0)) = _) := prF_drop hq
  have HND : Hid (∀ w, Below W1.heap.size W1 w -> Nd w bq (oq + k * 6) q.1 na' nc' ka' q.2.list.length kc') := fun w g => hnd.below (HBw.out.trans (g.mono HBw.out.size))
  clear hnd hvl hq
  obtain ⟨nm, hnm⟩ : ∃ nm, p.1.ns[k]? = some nm := ⟨_, List.getElem?_eq_getElem (by have := HNl.out; omega)⟩
  have hns : nm.size <= 40 := HN2.out nm (List.mem_of_getElem? hnm)
  have hhd : (p.1.ns.drop k).headD ⟨#[]⟩ = nm := by
   rw [List.headD_eq_head?_getD, List.head?_drop, hnm]
   rfl
  obtain ⟨bn, on, hna, hcn⟩ : ∃ bn on, na = some ⟨bn, on, none⟩ /\ w0.cell? ⟨bn, on + k, none⟩ = some (.string nm) := by
   rcases HV.out.nms with e | ⟨bn, on, e, hc⟩
   . rw [e] at hnm; simp at hnm
   . exact ⟨bn, on, e, hc k nm hnm⟩
  subst hna
  have QN : Hid (∀ w, Below W1.heap.size W1 w -> w.cell? ⟨bn, on + k, none⟩ = some (.string nm)) := fun w g => ((HBw.out.trans (g.mono HBw.out.size)).cell (p := ⟨bn, on + k, none⟩) (cell_lt hcn)).trans hcn
  have hkn : (k : Int) < (p.1.ns.length : Int) := by have := HNl.out; omega
  clear hcn
  have hpn := pQ_len nm
  by_cases h0 : k = 0
  case pos =>
   have HPz : Hid (prF (p.2.drop k) true (p.1.ns.drop k) (decide (k = 0)) = [] ++ (pQ nm ++ [58, 32] ++ (prV q ++ prF (p.2.drop (k + 1)) true (p.1.ns.drop (k + 1)) false))) := by
    show _ = _
    have := HP.out
    rw [decide_eq_true (show k = 0 from h0)] at this
    rw [decide_eq_true (show k = 0 from h0)]
    rw [hhd] at this
    simpa using this
   have hln : D.length + 0 + (pQ nm).length + 2 + (prV q).length + 1 <= 700000000 := by
    have h1 := HT.out
    have h2 := congrArg List.length HD.out
    have h3 := congrArg List.length HPz.out
    simp only [List.length_append, List.length_cons, List.length_nil] at h2 h3
    omega
   have HR : Hid ((ofB (prV q)).size = (prV q).length) := ofB_size _
   have HG : Hid (∀ w x, Below W1.heap.size W1 w -> x = ofB (123 :: (D ++ [] ++ (pQ nm ++ [58, 32] ++ prV q))) -> (x = ofB (123 :: (D ++ [] ++ (pQ nm ++ [58, 32] ++ prV q))) /\ Below W1.heap.size W1 w /\ (D ++ [] ++ (pQ nm ++ [58, 32] ++ prV q)) ++ prF (p.2.drop (k + 1)) true (p.1.ns.drop (k + 1)) (decide (k + 1 = 0)) = prF p.2 true p.1.ns true)) := fun w x g e => by
    refine ⟨e, g, ?_⟩
    rw [<- HD.out, HPz.out, decide_eq_false (show ¬ k + 1 = 0 by omega)]
    simp
   clear HP HPz HD HT
   obtain ⟨R, hR⟩ : ∃ R, ofB (prV q) = R := ⟨_, rfl⟩
   obtain ⟨N, hN⟩ : ∃ N, ofB (pQ nm) = N := ⟨_, rfl⟩
   have hNs : N.size = (pQ nm).length := by rw [<- hN]; exact ofB_size _
   rw [hR] at HR
   have h2 : ¬ 9223372036854775807 < t.size + 2 := by omega
   have hk1 : decide (0 < k) = false := by simp [h0]
   clear h0
   obtain ⟨C, hC⟩ : ∃ C : World -> Prop, C = fun w' => Below W1.heap.size W1 w' := ⟨_, rfl⟩
   have CE : Hid (∀ w', C w' -> Below W1.heap.size W1 w') := fun w' h => by rw [hC] at h; exact h
   have CI : Hid (∀ w', Below W1.heap.size W1 w' -> C w') := fun w' h => by rw [hC]; exact h
   have k1 : Hid (∀ W', C W' -> Calls Tryz.prog 13 #[.string nm] W' fun e w' => e = .returned (.string N) /\ C w') := fun W' hW => by
    refine (quote9 nm (by omega) W').mono ?_
    rintro e w' ⟨rfl, g⟩
    exact ⟨by rw [hN], CI.out _ ((CE.out _ hW).trans (g.mono (CE.out _ hW).size))⟩
   have k2 : Hid (∀ W', C W' -> Calls Tryz.prog 91 #[.agg #[.int .i64 q.1.k, .int .i64 q.1.n, .int .i64 q.1.s, .string q.1.t, .slice na' q.1.ns.length nc', .slice ka' q.2.list.length kc']] W' fun e w' => e = .returned (.string R) /\ C w') := fun W' hW => by
    refine (HQ.out na' nc' ka' kc' w0 W' HVq.out (HBw.out.trans ((CE.out _ hW).mono HBw.out.size)) (by omega)).mono ?_
    rintro e w' ⟨rfl, g⟩
    exact ⟨by rw [hR], CI.out _ ((CE.out _ hW).trans (g.mono (CE.out _ hW).size))⟩
   have n1 : Hid (∀ W', C W' -> Nd W' bq (oq + k * 6) q.1 na' nc' ka' q.2.list.length kc') := fun W' hW => HND.out W' (CE.out _ hW)
   have s4 : Hid (∀ W', C W' -> W'.cell? ⟨W.heap.size, 4, none⟩ = some (.slice (some ⟨bn, on, none⟩) p.1.ns.length nc)) := fun W' hW => (HX1.out.below (CE.out _ hW) HX1.out.lt).cell 4
   have s5 : Hid (∀ W', C W' -> W'.cell? ⟨W.heap.size, 5, none⟩ = some (.slice (some ⟨bq, oq, none⟩) p.2.list.length kc)) := fun W' hW => (HX1.out.below (CE.out _ hW) HX1.out.lt).cell 5
   have sn : Hid (∀ W', C W' -> W'.cell? ⟨bn, on + k, none⟩ = some (.string nm)) := fun W' hW => QN.out W' (CE.out _ hW)
   have z0 : Hid (C { wr with drawn := wr.drawn + 1 }) := CI.out _ (HB.out.trans ((Below.drew (Below.refl _ _)).mono HB.out.size))
   clear hC CI HQ HND QN
   go_wp2
   clear c5
   obtain ⟨t', ht'⟩ : ∃ t', t = t' := ⟨_, rfl⟩
   have Ht' : Hid (t' = ofB (123 :: (D ++ []))) := by
    show _ = _
    rw [<- ht', Ht.out]
    simp
   rw [ht']
   have hts' : t'.size = D.length + 0 + 1 := by
    have e2 := congrArg ByteArray.size Ht'.out
    rw [ofB_size] at e2
    simp only [List.length_append, List.length_cons, List.length_nil] at e2
    omega
   have hcs : (⟨#[58, 32]⟩ : ByteArray).size = 2 := rfl
   have HRs := HR.out
   have hCp : ∀ p : Prop, (∀ W, C W -> p) ↔ p := fun p => ⟨fun h => h _ z0.out, fun h _ _ => h⟩
   refine q_region (C := C) (by kernel_rfl) (by kernel_rfl) z0.out ?_
   repeat (first
    | go_big_quiet_skip
    | (go_big_quiet_want
       first
       | (refine q_one 38 (.inr (.inr (.inl rfl))) (.tmp 103) rfl W.heap.size 4 rfl _ s4.out ?_
          simp only [Act.put, List.setIfInBounds_toArray, List.set_cons_zero, List.set_cons_succ]
          go_big_quiet_on)
       | (refine q_one 39 (.inr (.inr (.inr (.inl rfl)))) (.tmp 111) rfl W.heap.size 5 rfl _ s5.out ?_
          simp only [Act.put, List.setIfInBounds_toArray, List.set_cons_zero, List.set_cons_succ]
          go_big_quiet_on)
       | (refine q_one 9 (.inr (.inl rfl)) (.tmp 106) rfl bn (on + k) rfl _ sn.out ?_
          simp only [Act.put, List.setIfInBounds_toArray, List.set_cons_zero, List.set_cons_succ]
          go_big_quiet_on)
       | (refine q_val (.tmp 114) rfl bq (oq + k * 6) rfl _ _ _ _ _ _ n1.out ?_
          simp only [Act.put, List.setIfInBounds_toArray, List.set_cons_zero, List.set_cons_succ]
          go_big_quiet_on)
       | (refine q_add (.tmp 102) (.tmp 108) rfl t' N (by omega) rfl rfl ?_
          simp only [Act.put, List.setIfInBounds_toArray, List.set_cons_zero, List.set_cons_succ]
          go_big_quiet_on)
       | (refine q_add (.tmp 109) (.const (.string ⟨#[58, 32]⟩)) rfl (t' ++ N) ⟨#[58, 32]⟩ (by rw [ByteArray.size_append, hcs]; omega) rfl rfl ?_
          simp only [Act.put, List.setIfInBounds_toArray, List.set_cons_zero, List.set_cons_succ]
          go_big_quiet_on)
       | (refine q_add (.tmp 110) (.tmp 116) rfl (t' ++ N ++ ⟨#[58, 32]⟩) R (by rw [ByteArray.size_append, ByteArray.size_append, hcs]; omega) rfl rfl ?_
          simp only [Act.put, List.setIfInBounds_toArray, List.set_cons_zero, List.set_cons_succ]
          go_big_quiet_on)
       | (go_big_quiet_op
          first
          | go_big_quiet_on
          | (apply Exists.intro
             refine ⟨?_, ?_⟩
             . first
               | exact k1.out
               | exact k2.out
             go_big_quiet_on))))
   refine wpQuiet_nil ?_
   intro W' hW
   have HB9 : Hid (Below W1.heap.size W1 W') := CE.out _ hW
   have HRf : Hid (t' ++ N ++ ⟨#[58, 32]⟩ ++ R = ofB (123 :: (D ++ [] ++ (pQ nm ++ [58, 32] ++ prV q)))) := by
    show _ = _
    rw [Ht'.out, <- hR, <- hN, show (⟨#[58, 32]⟩ : ByteArray) = ofB [58, 32] from rfl, ofB_app, ofB_app, ofB_app]
    simp
   clear k1 k2 n1 s4 s5 sn z0 hCp hW CE Ht Ht' ht' hR hN HR HRs hts hts' hcs hNs h2
   go_wp2
   go_roundw
   case rel => exact ⟨k + 1, _, _, by omega, rfl, by go_num, HG.out _ _ HB9.out (by rw [<- HRf.out])⟩
   case measure => simp [intOf]; omega
  case neg =>
   have HPz : Hid (prF (p.2.drop k) true (p.1.ns.drop k) (decide (k = 0)) = [44, 32] ++ (pQ nm ++ [58, 32] ++ (prV q ++ prF (p.2.drop (k + 1)) true (p.1.ns.drop (k + 1)) false))) := by
    show _ = _
    have := HP.out
    rw [decide_eq_false (show ¬ k = 0 from h0)] at this
    rw [decide_eq_false (show ¬ k = 0 from h0)]
    rw [hhd] at this
    simpa using this
   have hln : D.length + 2 + (pQ nm).length + 2 + (prV q).length + 1 <= 700000000 := by
    have h1 := HT.out
    have h2 := congrArg List.length HD.out
    have h3 := congrArg List.length HPz.out
    simp only [List.length_append, List.length_cons, List.length_nil] at h2 h3
    omega
   have HR : Hid ((ofB (prV q)).size = (prV q).length) := ofB_size _
   have HG : Hid (∀ w x, Below W1.heap.size W1 w -> x = ofB (123 :: (D ++ [44, 32] ++ (pQ nm ++ [58, 32] ++ prV q))) -> (x = ofB (123 :: (D ++ [44, 32] ++ (pQ nm ++ [58, 32] ++ prV q))) /\ Below W1.heap.size W1 w /\ (D ++ [44, 32] ++ (pQ nm ++ [58, 32] ++ prV q)) ++ prF (p.2.drop (k + 1)) true (p.1.ns.drop (k + 1)) (decide (k + 1 = 0)) = prF p.2 true p.1.ns true)) := fun w x g e => by
    refine ⟨e, g, ?_⟩
    rw [<- HD.out, HPz.out, decide_eq_false (show ¬ k + 1 = 0 by omega)]
    simp
   clear HP HPz HD HT
   obtain ⟨R, hR⟩ : ∃ R, ofB (prV q) = R := ⟨_, rfl⟩
   obtain ⟨N, hN⟩ : ∃ N, ofB (pQ nm) = N := ⟨_, rfl⟩
   have hNs : N.size = (pQ nm).length := by rw [<- hN]; exact ofB_size _
   rw [hR] at HR
   have h2 : ¬ 9223372036854775807 < t.size + 2 := by omega
   have hk1 : decide (0 < k) = true := by simp; omega
   clear h0
   obtain ⟨C, hC⟩ : ∃ C : World -> Prop, C = fun w' => Below W1.heap.size W1 w' := ⟨_, rfl⟩
   have CE : Hid (∀ w', C w' -> Below W1.heap.size W1 w') := fun w' h => by rw [hC] at h; exact h
   have CI : Hid (∀ w', Below W1.heap.size W1 w' -> C w') := fun w' h => by rw [hC]; exact h
   have k1 : Hid (∀ W', C W' -> Calls Tryz.prog 13 #[.string nm] W' fun e w' => e = .returned (.string N) /\ C w') := fun W' hW => by
    refine (quote9 nm (by omega) W').mono ?_
    rintro e w' ⟨rfl, g⟩
    exact ⟨by rw [hN], CI.out _ ((CE.out _ hW).trans (g.mono (CE.out _ hW).size))⟩
   have k2 : Hid (∀ W', C W' -> Calls Tryz.prog 91 #[.agg #[.int .i64 q.1.k, .int .i64 q.1.n, .int .i64 q.1.s, .string q.1.t, .slice na' q.1.ns.length nc', .slice ka' q.2.list.length kc']] W' fun e w' => e = .returned (.string R) /\ C w') := fun W' hW => by
    refine (HQ.out na' nc' ka' kc' w0 W' HVq.out (HBw.out.trans ((CE.out _ hW).mono HBw.out.size)) (by omega)).mono ?_
    rintro e w' ⟨rfl, g⟩
    exact ⟨by rw [hR], CI.out _ ((CE.out _ hW).trans (g.mono (CE.out _ hW).size))⟩
   have n1 : Hid (∀ W', C W' -> Nd W' bq (oq + k * 6) q.1 na' nc' ka' q.2.list.length kc') := fun W' hW => HND.out W' (CE.out _ hW)
   have s4 : Hid (∀ W', C W' -> W'.cell? ⟨W.heap.size, 4, none⟩ = some (.slice (some ⟨bn, on, none⟩) p.1.ns.length nc)) := fun W' hW => (HX1.out.below (CE.out _ hW) HX1.out.lt).cell 4
   have s5 : Hid (∀ W', C W' -> W'.cell? ⟨W.heap.size, 5, none⟩ = some (.slice (some ⟨bq, oq, none⟩) p.2.list.length kc)) := fun W' hW => (HX1.out.below (CE.out _ hW) HX1.out.lt).cell 5
   have sn : Hid (∀ W', C W' -> W'.cell? ⟨bn, on + k, none⟩ = some (.string nm)) := fun W' hW => QN.out W' (CE.out _ hW)
   have z0 : Hid (C { wr with drawn := wr.drawn + 1 }) := CI.out _ (HB.out.trans ((Below.drew (Below.refl _ _)).mono HB.out.size))
   clear hC CI HQ HND QN
   go_wp2
   clear c5
   obtain ⟨t', ht'⟩ : ∃ t', (t ++ ⟨#[44, 32]⟩) = t' := ⟨_, rfl⟩
   have Ht' : Hid (t' = ofB (123 :: (D ++ [44, 32]))) := by
    show _ = _
    rw [<- ht', Ht.out]
    rw [show (⟨#[44, 32]⟩ : ByteArray) = ofB [44, 32] from rfl, ofB_app]; rfl
   rw [ht']
   have hts' : t'.size = D.length + 2 + 1 := by
    have e2 := congrArg ByteArray.size Ht'.out
    rw [ofB_size] at e2
    simp only [List.length_append, List.length_cons, List.length_nil] at e2
    omega
   have hcs : (⟨#[58, 32]⟩ : ByteArray).size = 2 := rfl
   have HRs := HR.out
   have hCp : ∀ p : Prop, (∀ W, C W -> p) ↔ p := fun p => ⟨fun h => h _ z0.out, fun h _ _ => h⟩
   refine q_region (C := C) (by kernel_rfl) (by kernel_rfl) z0.out ?_
   repeat (first
    | go_big_quiet_skip
    | (go_big_quiet_want
       first
       | (refine q_one 38 (.inr (.inr (.inl rfl))) (.tmp 103) rfl W.heap.size 4 rfl _ s4.out ?_
          simp only [Act.put, List.setIfInBounds_toArray, List.set_cons_zero, List.set_cons_succ]
          go_big_quiet_on)
       | (refine q_one 39 (.inr (.inr (.inr (.inl rfl)))) (.tmp 111) rfl W.heap.size 5 rfl _ s5.out ?_
          simp only [Act.put, List.setIfInBounds_toArray, List.set_cons_zero, List.set_cons_succ]
          go_big_quiet_on)
       | (refine q_one 9 (.inr (.inl rfl)) (.tmp 106) rfl bn (on + k) rfl _ sn.out ?_
          simp only [Act.put, List.setIfInBounds_toArray, List.set_cons_zero, List.set_cons_succ]
          go_big_quiet_on)
       | (refine q_val (.tmp 114) rfl bq (oq + k * 6) rfl _ _ _ _ _ _ n1.out ?_
          simp only [Act.put, List.setIfInBounds_toArray, List.set_cons_zero, List.set_cons_succ]
          go_big_quiet_on)
       | (refine q_add (.tmp 102) (.tmp 108) rfl t' N (by omega) rfl rfl ?_
          simp only [Act.put, List.setIfInBounds_toArray, List.set_cons_zero, List.set_cons_succ]
          go_big_quiet_on)
       | (refine q_add (.tmp 109) (.const (.string ⟨#[58, 32]⟩)) rfl (t' ++ N) ⟨#[58, 32]⟩ (by rw [ByteArray.size_append, hcs]; omega) rfl rfl ?_
          simp only [Act.put, List.setIfInBounds_toArray, List.set_cons_zero, List.set_cons_succ]
          go_big_quiet_on)
       | (refine q_add (.tmp 110) (.tmp 116) rfl (t' ++ N ++ ⟨#[58, 32]⟩) R (by rw [ByteArray.size_append, ByteArray.size_append, hcs]; omega) rfl rfl ?_
          simp only [Act.put, List.setIfInBounds_toArray, List.set_cons_zero, List.set_cons_succ]
          go_big_quiet_on)
       | (go_big_quiet_op
          first
          | go_big_quiet_on
          | (apply Exists.intro
             refine ⟨?_, ?_⟩
             . first
               | exact k1.out
               | exact k2.out
             go_big_quiet_on))))
   refine wpQuiet_nil ?_
   intro W' hW
   have HB9 : Hid (Below W1.heap.size W1 W') := CE.out _ hW
   have HRf : Hid (t' ++ N ++ ⟨#[58, 32]⟩ ++ R = ofB (123 :: (D ++ [44, 32] ++ (pQ nm ++ [58, 32] ++ prV q)))) := by
    show _ = _
    rw [Ht'.out, <- hR, <- hN, show (⟨#[58, 32]⟩ : ByteArray) = ofB [58, 32] from rfl, ofB_app, ofB_app, ofB_app]
    simp
   clear k1 k2 n1 s4 s5 sn z0 hCp hW CE Ht Ht' ht' hR hN HR HRs hts hts' hcs hNs h2
   go_wp2
   go_roundw
   case rel => exact ⟨k + 1, _, _, by omega, rfl, by go_num, HG.out _ _ HB9.out (by rw [<- HRf.out])⟩
   case measure => simp [intOf]; omega
end Go.Proofs.YtpfiejmhnkcjbaaGreatDoor
namespace Go.Proofs.YtpfiejmhnkcjbaaGreatDoor
set_option maxRecDepth 8000
open Go.RowKit Go.ChangeShapes Go.WideShapes Math
set_option linter.unusedVariables false
set_option linter.unusedSimpArgs false
theorem rpTx (v : Value) (l : List Nat) (s : ByteArray) (B : Nat) (W : World) (ho : Own W B v l) (hB : B <= W.heap.size) (hl : l.length + s.size <= 800000000) :
 Calls Tryz.prog 148 #[v, .string s] W fun e w' => ∃ v', e = .returned v' /\ Ap B W w' v v' (l ++ txB s) := by
 have K2 := uvr_any s.size (by omega) W
 have h10 := uv_ten s.size (by omega)
 have HO : Hid (Own W B v l) := ho
 clear ho
 go_enter Tryz.func148, Tryz.ntmps148
 go_wp2_with fail
 refine K2.mono ?_
 rintro e w1 ⟨r1, rfl, o1, b1⟩
 obtain ⟨a1, c1, rfl, hb1, hn1, _, _⟩ := o1.byt
 have HO1 : Hid (Own w1 B v l) := HO.out.below b1
 have HB1 : Hid (Byt w1 a1 (uv s.size)) := hb1
 have HG1 : Hid (Below W.heap.size W w1) := b1
 have hs := b1.size
 have HN1 : Hid (a1 = none -> c1 = 0) := hn1
 clear o1 b1 hb1 K2 hn1
 go_wp2_with (at_builtin; go_must (refine ap_bytes rfl (.tmp 5) (.tmp 9) rfl B v l rfl HO1.out a1 (uv s.size).length c1 (uv s.size) rfl rfl HB1.out HN1.out (by omega) (by omega) ?_))
 intro v2 w2 A2
 have HA2 : Hid (Ap B W w2 v v2 (l ++ uv s.size)) := Ap.after HG1.out A2
 have hs2 := A2.gr.size
 clear A2
 go_wp2_with (at_builtin; go_must (refine ap_str rfl (.tmp 11) (.tmp 12) rfl B v2 (l ++ uv s.size) rfl HA2.out.own s rfl (by rw [List.length_append]; omega) (by omega) ?_))
 intro v3 w3 A3
 have HA3 : Hid (Ap B W w3 v v3 (l ++ txB s)) := HA2.out.trans A3
 clear A3 HA2
 go_wp2
 go_ret
 exact ⟨v3, rfl, HA3.out⟩
end Go.Proofs.YtpfiejmhnkcjbaaGreatDoor
