import Derived.Test.YtmbglggodifboaaGreatSG47x
import Derived.Test.YtmbglggodifboaaGreatSG45x
set_option maxHeartbeats 3000000
set_option maxRecDepth 8000
set_option linter.unusedSimpArgs false
set_option linter.unusedVariables false
namespace Go.Proofs.YtmbglggodifboaaGreat.Sh
open Go Go.RowKit Math Mt
theorem rform_2 (e : En) (he : EnW e) (na : Option Addr) (nc : Nat) (ka : Option Addr) (kc : Nat) (w : World) (hv : Vl w e.v na nc ka kc) (hk : e.k = 2) (T : Bool) (HT : Hid (T = true ↔ ((e.g = true -> e.v = nv) /\ (inP e.tb 1 64 /\ inP e.dc 1 65536 /\ inP e.vr 0 2147483648) /\ Pl { e with v := nv } (⟨2, em, e.tb, e.dc, e.vr, nv, e.h, e.g, 0, 0⟩ : En)))) :
 Calls Tryz.prog 55 #[.agg (eC e na nc ka kc).toArray] w fun e' w' => e' = .returned (.bool T) /\ Hid (Below w.heap.size w w') := by
 have HL : Hid (e.h.length = 32) := he.h.1
 have HE : Hid (EnW e) := he
 have HV : Hid (Vl w e.v na nc ka kc) := hv
 clear he hv
 go_enter Tryz.func55, Tryz.ntmps55
 go_wp2_with (refine al_box rfl 52 (.tmp 0) rfl (eC e na nc ka kc) rfl ?_)
 intro g1 w1 l1 B1 G0
 have HZ : Hid (Below w.heap.size w w1) := (Below.refl w.heap.size w).grown G0 (Nat.le_refl _) (by simp)
 clear G0
 have HB1 : Hid (Blk w1 g1 52 (eC e na nc ka kc)) := B1
 obtain ⟨a1, a2, a3, a4, a5, a6, a7, a8, a9, a10⟩ := enF_of HL.out B1.all
 simp only [Nat.zero_add] at a1 a2 a3 a4 a5 a6 a7 a8 a9 a10
 have A6 : Hid (w1.rangeAt g1 5 (six e.v.1 na nc ka e.v.2.list.length kc)) := a6
 have A7 : Hid (w1.rangeAt g1 11 (nums .u8 e.h)) := a7
 clear a6 a7 B1
 rw [hk] at a1
 obtain ⟨tn, Htn⟩ := bool_of2 (inP (e.t.size : Int) 1 40)
 obtain ⟨tt, Htt⟩ := bool_of2 (inP e.tb 1 64)
 obtain ⟨td, Htd⟩ := bool_of2 (inP e.dc 1 65536)
 have K := in_any (e.t.size : Int) 1 40 w1 tn Htn
 go_wp2_with fail
 refine K.mono ?_
 clear K
 rintro e' w' ⟨rfl, rfl⟩
 have K := in_any e.tb 1 64 w' tt Htt
 go_wp2_with fail
 refine K.mono ?_
 clear K
 rintro e' w' ⟨rfl, rfl⟩
 have K := in_any e.dc 1 65536 w' td Htd
 go_wp2_with fail
 refine K.mono ?_
 clear K
 rintro e' w' ⟨rfl, rfl⟩
 cases hg : e.g with
 | false =>
   rw [hg] at a8
   have HGN : Hid (e.g = true -> e.v = nv) := fun q => by rw [hg] at q; cases q
   clear hg
   obtain ⟨tv, Htv⟩ := bool_of2 (inP e.vr 0 2147483648)
   obtain ⟨tp, HTP⟩ := bool_of2 (Pl { e with v := nv } (⟨2, em, e.tb, e.dc, e.vr, nv, e.h, e.g, 0, 0⟩ : En))
   obtain ⟨C, hC⟩ : ∃ C : World -> Prop, C = fun V => Below w'.heap.size w' V := ⟨_, rfl⟩
   have C0 : Hid (C { w' with drawn := w'.drawn + 1 }) := by rw [hC]; exact Below.drew (Below.refl _ _)
   have CO : Hid (∀ V, C V -> Below w'.heap.size w' V) := fun V h => by rw [hC] at h; exact h
   have CB : Hid (∀ V V', C V -> Below V.heap.size V V' -> C V') := fun V V' h h2 => by rw [hC] at h ⊢; exact h.trans (h2.mono h.size)
   have FK : Hid (∀ V, C V -> EnF V g1 0 e na nc ka kc) := fun V h => enF_of HL.out (HB1.out.below (CO.out V h) HB1.out.lt).all
   have F0 : Hid (∀ V, C V -> V.cell? ⟨g1, 0, none⟩ = some (.int .i64 2)) := fun V h => by rw [<- hk]; exact (FK.out V h).k
   have F2 : Hid (∀ V, C V -> V.cell? ⟨g1, 2, none⟩ = some (.int .i64 e.tb)) := fun V h => (FK.out V h).tb
   have F3 : Hid (∀ V, C V -> V.cell? ⟨g1, 3, none⟩ = some (.int .i64 e.dc)) := fun V h => (FK.out V h).dc
   have F4 : Hid (∀ V, C V -> V.cell? ⟨g1, 4, none⟩ = some (.int .i64 e.vr)) := fun V h => (FK.out V h).vr
   have FG : Hid (∀ V, C V -> V.cell? ⟨g1, 43, none⟩ = some (.bool e.g)) := fun V h => (FK.out V h).g
   have FH : Hid (∀ V, C V -> V.rangeAt g1 11 (nums .u8 e.h)) := fun V h => (FK.out V h).h
   have FE : Hid (∀ V, C V -> V.rangeAt g1 0 (eC e na nc ka kc)) := fun V h => (HB1.out.below (CO.out V h) HB1.out.lt).all
   have FI : Hid (∀ V, C V -> Calls Tryz.prog 35 #[.int .i64 e.vr, .int .i64 0, .int .i64 2147483648] V fun e' w' => e' = .returned (.bool tv) /\ C w') := fun V h => by
    refine (in_any e.vr 0 2147483648 V tv Htv).mono ?_
    rintro e' w' ⟨rfl, rfl⟩
    exact ⟨rfl, h⟩
   have FB : Hid (∀ V, C V -> Calls Tryz.prog 78 #[.agg (eC e na nc ka kc).toArray] V fun e' w' => e' = .returned (.agg (eC { e with v := nv } none 0 none 0).toArray) /\ C w') := fun V h => by
    refine (bare_any e HL.out na nc ka kc V).mono ?_
    rintro e' w' ⟨rfl, H⟩
    exact ⟨rfl, CB.out V _ h H.out⟩
   have FP : Hid (∀ V, C V -> Calls Tryz.prog 76 #[.agg (eC { e with v := nv } none 0 none 0).toArray, .agg (eC (⟨2, em, e.tb, e.dc, e.vr, nv, e.h, e.g, 0, 0⟩ : En) none 0 none 0).toArray] V fun e' w' => e' = .returned (.bool tp) /\ C w') := fun V h => by
    refine (plain_any { e with v := nv } (⟨2, em, e.tb, e.dc, e.vr, nv, e.h, e.g, 0, 0⟩ : En) (w_bare HE.out) (w_2 HE.out) none 0 none 0 none 0 none 0 V (vl_nv V) (vl_nv V) tp HTP).mono ?_
    rintro e' w' ⟨rfl, H⟩
    exact ⟨rfl, CB.out V _ h H.out⟩
   clear hC CB FK
   cases tt with
   | false =>
     obtain rfl : T = false := fls_of HT.out (fun q => fls Htt.out (q.2.1.1))
     go_wp2_with fail
     clear a1 a2 a3 a4 a5 a8 a9 a10
     have hCp := cpo C0.out
     refine wp_region_quiet (C := C) (by kernel_rfl) (by kernel_rfl) C0.out ?_
     change wpQuiet _ _ _ _ (_ :: _ :: _ :: _ :: _ :: _ :: _ :: _ :: _ :: _ :: _ :: _ :: _ :: _ :: _ :: _ :: _ :: _ :: _ :: _ :: _ :: _ :: _ :: _ :: _ :: _ :: _ :: _ :: []) _
     repeat (first
      | go_big_quiet_skip
      | (go_big_quiet_want
         first
         | (refine q_cell 3 (.inl rfl) (.tmp 48) rfl g1 4 rfl _ F4.out ?_
            simp only [Act.put, pu]
            go_big_quiet_on)
         | (refine q_callv 35 _ _ rfl #[.int .i64 e.vr, .int .i64 0, .int .i64 2147483648] (by rw [List.map_toArray]; rfl) (enters Tryz.func35 (by kernel_rfl) rfl) (.bool false) FI.out ?_
            simp only [Act.put, pu]
            go_big_quiet_on)
         | (go_big_quiet_op
            go_big_quiet_on)))
     refine wpQuiet_nil ?_
     intro w9 h9
     have HF : Hid (Below w.heap.size w w9) := HZ.out.trans ((CO.out _ h9).mono HZ.out.size)
     clear h9 hCp C0 F0 F2 F3 F4 FE FH FG FB FP FI CO
     go_wp2
     go_ret
     exact ⟨rfl, HF.out⟩
   | true =>
   have Ptt : Hid _ := tru Htt.out
   clear Htt
   cases td with
   | false =>
     obtain rfl : T = false := fls_of HT.out (fun q => fls Htd.out (q.2.1.2.1))
     go_wp2_with fail
     clear a1 a2 a3 a4 a5 a8 a9 a10
     have hCp := cpo C0.out
     refine wp_region_quiet (C := C) (by kernel_rfl) (by kernel_rfl) C0.out ?_
     change wpQuiet _ _ _ _ (_ :: _ :: _ :: _ :: _ :: _ :: _ :: _ :: _ :: _ :: _ :: _ :: _ :: _ :: _ :: _ :: _ :: _ :: _ :: _ :: _ :: _ :: _ :: _ :: _ :: _ :: _ :: _ :: []) _
     repeat (first
      | go_big_quiet_skip
      | (go_big_quiet_want
         first
         | (refine q_cell 3 (.inl rfl) (.tmp 48) rfl g1 4 rfl _ F4.out ?_
            simp only [Act.put, pu]
            go_big_quiet_on)
         | (refine q_callv 35 _ _ rfl #[.int .i64 e.vr, .int .i64 0, .int .i64 2147483648] (by rw [List.map_toArray]; rfl) (enters Tryz.func35 (by kernel_rfl) rfl) (.bool false) FI.out ?_
            simp only [Act.put, pu]
            go_big_quiet_on)
         | (go_big_quiet_op
            go_big_quiet_on)))
     refine wpQuiet_nil ?_
     intro w9 h9
     have HF : Hid (Below w.heap.size w w9) := HZ.out.trans ((CO.out _ h9).mono HZ.out.size)
     clear h9 hCp C0 F0 F2 F3 F4 FE FH FG FB FP FI CO
     go_wp2
     go_ret
     exact ⟨rfl, HF.out⟩
   | true =>
   have Ptd : Hid _ := tru Htd.out
   clear Htd
   cases tv with
   | false =>
     obtain rfl : T = false := fls_of HT.out (fun q => fls Htv.out (q.2.1.2.2))
     go_wp2_with fail
     clear a1 a2 a3 a4 a5 a8 a9 a10
     have hCp := cpo C0.out
     refine wp_region_quiet (C := C) (by kernel_rfl) (by kernel_rfl) C0.out ?_
     change wpQuiet _ _ _ _ (_ :: _ :: _ :: _ :: _ :: _ :: _ :: _ :: _ :: _ :: _ :: _ :: _ :: _ :: _ :: _ :: _ :: _ :: _ :: _ :: _ :: _ :: _ :: _ :: _ :: _ :: _ :: _ :: []) _
     repeat (first
      | go_big_quiet_skip
      | (go_big_quiet_want
         first
         | (refine q_cell 3 (.inl rfl) (.tmp 48) rfl g1 4 rfl _ F4.out ?_
            simp only [Act.put, pu]
            go_big_quiet_on)
         | (refine q_callv 35 _ _ rfl #[.int .i64 e.vr, .int .i64 0, .int .i64 2147483648] (by rw [List.map_toArray]; rfl) (enters Tryz.func35 (by kernel_rfl) rfl) (.bool false) FI.out ?_
            simp only [Act.put, pu]
            go_big_quiet_on)
         | (go_big_quiet_op
            go_big_quiet_on)))
     refine wpQuiet_nil ?_
     intro w9 h9
     have HF : Hid (Below w.heap.size w w9) := HZ.out.trans ((CO.out _ h9).mono HZ.out.size)
     clear h9 hCp C0 F0 F2 F3 F4 FE FH FG FB FP FI CO
     go_wp2
     go_ret
     exact ⟨rfl, HF.out⟩
   | true =>
   have Ptv : Hid _ := tru Htv.out
   clear Htv
   obtain rfl : T = tp := Bool.eq_iff_iff.2 (HT.out.trans ⟨fun q => HTP.out.2 q.2.2, fun q => ⟨HGN.out, ⟨Ptt.out, Ptd.out, Ptv.out⟩, HTP.out.1 q⟩⟩)
   go_wp2_with fail
   clear a1 a2 a3 a4 a5 a8 a9 a10
   have hCp := cpo C0.out
   refine wp_region_quiet (C := C) (by kernel_rfl) (by kernel_rfl) C0.out ?_
   change wpQuiet _ _ _ _ (_ :: _ :: _ :: _ :: _ :: _ :: _ :: _ :: _ :: _ :: _ :: _ :: _ :: _ :: _ :: _ :: _ :: _ :: _ :: _ :: _ :: _ :: _ :: _ :: _ :: _ :: _ :: _ :: []) _
   repeat (first
    | go_big_quiet_skip
    | (go_big_quiet_want
       first
       | (refine q_cell 3 (.inl rfl) (.tmp 48) rfl g1 4 rfl _ F4.out ?_
          simp only [Act.put, pu]
          go_big_quiet_on)
       | (refine q_callv 35 _ _ rfl #[.int .i64 e.vr, .int .i64 0, .int .i64 2147483648] (by rw [List.map_toArray]; rfl) (enters Tryz.func35 (by kernel_rfl) rfl) (.bool true) FI.out ?_
          simp only [Act.put, pu]
          go_big_quiet_on)
       | (refine q_load 52 (.tmp 1) rfl g1 0 rfl (eC e na nc ka kc) _ FE.out Tryz.underlying52 rfl (sE HL.out _ _ _ _) ?_
          simp only [Act.put, pu]
          go_big_quiet_on)
       | (refine q_callv 78 _ _ rfl #[.agg (eC e na nc ka kc).toArray] (by rw [List.map_toArray]; rfl) (enters Tryz.func78 (by kernel_rfl) rfl) (.agg (eC { e with v := nv } none 0 none 0).toArray) FB.out ?_
          simp only [Act.put, pu]
          go_big_quiet_on)
       | (refine q_cell 3 (.inl rfl) (.tmp 55) rfl g1 0 rfl _ F0.out ?_
          simp only [Act.put, pu]
          go_big_quiet_on)
       | (refine q_cell 3 (.inl rfl) (.tmp 57) rfl g1 2 rfl _ F2.out ?_
          simp only [Act.put, pu]
          go_big_quiet_on)
       | (refine q_cell 3 (.inl rfl) (.tmp 59) rfl g1 3 rfl _ F3.out ?_
          simp only [Act.put, pu]
          go_big_quiet_on)
       | (refine q_cell 3 (.inl rfl) (.tmp 61) rfl g1 4 rfl _ F4.out ?_
          simp only [Act.put, pu]
          go_big_quiet_on)
       | (refine q_load 23 (.tmp 63) rfl g1 11 rfl (nums .u8 e.h) _ FH.out Tryz.underlying23 rfl (sH HL.out) ?_
          simp only [Act.put, pu]
          go_big_quiet_on)
       | (refine q_cell 4 (.inr (.inr (.inr (.inr rfl)))) (.tmp 65) rfl g1 43 rfl _ FG.out ?_
          simp only [Act.put, pu]
          go_big_quiet_on)
       | (refine q_bd 52 _ rfl (eC (⟨2, em, e.tb, e.dc, e.vr, nv, e.h, e.g, 0, 0⟩ : En) none 0 none 0) (bd_2 _ e.tb e.dc e.vr e.h HL.out e.g rfl rfl rfl rfl rfl rfl) ?_
          simp only [Act.put, pu]
          go_big_quiet_on)
       | (refine q_callv 76 _ _ rfl #[.agg (eC { e with v := nv } none 0 none 0).toArray, .agg (eC (⟨2, em, e.tb, e.dc, e.vr, nv, e.h, e.g, 0, 0⟩ : En) none 0 none 0).toArray] (by rw [List.map_toArray]; rfl) (enters Tryz.func76 (by kernel_rfl) rfl) (.bool T) FP.out ?_
          simp only [Act.put, pu]
          go_big_quiet_on)
       | (go_big_quiet_op
          go_big_quiet_on)))
   refine wpQuiet_nil ?_
   intro w9 h9
   have HF : Hid (Below w.heap.size w w9) := HZ.out.trans ((CO.out _ h9).mono HZ.out.size)
   clear h9 hCp C0 F0 F2 F3 F4 FE FH FG FB FP FI CO
   go_wp2
   go_ret
   exact ⟨rfl, HF.out⟩
 | true =>
   rw [hg] at a8
   obtain ⟨te, Hte⟩ := bool_of2 (e.v = nv)
   have K := empty_any e.v HE.out.v na nc ka kc w' (HV.out.below HZ.out) te Hte
   go_wp2_with (refine ld_w (by rfl) 48 (.tmp 38) rfl g1 5 rfl (six e.v.1 na nc ka e.v.2.list.length kc) _ A6.out Tryz.underlying48 rfl (szV _ _ _ _ _ _) ?_)
   refine K.mono ?_
   clear K
   rintro e' w2 ⟨rfl, H⟩
   have HZ' : Hid (Below w.heap.size w w2) := HZ.out.trans (H.out.mono HZ.out.size)
   have HB1 : Hid (Blk w2 g1 52 (eC e na nc ka kc)) := HB1.out.below H.out HB1.out.lt
   have HGE : Hid (e.g = true) := hg
   clear HZ H hg
   have HZ := HZ'
   clear HZ'
   cases te with
   | false =>
     obtain rfl : T = false := fls_of HT.out (fun q => fls Hte.out (q.1 HGE.out))
     go_wp2
     go_ret
     exact ⟨rfl, HZ.out⟩
   | true =>
   have HGN : Hid (e.g = true -> e.v = nv) := fun _ => tru Hte.out
   obtain ⟨tv, Htv⟩ := bool_of2 (inP e.vr 0 2147483648)
   obtain ⟨tp, HTP⟩ := bool_of2 (Pl { e with v := nv } (⟨2, em, e.tb, e.dc, e.vr, nv, e.h, e.g, 0, 0⟩ : En))
   obtain ⟨C, hC⟩ : ∃ C : World -> Prop, C = fun V => Below w2.heap.size w2 V := ⟨_, rfl⟩
   have C0 : Hid (C { w2 with drawn := w2.drawn + 1 }) := by rw [hC]; exact Below.drew (Below.refl _ _)
   have CO : Hid (∀ V, C V -> Below w2.heap.size w2 V) := fun V h => by rw [hC] at h; exact h
   have CB : Hid (∀ V V', C V -> Below V.heap.size V V' -> C V') := fun V V' h h2 => by rw [hC] at h ⊢; exact h.trans (h2.mono h.size)
   have FK : Hid (∀ V, C V -> EnF V g1 0 e na nc ka kc) := fun V h => enF_of HL.out (HB1.out.below (CO.out V h) HB1.out.lt).all
   have F0 : Hid (∀ V, C V -> V.cell? ⟨g1, 0, none⟩ = some (.int .i64 2)) := fun V h => by rw [<- hk]; exact (FK.out V h).k
   have F2 : Hid (∀ V, C V -> V.cell? ⟨g1, 2, none⟩ = some (.int .i64 e.tb)) := fun V h => (FK.out V h).tb
   have F3 : Hid (∀ V, C V -> V.cell? ⟨g1, 3, none⟩ = some (.int .i64 e.dc)) := fun V h => (FK.out V h).dc
   have F4 : Hid (∀ V, C V -> V.cell? ⟨g1, 4, none⟩ = some (.int .i64 e.vr)) := fun V h => (FK.out V h).vr
   have FG : Hid (∀ V, C V -> V.cell? ⟨g1, 43, none⟩ = some (.bool e.g)) := fun V h => (FK.out V h).g
   have FH : Hid (∀ V, C V -> V.rangeAt g1 11 (nums .u8 e.h)) := fun V h => (FK.out V h).h
   have FE : Hid (∀ V, C V -> V.rangeAt g1 0 (eC e na nc ka kc)) := fun V h => (HB1.out.below (CO.out V h) HB1.out.lt).all
   have FI : Hid (∀ V, C V -> Calls Tryz.prog 35 #[.int .i64 e.vr, .int .i64 0, .int .i64 2147483648] V fun e' w' => e' = .returned (.bool tv) /\ C w') := fun V h => by
    refine (in_any e.vr 0 2147483648 V tv Htv).mono ?_
    rintro e' w' ⟨rfl, rfl⟩
    exact ⟨rfl, h⟩
   have FB : Hid (∀ V, C V -> Calls Tryz.prog 78 #[.agg (eC e na nc ka kc).toArray] V fun e' w' => e' = .returned (.agg (eC { e with v := nv } none 0 none 0).toArray) /\ C w') := fun V h => by
    refine (bare_any e HL.out na nc ka kc V).mono ?_
    rintro e' w' ⟨rfl, H⟩
    exact ⟨rfl, CB.out V _ h H.out⟩
   have FP : Hid (∀ V, C V -> Calls Tryz.prog 76 #[.agg (eC { e with v := nv } none 0 none 0).toArray, .agg (eC (⟨2, em, e.tb, e.dc, e.vr, nv, e.h, e.g, 0, 0⟩ : En) none 0 none 0).toArray] V fun e' w' => e' = .returned (.bool tp) /\ C w') := fun V h => by
    refine (plain_any { e with v := nv } (⟨2, em, e.tb, e.dc, e.vr, nv, e.h, e.g, 0, 0⟩ : En) (w_bare HE.out) (w_2 HE.out) none 0 none 0 none 0 none 0 V (vl_nv V) (vl_nv V) tp HTP).mono ?_
    rintro e' w' ⟨rfl, H⟩
    exact ⟨rfl, CB.out V _ h H.out⟩
   clear hC CB FK
   cases tt with
   | false =>
     obtain rfl : T = false := fls_of HT.out (fun q => fls Htt.out (q.2.1.1))
     go_wp2_with fail
     clear a1 a2 a3 a4 a5 a8 a9 a10
     have hCp := cpo C0.out
     refine wp_region_quiet (C := C) (by kernel_rfl) (by kernel_rfl) C0.out ?_
     change wpQuiet _ _ _ _ (_ :: _ :: _ :: _ :: _ :: _ :: _ :: _ :: _ :: _ :: _ :: _ :: _ :: _ :: _ :: _ :: _ :: _ :: _ :: _ :: _ :: _ :: _ :: _ :: _ :: _ :: _ :: _ :: []) _
     repeat (first
      | go_big_quiet_skip
      | (go_big_quiet_want
         first
         | (refine q_cell 3 (.inl rfl) (.tmp 48) rfl g1 4 rfl _ F4.out ?_
            simp only [Act.put, pu]
            go_big_quiet_on)
         | (refine q_callv 35 _ _ rfl #[.int .i64 e.vr, .int .i64 0, .int .i64 2147483648] (by rw [List.map_toArray]; rfl) (enters Tryz.func35 (by kernel_rfl) rfl) (.bool false) FI.out ?_
            simp only [Act.put, pu]
            go_big_quiet_on)
         | (go_big_quiet_op
            go_big_quiet_on)))
     refine wpQuiet_nil ?_
     intro w9 h9
     have HF : Hid (Below w.heap.size w w9) := HZ.out.trans ((CO.out _ h9).mono HZ.out.size)
     clear h9 hCp C0 F0 F2 F3 F4 FE FH FG FB FP FI CO
     go_wp2
     go_ret
     exact ⟨rfl, HF.out⟩
   | true =>
   have Ptt : Hid _ := tru Htt.out
   clear Htt
   cases td with
   | false =>
     obtain rfl : T = false := fls_of HT.out (fun q => fls Htd.out (q.2.1.2.1))
     go_wp2_with fail
     clear a1 a2 a3 a4 a5 a8 a9 a10
     have hCp := cpo C0.out
     refine wp_region_quiet (C := C) (by kernel_rfl) (by kernel_rfl) C0.out ?_
     change wpQuiet _ _ _ _ (_ :: _ :: _ :: _ :: _ :: _ :: _ :: _ :: _ :: _ :: _ :: _ :: _ :: _ :: _ :: _ :: _ :: _ :: _ :: _ :: _ :: _ :: _ :: _ :: _ :: _ :: _ :: _ :: []) _
     repeat (first
      | go_big_quiet_skip
      | (go_big_quiet_want
         first
         | (refine q_cell 3 (.inl rfl) (.tmp 48) rfl g1 4 rfl _ F4.out ?_
            simp only [Act.put, pu]
            go_big_quiet_on)
         | (refine q_callv 35 _ _ rfl #[.int .i64 e.vr, .int .i64 0, .int .i64 2147483648] (by rw [List.map_toArray]; rfl) (enters Tryz.func35 (by kernel_rfl) rfl) (.bool false) FI.out ?_
            simp only [Act.put, pu]
            go_big_quiet_on)
         | (go_big_quiet_op
            go_big_quiet_on)))
     refine wpQuiet_nil ?_
     intro w9 h9
     have HF : Hid (Below w.heap.size w w9) := HZ.out.trans ((CO.out _ h9).mono HZ.out.size)
     clear h9 hCp C0 F0 F2 F3 F4 FE FH FG FB FP FI CO
     go_wp2
     go_ret
     exact ⟨rfl, HF.out⟩
   | true =>
   have Ptd : Hid _ := tru Htd.out
   clear Htd
   cases tv with
   | false =>
     obtain rfl : T = false := fls_of HT.out (fun q => fls Htv.out (q.2.1.2.2))
     go_wp2_with fail
     clear a1 a2 a3 a4 a5 a8 a9 a10
     have hCp := cpo C0.out
     refine wp_region_quiet (C := C) (by kernel_rfl) (by kernel_rfl) C0.out ?_
     change wpQuiet _ _ _ _ (_ :: _ :: _ :: _ :: _ :: _ :: _ :: _ :: _ :: _ :: _ :: _ :: _ :: _ :: _ :: _ :: _ :: _ :: _ :: _ :: _ :: _ :: _ :: _ :: _ :: _ :: _ :: _ :: []) _
     repeat (first
      | go_big_quiet_skip
      | (go_big_quiet_want
         first
         | (refine q_cell 3 (.inl rfl) (.tmp 48) rfl g1 4 rfl _ F4.out ?_
            simp only [Act.put, pu]
            go_big_quiet_on)
         | (refine q_callv 35 _ _ rfl #[.int .i64 e.vr, .int .i64 0, .int .i64 2147483648] (by rw [List.map_toArray]; rfl) (enters Tryz.func35 (by kernel_rfl) rfl) (.bool false) FI.out ?_
            simp only [Act.put, pu]
            go_big_quiet_on)
         | (go_big_quiet_op
            go_big_quiet_on)))
     refine wpQuiet_nil ?_
     intro w9 h9
     have HF : Hid (Below w.heap.size w w9) := HZ.out.trans ((CO.out _ h9).mono HZ.out.size)
     clear h9 hCp C0 F0 F2 F3 F4 FE FH FG FB FP FI CO
     go_wp2
     go_ret
     exact ⟨rfl, HF.out⟩
   | true =>
   have Ptv : Hid _ := tru Htv.out
   clear Htv
   obtain rfl : T = tp := Bool.eq_iff_iff.2 (HT.out.trans ⟨fun q => HTP.out.2 q.2.2, fun q => ⟨HGN.out, ⟨Ptt.out, Ptd.out, Ptv.out⟩, HTP.out.1 q⟩⟩)
   go_wp2_with fail
   clear a1 a2 a3 a4 a5 a8 a9 a10
   have hCp := cpo C0.out
   refine wp_region_quiet (C := C) (by kernel_rfl) (by kernel_rfl) C0.out ?_
   change wpQuiet _ _ _ _ (_ :: _ :: _ :: _ :: _ :: _ :: _ :: _ :: _ :: _ :: _ :: _ :: _ :: _ :: _ :: _ :: _ :: _ :: _ :: _ :: _ :: _ :: _ :: _ :: _ :: _ :: _ :: _ :: []) _
   repeat (first
    | go_big_quiet_skip
    | (go_big_quiet_want
       first
       | (refine q_cell 3 (.inl rfl) (.tmp 48) rfl g1 4 rfl _ F4.out ?_
          simp only [Act.put, pu]
          go_big_quiet_on)
       | (refine q_callv 35 _ _ rfl #[.int .i64 e.vr, .int .i64 0, .int .i64 2147483648] (by rw [List.map_toArray]; rfl) (enters Tryz.func35 (by kernel_rfl) rfl) (.bool true) FI.out ?_
          simp only [Act.put, pu]
          go_big_quiet_on)
       | (refine q_load 52 (.tmp 1) rfl g1 0 rfl (eC e na nc ka kc) _ FE.out Tryz.underlying52 rfl (sE HL.out _ _ _ _) ?_
          simp only [Act.put, pu]
          go_big_quiet_on)
       | (refine q_callv 78 _ _ rfl #[.agg (eC e na nc ka kc).toArray] (by rw [List.map_toArray]; rfl) (enters Tryz.func78 (by kernel_rfl) rfl) (.agg (eC { e with v := nv } none 0 none 0).toArray) FB.out ?_
          simp only [Act.put, pu]
          go_big_quiet_on)
       | (refine q_cell 3 (.inl rfl) (.tmp 55) rfl g1 0 rfl _ F0.out ?_
          simp only [Act.put, pu]
          go_big_quiet_on)
       | (refine q_cell 3 (.inl rfl) (.tmp 57) rfl g1 2 rfl _ F2.out ?_
          simp only [Act.put, pu]
          go_big_quiet_on)
       | (refine q_cell 3 (.inl rfl) (.tmp 59) rfl g1 3 rfl _ F3.out ?_
          simp only [Act.put, pu]
          go_big_quiet_on)
       | (refine q_cell 3 (.inl rfl) (.tmp 61) rfl g1 4 rfl _ F4.out ?_
          simp only [Act.put, pu]
          go_big_quiet_on)
       | (refine q_load 23 (.tmp 63) rfl g1 11 rfl (nums .u8 e.h) _ FH.out Tryz.underlying23 rfl (sH HL.out) ?_
          simp only [Act.put, pu]
          go_big_quiet_on)
       | (refine q_cell 4 (.inr (.inr (.inr (.inr rfl)))) (.tmp 65) rfl g1 43 rfl _ FG.out ?_
          simp only [Act.put, pu]
          go_big_quiet_on)
       | (refine q_bd 52 _ rfl (eC (⟨2, em, e.tb, e.dc, e.vr, nv, e.h, e.g, 0, 0⟩ : En) none 0 none 0) (bd_2 _ e.tb e.dc e.vr e.h HL.out e.g rfl rfl rfl rfl rfl rfl) ?_
          simp only [Act.put, pu]
          go_big_quiet_on)
       | (refine q_callv 76 _ _ rfl #[.agg (eC { e with v := nv } none 0 none 0).toArray, .agg (eC (⟨2, em, e.tb, e.dc, e.vr, nv, e.h, e.g, 0, 0⟩ : En) none 0 none 0).toArray] (by rw [List.map_toArray]; rfl) (enters Tryz.func76 (by kernel_rfl) rfl) (.bool T) FP.out ?_
          simp only [Act.put, pu]
          go_big_quiet_on)
       | (go_big_quiet_op
          go_big_quiet_on)))
   refine wpQuiet_nil ?_
   intro w9 h9
   have HF : Hid (Below w.heap.size w w9) := HZ.out.trans ((CO.out _ h9).mono HZ.out.size)
   clear h9 hCp C0 F0 F2 F3 F4 FE FH FG FB FP FI CO
   go_wp2
   go_ret
   exact ⟨rfl, HF.out⟩
theorem rform_x (e : En) (he : EnW e) (na : Option Addr) (nc : Nat) (ka : Option Addr) (kc : Nat) (w : World) (hv : Vl w e.v na nc ka kc) (h1 : e.k ≠ 1) (h2 : e.k ≠ 2) (h3 : e.k ≠ 3) (h4 : e.k ≠ 4) (h5 : e.k ≠ 5) (h7 : e.k ≠ 7) (h6 : e.k ≠ 6) :
 Calls Tryz.prog 55 #[.agg (eC e na nc ka kc).toArray] w fun e' w' => e' = .returned (.bool false) /\ Hid (Below w.heap.size w w') := by
 have HL : Hid (e.h.length = 32) := he.h.1
 have HE : Hid (EnW e) := he
 have HV : Hid (Vl w e.v na nc ka kc) := hv
 clear he hv
 go_enter Tryz.func55, Tryz.ntmps55
 go_wp2_with (refine al_box rfl 52 (.tmp 0) rfl (eC e na nc ka kc) rfl ?_)
 intro g1 w1 l1 B1 G0
 have HZ : Hid (Below w.heap.size w w1) := (Below.refl w.heap.size w).grown G0 (Nat.le_refl _) (by simp)
 clear G0
 have HB1 : Hid (Blk w1 g1 52 (eC e na nc ka kc)) := B1
 obtain ⟨a1, a2, a3, a4, a5, a6, a7, a8, a9, a10⟩ := enF_of HL.out B1.all
 simp only [Nat.zero_add] at a1 a2 a3 a4 a5 a6 a7 a8 a9 a10
 have A6 : Hid (w1.rangeAt g1 5 (six e.v.1 na nc ka e.v.2.list.length kc)) := a6
 have A7 : Hid (w1.rangeAt g1 11 (nums .u8 e.h)) := a7
 clear a6 a7 B1
 obtain ⟨tn, Htn⟩ := bool_of2 (inP (e.t.size : Int) 1 40)
 obtain ⟨tt, Htt⟩ := bool_of2 (inP e.tb 1 64)
 obtain ⟨td, Htd⟩ := bool_of2 (inP e.dc 1 65536)
 have K := in_any (e.t.size : Int) 1 40 w1 tn Htn
 go_wp2_with fail
 refine K.mono ?_
 clear K
 rintro e' w' ⟨rfl, rfl⟩
 have K := in_any e.tb 1 64 w' tt Htt
 go_wp2_with fail
 refine K.mono ?_
 clear K
 rintro e' w' ⟨rfl, rfl⟩
 have K := in_any e.dc 1 65536 w' td Htd
 go_wp2_with fail
 refine K.mono ?_
 clear K
 rintro e' w' ⟨rfl, rfl⟩
 have b1 : (e.k == 1) = false := beq_eq_false_iff_ne.2 h1
 have b2 : (e.k == 2) = false := beq_eq_false_iff_ne.2 h2
 have b3 : (e.k == 3) = false := beq_eq_false_iff_ne.2 h3
 have b4 : (e.k == 4) = false := beq_eq_false_iff_ne.2 h4
 have b5 : (e.k == 5) = false := beq_eq_false_iff_ne.2 h5
 have b7 : (e.k == 7) = false := beq_eq_false_iff_ne.2 h7
 have b6 : (e.k == 6) = false := beq_eq_false_iff_ne.2 h6
 clear h1 h2 h3 h4 h5 h7 h6
 go_wp2
 go_ret
 exact ⟨rfl, HZ.out⟩
theorem rform_any (e : En) (he : EnW e) (na : Option Addr) (nc : Nat) (ka : Option Addr) (kc : Nat) (w : World) (hv : Vl w e.v na nc ka kc) :
 Calls Tryz.prog 55 #[.agg (eC e na nc ka kc).toArray] w fun e' w' => e' = .returned (.bool (formB e)) /\ Hid (Below w.heap.size w w') := by
 by_cases h1 : e.k = 1
 . exact rform_1 e he na nc ka kc w hv h1 _ (form_1 h1)
 by_cases h2 : e.k = 2
 . exact rform_2 e he na nc ka kc w hv h2 _ (form_2 h2)
 by_cases h3 : e.k = 3
 . exact rform_3 e he na nc ka kc w hv h3 _ (form_3 h3)
 by_cases h4 : e.k = 4
 . exact rform_4 e he na nc ka kc w hv h4 _ (form_4 h4)
 by_cases h5 : e.k = 5
 . exact rform_5 e he na nc ka kc w hv h5 _ (form_5 h5)
 by_cases h7 : e.k = 7
 . exact rform_7 e he na nc ka kc w hv h7 _ (form_7 h7)
 by_cases h6 : e.k = 6
 . exact rform_6 e he na nc ka kc w hv h6 _ (form_6 h6)
 rw [form_none (spn_none h1 h2 h3 h4 h5 h7 h6)]
 exact rform_x e he na nc ka kc w hv h1 h2 h3 h4 h5 h7 h6
theorem zHs : (Tryz.prog.info? 23).map (fun i => i.zero.map (·.cells)) = some (some (nums .u8 zr).toArray) := by kernel_rfl
theorem hshL_h32 (p : Vt) : H32 (hshL p) := by
 refine ⟨hsh_len p, ?_⟩
 unfold hshL
 split
 . exact D_oct _
 . exact h32_zr.2
theorem rmay_any (e : En) (he : EnW e) (hws : Go.Proofs.YtmbglggodifboaaGreat.ws e.v <= 100000) (na : Option Addr) (nc : Nat) (ka : Option Addr) (kc : Nat) (w : World) (hv : Vl w e.v na nc ka kc) :
 Calls Tryz.prog 36 #[.agg (eC e na nc ka kc).toArray] w fun e' w' => e' = .returned (.int .i64 (mayE e)) /\ Hid (Below w.heap.size w w') := by
 have HL : Hid (e.h.length = 32) := he.h.1
 have HE : Hid (EnW e) := he
 have HV : Hid (Vl w e.v na nc ka kc) := hv
 have HWS : Hid (Go.Proofs.YtmbglggodifboaaGreat.ws e.v <= 100000) := hws
 clear he hv hws
 go_enter Tryz.func36, Tryz.ntmps36
 go_wp2_with (refine al_box rfl 52 (.tmp 0) rfl (eC e na nc ka kc) rfl ?_)
 intro g1 w1 l1 B1 G0
 have Z := (Below.refl w.heap.size w).grown G0 (Nat.le_refl _) (by simp)
 clear G0
 have K := rform_any e HE.out na nc ka kc w1 (HV.out.below Z)
 go_wp2_with (refine ld_w (by rfl) 52 (.tmp 1) rfl g1 0 rfl (eC e na nc ka kc) _ B1.all Tryz.underlying52 rfl (sE HL.out _ _ _ _) ?_)
 refine K.mono ?_
 clear K
 rintro e' w2 ⟨rfl, H⟩
 have HZ : Hid (Below w.heap.size w w2) := Z.trans (H.out.mono Z.size)
 have HB : Hid (Blk w2 g1 52 (eC e na nc ka kc)) := B1.below H.out B1.lt
 clear H Z B1
 cases hf : formB e with
 | false =>
   have HM : Hid (mayE e = 3) := may_no (by unfold Form; rw [hf]; simp)
   go_wp2
   go_ret
   exact ⟨by rw [HM.out] <;> rfl, HZ.out⟩
 | true =>
 have HFm : Hid (Form e) := hf
 clear hf
 have a1 := (enF_of HL.out HB.out.all).k
 have a8 := (enF_of HL.out HB.out.all).g
 rw [Nat.zero_add] at a8
 by_cases hk : e.k = 2
 case neg =>
  have HM : Hid (mayE e = 0) := may_plain HFm.out (.inl hk)
  have hb : (e.k != 2) = true := bne_iff_ne.2 hk
  have hb2 : (e.k == 2) = false := beq_eq_false_iff_ne.2 hk
  go_wp2
  go_ret
  exact ⟨by rw [HM.out] <;> rfl, HZ.out⟩
 have HK : Hid (e.k = 2) := hk
 rw [hk] at a1
 clear hk
 cases hg : e.g with
 | true =>
   rw [hg] at a8
   have HM : Hid (mayE e = 0) := may_plain HFm.out (.inr hg)
   clear hg
   go_wp2
   go_ret
   exact ⟨by rw [HM.out] <;> rfl, HZ.out⟩
 | false =>
 rw [hg] at a8
 have HG : Hid (e.g = false) := hg
 clear hg
 have HR : Hid (w2.rangeAt g1 5 (six e.v.1 na nc ka e.v.2.list.length kc)) := by have := (enF_of HL.out HB.out.all).v; rw [Nat.zero_add] at this; exact this
 have K := rhash_any e.v HE.out.v HWS.out na nc ka kc w2 (HV.out.below HZ.out)
 have HME : Hid (encE e.v ≠ 0 -> mayE e = encE e.v) := may_enc HFm.out HK.out HG.out
 have HMH : Hid (encE e.v = 0 -> ¬ hshL e.v = e.h -> mayE e = 18) := fun h1 h2 => may_hash HFm.out HK.out HG.out h1 (by rw [hsh_yes h1] at h2; exact h2)
 have HMY : Hid (encE e.v = 0 -> hshL e.v = e.h -> mayE e = 0) := fun h1 h2 => may_yes HFm.out HK.out HG.out h1 (by rw [hsh_yes h1] at h2; exact h2)
 have HH3 : Hid (H32 (hshL e.v)) := hshL_h32 e.v
 obtain ⟨E, HEE⟩ : ∃ E, Hid (encE e.v = E) := ⟨_, rfl⟩
 obtain ⟨hl, HHL⟩ : ∃ hl, Hid (hshL e.v = hl) := ⟨_, rfl⟩
 rw [HEE.out] at HME HMH HMY K
 rw [HHL.out] at HMH HMY HH3 K
 clear HEE HHL HK HG HFm
 have HL9 : Hid (hl.length = 32) := HH3.out.1
 obtain ⟨th, hth⟩ : ∃ th, Hid (decide (hl = e.h) = th) := ⟨_, rfl⟩
 have HHq : Hid (∀ w, (Op.equalIn 10000 23 (.agg (nums .u8 hl).toArray) (.agg (nums .u8 e.h).toArray)).run Tryz.prog w = .ok th w) := fun w => by rw [<- hth.out]; exact eq_hash HH3.out HE.out.h w
 go_wp2_with (refine ld_w (by rfl) 48 (.tmp 16) rfl g1 5 rfl (six e.v.1 na nc ka e.v.2.list.length kc) _ HR.out Tryz.underlying48 rfl (szV _ _ _ _ _ _) ?_)
 refine K.mono ?_
 clear K a1 a8 HR
 rintro e' w3 ⟨rfl, H⟩
 have Z3 := HZ.out.trans (H.mono HZ.out.size)
 have B3 := HB.out.below H HB.out.lt
 clear H HB HZ
 go_wp2_with (refine al_zero rfl 23 rfl (nums .u8 zr) zHs ?_)
 intro g3 w4 l3 BH G0
 have hg3 : w.heap.size <= g3 := Nat.le_trans Z3.size l3
 have n13 : g1 ≠ g3 := by have := B3.lt; omega
 have Z4 := Z3.grown G0 Z3.size (by simp)
 have B4 := B3.kept G0 (by simp)
 clear G0 Z3 B3
 go_wp2_with (refine st_all rfl 23 (.tmp 3) (.tmp 19) rfl g3 23 (nums .u8 zr) (nums .u8 hl) rfl rfl BH (by rw [nums_length, nums_length, HL9.out]; rfl) (sH HL9.out) (nums_one _ _) ?_)
 intro w5 BH' G0
 have HZ : Hid (Below w.heap.size w w5) := Sh.grown_below Z4 G0 Z4.size hg3
 have HB : Hid (Blk w5 g1 52 (eC e na nc ka kc)) := B4.kept G0 (fun e => n13 (Option.some.inj e))
 have HBH : Hid (w5.rangeAt g3 0 (nums .u8 hl)) := BH'.all
 clear G0 BH BH' Z4 B4
 by_cases h0 : E = 0
 case neg =>
  have HM : Hid (mayE e = E) := HME.out h0
  have hb : (E != 0) = true := bne_iff_ne.2 h0
  have hb2 : (E == 0) = false := beq_eq_false_iff_ne.2 h0
  go_wp2
  go_ret
  exact ⟨by rw [HM.out] <;> rfl, HZ.out⟩
 subst h0
 have HR : Hid (w5.rangeAt g1 11 (nums .u8 e.h)) := by have := (enF_of HL.out HB.out.all).h; rw [Nat.zero_add] at this; exact this
 have hHH := HHq.out w5
 by_cases hx : hl = e.h
 . obtain rfl : th = true := by rw [<- hth.out]; exact decide_eq_true hx
   have HM : Hid (mayE e = 0) := HMY.out rfl hx
   clear hx HMY HMH HME hth
   go_wp2_with (first
    | (refine ld_w (by rfl) 23 (.tmp 3) rfl g3 0 rfl (nums .u8 hl) _ HBH.out Tryz.underlying23 rfl (sH HL9.out) ?_)
    | (refine ld_w (by rfl) 23 (.tmp 25) rfl g1 11 rfl (nums .u8 e.h) _ HR.out Tryz.underlying23 rfl (sH HL.out) ?_))
   go_ret
   exact ⟨by rw [HM.out] <;> rfl, HZ.out⟩
 . obtain rfl : th = false := by rw [<- hth.out]; exact decide_eq_false hx
   have HM : Hid (mayE e = 18) := HMH.out rfl hx
   clear hx HMY HMH HME hth
   go_wp2_with (first
    | (refine ld_w (by rfl) 23 (.tmp 3) rfl g3 0 rfl (nums .u8 hl) _ HBH.out Tryz.underlying23 rfl (sH HL9.out) ?_)
    | (refine ld_w (by rfl) 23 (.tmp 25) rfl g1 11 rfl (nums .u8 e.h) _ HR.out Tryz.underlying23 rfl (sH HL.out) ?_))
   go_ret
   exact ⟨by rw [HM.out] <;> rfl, HZ.out⟩
end Go.Proofs.YtmbglggodifboaaGreat.Sh
