/-
  The document's Form, walked: revisions.
-/
import Derived.Test.YtlefdnjokppibaaGreatDoorVG39x
namespace Go.Proofs.YtlefdnjokppibaaGreatDoor.Sh
open Go Go.RowKit Math Mt
set_option linter.unusedVariables false
set_option linter.unusedSimpArgs false
set_option maxHeartbeats 3000000 in
set_option maxRecDepth 8000 in
theorem rform_2 (e : En) (he : EnW e) (na : Option Addr) (nc : Nat) (ka : Option Addr) (kc : Nat) (w : World) (hv : Vl w e.v na nc ka kc) (hk : e.k = 2) (T : Bool) (HT : Hid (T = true ↔ ((e.g = true → e.v = nv) ∧ (inP e.tb 1 64 ∧ inP e.dc 1 65536 ∧ inP e.vr 0 2147483648) ∧ Pl { e with v := nv } (⟨2, em, e.tb, e.dc, e.vr, nv, e.h, e.g, 0, 0⟩ : En)))) :
    Calls Tryz.prog 58 #[.agg (eC e na nc ka kc).toArray] w fun e' w' => e' = .returned (.bool T) ∧ Hid (Below w.heap.size w w') := by
  have HL : Hid (e.h.length = 32) := he.h.1
  have HE : Hid (EnW e) := he
  have HV : Hid (Vl w e.v na nc ka kc) := hv
  clear he hv
  go_enter Tryz.func58, Tryz.ntmps58
  go_wp2_with (refine al_box rfl 45 (.tmp 0) rfl (eC e na nc ka kc) rfl ?_)
  intro g1 w1 l1 B1 G0
  have HZ : Hid (Below w.heap.size w w1) := (Below.refl w.heap.size w).grown G0 (Nat.le_refl _) (by simp)
  clear G0
  have HB1 : Hid (Blk w1 g1 45 (eC e na nc ka kc)) := B1
  obtain ⟨a1, a2, a3, a4, a5, a6, a7, a8, a9, a10⟩ := enF_of HL.out B1.all
  simp only [Nat.zero_add] at a1 a2 a3 a4 a5 a6 a7 a8 a9 a10
  have A6 : Hid (w1.rangeAt g1 5 (six e.v.1 na nc ka e.v.2.list.length kc)) := a6
  have A7 : Hid (w1.rangeAt g1 11 (nums .u8 e.h)) := a7
  clear a6 a7 B1
  rw [hk] at a1
  obtain ⟨tn, Htn⟩ := bool_of2 (inP (e.t.size : Int) 1 40)
  obtain ⟨tt, Htt⟩ := bool_of2 (inP e.tb 1 64)
  obtain ⟨td, Htd⟩ := bool_of2 (inP e.dc 1 65536)
  have K := in_any (e.t.size : Int) 1 40 w1 tn Htn
  go_wp2_with fail
  refine K.mono ?_
  clear K
  rintro e' w' ⟨rfl, rfl⟩
  have K := in_any e.tb 1 64 w' tt Htt
  go_wp2_with fail
  refine K.mono ?_
  clear K
  rintro e' w' ⟨rfl, rfl⟩
  have K := in_any e.dc 1 65536 w' td Htd
  go_wp2_with fail
  refine K.mono ?_
  clear K
  rintro e' w' ⟨rfl, rfl⟩
  cases hg : e.g with
  | false =>
    rw [hg] at a8
    have HGN : Hid (e.g = true → e.v = nv) := fun q => by rw [hg] at q; cases q
    clear hg
    obtain ⟨tv, Htv⟩ := bool_of2 (inP e.vr 0 2147483648)
    obtain ⟨tp, HTP⟩ := bool_of2 (Pl { e with v := nv } (⟨2, em, e.tb, e.dc, e.vr, nv, e.h, e.g, 0, 0⟩ : En))
    obtain ⟨C, hC⟩ : ∃ C : World → Prop, C = fun V => Below w'.heap.size w' V := ⟨_, rfl⟩
    have C0 : Hid (C { w' with drawn := w'.drawn + 1 }) := by rw [hC]; exact Below.drew (Below.refl _ _)
    have CO : Hid (∀ V, C V → Below w'.heap.size w' V) := fun V h => by rw [hC] at h; exact h
    have CB : Hid (∀ V V', C V → Below V.heap.size V V' → C V') := fun V V' h h2 => by rw [hC] at h ⊢; exact h.trans (h2.mono h.size)
    have FK : Hid (∀ V, C V → EnF V g1 0 e na nc ka kc) := fun V h => enF_of HL.out (HB1.out.below (CO.out V h) HB1.out.lt).all
    have F0 : Hid (∀ V, C V → V.cell? ⟨g1, 0, none⟩ = some (.int .i64 2)) := fun V h => by rw [← hk]; exact (FK.out V h).k
    have F2 : Hid (∀ V, C V → V.cell? ⟨g1, 2, none⟩ = some (.int .i64 e.tb)) := fun V h => (FK.out V h).tb
    have F3 : Hid (∀ V, C V → V.cell? ⟨g1, 3, none⟩ = some (.int .i64 e.dc)) := fun V h => (FK.out V h).dc
    have F4 : Hid (∀ V, C V → V.cell? ⟨g1, 4, none⟩ = some (.int .i64 e.vr)) := fun V h => (FK.out V h).vr
    have FG : Hid (∀ V, C V → V.cell? ⟨g1, 43, none⟩ = some (.bool e.g)) := fun V h => (FK.out V h).g
    have FH : Hid (∀ V, C V → V.rangeAt g1 11 (nums .u8 e.h)) := fun V h => (FK.out V h).h
    have FE : Hid (∀ V, C V → V.rangeAt g1 0 (eC e na nc ka kc)) := fun V h => (HB1.out.below (CO.out V h) HB1.out.lt).all
    have FI : Hid (∀ V, C V → Calls Tryz.prog 30 #[.int .i64 e.vr, .int .i64 0, .int .i64 2147483648] V fun e' w' => e' = .returned (.bool tv) ∧ C w') := fun V h => by
      refine (in_any e.vr 0 2147483648 V tv Htv).mono ?_
      rintro e' w' ⟨rfl, rfl⟩
      exact ⟨rfl, h⟩
    have FB : Hid (∀ V, C V → Calls Tryz.prog 82 #[.agg (eC e na nc ka kc).toArray] V fun e' w' => e' = .returned (.agg (eC { e with v := nv } none 0 none 0).toArray) ∧ C w') := fun V h => by
      refine (bare_any e HL.out na nc ka kc V).mono ?_
      rintro e' w' ⟨rfl, H⟩
      exact ⟨rfl, CB.out V _ h H.out⟩
    have FP : Hid (∀ V, C V → Calls Tryz.prog 80 #[.agg (eC { e with v := nv } none 0 none 0).toArray, .agg (eC (⟨2, em, e.tb, e.dc, e.vr, nv, e.h, e.g, 0, 0⟩ : En) none 0 none 0).toArray] V fun e' w' => e' = .returned (.bool tp) ∧ C w') := fun V h => by
      refine (plain_any { e with v := nv } (⟨2, em, e.tb, e.dc, e.vr, nv, e.h, e.g, 0, 0⟩ : En) (w_bare HE.out) (w_2 HE.out) none 0 none 0 none 0 none 0 V (vl_nv V) (vl_nv V) tp HTP).mono ?_
      rintro e' w' ⟨rfl, H⟩
      exact ⟨rfl, CB.out V _ h H.out⟩
    clear hC CB FK
    cases tt with
    | false =>
      obtain rfl : T = false := fls_of HT.out (fun q => fls Htt.out (q.2.1.1))
      go_wp2_with fail
      clear a1 a2 a3 a4 a5 a8 a9 a10
      have hCp : ∀ p : Prop, (∀ W, C W → p) ↔ p := fun p => ⟨fun h => h _ C0.out, fun h _ _ => h⟩
      refine wp_region_quiet (C := C) (by kernel_rfl) (by kernel_rfl) C0.out ?_
      change wpQuiet _ _ _ _ (_ :: _ :: _ :: _ :: _ :: _ :: _ :: _ :: _ :: _ :: _ :: _ :: _ :: _ :: _ :: _ :: _ :: _ :: _ :: _ :: _ :: _ :: _ :: _ :: _ :: _ :: _ :: _ :: []) _
      repeat (first
        | go_big_quiet_skip
        | (go_big_quiet_want
           first
           | (refine q_cell 3 (.inl rfl) (.tmp 48) rfl g1 4 rfl _ F4.out ?_
              simp only [Act.put, List.setIfInBounds_toArray, List.set_cons_zero, List.set_cons_succ]
              go_big_quiet_on)
           | (refine q_callv 30 _ _ rfl #[.int .i64 e.vr, .int .i64 0, .int .i64 2147483648] (by rw [List.map_toArray]; rfl) (enters Tryz.func30 (by kernel_rfl) rfl) (.bool false) FI.out ?_
              simp only [Act.put, List.setIfInBounds_toArray, List.set_cons_zero, List.set_cons_succ]
              go_big_quiet_on)
           | (go_big_quiet_op
              go_big_quiet_on)))
      refine wpQuiet_nil ?_
      intro w9 h9
      have HF : Hid (Below w.heap.size w w9) := HZ.out.trans ((CO.out _ h9).mono HZ.out.size)
      clear h9 hCp C0 F0 F2 F3 F4 FE FH FG FB FP FI CO
      go_wp2
      go_ret
      exact ⟨rfl, HF.out⟩
    | true =>
    have Ptt : Hid _ := tru Htt.out
    clear Htt
    cases td with
    | false =>
      obtain rfl : T = false := fls_of HT.out (fun q => fls Htd.out (q.2.1.2.1))
      go_wp2_with fail
      clear a1 a2 a3 a4 a5 a8 a9 a10
      have hCp : ∀ p : Prop, (∀ W, C W → p) ↔ p := fun p => ⟨fun h => h _ C0.out, fun h _ _ => h⟩
      refine wp_region_quiet (C := C) (by kernel_rfl) (by kernel_rfl) C0.out ?_
      change wpQuiet _ _ _ _ (_ :: _ :: _ :: _ :: _ :: _ :: _ :: _ :: _ :: _ :: _ :: _ :: _ :: _ :: _ :: _ :: _ :: _ :: _ :: _ :: _ :: _ :: _ :: _ :: _ :: _ :: _ :: _ :: []) _
      repeat (first
        | go_big_quiet_skip
        | (go_big_quiet_want
           first
           | (refine q_cell 3 (.inl rfl) (.tmp 48) rfl g1 4 rfl _ F4.out ?_
              simp only [Act.put, List.setIfInBounds_toArray, List.set_cons_zero, List.set_cons_succ]
              go_big_quiet_on)
           | (refine q_callv 30 _ _ rfl #[.int .i64 e.vr, .int .i64 0, .int .i64 2147483648] (by rw [List.map_toArray]; rfl) (enters Tryz.func30 (by kernel_rfl) rfl) (.bool false) FI.out ?_
              simp only [Act.put, List.setIfInBounds_toArray, List.set_cons_zero, List.set_cons_succ]
              go_big_quiet_on)
           | (go_big_quiet_op
              go_big_quiet_on)))
      refine wpQuiet_nil ?_
      intro w9 h9
      have HF : Hid (Below w.heap.size w w9) := HZ.out.trans ((CO.out _ h9).mono HZ.out.size)
      clear h9 hCp C0 F0 F2 F3 F4 FE FH FG FB FP FI CO
      go_wp2
      go_ret
      exact ⟨rfl, HF.out⟩
    | true =>
    have Ptd : Hid _ := tru Htd.out
    clear Htd
    cases tv with
    | false =>
      obtain rfl : T = false := fls_of HT.out (fun q => fls Htv.out (q.2.1.2.2))
      go_wp2_with fail
      clear a1 a2 a3 a4 a5 a8 a9 a10
      have hCp : ∀ p : Prop, (∀ W, C W → p) ↔ p := fun p => ⟨fun h => h _ C0.out, fun h _ _ => h⟩
      refine wp_region_quiet (C := C) (by kernel_rfl) (by kernel_rfl) C0.out ?_
      change wpQuiet _ _ _ _ (_ :: _ :: _ :: _ :: _ :: _ :: _ :: _ :: _ :: _ :: _ :: _ :: _ :: _ :: _ :: _ :: _ :: _ :: _ :: _ :: _ :: _ :: _ :: _ :: _ :: _ :: _ :: _ :: []) _
      repeat (first
        | go_big_quiet_skip
        | (go_big_quiet_want
           first
           | (refine q_cell 3 (.inl rfl) (.tmp 48) rfl g1 4 rfl _ F4.out ?_
              simp only [Act.put, List.setIfInBounds_toArray, List.set_cons_zero, List.set_cons_succ]
              go_big_quiet_on)
           | (refine q_callv 30 _ _ rfl #[.int .i64 e.vr, .int .i64 0, .int .i64 2147483648] (by rw [List.map_toArray]; rfl) (enters Tryz.func30 (by kernel_rfl) rfl) (.bool false) FI.out ?_
              simp only [Act.put, List.setIfInBounds_toArray, List.set_cons_zero, List.set_cons_succ]
              go_big_quiet_on)
           | (go_big_quiet_op
              go_big_quiet_on)))
      refine wpQuiet_nil ?_
      intro w9 h9
      have HF : Hid (Below w.heap.size w w9) := HZ.out.trans ((CO.out _ h9).mono HZ.out.size)
      clear h9 hCp C0 F0 F2 F3 F4 FE FH FG FB FP FI CO
      go_wp2
      go_ret
      exact ⟨rfl, HF.out⟩
    | true =>
    have Ptv : Hid _ := tru Htv.out
    clear Htv
    obtain rfl : T = tp := Bool.eq_iff_iff.2 (HT.out.trans ⟨fun q => HTP.out.2 q.2.2, fun q => ⟨HGN.out, ⟨Ptt.out, Ptd.out, Ptv.out⟩, HTP.out.1 q⟩⟩)
    go_wp2_with fail
    clear a1 a2 a3 a4 a5 a8 a9 a10
    have hCp : ∀ p : Prop, (∀ W, C W → p) ↔ p := fun p => ⟨fun h => h _ C0.out, fun h _ _ => h⟩
    refine wp_region_quiet (C := C) (by kernel_rfl) (by kernel_rfl) C0.out ?_
    change wpQuiet _ _ _ _ (_ :: _ :: _ :: _ :: _ :: _ :: _ :: _ :: _ :: _ :: _ :: _ :: _ :: _ :: _ :: _ :: _ :: _ :: _ :: _ :: _ :: _ :: _ :: _ :: _ :: _ :: _ :: _ :: []) _
    repeat (first
      | go_big_quiet_skip
      | (go_big_quiet_want
         first
         | (refine q_cell 3 (.inl rfl) (.tmp 48) rfl g1 4 rfl _ F4.out ?_
            simp only [Act.put, List.setIfInBounds_toArray, List.set_cons_zero, List.set_cons_succ]
            go_big_quiet_on)
         | (refine q_callv 30 _ _ rfl #[.int .i64 e.vr, .int .i64 0, .int .i64 2147483648] (by rw [List.map_toArray]; rfl) (enters Tryz.func30 (by kernel_rfl) rfl) (.bool true) FI.out ?_
            simp only [Act.put, List.setIfInBounds_toArray, List.set_cons_zero, List.set_cons_succ]
            go_big_quiet_on)
         | (refine q_load 45 (.tmp 1) rfl g1 0 rfl (eC e na nc ka kc) _ FE.out Tryz.underlying45 rfl (sE HL.out _ _ _ _) ?_
            simp only [Act.put, List.setIfInBounds_toArray, List.set_cons_zero, List.set_cons_succ]
            go_big_quiet_on)
         | (refine q_callv 82 _ _ rfl #[.agg (eC e na nc ka kc).toArray] (by rw [List.map_toArray]; rfl) (enters Tryz.func82 (by kernel_rfl) rfl) (.agg (eC { e with v := nv } none 0 none 0).toArray) FB.out ?_
            simp only [Act.put, List.setIfInBounds_toArray, List.set_cons_zero, List.set_cons_succ]
            go_big_quiet_on)
         | (refine q_cell 3 (.inl rfl) (.tmp 55) rfl g1 0 rfl _ F0.out ?_
            simp only [Act.put, List.setIfInBounds_toArray, List.set_cons_zero, List.set_cons_succ]
            go_big_quiet_on)
         | (refine q_cell 3 (.inl rfl) (.tmp 57) rfl g1 2 rfl _ F2.out ?_
            simp only [Act.put, List.setIfInBounds_toArray, List.set_cons_zero, List.set_cons_succ]
            go_big_quiet_on)
         | (refine q_cell 3 (.inl rfl) (.tmp 59) rfl g1 3 rfl _ F3.out ?_
            simp only [Act.put, List.setIfInBounds_toArray, List.set_cons_zero, List.set_cons_succ]
            go_big_quiet_on)
         | (refine q_cell 3 (.inl rfl) (.tmp 61) rfl g1 4 rfl _ F4.out ?_
            simp only [Act.put, List.setIfInBounds_toArray, List.set_cons_zero, List.set_cons_succ]
            go_big_quiet_on)
         | (refine q_load 23 (.tmp 63) rfl g1 11 rfl (nums .u8 e.h) _ FH.out Tryz.underlying23 rfl (sH HL.out) ?_
            simp only [Act.put, List.setIfInBounds_toArray, List.set_cons_zero, List.set_cons_succ]
            go_big_quiet_on)
         | (refine q_cell 4 (.inr (.inr (.inr (.inr rfl)))) (.tmp 65) rfl g1 43 rfl _ FG.out ?_
            simp only [Act.put, List.setIfInBounds_toArray, List.set_cons_zero, List.set_cons_succ]
            go_big_quiet_on)
         | (refine q_bd 45 _ rfl (eC (⟨2, em, e.tb, e.dc, e.vr, nv, e.h, e.g, 0, 0⟩ : En) none 0 none 0) (bd_2 _ e.tb e.dc e.vr e.h HL.out e.g rfl rfl rfl rfl rfl rfl) ?_
            simp only [Act.put, List.setIfInBounds_toArray, List.set_cons_zero, List.set_cons_succ]
            go_big_quiet_on)
         | (refine q_callv 80 _ _ rfl #[.agg (eC { e with v := nv } none 0 none 0).toArray, .agg (eC (⟨2, em, e.tb, e.dc, e.vr, nv, e.h, e.g, 0, 0⟩ : En) none 0 none 0).toArray] (by rw [List.map_toArray]; rfl) (enters Tryz.func80 (by kernel_rfl) rfl) (.bool T) FP.out ?_
            simp only [Act.put, List.setIfInBounds_toArray, List.set_cons_zero, List.set_cons_succ]
            go_big_quiet_on)
         | (go_big_quiet_op
            go_big_quiet_on)))
    refine wpQuiet_nil ?_
    intro w9 h9
    have HF : Hid (Below w.heap.size w w9) := HZ.out.trans ((CO.out _ h9).mono HZ.out.size)
    clear h9 hCp C0 F0 F2 F3 F4 FE FH FG FB FP FI CO
    go_wp2
    go_ret
    exact ⟨rfl, HF.out⟩
  | true =>
    rw [hg] at a8
    obtain ⟨te, Hte⟩ := bool_of2 (e.v = nv)
    have K := empty_any e.v HE.out.v na nc ka kc w' (HV.out.below HZ.out) te Hte
    go_wp2_with (refine ld_w (by rfl) 41 (.tmp 38) rfl g1 5 rfl (six e.v.1 na nc ka e.v.2.list.length kc) _ A6.out Tryz.underlying41 rfl (szV _ _ _ _ _ _) ?_)
    refine K.mono ?_
    clear K
    rintro e' w2 ⟨rfl, H⟩
    have HZ' : Hid (Below w.heap.size w w2) := HZ.out.trans (H.out.mono HZ.out.size)
    have HB1 : Hid (Blk w2 g1 45 (eC e na nc ka kc)) := HB1.out.below H.out HB1.out.lt
    have HGE : Hid (e.g = true) := hg
    clear HZ H hg
    have HZ := HZ'
    clear HZ'
    cases te with
    | false =>
      obtain rfl : T = false := fls_of HT.out (fun q => fls Hte.out (q.1 HGE.out))
      go_wp2
      go_ret
      exact ⟨rfl, HZ.out⟩
    | true =>
    have HGN : Hid (e.g = true → e.v = nv) := fun _ => tru Hte.out
    obtain ⟨tv, Htv⟩ := bool_of2 (inP e.vr 0 2147483648)
    obtain ⟨tp, HTP⟩ := bool_of2 (Pl { e with v := nv } (⟨2, em, e.tb, e.dc, e.vr, nv, e.h, e.g, 0, 0⟩ : En))
    obtain ⟨C, hC⟩ : ∃ C : World → Prop, C = fun V => Below w2.heap.size w2 V := ⟨_, rfl⟩
    have C0 : Hid (C { w2 with drawn := w2.drawn + 1 }) := by rw [hC]; exact Below.drew (Below.refl _ _)
    have CO : Hid (∀ V, C V → Below w2.heap.size w2 V) := fun V h => by rw [hC] at h; exact h
    have CB : Hid (∀ V V', C V → Below V.heap.size V V' → C V') := fun V V' h h2 => by rw [hC] at h ⊢; exact h.trans (h2.mono h.size)
    have FK : Hid (∀ V, C V → EnF V g1 0 e na nc ka kc) := fun V h => enF_of HL.out (HB1.out.below (CO.out V h) HB1.out.lt).all
    have F0 : Hid (∀ V, C V → V.cell? ⟨g1, 0, none⟩ = some (.int .i64 2)) := fun V h => by rw [← hk]; exact (FK.out V h).k
    have F2 : Hid (∀ V, C V → V.cell? ⟨g1, 2, none⟩ = some (.int .i64 e.tb)) := fun V h => (FK.out V h).tb
    have F3 : Hid (∀ V, C V → V.cell? ⟨g1, 3, none⟩ = some (.int .i64 e.dc)) := fun V h => (FK.out V h).dc
    have F4 : Hid (∀ V, C V → V.cell? ⟨g1, 4, none⟩ = some (.int .i64 e.vr)) := fun V h => (FK.out V h).vr
    have FG : Hid (∀ V, C V → V.cell? ⟨g1, 43, none⟩ = some (.bool e.g)) := fun V h => (FK.out V h).g
    have FH : Hid (∀ V, C V → V.rangeAt g1 11 (nums .u8 e.h)) := fun V h => (FK.out V h).h
    have FE : Hid (∀ V, C V → V.rangeAt g1 0 (eC e na nc ka kc)) := fun V h => (HB1.out.below (CO.out V h) HB1.out.lt).all
    have FI : Hid (∀ V, C V → Calls Tryz.prog 30 #[.int .i64 e.vr, .int .i64 0, .int .i64 2147483648] V fun e' w' => e' = .returned (.bool tv) ∧ C w') := fun V h => by
      refine (in_any e.vr 0 2147483648 V tv Htv).mono ?_
      rintro e' w' ⟨rfl, rfl⟩
      exact ⟨rfl, h⟩
    have FB : Hid (∀ V, C V → Calls Tryz.prog 82 #[.agg (eC e na nc ka kc).toArray] V fun e' w' => e' = .returned (.agg (eC { e with v := nv } none 0 none 0).toArray) ∧ C w') := fun V h => by
      refine (bare_any e HL.out na nc ka kc V).mono ?_
      rintro e' w' ⟨rfl, H⟩
      exact ⟨rfl, CB.out V _ h H.out⟩
    have FP : Hid (∀ V, C V → Calls Tryz.prog 80 #[.agg (eC { e with v := nv } none 0 none 0).toArray, .agg (eC (⟨2, em, e.tb, e.dc, e.vr, nv, e.h, e.g, 0, 0⟩ : En) none 0 none 0).toArray] V fun e' w' => e' = .returned (.bool tp) ∧ C w') := fun V h => by
      refine (plain_any { e with v := nv } (⟨2, em, e.tb, e.dc, e.vr, nv, e.h, e.g, 0, 0⟩ : En) (w_bare HE.out) (w_2 HE.out) none 0 none 0 none 0 none 0 V (vl_nv V) (vl_nv V) tp HTP).mono ?_
      rintro e' w' ⟨rfl, H⟩
      exact ⟨rfl, CB.out V _ h H.out⟩
    clear hC CB FK
    cases tt with
    | false =>
      obtain rfl : T = false := fls_of HT.out (fun q => fls Htt.out (q.2.1.1))
      go_wp2_with fail
      clear a1 a2 a3 a4 a5 a8 a9 a10
      have hCp : ∀ p : Prop, (∀ W, C W → p) ↔ p := fun p => ⟨fun h => h _ C0.out, fun h _ _ => h⟩
      refine wp_region_quiet (C := C) (by kernel_rfl) (by kernel_rfl) C0.out ?_
      change wpQuiet _ _ _ _ (_ :: _ :: _ :: _ :: _ :: _ :: _ :: _ :: _ :: _ :: _ :: _ :: _ :: _ :: _ :: _ :: _ :: _ :: _ :: _ :: _ :: _ :: _ :: _ :: _ :: _ :: _ :: _ :: []) _
      repeat (first
        | go_big_quiet_skip
        | (go_big_quiet_want
           first
           | (refine q_cell 3 (.inl rfl) (.tmp 48) rfl g1 4 rfl _ F4.out ?_
              simp only [Act.put, List.setIfInBounds_toArray, List.set_cons_zero, List.set_cons_succ]
              go_big_quiet_on)
           | (refine q_callv 30 _ _ rfl #[.int .i64 e.vr, .int .i64 0, .int .i64 2147483648] (by rw [List.map_toArray]; rfl) (enters Tryz.func30 (by kernel_rfl) rfl) (.bool false) FI.out ?_
              simp only [Act.put, List.setIfInBounds_toArray, List.set_cons_zero, List.set_cons_succ]
              go_big_quiet_on)
           | (go_big_quiet_op
              go_big_quiet_on)))
      refine wpQuiet_nil ?_
      intro w9 h9
      have HF : Hid (Below w.heap.size w w9) := HZ.out.trans ((CO.out _ h9).mono HZ.out.size)
      clear h9 hCp C0 F0 F2 F3 F4 FE FH FG FB FP FI CO
      go_wp2
      go_ret
      exact ⟨rfl, HF.out⟩
    | true =>
    have Ptt : Hid _ := tru Htt.out
    clear Htt
    cases td with
    | false =>
      obtain rfl : T = false := fls_of HT.out (fun q => fls Htd.out (q.2.1.2.1))
      go_wp2_with fail
      clear a1 a2 a3 a4 a5 a8 a9 a10
      have hCp : ∀ p : Prop, (∀ W, C W → p) ↔ p := fun p => ⟨fun h => h _ C0.out, fun h _ _ => h⟩
      refine wp_region_quiet (C := C) (by kernel_rfl) (by kernel_rfl) C0.out ?_
      change wpQuiet _ _ _ _ (_ :: _ :: _ :: _ :: _ :: _ :: _ :: _ :: _ :: _ :: _ :: _ :: _ :: _ :: _ :: _ :: _ :: _ :: _ :: _ :: _ :: _ :: _ :: _ :: _ :: _ :: _ :: _ :: []) _
      repeat (first
        | go_big_quiet_skip
        | (go_big_quiet_want
           first
           | (refine q_cell 3 (.inl rfl) (.tmp 48) rfl g1 4 rfl _ F4.out ?_
              simp only [Act.put, List.setIfInBounds_toArray, List.set_cons_zero, List.set_cons_succ]
              go_big_quiet_on)
           | (refine q_callv 30 _ _ rfl #[.int .i64 e.vr, .int .i64 0, .int .i64 2147483648] (by rw [List.map_toArray]; rfl) (enters Tryz.func30 (by kernel_rfl) rfl) (.bool false) FI.out ?_
              simp only [Act.put, List.setIfInBounds_toArray, List.set_cons_zero, List.set_cons_succ]
              go_big_quiet_on)
           | (go_big_quiet_op
              go_big_quiet_on)))
      refine wpQuiet_nil ?_
      intro w9 h9
      have HF : Hid (Below w.heap.size w w9) := HZ.out.trans ((CO.out _ h9).mono HZ.out.size)
      clear h9 hCp C0 F0 F2 F3 F4 FE FH FG FB FP FI CO
      go_wp2
      go_ret
      exact ⟨rfl, HF.out⟩
    | true =>
    have Ptd : Hid _ := tru Htd.out
    clear Htd
    cases tv with
    | false =>
      obtain rfl : T = false := fls_of HT.out (fun q => fls Htv.out (q.2.1.2.2))
      go_wp2_with fail
      clear a1 a2 a3 a4 a5 a8 a9 a10
      have hCp : ∀ p : Prop, (∀ W, C W → p) ↔ p := fun p => ⟨fun h => h _ C0.out, fun h _ _ => h⟩
      refine wp_region_quiet (C := C) (by kernel_rfl) (by kernel_rfl) C0.out ?_
      change wpQuiet _ _ _ _ (_ :: _ :: _ :: _ :: _ :: _ :: _ :: _ :: _ :: _ :: _ :: _ :: _ :: _ :: _ :: _ :: _ :: _ :: _ :: _ :: _ :: _ :: _ :: _ :: _ :: _ :: _ :: _ :: []) _
      repeat (first
        | go_big_quiet_skip
        | (go_big_quiet_want
           first
           | (refine q_cell 3 (.inl rfl) (.tmp 48) rfl g1 4 rfl _ F4.out ?_
              simp only [Act.put, List.setIfInBounds_toArray, List.set_cons_zero, List.set_cons_succ]
              go_big_quiet_on)
           | (refine q_callv 30 _ _ rfl #[.int .i64 e.vr, .int .i64 0, .int .i64 2147483648] (by rw [List.map_toArray]; rfl) (enters Tryz.func30 (by kernel_rfl) rfl) (.bool false) FI.out ?_
              simp only [Act.put, List.setIfInBounds_toArray, List.set_cons_zero, List.set_cons_succ]
              go_big_quiet_on)
           | (go_big_quiet_op
              go_big_quiet_on)))
      refine wpQuiet_nil ?_
      intro w9 h9
      have HF : Hid (Below w.heap.size w w9) := HZ.out.trans ((CO.out _ h9).mono HZ.out.size)
      clear h9 hCp C0 F0 F2 F3 F4 FE FH FG FB FP FI CO
      go_wp2
      go_ret
      exact ⟨rfl, HF.out⟩
    | true =>
    have Ptv : Hid _ := tru Htv.out
    clear Htv
    obtain rfl : T = tp := Bool.eq_iff_iff.2 (HT.out.trans ⟨fun q => HTP.out.2 q.2.2, fun q => ⟨HGN.out, ⟨Ptt.out, Ptd.out, Ptv.out⟩, HTP.out.1 q⟩⟩)
    go_wp2_with fail
    clear a1 a2 a3 a4 a5 a8 a9 a10
    have hCp : ∀ p : Prop, (∀ W, C W → p) ↔ p := fun p => ⟨fun h => h _ C0.out, fun h _ _ => h⟩
    refine wp_region_quiet (C := C) (by kernel_rfl) (by kernel_rfl) C0.out ?_
    change wpQuiet _ _ _ _ (_ :: _ :: _ :: _ :: _ :: _ :: _ :: _ :: _ :: _ :: _ :: _ :: _ :: _ :: _ :: _ :: _ :: _ :: _ :: _ :: _ :: _ :: _ :: _ :: _ :: _ :: _ :: _ :: []) _
    repeat (first
      | go_big_quiet_skip
      | (go_big_quiet_want
         first
         | (refine q_cell 3 (.inl rfl) (.tmp 48) rfl g1 4 rfl _ F4.out ?_
            simp only [Act.put, List.setIfInBounds_toArray, List.set_cons_zero, List.set_cons_succ]
            go_big_quiet_on)
         | (refine q_callv 30 _ _ rfl #[.int .i64 e.vr, .int .i64 0, .int .i64 2147483648] (by rw [List.map_toArray]; rfl) (enters Tryz.func30 (by kernel_rfl) rfl) (.bool true) FI.out ?_
            simp only [Act.put, List.setIfInBounds_toArray, List.set_cons_zero, List.set_cons_succ]
            go_big_quiet_on)
         | (refine q_load 45 (.tmp 1) rfl g1 0 rfl (eC e na nc ka kc) _ FE.out Tryz.underlying45 rfl (sE HL.out _ _ _ _) ?_
            simp only [Act.put, List.setIfInBounds_toArray, List.set_cons_zero, List.set_cons_succ]
            go_big_quiet_on)
         | (refine q_callv 82 _ _ rfl #[.agg (eC e na nc ka kc).toArray] (by rw [List.map_toArray]; rfl) (enters Tryz.func82 (by kernel_rfl) rfl) (.agg (eC { e with v := nv } none 0 none 0).toArray) FB.out ?_
            simp only [Act.put, List.setIfInBounds_toArray, List.set_cons_zero, List.set_cons_succ]
            go_big_quiet_on)
         | (refine q_cell 3 (.inl rfl) (.tmp 55) rfl g1 0 rfl _ F0.out ?_
            simp only [Act.put, List.setIfInBounds_toArray, List.set_cons_zero, List.set_cons_succ]
            go_big_quiet_on)
         | (refine q_cell 3 (.inl rfl) (.tmp 57) rfl g1 2 rfl _ F2.out ?_
            simp only [Act.put, List.setIfInBounds_toArray, List.set_cons_zero, List.set_cons_succ]
            go_big_quiet_on)
         | (refine q_cell 3 (.inl rfl) (.tmp 59) rfl g1 3 rfl _ F3.out ?_
            simp only [Act.put, List.setIfInBounds_toArray, List.set_cons_zero, List.set_cons_succ]
            go_big_quiet_on)
         | (refine q_cell 3 (.inl rfl) (.tmp 61) rfl g1 4 rfl _ F4.out ?_
            simp only [Act.put, List.setIfInBounds_toArray, List.set_cons_zero, List.set_cons_succ]
            go_big_quiet_on)
         | (refine q_load 23 (.tmp 63) rfl g1 11 rfl (nums .u8 e.h) _ FH.out Tryz.underlying23 rfl (sH HL.out) ?_
            simp only [Act.put, List.setIfInBounds_toArray, List.set_cons_zero, List.set_cons_succ]
            go_big_quiet_on)
         | (refine q_cell 4 (.inr (.inr (.inr (.inr rfl)))) (.tmp 65) rfl g1 43 rfl _ FG.out ?_
            simp only [Act.put, List.setIfInBounds_toArray, List.set_cons_zero, List.set_cons_succ]
            go_big_quiet_on)
         | (refine q_bd 45 _ rfl (eC (⟨2, em, e.tb, e.dc, e.vr, nv, e.h, e.g, 0, 0⟩ : En) none 0 none 0) (bd_2 _ e.tb e.dc e.vr e.h HL.out e.g rfl rfl rfl rfl rfl rfl) ?_
            simp only [Act.put, List.setIfInBounds_toArray, List.set_cons_zero, List.set_cons_succ]
            go_big_quiet_on)
         | (refine q_callv 80 _ _ rfl #[.agg (eC { e with v := nv } none 0 none 0).toArray, .agg (eC (⟨2, em, e.tb, e.dc, e.vr, nv, e.h, e.g, 0, 0⟩ : En) none 0 none 0).toArray] (by rw [List.map_toArray]; rfl) (enters Tryz.func80 (by kernel_rfl) rfl) (.bool T) FP.out ?_
            simp only [Act.put, List.setIfInBounds_toArray, List.set_cons_zero, List.set_cons_succ]
            go_big_quiet_on)
         | (go_big_quiet_op
            go_big_quiet_on)))
    refine wpQuiet_nil ?_
    intro w9 h9
    have HF : Hid (Below w.heap.size w w9) := HZ.out.trans ((CO.out _ h9).mono HZ.out.size)
    clear h9 hCp C0 F0 F2 F3 F4 FE FH FG FB FP FI CO
    go_wp2
    go_ret
    exact ⟨rfl, HF.out⟩
end Go.Proofs.YtlefdnjokppibaaGreatDoor.Sh
