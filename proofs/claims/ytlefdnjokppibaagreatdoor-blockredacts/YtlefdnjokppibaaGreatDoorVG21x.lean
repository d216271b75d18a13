/-
  The contract of block's appendData. · The contract of block's blockBytes.
-/
import Derived.Test.YtlefdnjokppibaaGreatDoorVG20x
namespace Go.Proofs.YtlefdnjokppibaaGreatDoor.Sh
open Go Go.RowKit Math Mt
set_option linter.unusedVariables false
set_option linter.unusedSimpArgs false
def tlB (dl : List Nat) (data : Bool) : List Nat := if data = false ∨ dl = [] then [0] else [1] ++ uv dl.length ++ dl
set_option maxHeartbeats 1000000 in
set_option maxRecDepth 8000 in
theorem apd_no (ov : Value) (k : Int) (ax : Option Addr) (cx : Nat) (v : Value) (l dl : List Nat) (data : Bool) (B : Nat) (w0 w : World) (ho : Own w B v l) (hB : B ≤ w.heap.size) (hd : Byt w0 ax dl) (hb0 : Below w0.heap.size w0 w) (hB0 : w0.heap.size ≤ B) (hnil : ax = none → cx = 0) (hcx : dl.length ≤ cx) (hdl : dl.length ≤ 65536) (hl : l.length ≤ 700000000) (hc : data = false ∨ dl = []) :
    Calls Tryz.prog 77 #[.agg [ov, .slice ax dl.length cx, .int .i64 k].toArray, v, .bool data] w fun e w' => ∃ v', e = .returned v' ∧ Ap B w w' v v' (l ++ [0]) := by
  have HO : Hid (Own w B v l) := ho
  have hlz : data = true → dl.length = 0 := fun h => by
    rcases hc with h1 | h1
    · rw [h] at h1; cases h1
    · rw [h1]; rfl
  clear ho hd hb0 hc
  go_enter Tryz.func77, Tryz.ntmps77
  go_wp2_with (refine al_box rfl 75 (.tmp 0) rfl [ov, .slice ax dl.length cx, .int .i64 k] rfl ?_)
  intro g3 w1 l1 B3 G0
  have Z0 : Hid (Below w.heap.size w w1) := (Below.refl w.heap.size w).grown G0 (Nat.le_refl _) (by simp)
  have HO1 : Hid (Own w1 B v l) := HO.out.below Z0.out
  have z1 := Z0.out.size
  clear G0
  cases data with
  | false =>
    clear hlz B3
    go_wp2_with (at_builtin; go_must (refine ap_bytes rfl (.tmp 15) (.tmp 16) rfl B v l rfl (HO1.out.alloc _) (some ⟨w1.heap.size, 0, none⟩) 1 1 [0] rfl rfl (byt_lit w1 [0]) (by intro h; cases h) (by simp; omega) (by simp; omega) ?_))
    intro v2 w2 A2
    have HA : Hid (Ap B w w2 v v2 (l ++ [0])) := Ap.after (Z0.out.alloc z1 _) A2
    clear A2 HO1
    go_wp2
    go_ret
    exact ⟨v2, rfl, HA.out⟩
  | true =>
    have h0 := hlz rfl
    have cd : w1.cell? ⟨g3, 1, none⟩ = some (.slice ax 0 cx) := by have := B3.cell 1; rw [h0] at this; exact this
    clear hlz h0 B3
    go_wp2_with (at_builtin; go_must (refine ap_bytes rfl (.tmp 15) (.tmp 16) rfl B v l rfl (HO1.out.alloc _) (some ⟨w1.heap.size, 0, none⟩) 1 1 [0] rfl rfl (byt_lit w1 [0]) (by intro h; cases h) (by simp; omega) (by simp; omega) ?_))
    intro v2 w2 A2
    have HA : Hid (Ap B w w2 v v2 (l ++ [0])) := Ap.after (Z0.out.alloc z1 _) A2
    clear A2 HO1
    go_wp2
    go_ret
    exact ⟨v2, rfl, HA.out⟩
set_option maxHeartbeats 1000000 in
set_option maxRecDepth 8000 in
theorem apd_yes (ov : Value) (k : Int) (ax : Option Addr) (cx : Nat) (v : Value) (l dl : List Nat) (data : Bool) (B : Nat) (w0 w : World) (ho : Own w B v l) (hB : B ≤ w.heap.size) (hd : Byt w0 ax dl) (hb0 : Below w0.heap.size w0 w) (hB0 : w0.heap.size ≤ B) (hnil : ax = none → cx = 0) (hcx : dl.length ≤ cx) (hdl : dl.length ≤ 65536) (hl : l.length ≤ 700000000) (hc : dl ≠ []) (hdt : data = true) :
    Calls Tryz.prog 77 #[.agg [ov, .slice ax dl.length cx, .int .i64 k].toArray, v, .bool data] w fun e w' => ∃ v', e = .returned v' ∧ Ap B w w' v v' (l ++ ([1] ++ uv dl.length ++ dl)) := by
  have HO : Hid (Own w B v l) := ho
  have HD : Hid (Byt w0 ax dl ∧ (ax = none → cx = 0)) := ⟨hd, hnil⟩
  have Hb0 : Hid (Below w0.heap.size w0 w) := hb0
  subst hdt
  have hlp : ¬ ((dl.length : Int) = 0) := by have := List.length_pos_iff.2 hc; omega
  have h10 := uv_ten dl.length (by omega)
  clear ho hd hb0 hnil hc
  go_enter Tryz.func77, Tryz.ntmps77
  go_wp2_with (refine al_box rfl 75 (.tmp 0) rfl [ov, .slice ax dl.length cx, .int .i64 k] rfl ?_)
  intro g3 w1 l1 B3 G0
  have Z0 : Hid (Below w.heap.size w w1) := (Below.refl w.heap.size w).grown G0 (Nat.le_refl _) (by simp)
  have HO1 : Hid (Own w1 B v l) := HO.out.below Z0.out
  have z1 := Z0.out.size
  clear G0
  have cd : w1.cell? ⟨g3, 1, none⟩ = some (.slice ax dl.length cx) := B3.cell 1
  have hne0 : Hid (v.ownBlock ≠ some g3) := fun e => by have := (World.ownsRow.lt HO.out _ e).2; omega
  go_wp2_with fail
  obtain ⟨C, hC⟩ : ∃ C : World → Prop, C = fun W => Blk W g3 75 [ov, .slice ax dl.length cx, .int .i64 k] := ⟨_, rfl⟩
  have FD : Hid (∀ W, C W → W.cell? ⟨g3, 1, none⟩ = some (.slice ax dl.length cx)) := fun W hW => by rw [hC] at hW; exact hW.cell 1
  have CA : Hid (∀ W o, C W → C (W.alloc o)) := fun W o h => by rw [hC] at h ⊢; exact h.alloc o
  have CB : Hid (∀ W, C W → Blk W g3 75 [ov, .slice ax dl.length cx, .int .i64 k]) := fun W hW => by rw [hC] at hW; exact hW
  have CP : Hid (∀ (W W' : World) (u u' : Value) (m : List Nat), C W → Ap B W W' u u' m → u.ownBlock ≠ some g3 → C W') := fun W W' u u' m h1 h2 h3 => by rw [hC] at h1 ⊢; exact h2.blk h1 h3
  have C0 : Hid (C { w1 with drawn := w1.drawn + 1 }) := by rw [hC]; exact B3
  have E0 : Hid (Below w.heap.size w { w1 with drawn := w1.drawn + 1 }) := Below.drew Z0.out
  have O0 : Hid (Own { w1 with drawn := w1.drawn + 1 } B v l) := HO1.out.below (Below.drew (Below.refl _ _))
  have hg3 : g3 < ({ w1 with drawn := w1.drawn + 1 } : World).heap.size := B3.lt
  have zy : B ≤ ({ w1 with drawn := w1.drawn + 1 } : World).heap.size := by show B ≤ w1.heap.size; omega
  clear hC cd HO1 Z0
  refine region_calm C 8 (by kernel_rfl) ?_
  have hCp : ∀ p : Prop, (∀ W, C W → p) ↔ p := fun p => ⟨fun h => h _ C0.out, fun h _ _ => h⟩
  generalize ({ w1 with drawn := w1.drawn + 1 } : World) = y0 at *
  refine seg 6 [0, 3, 4] rfl (by kernel_rfl) whole_blind (C0.out) (by kernel_rfl) ?_
  change wpQuiet _ _ _ _ (_ :: _ :: _ :: []) _
  repeat (first
    | go_big_quiet_skip
    | (go_big_quiet_want
       first
       | (refine q_cell 70 (.inr (.inr (.inr (.inl rfl)))) (.tmp 21) rfl g3 1 rfl _ FD.out ?_
          simp only [Act.put, List.setIfInBounds_toArray, List.set_cons_zero, List.set_cons_succ]
          go_big_quiet_on)
       | (go_big_quiet_op
          go_big_quiet_on)))
  refine wpQuiet_nil ?_
  refine len_first (i := 5) 5 rfl (by kernel_rfl) whole_blind (C0.out) (by kernel_rfl) rfl (by rfl) (.tmp 22) 70 rfl 5 Tryz.underlying70 ax dl.length cx rfl ?_
  simp only [Act.put, List.setIfInBounds_toArray, List.set_cons_zero, List.set_cons_succ]
  refine two_do (i := 1) (j := 6) 4 rfl (by kernel_rfl) rfl (by rfl) rfl (by rfl) (fun K hK => ?_) (fun K hK => ?_)
  · refine oper_b1 1 rfl ?_
    have C1 : Hid (C (y0.alloc (.cells #[.int .u8 1] 5))) := CA.out _ _ C0.out
    refine hK _ _ C1.out ?_
    clear hK K
    simp only [Act.put, List.setIfInBounds_toArray, List.set_cons_zero, List.set_cons_succ]
    obtain ⟨y1, hy1⟩ : ∃ y1, Hid (y0.alloc (.cells #[.int .u8 1] 5) = y1) := ⟨_, rfl⟩
    have sy1 : y1.heap.size = y0.heap.size + 1 := by rw [← hy1.out]; simp
    have by1 : Hid (Below y0.heap.size y0 y1) := by rw [← hy1.out]; exact (Below.refl _ _).alloc (Nat.le_refl _) _
    have Y1 : Hid (Byt y1 (some ⟨y0.heap.size, 0, none⟩) [1]) := by rw [← hy1.out]; exact byt_lit y0 [1]
    rw [hy1.out] at C1 ⊢
    clear hy1
    refine two_do (i := 2) (j := 6) 3 rfl (by kernel_rfl) rfl (by rfl) rfl (by rfl) (fun K hK => ?_) (fun K hK => ?_)
    · refine oper_apb (.tmp 18) (.tmp 19) rfl B v l rfl (O0.out.below by1.out) (some ⟨y0.heap.size, 0, none⟩) 1 1 [1] rfl rfl Y1.out (by intro h; cases h) (by simp; omega) (by omega) ?_
      intro v2 y2 A2
      have C2 : Hid (C y2) := CP.out _ _ _ _ _ C1.out A2 hne0.out
      refine hK _ _ C2.out ?_
      clear hK K
      simp only [Act.put, List.setIfInBounds_toArray, List.set_cons_zero, List.set_cons_succ]
      have s2 := A2.gr.size
      refine lone_do (i := 6) 2 rfl (by kernel_rfl) rfl (by rfl) ?_
      intro K hK
      refine oper_i1 23 rfl (dl.length : Int) rfl ?_
      have C3 : Hid (C (y2.alloc (.cells #[.int .i64 (dl.length : Int)] 3))) := CA.out _ _ C2.out
      refine hK _ _ C3.out ?_
      clear hK K
      simp only [Act.put, List.setIfInBounds_toArray, List.set_cons_zero, List.set_cons_succ]
      obtain ⟨y3, hy3⟩ : ∃ y3, Hid (y2.alloc (.cells #[.int .i64 (dl.length : Int)] 3) = y3) := ⟨_, rfl⟩
      have sy3 : y3.heap.size = y2.heap.size + 1 := by rw [← hy3.out]; simp
      have by3 : Hid (Below y2.heap.size y2 y3) := by rw [← hy3.out]; exact (Below.refl _ _).alloc (Nat.le_refl _) _
      have I1 : Hid (IntsM y3 y2.heap.size [(dl.length : Int)]) := by rw [← hy3.out]; exact ints_new y2 [(dl.length : Int)]
      rw [hy3.out] at C3 ⊢
      clear hy3
      have O2 := A2.own.below by3.out
      have hv2 : v2.ownBlock ≠ some g3 := fun e => by
        rcases A2.ob g3 e with h | h
        · exact hne0.out h
        · omega
      have hn2 : v2.ownBlock ≠ some y2.heap.size := fun e => by have := (World.ownsRow.lt A2.own _ e).2; omega
      refine lone_do (i := 7) 1 rfl (by kernel_rfl) rfl (by rfl) ?_
      intro K hK
      refine oper_call 64 _ _ rfl #[v2, .slice (some ⟨y2.heap.size, 0, none⟩) 1 1] (by rw [List.map_toArray]; rfl) (enters Tryz.func64 (by kernel_rfl) rfl) (fun u w' => Ap B y3 w' v2 u ((l ++ [1]) ++ uv dl.length)) (by have K := apn_any v2 (l ++ [1]) [(dl.length : Int)] (fun n hn => by rw [List.mem_singleton.1 hn]; exact ⟨by omega, by omega⟩) (by simp) y2.heap.size 1 B y3 O2 (by omega) (by simp; omega) I1.out hn2 (by omega); exact K.mono (by rintro e w' ⟨u, rfl, h⟩; exact ⟨u, rfl, by simpa [uvI] using h⟩)) ?_
      rintro v3 y5 A3
      have hn3 : v2.ownBlock ≠ some g3 := hv2
      have C5 : Hid (C y5) := CP.out _ _ _ _ _ C3.out A3 hn3
      refine hK _ _ (C5.out) ?_
      clear hK K
      simp only [Act.put, List.setIfInBounds_toArray, List.set_cons_zero, List.set_cons_succ]
      have HF : Hid (Ap B w y5 v v3 ((l ++ [1]) ++ uv dl.length)) := Ap.after E0.out (Ap.after by1.out (A2.trans (Ap.after by3.out A3)))
      clear A3 A2
      refine lone_calm (i := 8) 0 rfl (by kernel_rfl) rfl rfl (C5.out) ?_
      repeat (first
        | go_big_quiet_skip
        | (go_big_quiet_want
           first
           | (go_big_quiet_op
              go_big_quiet_on)))
      refine wpQuiet_nil ?_
      refine anyC_done (by kernel_rfl) ⟨rfl, ?_⟩
      have B5 := CB.out _ C5.out
      have ZE : Hid (Below w0.heap.size w0 y5) := HF.out.below HO.out Hb0.out Hb0.out.size hB0
      have z5 := HF.out.gr.size
      have HY : Hid (Byt y5 ax dl) := HD.out.1.below ZE.out
      have hnil := HD.out.2
      have cd : y5.cell? ⟨g3, 1, none⟩ = some (.slice ax dl.length cx) := B5.cell 1
      clear CA CB CP FD hCp C0 C5 B5 ZE HD Hb0
      go_wp2_with (at_builtin; go_must (refine ap_bytes rfl (.tmp 26) (.tmp 28) rfl B v3 _ rfl HF.out.own ax _ cx dl rfl rfl HY.out hnil (by simp only [List.length_append, List.length_singleton]; omega) (by omega) ?_))
      intro v4 w6 A4
      have HG : Hid (Ap B w w6 v v4 (l ++ ([1] ++ uv dl.length ++ dl))) := by
        have h := HF.out.trans A4
        show Ap B w w6 v v4 (l ++ ([1] ++ uv dl.length ++ dl))
        simpa using h
      clear A4 HF HY
      go_wp2
      go_ret
      exact ⟨v4, rfl, HG.out⟩
    · refine oper_i1 23 rfl (dl.length : Int) rfl ?_
      have C2 : Hid (C (y1.alloc (.cells #[.int .i64 (dl.length : Int)] 3))) := CA.out _ _ C1.out
      refine hK _ _ C2.out ?_
      clear hK K
      simp only [Act.put, List.setIfInBounds_toArray, List.set_cons_zero, List.set_cons_succ]
      obtain ⟨y2, hy2⟩ : ∃ y2, Hid (y1.alloc (.cells #[.int .i64 (dl.length : Int)] 3) = y2) := ⟨_, rfl⟩
      have sy2 : y2.heap.size = y1.heap.size + 1 := by rw [← hy2.out]; simp
      have by2 : Hid (Below y1.heap.size y1 y2) := by rw [← hy2.out]; exact (Below.refl _ _).alloc (Nat.le_refl _) _
      have I1 : Hid (IntsM y2 y1.heap.size [(dl.length : Int)]) := by rw [← hy2.out]; exact ints_new y1 [(dl.length : Int)]
      rw [hy2.out] at C2 ⊢
      clear hy2
      refine lone_do (i := 2) 2 rfl (by kernel_rfl) rfl (by rfl) ?_
      intro K hK
      refine oper_apb (.tmp 18) (.tmp 19) rfl B v l rfl ((O0.out.below by1.out).below by2.out) (some ⟨y0.heap.size, 0, none⟩) 1 1 [1] rfl rfl (Y1.out.below by2.out) (by intro h; cases h) (by simp; omega) (by omega) ?_
      intro v2 y3 A2
      have C3 : Hid (C y3) := CP.out _ _ _ _ _ C2.out A2 hne0.out
      refine hK _ _ C3.out ?_
      clear hK K
      simp only [Act.put, List.setIfInBounds_toArray, List.set_cons_zero, List.set_cons_succ]
      have s2 := A2.gr.size
      have O2 := A2.own
      have hv2 : v2.ownBlock ≠ some g3 := fun e => by
        rcases A2.ob g3 e with h | h
        · exact hne0.out h
        · omega
      have hvl : ∀ x, v.ownBlock = some x → x < y0.heap.size := fun x e => (World.ownsRow.lt O0.out x e).2
      have hn2 : v2.ownBlock ≠ some y1.heap.size := fun e => by
        rcases A2.ob _ e with h | h
        · have := hvl _ h; omega
        · omega
      have I2 : IntsM y3 y1.heap.size [(dl.length : Int)] := fun i n h => (cell_keep (A2.gr.block y1.heap.size (by omega) (fun e => by have := hvl _ e.symm; omega))).trans (I1.out i n h)
      refine lone_do (i := 7) 1 rfl (by kernel_rfl) rfl (by rfl) ?_
      intro K hK
      refine oper_call 64 _ _ rfl #[v2, .slice (some ⟨y1.heap.size, 0, none⟩) 1 1] (by rw [List.map_toArray]; rfl) (enters Tryz.func64 (by kernel_rfl) rfl) (fun u w' => Ap B y3 w' v2 u ((l ++ [1]) ++ uv dl.length)) (by have K := apn_any v2 (l ++ [1]) [(dl.length : Int)] (fun n hn => by rw [List.mem_singleton.1 hn]; exact ⟨by omega, by omega⟩) (by simp) y1.heap.size 1 B y3 O2 (by omega) (by simp; omega) I2 hn2 (by omega); exact K.mono (by rintro e w' ⟨u, rfl, h⟩; exact ⟨u, rfl, by simpa [uvI] using h⟩)) ?_
      rintro v3 y5 A3
      have hn3 : v2.ownBlock ≠ some g3 := hv2
      have C5 : Hid (C y5) := CP.out _ _ _ _ _ C3.out A3 hn3
      refine hK _ _ (C5.out) ?_
      clear hK K
      simp only [Act.put, List.setIfInBounds_toArray, List.set_cons_zero, List.set_cons_succ]
      have HF : Hid (Ap B w y5 v v3 ((l ++ [1]) ++ uv dl.length)) := Ap.after E0.out (Ap.after by1.out (Ap.after by2.out (A2.trans A3)))
      clear A3 A2
      refine lone_calm (i := 8) 0 rfl (by kernel_rfl) rfl rfl (C5.out) ?_
      repeat (first
        | go_big_quiet_skip
        | (go_big_quiet_want
           first
           | (go_big_quiet_op
              go_big_quiet_on)))
      refine wpQuiet_nil ?_
      refine anyC_done (by kernel_rfl) ⟨rfl, ?_⟩
      have B5 := CB.out _ C5.out
      have ZE : Hid (Below w0.heap.size w0 y5) := HF.out.below HO.out Hb0.out Hb0.out.size hB0
      have z5 := HF.out.gr.size
      have HY : Hid (Byt y5 ax dl) := HD.out.1.below ZE.out
      have hnil := HD.out.2
      have cd : y5.cell? ⟨g3, 1, none⟩ = some (.slice ax dl.length cx) := B5.cell 1
      clear CA CB CP FD hCp C0 C5 B5 ZE HD Hb0
      go_wp2_with (at_builtin; go_must (refine ap_bytes rfl (.tmp 26) (.tmp 28) rfl B v3 _ rfl HF.out.own ax _ cx dl rfl rfl HY.out hnil (by simp only [List.length_append, List.length_singleton]; omega) (by omega) ?_))
      intro v4 w6 A4
      have HG : Hid (Ap B w w6 v v4 (l ++ ([1] ++ uv dl.length ++ dl))) := by
        have h := HF.out.trans A4
        show Ap B w w6 v v4 (l ++ ([1] ++ uv dl.length ++ dl))
        simpa using h
      clear A4 HF HY
      go_wp2
      go_ret
      exact ⟨v4, rfl, HG.out⟩
  · refine oper_i1 23 rfl (dl.length : Int) rfl ?_
    have C1 : Hid (C (y0.alloc (.cells #[.int .i64 (dl.length : Int)] 3))) := CA.out _ _ C0.out
    refine hK _ _ C1.out ?_
    clear hK K
    simp only [Act.put, List.setIfInBounds_toArray, List.set_cons_zero, List.set_cons_succ]
    obtain ⟨y1, hy1⟩ : ∃ y1, Hid (y0.alloc (.cells #[.int .i64 (dl.length : Int)] 3) = y1) := ⟨_, rfl⟩
    have sy1 : y1.heap.size = y0.heap.size + 1 := by rw [← hy1.out]; simp
    have by1 : Hid (Below y0.heap.size y0 y1) := by rw [← hy1.out]; exact (Below.refl _ _).alloc (Nat.le_refl _) _
    have I1 : Hid (IntsM y1 y0.heap.size [(dl.length : Int)]) := by rw [← hy1.out]; exact ints_new y0 [(dl.length : Int)]
    rw [hy1.out] at C1 ⊢
    clear hy1
    refine lone_do (i := 1) 3 rfl (by kernel_rfl) rfl (by rfl) ?_
    intro K hK
    refine oper_b1 1 rfl ?_
    have C2 : Hid (C (y1.alloc (.cells #[.int .u8 1] 5))) := CA.out _ _ C1.out
    refine hK _ _ C2.out ?_
    clear hK K
    simp only [Act.put, List.setIfInBounds_toArray, List.set_cons_zero, List.set_cons_succ]
    obtain ⟨y2, hy2⟩ : ∃ y2, Hid (y1.alloc (.cells #[.int .u8 1] 5) = y2) := ⟨_, rfl⟩
    have sy2 : y2.heap.size = y1.heap.size + 1 := by rw [← hy2.out]; simp
    have by2 : Hid (Below y1.heap.size y1 y2) := by rw [← hy2.out]; exact (Below.refl _ _).alloc (Nat.le_refl _) _
    have Y1 : Hid (Byt y2 (some ⟨y1.heap.size, 0, none⟩) [1]) := by rw [← hy2.out]; exact byt_lit y1 [1]
    rw [hy2.out] at C2 ⊢
    clear hy2
    refine lone_do (i := 2) 2 rfl (by kernel_rfl) rfl (by rfl) ?_
    intro K hK
    refine oper_apb (.tmp 18) (.tmp 19) rfl B v l rfl ((O0.out.below by1.out).below by2.out) (some ⟨y1.heap.size, 0, none⟩) 1 1 [1] rfl rfl Y1.out (by intro h; cases h) (by simp; omega) (by omega) ?_
    intro v2 y3 A2
    have C3 : Hid (C y3) := CP.out _ _ _ _ _ C2.out A2 hne0.out
    refine hK _ _ C3.out ?_
    clear hK K
    simp only [Act.put, List.setIfInBounds_toArray, List.set_cons_zero, List.set_cons_succ]
    have s2 := A2.gr.size
    have O2 := A2.own
    have hv2 : v2.ownBlock ≠ some g3 := fun e => by
      rcases A2.ob g3 e with h | h
      · exact hne0.out h
      · omega
    have hvl : ∀ x, v.ownBlock = some x → x < y0.heap.size := fun x e => (World.ownsRow.lt O0.out x e).2
    have hn2 : v2.ownBlock ≠ some y0.heap.size := fun e => by
      rcases A2.ob _ e with h | h
      · have := hvl _ h; omega
      · omega
    have I2 : IntsM y3 y0.heap.size [(dl.length : Int)] := fun i n h => (cell_keep ((A2.gr.block y0.heap.size (by omega) (fun e => by have := hvl _ e.symm; omega)).trans (by2.out.block y0.heap.size (by omega)))).trans (I1.out i n h)
    refine lone_do (i := 7) 1 rfl (by kernel_rfl) rfl (by rfl) ?_
    intro K hK
    refine oper_call 64 _ _ rfl #[v2, .slice (some ⟨y0.heap.size, 0, none⟩) 1 1] (by rw [List.map_toArray]; rfl) (enters Tryz.func64 (by kernel_rfl) rfl) (fun u w' => Ap B y3 w' v2 u ((l ++ [1]) ++ uv dl.length)) (by have K := apn_any v2 (l ++ [1]) [(dl.length : Int)] (fun n hn => by rw [List.mem_singleton.1 hn]; exact ⟨by omega, by omega⟩) (by simp) y0.heap.size 1 B y3 O2 (by omega) (by simp; omega) I2 hn2 (by omega); exact K.mono (by rintro e w' ⟨u, rfl, h⟩; exact ⟨u, rfl, by simpa [uvI] using h⟩)) ?_
    rintro v3 y5 A3
    have hn3 : v2.ownBlock ≠ some g3 := hv2
    have C5 : Hid (C y5) := CP.out _ _ _ _ _ C3.out A3 hn3
    refine hK _ _ (C5.out) ?_
    clear hK K
    simp only [Act.put, List.setIfInBounds_toArray, List.set_cons_zero, List.set_cons_succ]
    have HF : Hid (Ap B w y5 v v3 ((l ++ [1]) ++ uv dl.length)) := Ap.after E0.out (Ap.after by1.out (Ap.after by2.out (A2.trans A3)))
    clear A3 A2
    refine lone_calm (i := 8) 0 rfl (by kernel_rfl) rfl rfl (C5.out) ?_
    repeat (first
      | go_big_quiet_skip
      | (go_big_quiet_want
         first
         | (go_big_quiet_op
            go_big_quiet_on)))
    refine wpQuiet_nil ?_
    refine anyC_done (by kernel_rfl) ⟨rfl, ?_⟩
    have B5 := CB.out _ C5.out
    have ZE : Hid (Below w0.heap.size w0 y5) := HF.out.below HO.out Hb0.out Hb0.out.size hB0
    have z5 := HF.out.gr.size
    have HY : Hid (Byt y5 ax dl) := HD.out.1.below ZE.out
    have hnil := HD.out.2
    have cd : y5.cell? ⟨g3, 1, none⟩ = some (.slice ax dl.length cx) := B5.cell 1
    clear CA CB CP FD hCp C0 C5 B5 ZE HD Hb0
    go_wp2_with (at_builtin; go_must (refine ap_bytes rfl (.tmp 26) (.tmp 28) rfl B v3 _ rfl HF.out.own ax _ cx dl rfl rfl HY.out hnil (by simp only [List.length_append, List.length_singleton]; omega) (by omega) ?_))
    intro v4 w6 A4
    have HG : Hid (Ap B w w6 v v4 (l ++ ([1] ++ uv dl.length ++ dl))) := by
      have h := HF.out.trans A4
      show Ap B w w6 v v4 (l ++ ([1] ++ uv dl.length ++ dl))
      simpa using h
    clear A4 HF HY
    go_wp2
    go_ret
    exact ⟨v4, rfl, HG.out⟩
theorem apd_any (ov : Value) (k : Int) (ax : Option Addr) (cx : Nat) (v : Value) (l dl : List Nat) (data : Bool) (B : Nat) (w0 w : World) (ho : Own w B v l) (hB : B ≤ w.heap.size) (hd : Byt w0 ax dl) (hb0 : Below w0.heap.size w0 w) (hB0 : w0.heap.size ≤ B) (hnil : ax = none → cx = 0) (hcx : dl.length ≤ cx) (hdl : dl.length ≤ 65536) (hl : l.length ≤ 700000000) :
    Calls Tryz.prog 77 #[.agg [ov, .slice ax dl.length cx, .int .i64 k].toArray, v, .bool data] w fun e w' => ∃ v', e = .returned v' ∧ Ap B w w' v v' (l ++ tlB dl data) := by
  unfold tlB
  by_cases hc : data = false ∨ dl = []
  · rw [if_pos hc]; exact apd_no ov k ax cx v l dl data B w0 w ho hB hd hb0 hB0 hnil hcx hdl hl hc
  · rw [if_neg hc]; exact apd_yes ov k ax cx v l dl data B w0 w ho hB hd hb0 hB0 hnil hcx hdl hl (fun h => hc (.inr h)) (by cases data; exact absurd (.inl rfl) hc; rfl)
end Go.Proofs.YtlefdnjokppibaaGreatDoor.Sh
namespace Go.Proofs.YtlefdnjokppibaaGreatDoor.Sh
open Go Go.RowKit Math Mt
set_option linter.unusedVariables false
set_option linter.unusedSimpArgs false
/-- An entry as bytes, as block's packed has it. -/
structure Pk where
  oa : Option Addr
  oc : Nat
  ol : List Nat
  da : Option Addr
  dc : Nat
  dl : List Nat
  k : Int
def pC (p : Pk) : List Value := [.slice p.oa p.ol.length p.oc, .slice p.da p.dl.length p.dc, .int .i64 p.k]
def pkB (data : Bool) (p : Pk) : List Nat := p.ol ++ (if p.k = 2 then tlB p.dl data else [])
structure PkO (w : World) (p : Pk) : Prop where
  own : Byt w p.oa p.ol
  onil : p.oa = none → p.oc = 0
  dat : Byt w p.da p.dl
  dnil : p.da = none → p.dc = 0
  dcap : p.dl.length ≤ p.dc
  ocap : p.ol.length ≤ p.oc
  olen : p.ol.length ≤ 5000
  dlen : p.dl.length ≤ 65536
  ooct : Oct p.ol
/-- Entries as bytes, in memory. -/
def PkM (w : World) (a : Option Addr) (ps : List Pk) : Prop := ps = [] ∨ ∃ b o, a = some ⟨b, o, none⟩ ∧ ∀ i p, ps[i]? = some p → w.rangeAt b (o + i * 3) (pC p) ∧ PkO w p
theorem PkO.below {w w' : World} {p : Pk} (h : PkO w p) (g : Below w.heap.size w w') : PkO w' p := ⟨h.own.below g, h.onil, h.dat.below g, h.dnil, h.dcap, h.ocap, h.olen, h.dlen, h.ooct⟩
theorem PkM.below {w w' : World} {a : Option Addr} {ps : List Pk} (h : PkM w a ps) (g : Below w.heap.size w w') : PkM w' a ps := by
  rcases h with h | ⟨b, o, rfl, h⟩
  · exact .inl h
  · exact .inr ⟨b, o, rfl, fun i p hp => ⟨range_below (h i p hp).1 g, (h i p hp).2.below g⟩⟩
theorem pC_one (p : Pk) : ∀ u ∈ pC p, u.oneCell' = true := by
  intro u hu
  unfold pC at hu
  simp only [List.mem_cons, List.not_mem_nil, or_false] at hu
  rcases hu with rfl | rfl | rfl <;> rfl
theorem szK (p : Pk) : (Tryz.prog.info? 75).map (·.size) = some (pC p).length := by
  have : (Tryz.prog.info? 75).map (·.size) = some 3 := by kernel_rfl
  rw [this]; rfl
def pZ : List Value := [.slice none 0 0, .slice none 0 0, .int .i64 0]
theorem zK : (Tryz.prog.info? 75).map (fun i => i.zero.map (·.cells)) = some (some pZ.toArray) := by kernel_rfl
theorem own_mono {w : World} {B B' : Nat} {v : Value} {l : List Nat} (h : Own w B v l) (hb : B' ≤ B) : Own w B' v l := by
  rcases h with ⟨h1, h2 | ⟨g, cap, cur, e1, e2, e3⟩⟩
  · exact ⟨h1, .inl h2⟩
  · exact ⟨h1, .inr ⟨g, cap, cur, e1, Nat.le_trans hb e2, e3⟩⟩
theorem pk_take (data : Bool) (ps : List Pk) (k : Nat) (p : Pk) (h : ps[k]? = some p) : (ps.take (k + 1)).flatMap (pkB data) = (ps.take k).flatMap (pkB data) ++ pkB data p := by
  obtain ⟨h1, h2⟩ := List.getElem?_eq_some_iff.1 h
  rw [List.take_succ_eq_append_getElem h1, List.flatMap_append, h2]
  simp
theorem tlB_len {dl : List Nat} (h : dl.length ≤ 65536) (d : Bool) : (tlB dl d).length ≤ 65600 := by
  have := uv_ten dl.length (by omega)
  unfold tlB
  split
  · simp
  · simp only [List.length_append, List.length_singleton]; omega
theorem pkB_len {w : World} {p : Pk} (h : PkO w p) (d : Bool) : (pkB d p).length ≤ 70600 := by
  have a := h.olen
  have b := tlB_len h.dlen d
  unfold pkB
  rw [List.length_append]
  split
  · omega
  · simp; omega
theorem pks_len {w : World} (d : Bool) : ∀ {ps : List Pk}, (∀ p ∈ ps, PkO w p) → (ps.flatMap (pkB d)).length ≤ 70600 * ps.length
  | [], _ => by simp
  | p :: r, h => by
    have a := pkB_len (h p (by simp)) d
    have b := pks_len d (ps := r) fun q hq => h q (by simp [hq])
    simp only [List.flatMap_cons, List.length_append, List.length_cons]
    omega
/-- While the entries are written. -/
structure BInv (w wr : World) (v : Value) (H : List Nat) (data : Bool) (ps : List Pk) (k : Nat) (l : List Nat) : Prop where
  own : Own wr w.heap.size v l
  bl : Below w.heap.size w wr
  eq : l = H ++ (ps.take k).flatMap (pkB data)
set_option maxHeartbeats 2000000 in
set_option maxRecDepth 8000 in
theorem bby_any (b : Bk) (hb : BkW b) (a : Option Addr) (c : Nat) (ps : List Pk) (hn : ps.length ≤ 200) (ae : Option Addr) (ce : Nat) (data : Bool) (w : World) (hP : PkM w ae ps) :
    Calls Tryz.prog 51 #[.agg (bC b a c).toArray, .slice ae ps.length ce, .bool data] w fun e w' => ∃ v', e = .returned v' ∧ Own w' w.heap.size v' (hedB b ++ uv ps.length ++ ps.flatMap (pkB data)) ∧ Below w.heap.size w w' := by
  have HL : Hid (b.pv.length = 32) := hb.pv.1
  have HB : Hid (BkW b) := hb
  have HP : Hid (PkM w ae ps) := hP
  obtain ⟨H, hH⟩ : ∃ H, Hid (hedB b ++ [(ps.length : Int)].flatMap uvI = H) := ⟨_, rfl⟩
  have hH1 : Hid (H.length ≤ 72) := by
    have h1 := hed_len hb
    have h2 := uv_ten ps.length (by omega)
    show _ ≤ _
    rw [← hH.out]
    have e : [(ps.length : Int)].flatMap uvI = uv ps.length := by simp [uvI]
    rw [e, List.length_append]
    omega
  have HE : Hid (hedB b ++ uv ps.length ++ ps.flatMap (pkB data) = H ++ ps.flatMap (pkB data)) := by show _ = _; rw [← hH.out]; simp [uvI]
  rw [HE.out]
  have HLn : Hid (∀ k, ((ps.take k).flatMap (pkB data)).length ≤ 15000000) := fun k => by
    have h1 := pks_len (w := w) data (ps := ps.take k) fun p hp => by
      rcases hP with h | ⟨bb, oo, _, h⟩
      · rw [h] at hp; simp at hp
      · obtain ⟨i, hi⟩ := List.getElem?_of_mem (List.mem_of_mem_take hp)
        exact (h i p hi).2
    have h2 : (ps.take k).length ≤ 200 := by rw [List.length_take]; omega
    omega
  clear hb hP HE
  go_enter Tryz.func51, Tryz.ntmps51
  go_wp2_with (refine al_box rfl 26 (.tmp 0) rfl (bC b a c) rfl ?_)
  intro gb w1 l1 BB G0
  have Z := (Below.refl w.heap.size w).grown G0 (Nat.le_refl _) (by simp)
  have z1 := Z.size
  clear G0
  have KR := hed_any b HB.out a c w1
  go_wp2_with (refine ld_w (by rfl) 26 (.tmp 3) rfl gb 0 rfl (bC b a c) _ BB.all Tryz.underlying26 rfl (sB HL.out _ _) ?_)
  refine KR.mono ?_
  rintro e w2 ⟨v2, rfl, o2, Z0⟩
  have O2 := own_mono o2 z1
  have Z := Z.trans (Z0.mono Z.size)
  have z2 := Z.size
  clear KR Z0 o2 BB
  have KA : Calls Tryz.prog 64 #[v2, .slice (some ⟨w2.heap.size, 0, none⟩) 1 1] (w2.alloc (.cells #[.int .i64 (ps.length : Int)] 3)) _ := apn_new v2 (hedB b) [(ps.length : Int)] (fun n h => by rw [List.mem_singleton.1 h]; exact ⟨by omega, by omega⟩) (by simp) w.heap.size w2 O2 z2 (by have := hed_len HB.out; omega)
  rw [hH.out] at KA
  have HO2 : Hid (Own w2 w.heap.size v2 (hedB b)) := O2
  clear O2
  go_wp2_with fail
  refine KA.mono ?_
  rintro e w3 ⟨v3, rfl, A3⟩
  have HI0 : Hid (BInv w w3 v3 H data ps 0 H) := ⟨A3.own, A3.below HO2.out Z z2 (Nat.le_refl _), by simp⟩
  clear KA A3 HO2 Z z2 z1
  go_wp2
  go_loopw [7, 18] (fun vb i wr => ∃ (k : Nat) (l : List Nat), k ≤ ps.length ∧ i = .int .i64 (k : Int) ∧ Hid (BInv w wr vb H data ps k l)) (fun _ i _ => ps.length - (intOf i).toNat)
  case atStart => exact ⟨0, H, by omega, rfl, HI0.out⟩
  case round =>
    clear HI0
    obtain ⟨k, l, hk, rfl, HK⟩ := hrel
    by_cases hlt : k < ps.length
    case neg =>
      have HF : Hid (Own wr w.heap.size u7 (H ++ ps.flatMap (pkB data)) ∧ Below w.heap.size w wr) := by
        have h := HK.out.own
        rw [HK.out.eq, List.take_of_length_le (by omega)] at h
        exact ⟨h, HK.out.bl⟩
      go_wp2
      go_ret
      exact ⟨_, rfl, HF.out⟩
    obtain ⟨p, hp⟩ : ∃ p, ps[k]? = some p := ⟨_, List.getElem?_eq_getElem hlt⟩
    obtain ⟨bb, oo, rfl, hr⟩ : ∃ b o, ae = some ⟨b, o, none⟩ ∧ (w.rangeAt b (o + k * 3) (pC p) ∧ PkO w p) := by
      rcases HP.out with h | ⟨b, o, e, h⟩
      · rw [h] at hlt; simp at hlt
      · exact ⟨b, o, e, h k p hp⟩
    have HPO : Hid (PkO w p) := hr.2
    have rl := range_below hr.1 HK.out.bl
    have zr := HK.out.bl.size
    have hl : l.length ≤ 15000072 := by rw [HK.out.eq, List.length_append]; have := HLn.out k; have := hH1.out; omega
    have HT : Hid ((ps.take (k + 1)).flatMap (pkB data) = (ps.take k).flatMap (pkB data) ++ pkB data p) := pk_take data ps k p hp
    have h5 := hr.2.olen
    clear hr hp
    go_wp2_with (first | (refine ld_w (by rfl) 75 (.tmp 20) rfl bb (oo + k * 3) (by first | rfl | simp [Act.eval]) (pC p) _ rl Tryz.underlying75 rfl (szK p) ?_) | (refine al_zero rfl 75 rfl pZ zK ?_))
    intro g9 w6 hg9 B9 G6
    have Z6 := (Below.refl wr.heap.size wr).grown G6 (Nat.le_refl _) (by simp)
    clear G6 rl
    go_wp2_with (refine st_all rfl 75 (.tmp 9) (.tmp 21) rfl g9 75 pZ (pC p) rfl rfl B9 rfl (szK p) (pC_one p) ?_)
    intro w7 B7 G7
    have Z7 := Sh.grown_below Z6 G7 Z6.size hg9
    clear G7 B9 Z6
    have HZ7 : Hid (Below wr.heap.size wr w7) := Z7
    have HB7 : Hid (Blk w7 g9 75 (pC p)) := B7
    have Hb7 : Hid (Below w.heap.size w w7) := HK.out.bl.trans (Z7.mono zr)
    have HO7 : Hid (Own w7 w.heap.size u7 l) := HK.out.own.below Z7
    have z7 := Hb7.out.size
    have co : w7.cell? ⟨g9, 0, none⟩ = some (.slice p.oa p.ol.length p.oc) := B7.cell 0
    have HY : Hid (Byt w7 p.oa p.ol) := HPO.out.own.below Hb7.out
    have hnl := HPO.out.onil
    have hne : Hid (u7.ownBlock ≠ some g9) := fun e => by have := (World.ownsRow.lt HK.out.own _ e).2; omega
    have h9 : g9 < w7.heap.size := B7.lt
    clear Z7 B7
    go_wp2_with (at_builtin; go_must (refine ap_bytes rfl (.tmp 22) (.tmp 24) rfl w.heap.size u7 l rfl HO7.out p.oa _ p.oc p.ol rfl rfl HY.out hnl (by omega) z7 ?_))
    intro v8 w8 A8
    have HA8 : Hid (Ap w.heap.size w7 w8 u7 v8 (l ++ p.ol)) := A8
    have HB8 : Hid (Blk w8 g9 75 (pC p)) := A8.blk HB7.out hne.out
    have Hb8 : Hid (Below w.heap.size w w8) := A8.below HO7.out Hb7.out z7 (Nat.le_refl _)
    have z8 := Hb8.out.size
    have ck : w8.cell? ⟨g9, 2, none⟩ = some (.int .i64 p.k) := HB8.out.cell 2
    clear A8 co HY
    by_cases hk2 : p.k = 2
    · have hkb : (p.k == 2) = true := by rw [hk2]; rfl
      have KD := apd_any (.slice p.oa p.ol.length p.oc) p.k p.da p.dc v8 (l ++ p.ol) p.dl data w.heap.size w w8 HA8.out.own z8 HPO.out.dat Hb8.out (Nat.le_refl _) HPO.out.dnil HPO.out.dcap HPO.out.dlen (by rw [List.length_append]; omega)
      replace KD : Calls Tryz.prog 77 #[.agg (pC p).toArray, v8, .bool data] w8 _ := KD
      have HQ : Hid (pkB data p = p.ol ++ tlB p.dl data) := by show _ = _; unfold pkB; rw [if_pos hk2]
      clear hk2
      go_wp2_with (refine ld_w (by rfl) 75 (.tmp 9) rfl g9 0 rfl (pC p) _ HB8.out.all Tryz.underlying75 rfl (szK p) ?_)
      refine KD.mono ?_
      rintro e w9 ⟨v9, rfl, A9⟩
      have HI : Hid (BInv w w9 v9 H data ps (k + 1) (l ++ pkB data p)) := by
        refine ⟨?_, A9.below HA8.out.own Hb8.out z8 (Nat.le_refl _), by rw [HT.out, HK.out.eq, List.append_assoc]⟩
        rw [HQ.out, ← List.append_assoc]; exact A9.own
      clear A9 KD HA8 HB8 Hb8 HO7 HB7 HK ck
      go_wp2
      go_roundw
      case rel => exact ⟨k + 1, _, by omega, by go_num, HI.out⟩
      case measure => simp [intOf]; omega
    · have hkb : (p.k == 2) = false := beq_eq_false_iff_ne.2 hk2
      have HI : Hid (BInv w w8 v8 H data ps (k + 1) (l ++ pkB data p)) := by
        refine ⟨?_, Hb8.out, by rw [HT.out, HK.out.eq, List.append_assoc]⟩
        unfold pkB
        rw [if_neg hk2, List.append_nil]; exact HA8.out.own
      clear hk2 HA8 HB8 Hb8 HO7 HB7 HK
      go_wp2
      go_roundw
      case rel => exact ⟨k + 1, _, by omega, by go_num, HI.out⟩
      case measure => simp [intOf]; omega
end Go.Proofs.YtlefdnjokppibaaGreatDoor.Sh
