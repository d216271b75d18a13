/-
  The contract of block's appendData.
-/
import Derived.Test.YtmbglggodifboabRG23x
namespace Go.Proofs.Ytmbglggodifboab.Sh
open Go Go.RowKit Math Mt
set_option linter.unusedVariables false
set_option linter.unusedSimpArgs false
def tlB (dl : List Nat) (data : Bool) : List Nat := if data = false ∨ dl = [] then [0] else [1] ++ uv dl.length ++ dl
set_option maxHeartbeats 1000000 in
set_option maxRecDepth 8000 in
theorem apd_no (ov : Value) (k : Int) (ax : Option Addr) (cx : Nat) (v : Value) (l dl : List Nat) (data : Bool) (B : Nat) (w0 w : World) (ho : Own w B v l) (hB : B ≤ w.heap.size) (hd : Byt w0 ax dl) (hb0 : Below w0.heap.size w0 w) (hB0 : w0.heap.size ≤ B) (hnil : ax = none → cx = 0) (hcx : dl.length ≤ cx) (hdl : dl.length ≤ 65536) (hl : l.length ≤ 700000000) (hc : data = false ∨ dl = []) :
    Calls Try.prog 23 #[.agg [ov, .slice ax dl.length cx, .int .i64 k].toArray, v, .bool data] w fun e w' => ∃ v', e = .returned v' ∧ Ap B w w' v v' (l ++ [0]) := by
  have HO : Hid (Own w B v l) := ho
  have hlz : data = true → dl.length = 0 := fun h => by
    rcases hc with h1 | h1
    · rw [h] at h1; cases h1
    · rw [h1]; rfl
  clear ho hd hb0 hc
  go_enter Try.func23, Try.ntmps23
  go_wp2_with (refine al_box rfl 61 (.tmp 0) rfl [ov, .slice ax dl.length cx, .int .i64 k] rfl ?_)
  intro g3 w1 l1 B3 G0
  have Z0 : Hid (Below w.heap.size w w1) := (Below.refl w.heap.size w).grown G0 (Nat.le_refl _) (by simp)
  have HO1 : Hid (Own w1 B v l) := HO.out.below Z0.out
  have z1 := Z0.out.size
  clear G0
  cases data with
  | false =>
    clear hlz B3
    go_wp2_with (at_builtin; go_must (refine ap_bytes rfl (.tmp 15) (.tmp 16) rfl B v l rfl (HO1.out.alloc _) (some ⟨w1.heap.size, 0, none⟩) 1 1 [0] rfl rfl (byt_lit w1 [0]) (by intro h; cases h) (by simp; omega) (by simp; omega) ?_))
    intro v2 w2 A2
    have HA : Hid (Ap B w w2 v v2 (l ++ [0])) := Ap.after (Z0.out.alloc z1 _) A2
    clear A2 HO1
    go_wp2
    go_ret
    exact ⟨v2, rfl, HA.out⟩
  | true =>
    have h0 := hlz rfl
    have cd : w1.cell? ⟨g3, 1, none⟩ = some (.slice ax 0 cx) := by have := B3.cell 1; rw [h0] at this; exact this
    clear hlz h0 B3
    go_wp2_with (at_builtin; go_must (refine ap_bytes rfl (.tmp 15) (.tmp 16) rfl B v l rfl (HO1.out.alloc _) (some ⟨w1.heap.size, 0, none⟩) 1 1 [0] rfl rfl (byt_lit w1 [0]) (by intro h; cases h) (by simp; omega) (by simp; omega) ?_))
    intro v2 w2 A2
    have HA : Hid (Ap B w w2 v v2 (l ++ [0])) := Ap.after (Z0.out.alloc z1 _) A2
    clear A2 HO1
    go_wp2
    go_ret
    exact ⟨v2, rfl, HA.out⟩
set_option maxHeartbeats 1000000 in
set_option maxRecDepth 8000 in
theorem apd_yes (ov : Value) (k : Int) (ax : Option Addr) (cx : Nat) (v : Value) (l dl : List Nat) (data : Bool) (B : Nat) (w0 w : World) (ho : Own w B v l) (hB : B ≤ w.heap.size) (hd : Byt w0 ax dl) (hb0 : Below w0.heap.size w0 w) (hB0 : w0.heap.size ≤ B) (hnil : ax = none → cx = 0) (hcx : dl.length ≤ cx) (hdl : dl.length ≤ 65536) (hl : l.length ≤ 700000000) (hc : dl ≠ []) (hdt : data = true) :
    Calls Try.prog 23 #[.agg [ov, .slice ax dl.length cx, .int .i64 k].toArray, v, .bool data] w fun e w' => ∃ v', e = .returned v' ∧ Ap B w w' v v' (l ++ ([1] ++ uv dl.length ++ dl)) := by
  have HO : Hid (Own w B v l) := ho
  have HD : Hid (Byt w0 ax dl ∧ (ax = none → cx = 0)) := ⟨hd, hnil⟩
  have Hb0 : Hid (Below w0.heap.size w0 w) := hb0
  subst hdt
  have hlp : ¬ ((dl.length : Int) = 0) := by have := List.length_pos_iff.2 hc; omega
  have h10 := uv_ten dl.length (by omega)
  clear ho hd hb0 hnil hc
  go_enter Try.func23, Try.ntmps23
  go_wp2_with (refine al_box rfl 61 (.tmp 0) rfl [ov, .slice ax dl.length cx, .int .i64 k] rfl ?_)
  intro g3 w1 l1 B3 G0
  have Z0 : Hid (Below w.heap.size w w1) := (Below.refl w.heap.size w).grown G0 (Nat.le_refl _) (by simp)
  have HO1 : Hid (Own w1 B v l) := HO.out.below Z0.out
  have z1 := Z0.out.size
  clear G0
  have cd : w1.cell? ⟨g3, 1, none⟩ = some (.slice ax dl.length cx) := B3.cell 1
  have hne0 : Hid (v.ownBlock ≠ some g3) := fun e => by have := (World.ownsRow.lt HO.out _ e).2; omega
  go_wp2_with fail
  obtain ⟨C, hC⟩ : ∃ C : World → Prop, C = fun W => Blk W g3 61 [ov, .slice ax dl.length cx, .int .i64 k] := ⟨_, rfl⟩
  have FD : Hid (∀ W, C W → W.cell? ⟨g3, 1, none⟩ = some (.slice ax dl.length cx)) := fun W hW => by rw [hC] at hW; exact hW.cell 1
  have CA : Hid (∀ W o, C W → C (W.alloc o)) := fun W o h => by rw [hC] at h ⊢; exact h.alloc o
  have CB : Hid (∀ W, C W → Blk W g3 61 [ov, .slice ax dl.length cx, .int .i64 k]) := fun W hW => by rw [hC] at hW; exact hW
  have CP : Hid (∀ (W W' : World) (u u' : Value) (m : List Nat), C W → Ap B W W' u u' m → u.ownBlock ≠ some g3 → C W') := fun W W' u u' m h1 h2 h3 => by rw [hC] at h1 ⊢; exact h2.blk h1 h3
  have C0 : Hid (C { w1 with drawn := w1.drawn + 1 }) := by rw [hC]; exact B3
  have E0 : Hid (Below w.heap.size w { w1 with drawn := w1.drawn + 1 }) := Below.drew Z0.out
  have O0 : Hid (Own { w1 with drawn := w1.drawn + 1 } B v l) := HO1.out.below (Below.drew (Below.refl _ _))
  have hg3 : g3 < ({ w1 with drawn := w1.drawn + 1 } : World).heap.size := B3.lt
  have zy : B ≤ ({ w1 with drawn := w1.drawn + 1 } : World).heap.size := by show B ≤ w1.heap.size; omega
  clear hC cd HO1 Z0
  refine region_calm C 8 (by kernel_rfl) ?_
  have hCp : ∀ p : Prop, (∀ W, C W → p) ↔ p := fun p => ⟨fun h => h _ C0.out, fun h _ _ => h⟩
  generalize ({ w1 with drawn := w1.drawn + 1 } : World) = y0 at *
  refine seg 6 [0, 3, 4] rfl (by kernel_rfl) whole_blind (C0.out) (by kernel_rfl) ?_
  change wpQuiet _ _ _ _ (_ :: _ :: _ :: []) _
  repeat (first
    | go_big_quiet_skip
    | (go_big_quiet_want
       first
       | (refine q_cell 28 (.inr (.inr (.inr (.inl rfl)))) (.tmp 21) rfl g3 1 rfl _ FD.out ?_
          simp only [Act.put, List.setIfInBounds_toArray, List.set_cons_zero, List.set_cons_succ]
          go_big_quiet_on)
       | (go_big_quiet_op
          go_big_quiet_on)))
  refine wpQuiet_nil ?_
  refine len_first (i := 5) 5 rfl (by kernel_rfl) whole_blind (C0.out) (by kernel_rfl) rfl (by rfl) (.tmp 22) 28 rfl 5 Try.underlying28 ax dl.length cx rfl ?_
  simp only [Act.put, List.setIfInBounds_toArray, List.set_cons_zero, List.set_cons_succ]
  refine two_do (i := 1) (j := 6) 4 rfl (by kernel_rfl) rfl (by rfl) rfl (by rfl) (fun K hK => ?_) (fun K hK => ?_)
  · refine oper_b1 1 rfl ?_
    have C1 : Hid (C (y0.alloc (.cells #[.int .u8 1] 5))) := CA.out _ _ C0.out
    refine hK _ _ C1.out ?_
    clear hK K
    simp only [Act.put, List.setIfInBounds_toArray, List.set_cons_zero, List.set_cons_succ]
    obtain ⟨y1, hy1⟩ : ∃ y1, Hid (y0.alloc (.cells #[.int .u8 1] 5) = y1) := ⟨_, rfl⟩
    have sy1 : y1.heap.size = y0.heap.size + 1 := by rw [← hy1.out]; simp
    have by1 : Hid (Below y0.heap.size y0 y1) := by rw [← hy1.out]; exact (Below.refl _ _).alloc (Nat.le_refl _) _
    have Y1 : Hid (Byt y1 (some ⟨y0.heap.size, 0, none⟩) [1]) := by rw [← hy1.out]; exact byt_lit y0 [1]
    rw [hy1.out] at C1 ⊢
    clear hy1
    refine two_do (i := 2) (j := 6) 3 rfl (by kernel_rfl) rfl (by rfl) rfl (by rfl) (fun K hK => ?_) (fun K hK => ?_)
    · refine oper_apb (.tmp 18) (.tmp 19) rfl B v l rfl (O0.out.below by1.out) (some ⟨y0.heap.size, 0, none⟩) 1 1 [1] rfl rfl Y1.out (by intro h; cases h) (by simp; omega) (by omega) ?_
      intro v2 y2 A2
      have C2 : Hid (C y2) := CP.out _ _ _ _ _ C1.out A2 hne0.out
      refine hK _ _ C2.out ?_
      clear hK K
      simp only [Act.put, List.setIfInBounds_toArray, List.set_cons_zero, List.set_cons_succ]
      have s2 := A2.gr.size
      refine lone_do (i := 6) 2 rfl (by kernel_rfl) rfl (by rfl) ?_
      intro K hK
      refine oper_i1 23 rfl (dl.length : Int) rfl ?_
      have C3 : Hid (C (y2.alloc (.cells #[.int .i64 (dl.length : Int)] 3))) := CA.out _ _ C2.out
      refine hK _ _ C3.out ?_
      clear hK K
      simp only [Act.put, List.setIfInBounds_toArray, List.set_cons_zero, List.set_cons_succ]
      obtain ⟨y3, hy3⟩ : ∃ y3, Hid (y2.alloc (.cells #[.int .i64 (dl.length : Int)] 3) = y3) := ⟨_, rfl⟩
      have sy3 : y3.heap.size = y2.heap.size + 1 := by rw [← hy3.out]; simp
      have by3 : Hid (Below y2.heap.size y2 y3) := by rw [← hy3.out]; exact (Below.refl _ _).alloc (Nat.le_refl _) _
      have I1 : Hid (IntsM y3 y2.heap.size [(dl.length : Int)]) := by rw [← hy3.out]; exact ints_new y2 [(dl.length : Int)]
      rw [hy3.out] at C3 ⊢
      clear hy3
      have O2 := A2.own.below by3.out
      have hv2 : v2.ownBlock ≠ some g3 := fun e => by
        rcases A2.ob g3 e with h | h
        · exact hne0.out h
        · omega
      have hn2 : v2.ownBlock ≠ some y2.heap.size := fun e => by have := (World.ownsRow.lt A2.own _ e).2; omega
      refine lone_do (i := 7) 1 rfl (by kernel_rfl) rfl (by rfl) ?_
      intro K hK
      refine oper_call 21 _ _ rfl #[v2, .slice (some ⟨y2.heap.size, 0, none⟩) 1 1] (by rw [List.map_toArray]; rfl) (enters Try.func21 (by kernel_rfl) rfl) (fun u w' => Ap B y3 w' v2 u ((l ++ [1]) ++ uv dl.length)) (by have K := apn_any v2 (l ++ [1]) [(dl.length : Int)] (fun n hn => by rw [List.mem_singleton.1 hn]; exact ⟨by omega, by omega⟩) (by simp) y2.heap.size 1 B y3 O2 (by omega) (by simp; omega) I1.out hn2 (by omega); exact K.mono (by rintro e w' ⟨u, rfl, h⟩; exact ⟨u, rfl, by simpa [uvI] using h⟩)) ?_
      rintro v3 y5 A3
      have hn3 : v2.ownBlock ≠ some g3 := hv2
      have C5 : Hid (C y5) := CP.out _ _ _ _ _ C3.out A3 hn3
      refine hK _ _ (C5.out) ?_
      clear hK K
      simp only [Act.put, List.setIfInBounds_toArray, List.set_cons_zero, List.set_cons_succ]
      have HF : Hid (Ap B w y5 v v3 ((l ++ [1]) ++ uv dl.length)) := Ap.after E0.out (Ap.after by1.out (A2.trans (Ap.after by3.out A3)))
      clear A3 A2
      refine lone_calm (i := 8) 0 rfl (by kernel_rfl) rfl rfl (C5.out) ?_
      repeat (first
        | go_big_quiet_skip
        | (go_big_quiet_want
           first
           | (go_big_quiet_op
              go_big_quiet_on)))
      refine wpQuiet_nil ?_
      refine anyC_done (by kernel_rfl) ⟨rfl, ?_⟩
      have B5 := CB.out _ C5.out
      have ZE : Hid (Below w0.heap.size w0 y5) := HF.out.below HO.out Hb0.out Hb0.out.size hB0
      have z5 := HF.out.gr.size
      have HY : Hid (Byt y5 ax dl) := HD.out.1.below ZE.out
      have hnil := HD.out.2
      have cd : y5.cell? ⟨g3, 1, none⟩ = some (.slice ax dl.length cx) := B5.cell 1
      clear CA CB CP FD hCp C0 C5 B5 ZE HD Hb0
      go_wp2_with (at_builtin; go_must (refine ap_bytes rfl (.tmp 26) (.tmp 28) rfl B v3 _ rfl HF.out.own ax _ cx dl rfl rfl HY.out hnil (by simp only [List.length_append, List.length_singleton]; omega) (by omega) ?_))
      intro v4 w6 A4
      have HG : Hid (Ap B w w6 v v4 (l ++ ([1] ++ uv dl.length ++ dl))) := by
        have h := HF.out.trans A4
        show Ap B w w6 v v4 (l ++ ([1] ++ uv dl.length ++ dl))
        simpa using h
      clear A4 HF HY
      go_wp2
      go_ret
      exact ⟨v4, rfl, HG.out⟩
    · refine oper_i1 23 rfl (dl.length : Int) rfl ?_
      have C2 : Hid (C (y1.alloc (.cells #[.int .i64 (dl.length : Int)] 3))) := CA.out _ _ C1.out
      refine hK _ _ C2.out ?_
      clear hK K
      simp only [Act.put, List.setIfInBounds_toArray, List.set_cons_zero, List.set_cons_succ]
      obtain ⟨y2, hy2⟩ : ∃ y2, Hid (y1.alloc (.cells #[.int .i64 (dl.length : Int)] 3) = y2) := ⟨_, rfl⟩
      have sy2 : y2.heap.size = y1.heap.size + 1 := by rw [← hy2.out]; simp
      have by2 : Hid (Below y1.heap.size y1 y2) := by rw [← hy2.out]; exact (Below.refl _ _).alloc (Nat.le_refl _) _
      have I1 : Hid (IntsM y2 y1.heap.size [(dl.length : Int)]) := by rw [← hy2.out]; exact ints_new y1 [(dl.length : Int)]
      rw [hy2.out] at C2 ⊢
      clear hy2
      refine lone_do (i := 2) 2 rfl (by kernel_rfl) rfl (by rfl) ?_
      intro K hK
      refine oper_apb (.tmp 18) (.tmp 19) rfl B v l rfl ((O0.out.below by1.out).below by2.out) (some ⟨y0.heap.size, 0, none⟩) 1 1 [1] rfl rfl (Y1.out.below by2.out) (by intro h; cases h) (by simp; omega) (by omega) ?_
      intro v2 y3 A2
      have C3 : Hid (C y3) := CP.out _ _ _ _ _ C2.out A2 hne0.out
      refine hK _ _ C3.out ?_
      clear hK K
      simp only [Act.put, List.setIfInBounds_toArray, List.set_cons_zero, List.set_cons_succ]
      have s2 := A2.gr.size
      have O2 := A2.own
      have hv2 : v2.ownBlock ≠ some g3 := fun e => by
        rcases A2.ob g3 e with h | h
        · exact hne0.out h
        · omega
      have hvl : ∀ x, v.ownBlock = some x → x < y0.heap.size := fun x e => (World.ownsRow.lt O0.out x e).2
      have hn2 : v2.ownBlock ≠ some y1.heap.size := fun e => by
        rcases A2.ob _ e with h | h
        · have := hvl _ h; omega
        · omega
      have I2 : IntsM y3 y1.heap.size [(dl.length : Int)] := fun i n h => (cell_keep (A2.gr.block y1.heap.size (by omega) (fun e => by have := hvl _ e.symm; omega))).trans (I1.out i n h)
      refine lone_do (i := 7) 1 rfl (by kernel_rfl) rfl (by rfl) ?_
      intro K hK
      refine oper_call 21 _ _ rfl #[v2, .slice (some ⟨y1.heap.size, 0, none⟩) 1 1] (by rw [List.map_toArray]; rfl) (enters Try.func21 (by kernel_rfl) rfl) (fun u w' => Ap B y3 w' v2 u ((l ++ [1]) ++ uv dl.length)) (by have K := apn_any v2 (l ++ [1]) [(dl.length : Int)] (fun n hn => by rw [List.mem_singleton.1 hn]; exact ⟨by omega, by omega⟩) (by simp) y1.heap.size 1 B y3 O2 (by omega) (by simp; omega) I2 hn2 (by omega); exact K.mono (by rintro e w' ⟨u, rfl, h⟩; exact ⟨u, rfl, by simpa [uvI] using h⟩)) ?_
      rintro v3 y5 A3
      have hn3 : v2.ownBlock ≠ some g3 := hv2
      have C5 : Hid (C y5) := CP.out _ _ _ _ _ C3.out A3 hn3
      refine hK _ _ (C5.out) ?_
      clear hK K
      simp only [Act.put, List.setIfInBounds_toArray, List.set_cons_zero, List.set_cons_succ]
      have HF : Hid (Ap B w y5 v v3 ((l ++ [1]) ++ uv dl.length)) := Ap.after E0.out (Ap.after by1.out (Ap.after by2.out (A2.trans A3)))
      clear A3 A2
      refine lone_calm (i := 8) 0 rfl (by kernel_rfl) rfl rfl (C5.out) ?_
      repeat (first
        | go_big_quiet_skip
        | (go_big_quiet_want
           first
           | (go_big_quiet_op
              go_big_quiet_on)))
      refine wpQuiet_nil ?_
      refine anyC_done (by kernel_rfl) ⟨rfl, ?_⟩
      have B5 := CB.out _ C5.out
      have ZE : Hid (Below w0.heap.size w0 y5) := HF.out.below HO.out Hb0.out Hb0.out.size hB0
      have z5 := HF.out.gr.size
      have HY : Hid (Byt y5 ax dl) := HD.out.1.below ZE.out
      have hnil := HD.out.2
      have cd : y5.cell? ⟨g3, 1, none⟩ = some (.slice ax dl.length cx) := B5.cell 1
      clear CA CB CP FD hCp C0 C5 B5 ZE HD Hb0
      go_wp2_with (at_builtin; go_must (refine ap_bytes rfl (.tmp 26) (.tmp 28) rfl B v3 _ rfl HF.out.own ax _ cx dl rfl rfl HY.out hnil (by simp only [List.length_append, List.length_singleton]; omega) (by omega) ?_))
      intro v4 w6 A4
      have HG : Hid (Ap B w w6 v v4 (l ++ ([1] ++ uv dl.length ++ dl))) := by
        have h := HF.out.trans A4
        show Ap B w w6 v v4 (l ++ ([1] ++ uv dl.length ++ dl))
        simpa using h
      clear A4 HF HY
      go_wp2
      go_ret
      exact ⟨v4, rfl, HG.out⟩
  · refine oper_i1 23 rfl (dl.length : Int) rfl ?_
    have C1 : Hid (C (y0.alloc (.cells #[.int .i64 (dl.length : Int)] 3))) := CA.out _ _ C0.out
    refine hK _ _ C1.out ?_
    clear hK K
    simp only [Act.put, List.setIfInBounds_toArray, List.set_cons_zero, List.set_cons_succ]
    obtain ⟨y1, hy1⟩ : ∃ y1, Hid (y0.alloc (.cells #[.int .i64 (dl.length : Int)] 3) = y1) := ⟨_, rfl⟩
    have sy1 : y1.heap.size = y0.heap.size + 1 := by rw [← hy1.out]; simp
    have by1 : Hid (Below y0.heap.size y0 y1) := by rw [← hy1.out]; exact (Below.refl _ _).alloc (Nat.le_refl _) _
    have I1 : Hid (IntsM y1 y0.heap.size [(dl.length : Int)]) := by rw [← hy1.out]; exact ints_new y0 [(dl.length : Int)]
    rw [hy1.out] at C1 ⊢
    clear hy1
    refine lone_do (i := 1) 3 rfl (by kernel_rfl) rfl (by rfl) ?_
    intro K hK
    refine oper_b1 1 rfl ?_
    have C2 : Hid (C (y1.alloc (.cells #[.int .u8 1] 5))) := CA.out _ _ C1.out
    refine hK _ _ C2.out ?_
    clear hK K
    simp only [Act.put, List.setIfInBounds_toArray, List.set_cons_zero, List.set_cons_succ]
    obtain ⟨y2, hy2⟩ : ∃ y2, Hid (y1.alloc (.cells #[.int .u8 1] 5) = y2) := ⟨_, rfl⟩
    have sy2 : y2.heap.size = y1.heap.size + 1 := by rw [← hy2.out]; simp
    have by2 : Hid (Below y1.heap.size y1 y2) := by rw [← hy2.out]; exact (Below.refl _ _).alloc (Nat.le_refl _) _
    have Y1 : Hid (Byt y2 (some ⟨y1.heap.size, 0, none⟩) [1]) := by rw [← hy2.out]; exact byt_lit y1 [1]
    rw [hy2.out] at C2 ⊢
    clear hy2
    refine lone_do (i := 2) 2 rfl (by kernel_rfl) rfl (by rfl) ?_
    intro K hK
    refine oper_apb (.tmp 18) (.tmp 19) rfl B v l rfl ((O0.out.below by1.out).below by2.out) (some ⟨y1.heap.size, 0, none⟩) 1 1 [1] rfl rfl Y1.out (by intro h; cases h) (by simp; omega) (by omega) ?_
    intro v2 y3 A2
    have C3 : Hid (C y3) := CP.out _ _ _ _ _ C2.out A2 hne0.out
    refine hK _ _ C3.out ?_
    clear hK K
    simp only [Act.put, List.setIfInBounds_toArray, List.set_cons_zero, List.set_cons_succ]
    have s2 := A2.gr.size
    have O2 := A2.own
    have hv2 : v2.ownBlock ≠ some g3 := fun e => by
      rcases A2.ob g3 e with h | h
      · exact hne0.out h
      · omega
    have hvl : ∀ x, v.ownBlock = some x → x < y0.heap.size := fun x e => (World.ownsRow.lt O0.out x e).2
    have hn2 : v2.ownBlock ≠ some y0.heap.size := fun e => by
      rcases A2.ob _ e with h | h
      · have := hvl _ h; omega
      · omega
    have I2 : IntsM y3 y0.heap.size [(dl.length : Int)] := fun i n h => (cell_keep ((A2.gr.block y0.heap.size (by omega) (fun e => by have := hvl _ e.symm; omega)).trans (by2.out.block y0.heap.size (by omega)))).trans (I1.out i n h)
    refine lone_do (i := 7) 1 rfl (by kernel_rfl) rfl (by rfl) ?_
    intro K hK
    refine oper_call 21 _ _ rfl #[v2, .slice (some ⟨y0.heap.size, 0, none⟩) 1 1] (by rw [List.map_toArray]; rfl) (enters Try.func21 (by kernel_rfl) rfl) (fun u w' => Ap B y3 w' v2 u ((l ++ [1]) ++ uv dl.length)) (by have K := apn_any v2 (l ++ [1]) [(dl.length : Int)] (fun n hn => by rw [List.mem_singleton.1 hn]; exact ⟨by omega, by omega⟩) (by simp) y0.heap.size 1 B y3 O2 (by omega) (by simp; omega) I2 hn2 (by omega); exact K.mono (by rintro e w' ⟨u, rfl, h⟩; exact ⟨u, rfl, by simpa [uvI] using h⟩)) ?_
    rintro v3 y5 A3
    have hn3 : v2.ownBlock ≠ some g3 := hv2
    have C5 : Hid (C y5) := CP.out _ _ _ _ _ C3.out A3 hn3
    refine hK _ _ (C5.out) ?_
    clear hK K
    simp only [Act.put, List.setIfInBounds_toArray, List.set_cons_zero, List.set_cons_succ]
    have HF : Hid (Ap B w y5 v v3 ((l ++ [1]) ++ uv dl.length)) := Ap.after E0.out (Ap.after by1.out (Ap.after by2.out (A2.trans A3)))
    clear A3 A2
    refine lone_calm (i := 8) 0 rfl (by kernel_rfl) rfl rfl (C5.out) ?_
    repeat (first
      | go_big_quiet_skip
      | (go_big_quiet_want
         first
         | (go_big_quiet_op
            go_big_quiet_on)))
    refine wpQuiet_nil ?_
    refine anyC_done (by kernel_rfl) ⟨rfl, ?_⟩
    have B5 := CB.out _ C5.out
    have ZE : Hid (Below w0.heap.size w0 y5) := HF.out.below HO.out Hb0.out Hb0.out.size hB0
    have z5 := HF.out.gr.size
    have HY : Hid (Byt y5 ax dl) := HD.out.1.below ZE.out
    have hnil := HD.out.2
    have cd : y5.cell? ⟨g3, 1, none⟩ = some (.slice ax dl.length cx) := B5.cell 1
    clear CA CB CP FD hCp C0 C5 B5 ZE HD Hb0
    go_wp2_with (at_builtin; go_must (refine ap_bytes rfl (.tmp 26) (.tmp 28) rfl B v3 _ rfl HF.out.own ax _ cx dl rfl rfl HY.out hnil (by simp only [List.length_append, List.length_singleton]; omega) (by omega) ?_))
    intro v4 w6 A4
    have HG : Hid (Ap B w w6 v v4 (l ++ ([1] ++ uv dl.length ++ dl))) := by
      have h := HF.out.trans A4
      show Ap B w w6 v v4 (l ++ ([1] ++ uv dl.length ++ dl))
      simpa using h
    clear A4 HF HY
    go_wp2
    go_ret
    exact ⟨v4, rfl, HG.out⟩
theorem apd_any (ov : Value) (k : Int) (ax : Option Addr) (cx : Nat) (v : Value) (l dl : List Nat) (data : Bool) (B : Nat) (w0 w : World) (ho : Own w B v l) (hB : B ≤ w.heap.size) (hd : Byt w0 ax dl) (hb0 : Below w0.heap.size w0 w) (hB0 : w0.heap.size ≤ B) (hnil : ax = none → cx = 0) (hcx : dl.length ≤ cx) (hdl : dl.length ≤ 65536) (hl : l.length ≤ 700000000) :
    Calls Try.prog 23 #[.agg [ov, .slice ax dl.length cx, .int .i64 k].toArray, v, .bool data] w fun e w' => ∃ v', e = .returned v' ∧ Ap B w w' v v' (l ++ tlB dl data) := by
  unfold tlB
  by_cases hc : data = false ∨ dl = []
  · rw [if_pos hc]; exact apd_no ov k ax cx v l dl data B w0 w ho hB hd hb0 hB0 hnil hcx hdl hl hc
  · rw [if_neg hc]; exact apd_yes ov k ax cx v l dl data B w0 w ho hB hd hb0 hB0 hnil hcx hdl hl (fun h => hc (.inr h)) (by cases data; exact absurd (.inl rfl) hc; rfl)
end Go.Proofs.Ytmbglggodifboab.Sh
