/-
  The document's own key, of any value.
-/
import Derived.Test.YtmlfhplhiedfjaaGreatDoorOLc
import Derived.Test.YtmlfhplhiedfjaaGreatDoorOKh
namespace Go.Proofs.YtmlfhplhiedfjaaGreatDoor
open Go.RowKit Math
set_option linter.unusedVariables false
set_option linter.unusedSimpArgs false
def RkC (p : Vt) : Prop := ∀ (na : Option Addr) (nc : Nat) (ka : Option Addr) (kc : Nat) (v : Value) (l : List Nat) (B : Nat) (w0 W : World), Vl w0 p na nc ka kc → Below w0.heap.size w0 W → w0.heap.size ≤ B → B ≤ W.heap.size → Own W B v l → l.length + (keyV p).length ≤ 600000000 →
  Calls Tryz.prog 95 #[v, .agg #[.int .i64 p.1.k, .int .i64 p.1.n, .int .i64 p.1.s, .string p.1.t, .slice na p.1.ns.length nc, .slice ka p.2.list.length kc]] W fun e w' => ∃ v', e = .returned v' ∧ Ap B W w' v v' (l ++ keyV p)
set_option maxRecDepth 8000 in
set_option maxHeartbeats 2000000 in
theorem rk_list (p : Vt) (hkl : p.2.list.length ≤ 200) (ih : ∀ q ∈ p.2.list, RkC q) (na : Option Addr) (nc : Nat) (ka : Option Addr) (kc : Nat) (v : Value) (l : List Nat) (B : Nat) (w0 W : World) (hv : Vl w0 p na nc ka kc) (hb : Below w0.heap.size w0 W) (hB0 : w0.heap.size ≤ B) (hB : B ≤ W.heap.size) (ho : Own W B v l) (hl : l.length + (keyF p.2 false p.1.ns).length + 2 ≤ 600000000) :
    Calls Tryz.prog 95 #[v, .agg #[.int .i64 8, .int .i64 p.1.n, .int .i64 p.1.s, .string p.1.t, .slice na p.1.ns.length nc, .slice ka p.2.list.length kc]] W fun e w' => ∃ v', e = .returned v' ∧ Ap B W w' v v' (l ++ 112 :: (keyF p.2 false p.1.ns ++ [0])) := by
  obtain ⟨W1, HW1⟩ : ∃ W1, Hid (W.alloc (.cells #[.int .i64 8, .int .i64 p.1.n, .int .i64 p.1.s, .string p.1.t, .slice na p.1.ns.length nc, .slice ka p.2.list.length kc] 38) = W1) := ⟨_, rfl⟩
  have HX : Hid (Blk W1 W.heap.size 38 [.int .i64 8, .int .i64 p.1.n, .int .i64 p.1.s, .string p.1.t, .slice na p.1.ns.length nc, .slice ka p.2.list.length kc]) := by rw [← HW1.out]; exact blk_new W 38 [.int .i64 8, .int .i64 p.1.n, .int .i64 p.1.s, .string p.1.t, .slice na p.1.ns.length nc, .slice ka p.2.list.length kc]
  have HO1 : Hid (Own W1 B v l) := by rw [← HW1.out]; exact ho.alloc _
  have hz1 : W1.heap.size = W.heap.size + 1 := by have := HW1.out; subst this; simp
  have HB1 : Hid (Below W.heap.size W W1) := by rw [← HW1.out]; exact (Below.refl _ _).alloc (Nat.le_refl _) _
  have HN : Hid (v.ownBlock ≠ some W.heap.size) := ho.ne
  have HO : Hid (Own W B v l) := ho
  have HV : Hid (Vl w0 p na nc ka kc) := hv
  have HI : Hid (∀ q ∈ p.2.list, RkC q) := ih
  have HBw : Hid (Below w0.heap.size w0 W) := hb
  have HT : Hid (l.length + (keyF p.2 false p.1.ns).length + 2 ≤ 600000000) := hl
  have hl0 : l.length ≤ 600000000 := by omega
  clear ho hv ih hb hl
  go_enter Tryz.func95, Tryz.ntmps95
  go_wp2_with (at_builtin; go_must (generalize hWW : World.alloc W _ = W9; obtain rfl : W1 = W9 := (by rw [← hWW, ← HW1.out]); clear hWW HW1; refine ap_bytes rfl (.tmp 59) (.tmp 60) rfl B v l rfl (HO1.out.alloc _) _ _ _ [112] rfl rfl (by have := byt_lit W1 [112]; rw [hz1] at this; exact this) (by simp) (by simp; omega) (by simp; omega) ?_))
  intro v1 w1 A1
  have HA : Hid (Ap B W1 w1 v v1 (l ++ [112])) := Ap.after ((Below.refl _ _).alloc (Nat.le_refl _) _) A1
  have HI0 : Hid (KIv B W w1 v v1 (l ++ [112]) (l ++ [112]) [.int .i64 8, .int .i64 p.1.n, .int .i64 p.1.s, .string p.1.t, .slice na p.1.ns.length nc, .slice ka p.2.list.length kc] p.2 false p.1.ns 0 (keyF p.2 false p.1.ns)) := by
    refine ⟨Ap.after HB1.out HA.out, HA.out.blk HX.out HN.out, fun e => ?_, ⟨[], by simp, by simp [Fo.drop]⟩⟩
    rcases HA.out.ob _ e with h | h
    · exact HN.out h
    · omega
  clear A1 HA HX HO1 HB1 hz1 HN
  go_wp2
  go_loopw [0, 5] (fun vb i wr => ∃ (k : Nat) (lk : List Nat), k ≤ p.2.list.length ∧ i = .int .i64 (k : Int) ∧ Hid (KIv B W wr v vb (l ++ [112]) lk [.int .i64 8, .int .i64 p.1.n, .int .i64 p.1.s, .string p.1.t, .slice na p.1.ns.length nc, .slice ka p.2.list.length kc] p.2 false p.1.ns k (keyF p.2 false p.1.ns))) (fun _ i _ => p.2.list.length - (intOf i).toNat)
  case atStart => exact ⟨0, _, by omega, rfl, HI0.out⟩
  case round =>
    clear HI0
    obtain ⟨k, lk, hk0, rfl, HK⟩ := hrel
    have hBr : B ≤ wr.heap.size := by have := HK.out.ap.gr.size; omega
    have cb5 : wr.cell? ⟨W.heap.size, 5, none⟩ = some (.slice ka p.2.list.length kc) := HK.out.blk.cell 5
    by_cases hlt : k < p.2.list.length
    case neg =>
      have hlk : lk = l ++ [112] ++ keyF p.2 false p.1.ns := by
        obtain ⟨x, h1, h2⟩ := HK.out.wr
        rw [Fo.drop_end _ _ (by omega)] at h2
        simp only [keyF, List.append_nil] at h2
        rw [h1, h2]
      have hll : lk.length + 1 ≤ 600000000 := by
        rw [hlk, List.length_append, List.length_append]
        have := HT.out
        simp only [List.length_singleton]
        omega
      have HLk : Hid (lk = l ++ [112] ++ keyF p.2 false p.1.ns) := hlk
      clear hlk
      go_wp2_with (at_builtin; go_must (refine ap_bytes rfl (.tmp 76) (.tmp 77) rfl B u0 lk rfl (HK.out.ap.own.alloc _) _ _ _ [0] rfl rfl (byt_lit wr [0]) (by simp) (by simp; omega) (by simp; omega) ?_))
      intro v9 w9 A9
      have HF : Hid (Ap B W w9 v v9 (l ++ 112 :: (keyF p.2 false p.1.ns ++ [0]))) := by
        have h1 := HK.out.ap.trans (Ap.after ((Below.refl _ _).alloc (Nat.le_refl _) _) A9)
        rw [HLk.out] at h1
        show Ap _ _ _ _ _ _
        simpa using h1
      clear A9 HK
      go_wp2
      go_ret
      exact ⟨_, rfl, HF.out⟩
    have HBr : Hid (Below w0.heap.size w0 wr) := HK.out.ap.below HO.out HBw.out HBw.out.size hB0
    obtain ⟨q, b, o, na', nc', ka', kc', hq, rfl, hnd, hvl⟩ := HV.out.kid (Below.refl _ _) (k := k) hlt
    have HQq : Hid (p.2.list[k]? = some q) := hq
    have HQ : Hid (RkC q) := HI.out q (List.mem_of_getElem? hq)
    have HVq : Hid (Vl w0 q na' nc' ka' kc') := hvl
    obtain ⟨d0, d1, d2, d3, d4, d5⟩ := hnd.below HBr.out
    clear hnd hvl hq
    have KQ := HQ.out na' nc' ka' kc' u0 lk B w0 wr HVq.out HBr.out hB0 hBr HK.out.ap.own (by
      have h1 := HK.out.len
      have h2 := HT.out
      have h3 := congrArg List.length (keyF_drop (b := false) (ns := p.1.ns) HQq.out)
      simp only [List.length_append, List.length_singleton] at h3 h1 h2
      omega)
    go_wp2_with fail
    refine KQ.mono ?_
    rintro e w9 ⟨v9, rfl, H9⟩
    have HK2 : Hid (KIv B W w9 v v9 (l ++ [112]) (lk ++ keyV q) [.int .i64 8, .int .i64 p.1.n, .int .i64 p.1.s, .string p.1.t, .slice na p.1.ns.length nc, .slice (some ⟨b, o, none⟩) p.2.list.length kc] p.2 false p.1.ns (k + 1) (keyF p.2 false p.1.ns)) := by
      have := HK.out.step HQq.out (Below.refl _ _) (by simpa using H9)
      show KIv _ _ _ _ _ _ _ _ _ _ _ _ _
      simpa using this
    clear KQ H9 HK d0 d1 d2 d3 d4 d5 cb5
    go_wp2
    go_roundw
    case rel => exact ⟨k + 1, _, by omega, by go_num, HK2.out⟩
    case measure => simp [intOf]; omega
set_option maxRecDepth 8000 in
set_option maxHeartbeats 2000000 in
theorem rk_struct (p : Vt) (hkl : p.2.list.length ≤ 200) (hn : p.1.ns.length = p.2.list.length) (hn2 : ∀ x ∈ p.1.ns, x.size ≤ 40) (ih : ∀ q ∈ p.2.list, RkC q) (na : Option Addr) (nc : Nat) (ka : Option Addr) (kc : Nat) (v : Value) (l : List Nat) (B : Nat) (w0 W : World) (hv : Vl w0 p na nc ka kc) (hb : Below w0.heap.size w0 W) (hB0 : w0.heap.size ≤ B) (hB : B ≤ W.heap.size) (ho : Own W B v l) (hl : l.length + (keyF p.2 true p.1.ns).length + 2 ≤ 600000000) :
    Calls Tryz.prog 95 #[v, .agg #[.int .i64 9, .int .i64 p.1.n, .int .i64 p.1.s, .string p.1.t, .slice na p.1.ns.length nc, .slice ka p.2.list.length kc]] W fun e w' => ∃ v', e = .returned v' ∧ Ap B W w' v v' (l ++ 128 :: (keyF p.2 true p.1.ns ++ [0])) := by
  obtain ⟨W1, HW1⟩ : ∃ W1, Hid (W.alloc (.cells #[.int .i64 9, .int .i64 p.1.n, .int .i64 p.1.s, .string p.1.t, .slice na p.1.ns.length nc, .slice ka p.2.list.length kc] 38) = W1) := ⟨_, rfl⟩
  have HX : Hid (Blk W1 W.heap.size 38 [.int .i64 9, .int .i64 p.1.n, .int .i64 p.1.s, .string p.1.t, .slice na p.1.ns.length nc, .slice ka p.2.list.length kc]) := by rw [← HW1.out]; exact blk_new W 38 [.int .i64 9, .int .i64 p.1.n, .int .i64 p.1.s, .string p.1.t, .slice na p.1.ns.length nc, .slice ka p.2.list.length kc]
  have HO1 : Hid (Own W1 B v l) := by rw [← HW1.out]; exact ho.alloc _
  have hz1 : W1.heap.size = W.heap.size + 1 := by have := HW1.out; subst this; simp
  have HB1 : Hid (Below W.heap.size W W1) := by rw [← HW1.out]; exact (Below.refl _ _).alloc (Nat.le_refl _) _
  have HN : Hid (v.ownBlock ≠ some W.heap.size) := ho.ne
  have HO : Hid (Own W B v l) := ho
  have HV : Hid (Vl w0 p na nc ka kc) := hv
  have HI : Hid (∀ q ∈ p.2.list, RkC q) := ih
  have HBw : Hid (Below w0.heap.size w0 W) := hb
  have HN1 : Hid (p.1.ns.length = p.2.list.length) := hn
  have HN2 : Hid (∀ x ∈ p.1.ns, x.size ≤ 40) := hn2
  have HT : Hid (l.length + (keyF p.2 true p.1.ns).length + 2 ≤ 600000000) := hl
  have hl0 : l.length ≤ 600000000 := by omega
  clear ho hv ih hb hl hn hn2
  go_enter Tryz.func95, Tryz.ntmps95
  go_wp2_with (at_builtin; go_must (generalize hWW : World.alloc W _ = W9; obtain rfl : W1 = W9 := (by rw [← hWW, ← HW1.out]); clear hWW HW1; refine ap_bytes rfl (.tmp 79) (.tmp 80) rfl B v l rfl (HO1.out.alloc _) _ _ _ [128] rfl rfl (by have := byt_lit W1 [128]; rw [hz1] at this; exact this) (by simp) (by simp; omega) (by simp; omega) ?_))
  intro v1 w1 A1
  have HA : Hid (Ap B W1 w1 v v1 (l ++ [128])) := Ap.after ((Below.refl _ _).alloc (Nat.le_refl _) _) A1
  have HI0 : Hid (KIv B W w1 v v1 (l ++ [128]) (l ++ [128]) [.int .i64 9, .int .i64 p.1.n, .int .i64 p.1.s, .string p.1.t, .slice na p.1.ns.length nc, .slice ka p.2.list.length kc] p.2 true p.1.ns 0 (keyF p.2 true p.1.ns)) := by
    refine ⟨Ap.after HB1.out HA.out, HA.out.blk HX.out HN.out, fun e => ?_, ⟨[], by simp, by simp [Fo.drop]⟩⟩
    rcases HA.out.ob _ e with h | h
    · exact HN.out h
    · omega
  clear A1 HA HX HO1 HB1 hz1 HN
  go_wp2
  go_loopw [0, 6] (fun vb i wr => ∃ (k : Nat) (lk : List Nat), k ≤ p.2.list.length ∧ i = .int .i64 (k : Int) ∧ Hid (KIv B W wr v vb (l ++ [128]) lk [.int .i64 9, .int .i64 p.1.n, .int .i64 p.1.s, .string p.1.t, .slice na p.1.ns.length nc, .slice ka p.2.list.length kc] p.2 true p.1.ns k (keyF p.2 true p.1.ns))) (fun _ i _ => p.2.list.length - (intOf i).toNat)
  case atStart => exact ⟨0, _, by omega, rfl, HI0.out⟩
  case round =>
    clear HI0
    obtain ⟨k, lk, hk0, rfl, HK⟩ := hrel
    have hBr : B ≤ wr.heap.size := by have := HK.out.ap.gr.size; omega
    have cb5 : wr.cell? ⟨W.heap.size, 5, none⟩ = some (.slice ka p.2.list.length kc) := HK.out.blk.cell 5
    by_cases hlt : k < p.2.list.length
    case neg =>
      have hlk : lk = l ++ [128] ++ keyF p.2 true p.1.ns := by
        obtain ⟨x, h1, h2⟩ := HK.out.wr
        rw [Fo.drop_end _ _ (by omega)] at h2
        simp only [keyF, List.append_nil] at h2
        rw [h1, h2]
      have hll : lk.length + 1 ≤ 600000000 := by
        rw [hlk, List.length_append, List.length_append]
        have := HT.out
        simp only [List.length_singleton]
        omega
      have HLk : Hid (lk = l ++ [128] ++ keyF p.2 true p.1.ns) := hlk
      clear hlk
      go_wp2_with (at_builtin; go_must (refine ap_bytes rfl (.tmp 105) (.tmp 106) rfl B u0 lk rfl (HK.out.ap.own.alloc _) _ _ _ [0] rfl rfl (byt_lit wr [0]) (by simp) (by simp; omega) (by simp; omega) ?_))
      intro v9 w9 A9
      have HF : Hid (Ap B W w9 v v9 (l ++ 128 :: (keyF p.2 true p.1.ns ++ [0]))) := by
        have h1 := HK.out.ap.trans (Ap.after ((Below.refl _ _).alloc (Nat.le_refl _) _) A9)
        rw [HLk.out] at h1
        show Ap _ _ _ _ _ _
        simpa using h1
      clear A9 HK
      go_wp2
      go_ret
      exact ⟨_, rfl, HF.out⟩
    have HBr : Hid (Below w0.heap.size w0 wr) := HK.out.ap.below HO.out HBw.out HBw.out.size hB0
    obtain ⟨q, b, o, na', nc', ka', kc', hq, rfl, hnd, hvl⟩ := HV.out.kid (Below.refl _ _) (k := k) hlt
    have HQq : Hid (p.2.list[k]? = some q) := hq
    have HQ : Hid (RkC q) := HI.out q (List.mem_of_getElem? hq)
    have HVq : Hid (Vl w0 q na' nc' ka' kc') := hvl
    have HND := hnd
    clear hnd hvl hq
    obtain ⟨nm, hnm⟩ : ∃ nm, p.1.ns[k]? = some nm := ⟨_, List.getElem?_eq_getElem (by rw [HN1.out]; exact hlt)⟩
    have hns : nm.size ≤ 40 := HN2.out nm (List.mem_of_getElem? hnm)
    have HD : Hid ((p.1.ns.drop k).headD ⟨#[]⟩ = nm) := by
      show _ = _
      obtain ⟨h1, h2⟩ := List.getElem?_eq_some_iff.1 hnm
      rw [List.drop_eq_getElem_cons h1, h2]
      rfl
    have HLn : Hid (lk.length + (1 :: txK nm).length + (keyV q).length ≤ 600000000) := by
      have h1 := HK.out.len
      have h2 := HT.out
      have h3 := congrArg List.length (keyF_drop (b := true) (ns := p.1.ns) HQq.out)
      simp only [if_true] at h3
      rw [HD.out] at h3
      simp only [List.length_append, List.length_singleton] at h3 h1 h2
      show _ ≤ _
      omega
    have hlk : lk.length ≤ 600000000 := by have := HLn.out; omega
    rcases HV.out.nms with hem | ⟨bn, on, hna, hc⟩
    · rw [hem] at hnm; simp at hnm
    have hcn0 : w0.cell? ⟨bn, on + k, none⟩ = some (.string nm) := hc k nm hnm
    have hbn := cell_lt hcn0
    have hkn : k < p.1.ns.length := by rw [HN1.out]; exact hlt
    subst hna
    clear hc hnm
    go_wp2
    obtain ⟨C, hC⟩ : ∃ C : World → Prop, C = fun W' => Blk W' W.heap.size 38 [.int .i64 9, .int .i64 p.1.n, .int .i64 p.1.s, .string p.1.t, .slice (some ⟨bn, on, none⟩) p.1.ns.length nc, .slice (some ⟨b, o, none⟩) p.2.list.length kc] ∧ Below w0.heap.size w0 W' := ⟨_, rfl⟩
    have Q4 : Hid (∀ W', C W' → W'.cell? ⟨W.heap.size, 4, none⟩ = some (.slice (some ⟨bn, on, none⟩) p.1.ns.length nc)) := fun W' h => by rw [hC] at h; exact h.1.cell 4
    have QN : Hid (∀ W', C W' → W'.cell? ⟨bn, on + k, none⟩ = some (.string nm)) := fun W' h => by
      rw [hC] at h
      rw [← hcn0]
      exact h.2.cell (p := ⟨bn, on + k, none⟩) hbn
    have CA : Hid (∀ W' W'' v v' l l', C W' → Own W' B v l → Ap B W' W'' v v' l' → v.ownBlock ≠ some W.heap.size → C W'') := fun W' W'' v v' l l' h ho A hne => by
      rw [hC] at h ⊢
      exact ⟨A.blk h.1 hne, A.below ho h.2 h.2.size hB0⟩
    have CL : Hid (∀ W' o, C W' → C (W'.alloc o)) := fun W' o h => by
      rw [hC] at h ⊢
      exact ⟨h.1.alloc o, h.2.alloc h.2.size o⟩
    have CX : Hid (∀ W', C W' → Blk W' W.heap.size 38 [.int .i64 9, .int .i64 p.1.n, .int .i64 p.1.s, .string p.1.t, .slice (some ⟨bn, on, none⟩) p.1.ns.length nc, .slice (some ⟨b, o, none⟩) p.2.list.length kc] ∧ Below w0.heap.size w0 W') := fun W' h => by rw [hC] at h; exact h
    have D0 : Hid (Below wr.heap.size wr { wr with drawn := wr.drawn + 1 }) := Below.drew (Below.refl _ _)
    have C0 : Hid (C { wr with drawn := wr.drawn + 1 }) := by rw [hC]; exact ⟨HK.out.blk.below D0.out HK.out.blk.lt, HBr.out.trans (D0.out.mono HBr.out.size)⟩
    have HO8 : Hid (Own { wr with drawn := wr.drawn + 1 } B u0 lk) := HK.out.ap.own.below D0.out
    have hsz : ({ wr with drawn := wr.drawn + 1 } : World).heap.size = wr.heap.size := rfl
    have hWl : W.heap.size < wr.heap.size := HK.out.blk.lt
    clear hC cb5
    refine region_calm C 9 (by kernel_rfl) ?_
    generalize ({ wr with drawn := wr.drawn + 1 } : World) = v0 at *
    have hCp : ∀ p : Prop, (∀ W, C W → p) ↔ p := fun p => ⟨fun h => h _ C0.out, fun h _ _ => h⟩
    refine seg 4 [0, 3, 4, 5, 6, 7] rfl (by kernel_rfl) whole_blind C0.out (by kernel_rfl) ?_
    change wpQuiet _ _ _ _ (_ :: _ :: _ :: _ :: _ :: _ :: []) _
    repeat (first
      | go_big_quiet_skip
      | (go_big_quiet_want
         first
         | (refine q_one 36 (.inr (.inr (.inl rfl))) (.tmp 92) rfl W.heap.size 4 rfl _ Q4.out ?_
            simp only [Act.put, List.setIfInBounds_toArray, List.set_cons_zero, List.set_cons_succ]
            go_big_quiet_on)
         | (refine q_one 9 (.inr (.inl rfl)) (.tmp 95) rfl bn (on + k) rfl _ QN.out ?_
            simp only [Act.put, List.setIfInBounds_toArray, List.set_cons_zero, List.set_cons_succ]
            go_big_quiet_on)
         | (go_big_quiet_op
            go_big_quiet_on)))
    refine wpQuiet_nil ?_
    refine lone_do (i := 1) 3 rfl (by kernel_rfl) rfl (by rfl) ?_
    intro K hK
    refine oper_byteC 1 rfl ?_
    refine hK _ _ (CL.out _ _ C0.out) ?_
    simp only [Act.put, List.setIfInBounds_toArray, List.set_cons_zero, List.set_cons_succ]
    refine lone_do (i := 2) 2 rfl (by kernel_rfl) rfl (by rfl) ?_
    intro K hK
    refine oper_apb (.tmp 89) (.tmp 90) rfl B u0 lk rfl (HO8.out.alloc _) _ _ _ [1] rfl rfl (byt_lit v0 [1]) (by simp) (by simp; omega) (by simp; omega) ?_
    intro v1 w1 A1
    have HA1 : Hid (Ap B wr w1 u0 v1 (lk ++ [1])) := Ap.after D0.out (Ap.after ((Below.refl _ _).alloc (Nat.le_refl _) _) A1)
    have hc1 : C w1 := CA.out _ _ _ _ _ _ (CL.out _ _ C0.out) (HO8.out.alloc _) A1 HK.out.ne
    have hsA := A1.gr.size
    simp only [World.size_alloc] at hsA
    have HNE1 : Hid (v1.ownBlock ≠ some W.heap.size) := by
      intro e
      rcases A1.ob _ e with h | h
      · exact HK.out.ne h
      · simp at h
        omega
    clear A1
    refine hK _ _ hc1 ?_
    simp only [Act.put, List.setIfInBounds_toArray, List.set_cons_zero, List.set_cons_succ]
    refine lone_do (i := 8) 1 rfl (by kernel_rfl) rfl (by rfl) ?_
    intro K hK
    refine oper_call 133 #[.tmp 91, .tmp 96] #[52, 9] rfl #[v1, .string nm] (by rw [List.map_toArray]; rfl) (enters Tryz.func133 (by kernel_rfl) rfl) (fun v' w' => Ap B w1 w' v1 v' (lk ++ [1] ++ txK nm)) (rTx v1 (lk ++ [1]) nm B w1 HA1.out.own (by omega) (by omega) (by simp; omega)) ?_
    intro v2 w2 A2
    have HA2 : Hid (Ap B wr w2 u0 v2 (lk ++ (1 :: txK nm))) := by
      have := HA1.out.trans A2
      show Ap _ _ _ _ _ _
      simpa using this
    have hc2 : C w2 := CA.out _ _ _ _ _ _ hc1 HA1.out.own A2 HNE1.out
    have hsB := A2.gr.size
    clear A2
    refine hK _ _ hc2 ?_
    simp only [Act.put, List.setIfInBounds_toArray, List.set_cons_zero, List.set_cons_succ]
    refine lone_calm (i := 9) 0 rfl (by kernel_rfl) rfl rfl hc2 ?_
    have hCq : ∀ p : Prop, (∀ W, C W → p) ↔ p := fun p => ⟨fun h => h _ hc2, fun h _ _ => h⟩
    go_big_quiet_want
    go_big_quiet_op
    go_big_quiet_on
    refine wpQuiet_nil ?_
    refine anyC_done (by kernel_rfl) ⟨rfl, ?_⟩
    have Hb8 : Hid (Below w0.heap.size w0 w2) := (CX.out _ hc2).2
    have cc5 : w2.cell? ⟨W.heap.size, 5, none⟩ = some (.slice (some ⟨b, o, none⟩) p.2.list.length kc) := (CX.out _ hc2).1.cell 5
    obtain ⟨d0, d1, d2, d3, d4, d5⟩ := HND.below Hb8.out
    have KQ := HQ.out na' nc' ka' kc' v2 (lk ++ (1 :: txK nm)) B w0 w2 HVq.out Hb8.out hB0 (by omega) HA2.out.own (by rw [List.length_append]; exact HLn.out)
    clear hc2 hCq hCp hc1 HND
    go_wp2_with fail
    refine KQ.mono ?_
    rintro e w9 ⟨v9, rfl, H9⟩
    have HK2 : Hid (KIv B W w9 v v9 (l ++ [128]) (lk ++ (1 :: (txK nm ++ keyV q))) [.int .i64 9, .int .i64 p.1.n, .int .i64 p.1.s, .string p.1.t, .slice (some ⟨bn, on, none⟩) p.1.ns.length nc, .slice (some ⟨b, o, none⟩) p.2.list.length kc] p.2 true p.1.ns (k + 1) (keyF p.2 true p.1.ns)) := by
      have h1 := HK.out.step (v2 := v9) (w2 := w9) HQq.out (Below.refl _ _) (by
        have h2 := HA2.out.trans H9
        simp only [if_true]
        rw [HD.out]
        simpa using h2)
      simp only [if_true] at h1
      rw [HD.out] at h1
      show KIv _ _ _ _ _ _ _ _ _ _ _ _ _
      simpa using h1
    clear KQ H9 HK d0 d1 d2 d3 d4 d5 cc5
    go_wp2
    go_roundw
    case rel => exact ⟨k + 1, _, by omega, by go_num, HK2.out⟩
    case measure => simp [intOf]; omega
theorem rk_step (p : Vt) (hw : WfV p) (hc : chk0V p = 0) (ih : ∀ q ∈ p.2.list, RkC q) : RkC p := by
  intro na nc ka kc v l B w0 W hv hb hB0 hB ho hlen
  have hl : l.length ≤ 600000000 := by omega
  obtain ⟨hown, hkid⟩ := own_of0 hc
  obtain ⟨hf, ht, hkl, hnm⟩ := own_fine hown
  have fin : ∀ {w' : World} {e : Ending} (x : List Nat), x = keyV p → (∃ v', e = .returned v' ∧ Ap B W w' v v' (l ++ x)) → ∃ v', e = .returned v' ∧ Ap B W w' v v' (l ++ keyV p) := by
    rintro w' e x rfl h
    exact h
  unfold formed at hf
  split at hf
  · next h =>
    rw [h]
    exact (rk_1 p.1.n p.1.s p.1.t na p.1.ns.length nc ka p.2.list.length kc v l hl B W ho hB).mono fun e w' H => fin _ (by rw [keyV_lt (by omega), headK]; simp [h]) H
  split at hf
  · next _ h =>
    rw [Bool.and_eq_true] at hf
    have hn : p.1.n = 0 ∨ p.1.n = 1 := by simpa using hf.2
    have hn' : p.1.n = (p.1.n.toNat : Int) := by omega
    rw [h, hn']
    exact (rk_2 p.1.s p.1.t na p.1.ns.length nc ka p.2.list.length kc v l hl p.1.n.toNat (by omega) B W ho hB).mono fun e w' H => fin _ (by rw [keyV_lt (by omega), headK]; simp [h]) H
  split at hf
  · next _ _ h =>
    obtain ⟨a1, a2, a3, a4, a5⟩ := leaf_of hf (by decide) (by decide)
    have hs := a4 (by decide)
    rw [h]
    exact (rk_3 p.1.n p.1.s p.1.t na p.1.ns.length nc ka p.2.list.length kc v l hl hw.1.n0 hw.1.n1 (by omega) (by omega) B W ho hB).mono fun e w' H => fin _ (by rw [keyV_lt (by omega), headK]; simp [h]) H
  split at hf
  · next _ _ _ h =>
    simp only [Bool.and_eq_true, decide_eq_true_eq] at hf
    obtain ⟨⟨⟨b1, b2⟩, b3⟩, b4⟩ := hf
    rw [h]
    exact (rk_4 p.1.n p.1.s p.1.t na p.1.ns.length nc ka p.2.list.length kc v l hl hw.1.n0 hw.1.n1 (by omega) (by omega) B W ho hB).mono fun e w' H => fin _ (by rw [keyV_lt (by omega), headK]; simp [h]) H
  split at hf
  · next _ _ _ _ h =>
    simp only [Bool.and_eq_true, decide_eq_true_eq] at hf
    obtain ⟨⟨b1, b2⟩, b3⟩ := hf
    have hn' : p.1.n = (p.1.n.toNat : Int) := by omega
    rw [h, hn']
    exact (rk_5 p.1.s p.1.t na p.1.ns.length nc ka p.2.list.length kc v l hl p.1.n.toNat (by omega) B W ho hB).mono fun e w' H => fin _ (by rw [keyV_lt (by omega), headK]; simp [h]) H
  split at hf
  · next _ _ _ _ _ h =>
    rw [h]
    exact (rk_6 p.1.n p.1.s p.1.t na p.1.ns.length nc ka p.2.list.length kc v l hl ht B W ho hB).mono fun e w' H => fin _ (by rw [keyV_lt (by omega), headK]; simp [h]) H
  split at hf
  · next _ _ _ _ _ _ h =>
    rw [h]
    exact (rk_7 p.1.n p.1.s p.1.t na p.1.ns.length nc ka p.2.list.length kc v l hl ht B W ho hB).mono fun e w' H => fin _ (by rw [keyV_lt (by omega), headK]; simp [h]) H
  split at hf
  · next _ _ _ _ _ _ _ h =>
    have e : keyV p = 112 :: (keyF p.2 false p.1.ns ++ [0]) := by unfold keyV headK; simp [h]
    rw [e] at hlen ⊢
    rw [h]
    exact rk_list p hkl ih na nc ka kc v l B w0 W hv hb hB0 hB ho (by simp only [List.length_append, List.length_cons, List.length_nil] at hlen ⊢; omega)
  split at hf
  · next _ _ _ _ _ _ _ _ h =>
    have e : keyV p = 128 :: (keyF p.2 true p.1.ns ++ [0]) := by unfold keyV headK; simp [h]
    rw [e] at hlen ⊢
    rw [h]
    obtain ⟨n1, n2⟩ := names_len (hnm h)
    exact rk_struct p hkl n1 n2 ih na nc ka kc v l B w0 W hv hb hB0 hB ho (by simp only [List.length_append, List.length_cons, List.length_nil] at hlen ⊢; omega)
  · cases hf
theorem rk_any : ∀ (N : Nat) (p : Vt), wt p ≤ N → WfV p → chk0V p = 0 → RkC p := by
  intro N
  induction N with
  | zero => intro p hp; exfalso; unfold wt at hp; omega
  | succ N ih =>
    intro p hp hw hc
    exact rk_step p hw hc fun q hq => ih q (by have := wt_kid hq; omega) (hw.kid hq) (chk0_mem (own_of0 hc).2 hq)
end Go.Proofs.YtmlfhplhiedfjaaGreatDoor
