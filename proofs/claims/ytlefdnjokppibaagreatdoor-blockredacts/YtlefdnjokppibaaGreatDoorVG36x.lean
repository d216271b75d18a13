/-
  The document's own writer of codec: bytes, at Lists and Structs; at any value. · The document's own parts. · The document's own Encode.
-/
import Derived.Test.YtlefdnjokppibaaGreatDoorVVb
import Derived.Test.YtlefdnjokppibaaGreatDoorVG3x
import Derived.Test.YtlefdnjokppibaaGreatDoorVG12x
import Derived.Test.YtlefdnjokppibaaGreatDoorVG2x
namespace Go.Proofs.YtlefdnjokppibaaGreatDoor
open Go.RowKit Math
set_option linter.unusedVariables false
set_option linter.unusedSimpArgs false
def RbC (p : Vt) : Prop := ∀ (na : Option Addr) (nc : Nat) (ka : Option Addr) (kc : Nat) (v : Value) (l : List Nat) (B : Nat) (w0 W : World), Vl w0 p na nc ka kc → Below w0.heap.size w0 W → w0.heap.size ≤ B → B ≤ W.heap.size → Own W B v l → l.length + (encV p).length ≤ 700000000 →
  Calls Tryz.prog 85 #[v, .agg #[.int .i64 p.1.k, .int .i64 p.1.n, .int .i64 p.1.s, .string p.1.t, .slice na p.1.ns.length nc, .slice ka p.2.list.length kc]] W fun e w' => ∃ v' l', e = .returned v' ∧ Hid (Ap B W w' v v' l' ∧ Wr l (encV p) l')
set_option maxRecDepth 8000 in
set_option maxHeartbeats 1000000 in
theorem rb_8 (p : Vt) (hkl : p.2.list.length ≤ 200) (ih : ∀ q ∈ p.2.list, RbC q) (na : Option Addr) (nc : Nat) (ka : Option Addr) (kc : Nat) (v : Value) (l : List Nat) (w0 : World) (hl0 : l.length + 1 + (uv p.2.list.length ++ enc p.2 false p.1.ns).length ≤ 700000000) (B : Nat) (W : World) (ho : Own W B v l) (hB : B ≤ W.heap.size) (hv : Vl w0 p na nc ka kc) (hb : Below w0.heap.size w0 W) (hB0 : w0.heap.size ≤ B) :
    Calls Tryz.prog 85 #[v, .agg #[.int .i64 8, .int .i64 p.1.n, .int .i64 p.1.s, .string p.1.t, .slice na p.1.ns.length nc, .slice ka p.2.list.length kc]] W fun e w' => ∃ v' l', e = .returned v' ∧ Hid (Ap B W w' v v' l' ∧ Wr l (8 :: (uv p.2.list.length ++ enc p.2 false p.1.ns)) l') := by
  obtain ⟨W1, HW1⟩ : ∃ W1, Hid (W.alloc (.cells #[.int .i64 8, .int .i64 p.1.n, .int .i64 p.1.s, .string p.1.t, .slice na p.1.ns.length nc, .slice ka p.2.list.length kc] 41) = W1) := ⟨_, rfl⟩
  have HX : Hid (Blk W1 W.heap.size 41 [.int .i64 8, .int .i64 p.1.n, .int .i64 p.1.s, .string p.1.t, .slice na p.1.ns.length nc, .slice ka p.2.list.length kc]) := by rw [← HW1.out]; exact blk_new W 41 [.int .i64 8, .int .i64 p.1.n, .int .i64 p.1.s, .string p.1.t, .slice na p.1.ns.length nc, .slice ka p.2.list.length kc]
  have HO1 : Hid (Own W1 B v l) := by rw [← HW1.out]; exact ho.alloc _
  have hz1 : W1.heap.size = W.heap.size + 1 := by have := HW1.out; subst this; simp
  have HB1 : Hid (Below W.heap.size W W1) := by rw [← HW1.out]; exact (Below.refl _ _).alloc (Nat.le_refl _) _
  have HN : Hid (v.ownBlock ≠ some W.heap.size) := ho.ne
  have c0 : W1.cell? ⟨W.heap.size, 0, none⟩ = some (.int .i64 8) := HX.out.cell 0
  have HO : Hid (Own W B v l) := ho
  have HV : Hid (Vl w0 p na nc ka kc) := hv
  have HI : Hid (∀ q ∈ p.2.list, RbC q) := ih
  have HBw : Hid (Below w0.heap.size w0 W) := hb
  have HT : Hid (l.length + 1 + (uv p.2.list.length ++ enc p.2 false p.1.ns).length ≤ 700000000) := hl0
  have hl : l.length ≤ 700000000 := by omega
  clear ho hv ih hb hl0
  go_enter Tryz.func85, Tryz.ntmps85
  go_wp2_with (at_builtin; go_must (generalize hWW : World.alloc W _ = W9; obtain rfl : W1 = W9 := (by rw [← hWW, ← HW1.out]); clear hWW HW1; refine ap_bytes rfl (.tmp 6) (.tmp 10) rfl B v l rfl (HO1.out.alloc _) _ _ _ [8] rfl rfl (byt_at W1 [8] _ hz1) (by simp) (by simp; omega) (by simp; omega) ?_))
  intro v1 w1 A1
  have HA : Hid (Ap B W1 w1 v v1 (l ++ [8])) := Ap.after ((Below.refl _ _).alloc (Nat.le_refl _) _) A1
  clear A1 c0
  have hb1 : B ≤ w1.heap.size := by have := HA.out.gr.size; omega
  have HX1 : Hid (Blk w1 W.heap.size 41 [.int .i64 8, .int .i64 p.1.n, .int .i64 p.1.s, .string p.1.t, .slice na p.1.ns.length nc, .slice ka p.2.list.length kc]) := HA.out.blk HX.out HN.out
  have HNE : Hid (v1.ownBlock ≠ some W.heap.size) := fun e => by
    rcases HA.out.ob _ e with h | h
    · exact HN.out h
    · omega
  have HAW : Hid (Ap B W w1 v v1 (l ++ [8])) := Ap.after HB1.out HA.out
  clear HA HX HO1 HB1 hz1
  have c0 : w1.cell? ⟨W.heap.size, 0, none⟩ = some (.int .i64 8) := HX1.out.cell 0
  have c5 : w1.cell? ⟨W.heap.size, 5, none⟩ = some (.slice ka p.2.list.length kc) := HX1.out.cell 5
  have K2 := uvr_any p.2.list.length (by omega) w1
  have h10 := uv_ten p.2.list.length (by omega)
  go_wp2_with fail
  refine K2.mono ?_
  rintro e w3 ⟨r, rfl, o3, b3⟩
  obtain ⟨ax, cx, rfl, hby, hnil, _⟩ := o3.byt
  have hs3 := b3.size
  have HB3 : Hid (Below w1.heap.size w1 w3) := b3
  have HY : Hid (Byt w3 ax (uv p.2.list.length)) := hby
  have HO3 : Hid (Own w3 B v1 (l ++ [8])) := HAW.out.own.below b3
  clear o3 b3 K2 hby c0 c5
  go_wp2_with (at_builtin; go_must (refine ap_bytes rfl (.tmp 62) (.tmp 67) rfl B v1 (l ++ [8]) rfl HO3.out ax _ cx (uv p.2.list.length) rfl rfl HY.out hnil (by simp; omega) (by omega) ?_))
  intro v4 w4 A4
  have A4 : Ap B w3 w4 v1 v4 ((l ++ [8]) ++ uv p.2.list.length) := by simpa using A4
  have HI0 : Hid (KInv B W w4 v v4 (l ++ [8]) ((l ++ [8]) ++ uv p.2.list.length) [.int .i64 8, .int .i64 p.1.n, .int .i64 p.1.s, .string p.1.t, .slice na p.1.ns.length nc, .slice ka p.2.list.length kc] p.2 false p.1.ns 0 (uv p.2.list.length ++ enc p.2 false p.1.ns)) := by
    refine ⟨HAW.out.trans (Ap.after HB3.out A4), A4.blk (HX1.out.below HB3.out HX1.out.lt) HNE.out, fun e => ?_, ⟨uv p.2.list.length, Wr.all _ _, rfl⟩⟩
    rcases A4.ob _ e with h | h
    · exact HNE.out h
    · have := HX1.out.lt
      omega
  clear A4 HX1 HNE HAW HY HO3 HB3 hnil h10 hs3 hb1 HN
  go_wp2
  go_loopw [0, 5] (fun vb i wr => ∃ (k : Nat) (lk : List Nat), k ≤ p.2.list.length ∧ i = .int .i64 (k : Int) ∧ Hid (KInv B W wr v vb (l ++ [8]) lk [.int .i64 8, .int .i64 p.1.n, .int .i64 p.1.s, .string p.1.t, .slice na p.1.ns.length nc, .slice ka p.2.list.length kc] p.2 false p.1.ns k (uv p.2.list.length ++ enc p.2 false p.1.ns))) (fun _ i _ => p.2.list.length - (intOf i).toNat)
  case atStart => exact ⟨0, _, by omega, rfl, HI0.out⟩
  case round =>
    clear HI0
    obtain ⟨k, lk, hk0, rfl, HK⟩ := hrel
    have cb0 : wr.cell? ⟨W.heap.size, 0, none⟩ = some (.int .i64 8) := HK.out.blk.cell 0
    have cb5 : wr.cell? ⟨W.heap.size, 5, none⟩ = some (.slice ka p.2.list.length kc) := HK.out.blk.cell 5
    by_cases hlt : k < p.2.list.length
    case neg =>
      have HF : Hid (Ap B W wr v u0 lk ∧ Wr l (8 :: (uv p.2.list.length ++ enc p.2 false p.1.ns)) lk) := by
        obtain ⟨x, h1, h2⟩ := HK.out.wr
        rw [Fo.drop_end _ _ (by omega)] at h2
        simp only [enc, List.append_nil] at h2
        rw [h2]
        exact ⟨HK.out.ap, (Wr.all l [8]).trans h1⟩
      go_wp2
      go_ret
      exact ⟨_, lk, rfl, HF.out⟩
    have HBr : Hid (Below w0.heap.size w0 wr) := HK.out.ap.below HO.out HBw.out HBw.out.size hB0
    obtain ⟨q, b, o, na', nc', ka', kc', hq, rfl, hnd, hvl⟩ := HV.out.kid (Below.refl _ _) (k := k) hlt
    have HQq : Hid (p.2.list[k]? = some q) := hq
    have HQ : Hid (RbC q) := HI.out q (List.mem_of_getElem? hq)
    have HVq : Hid (Vl w0 q na' nc' ka' kc') := hvl
    have HND := hnd
    have hBr : B ≤ wr.heap.size := by have := HK.out.ap.gr.size; omega
    obtain ⟨d0, d1, d2, d3, d4, d5⟩ := hnd.below HBr.out
    clear HND hvl hq
    have KQ := HQ.out na' nc' ka' kc' u0 lk B w0 wr HVq.out HBr.out hB0 hBr HK.out.ap.own (by
      have h1 := HK.out.len
      have h2 := HT.out
      have h3 := congrArg List.length (enc_drop (b := false) (ns := p.1.ns) HQq.out)
      simp only [List.length_append, List.length_cons, List.length_nil] at h3 h1 h2
      omega)
    go_wp2_with fail
    refine KQ.mono ?_
    rintro e w9 ⟨v9, l9, rfl, H9⟩
    have HK2 : Hid (KInv B W w9 v v9 (l ++ [8]) l9 [.int .i64 8, .int .i64 p.1.n, .int .i64 p.1.s, .string p.1.t, .slice na p.1.ns.length nc, .slice (some ⟨b, o, none⟩) p.2.list.length kc] p.2 false p.1.ns (k + 1) (uv p.2.list.length ++ enc p.2 false p.1.ns)) := HK.out.step HQq.out (Below.refl _ _) H9.out.1 (by simpa using H9.out.2)
    clear KQ H9 HK d0 d1 d2 d3 d4 d5 cb0 cb5
    go_wp2
    go_roundw
    case rel => exact ⟨k + 1, l9, by omega, by go_num, HK2.out⟩
    case measure => simp [intOf]; omega
set_option maxRecDepth 8000 in
set_option maxHeartbeats 1000000 in
theorem rb_9 (p : Vt) (hkl : p.2.list.length ≤ 200) (hn : p.1.ns.length = p.2.list.length) (hn2 : ∀ x ∈ p.1.ns, x.size ≤ 40) (ih : ∀ q ∈ p.2.list, RbC q) (na : Option Addr) (nc : Nat) (ka : Option Addr) (kc : Nat) (v : Value) (l : List Nat) (w0 : World) (hl0 : l.length + 1 + (uv p.2.list.length ++ enc p.2 true p.1.ns).length ≤ 700000000) (B : Nat) (W : World) (ho : Own W B v l) (hB : B ≤ W.heap.size) (hv : Vl w0 p na nc ka kc) (hb : Below w0.heap.size w0 W) (hB0 : w0.heap.size ≤ B) :
    Calls Tryz.prog 85 #[v, .agg #[.int .i64 9, .int .i64 p.1.n, .int .i64 p.1.s, .string p.1.t, .slice na p.1.ns.length nc, .slice ka p.2.list.length kc]] W fun e w' => ∃ v' l', e = .returned v' ∧ Hid (Ap B W w' v v' l' ∧ Wr l (9 :: (uv p.2.list.length ++ enc p.2 true p.1.ns)) l') := by
  obtain ⟨W1, HW1⟩ : ∃ W1, Hid (W.alloc (.cells #[.int .i64 9, .int .i64 p.1.n, .int .i64 p.1.s, .string p.1.t, .slice na p.1.ns.length nc, .slice ka p.2.list.length kc] 41) = W1) := ⟨_, rfl⟩
  have HX : Hid (Blk W1 W.heap.size 41 [.int .i64 9, .int .i64 p.1.n, .int .i64 p.1.s, .string p.1.t, .slice na p.1.ns.length nc, .slice ka p.2.list.length kc]) := by rw [← HW1.out]; exact blk_new W 41 [.int .i64 9, .int .i64 p.1.n, .int .i64 p.1.s, .string p.1.t, .slice na p.1.ns.length nc, .slice ka p.2.list.length kc]
  have HO1 : Hid (Own W1 B v l) := by rw [← HW1.out]; exact ho.alloc _
  have hz1 : W1.heap.size = W.heap.size + 1 := by have := HW1.out; subst this; simp
  have HB1 : Hid (Below W.heap.size W W1) := by rw [← HW1.out]; exact (Below.refl _ _).alloc (Nat.le_refl _) _
  have HN : Hid (v.ownBlock ≠ some W.heap.size) := ho.ne
  have c0 : W1.cell? ⟨W.heap.size, 0, none⟩ = some (.int .i64 9) := HX.out.cell 0
  have HO : Hid (Own W B v l) := ho
  have HV : Hid (Vl w0 p na nc ka kc) := hv
  have HI : Hid (∀ q ∈ p.2.list, RbC q) := ih
  have HBw : Hid (Below w0.heap.size w0 W) := hb
  have HN1 : Hid (p.1.ns.length = p.2.list.length) := hn
  have HN2 : Hid (∀ x ∈ p.1.ns, x.size ≤ 40) := hn2
  have HT : Hid (l.length + 1 + (uv p.2.list.length ++ enc p.2 true p.1.ns).length ≤ 700000000) := hl0
  have hl : l.length ≤ 700000000 := by omega
  clear ho hv ih hb hl0 hn hn2
  go_enter Tryz.func85, Tryz.ntmps85
  go_wp2_with (at_builtin; go_must (generalize hWW : World.alloc W _ = W9; obtain rfl : W1 = W9 := (by rw [← hWW, ← HW1.out]); clear hWW HW1; refine ap_bytes rfl (.tmp 6) (.tmp 10) rfl B v l rfl (HO1.out.alloc _) _ _ _ [9] rfl rfl (byt_at W1 [9] _ hz1) (by simp) (by simp; omega) (by simp; omega) ?_))
  intro v1 w1 A1
  have HA : Hid (Ap B W1 w1 v v1 (l ++ [9])) := Ap.after ((Below.refl _ _).alloc (Nat.le_refl _) _) A1
  clear A1 c0
  have hb1 : B ≤ w1.heap.size := by have := HA.out.gr.size; omega
  have HX1 : Hid (Blk w1 W.heap.size 41 [.int .i64 9, .int .i64 p.1.n, .int .i64 p.1.s, .string p.1.t, .slice na p.1.ns.length nc, .slice ka p.2.list.length kc]) := HA.out.blk HX.out HN.out
  have HNE : Hid (v1.ownBlock ≠ some W.heap.size) := fun e => by
    rcases HA.out.ob _ e with h | h
    · exact HN.out h
    · omega
  have HAW : Hid (Ap B W w1 v v1 (l ++ [9])) := Ap.after HB1.out HA.out
  clear HA HX HO1 HB1 hz1
  have c0 : w1.cell? ⟨W.heap.size, 0, none⟩ = some (.int .i64 9) := HX1.out.cell 0
  have c5 : w1.cell? ⟨W.heap.size, 5, none⟩ = some (.slice ka p.2.list.length kc) := HX1.out.cell 5
  have K2 := uvr_any p.2.list.length (by omega) w1
  have h10 := uv_ten p.2.list.length (by omega)
  go_wp2_with fail
  refine K2.mono ?_
  rintro e w3 ⟨r, rfl, o3, b3⟩
  obtain ⟨ax, cx, rfl, hby, hnil, _⟩ := o3.byt
  have hs3 := b3.size
  have HB3 : Hid (Below w1.heap.size w1 w3) := b3
  have HY : Hid (Byt w3 ax (uv p.2.list.length)) := hby
  have HO3 : Hid (Own w3 B v1 (l ++ [9])) := HAW.out.own.below b3
  clear o3 b3 K2 hby c0 c5
  go_wp2_with (at_builtin; go_must (refine ap_bytes rfl (.tmp 62) (.tmp 67) rfl B v1 (l ++ [9]) rfl HO3.out ax _ cx (uv p.2.list.length) rfl rfl HY.out hnil (by simp; omega) (by omega) ?_))
  intro v4 w4 A4
  have A4 : Ap B w3 w4 v1 v4 ((l ++ [9]) ++ uv p.2.list.length) := by simpa using A4
  have HI0 : Hid (KInv B W w4 v v4 (l ++ [9]) ((l ++ [9]) ++ uv p.2.list.length) [.int .i64 9, .int .i64 p.1.n, .int .i64 p.1.s, .string p.1.t, .slice na p.1.ns.length nc, .slice ka p.2.list.length kc] p.2 true p.1.ns 0 (uv p.2.list.length ++ enc p.2 true p.1.ns)) := by
    refine ⟨HAW.out.trans (Ap.after HB3.out A4), A4.blk (HX1.out.below HB3.out HX1.out.lt) HNE.out, fun e => ?_, ⟨uv p.2.list.length, Wr.all _ _, rfl⟩⟩
    rcases A4.ob _ e with h | h
    · exact HNE.out h
    · have := HX1.out.lt
      omega
  clear A4 HX1 HNE HAW HY HO3 HB3 hnil h10 hs3 hb1 HN
  go_wp2
  go_loopw [0, 5] (fun vb i wr => ∃ (k : Nat) (lk : List Nat), k ≤ p.2.list.length ∧ i = .int .i64 (k : Int) ∧ Hid (KInv B W wr v vb (l ++ [9]) lk [.int .i64 9, .int .i64 p.1.n, .int .i64 p.1.s, .string p.1.t, .slice na p.1.ns.length nc, .slice ka p.2.list.length kc] p.2 true p.1.ns k (uv p.2.list.length ++ enc p.2 true p.1.ns))) (fun _ i _ => p.2.list.length - (intOf i).toNat)
  case atStart => exact ⟨0, _, by omega, rfl, HI0.out⟩
  case round =>
    clear HI0
    obtain ⟨k, lk, hk0, rfl, HK⟩ := hrel
    have cb0 : wr.cell? ⟨W.heap.size, 0, none⟩ = some (.int .i64 9) := HK.out.blk.cell 0
    have cb5 : wr.cell? ⟨W.heap.size, 5, none⟩ = some (.slice ka p.2.list.length kc) := HK.out.blk.cell 5
    by_cases hlt : k < p.2.list.length
    case neg =>
      have HF : Hid (Ap B W wr v u0 lk ∧ Wr l (9 :: (uv p.2.list.length ++ enc p.2 true p.1.ns)) lk) := by
        obtain ⟨x, h1, h2⟩ := HK.out.wr
        rw [Fo.drop_end _ _ (by omega)] at h2
        simp only [enc, List.append_nil] at h2
        rw [h2]
        exact ⟨HK.out.ap, (Wr.all l [9]).trans h1⟩
      go_wp2
      go_ret
      exact ⟨_, lk, rfl, HF.out⟩
    have HBr : Hid (Below w0.heap.size w0 wr) := HK.out.ap.below HO.out HBw.out HBw.out.size hB0
    obtain ⟨q, b, o, na', nc', ka', kc', hq, rfl, hnd, hvl⟩ := HV.out.kid (Below.refl _ _) (k := k) hlt
    have HQq : Hid (p.2.list[k]? = some q) := hq
    have HQ : Hid (RbC q) := HI.out q (List.mem_of_getElem? hq)
    have HVq : Hid (Vl w0 q na' nc' ka' kc') := hvl
    have HND := hnd
    have hBr : B ≤ wr.heap.size := by have := HK.out.ap.gr.size; omega
    clear hnd hvl hq
    obtain ⟨nm, hnm⟩ : ∃ nm, p.1.ns[k]? = some nm := ⟨_, List.getElem?_eq_getElem (by rw [HN1.out]; exact hlt)⟩
    have hns : nm.size ≤ 40 := HN2.out nm (List.mem_of_getElem? hnm)
    have HD : Hid ((p.1.ns.drop k).headD ⟨#[]⟩ = nm) := by
      show _ = _
      have := List.getElem?_eq_some_iff.1 hnm
      obtain ⟨h1, h2⟩ := this
      rw [List.drop_eq_getElem_cons h1, h2]
      rfl
    have HLn : Hid (lk.length + (txB nm).length + (encV q).length ≤ 700000000) := by
      have h1 := HK.out.len
      have h2 := HT.out
      have h3 := congrArg List.length (enc_drop (b := true) (ns := p.1.ns) HQq.out)
      simp only [if_true] at h3
      rw [HD.out] at h3
      simp only [List.length_append, List.length_cons, List.length_nil] at h3 h1 h2
      show _ ≤ _
      omega
    have hlk : lk.length ≤ 700000000 := by have := HLn.out; omega
    have KT := rpTx u0 lk nm B wr HK.out.ap.own hBr (by omega)
    rcases HV.out.nms with hem | ⟨bn, on, hna, hc⟩
    · rw [hem] at hnm; simp at hnm
    have hcn : wr.cell? ⟨bn, on + k, none⟩ = some (.string nm) := by
      have := hc k nm hnm
      rw [← this]
      exact HBr.out.cell (p := ⟨bn, on + k, none⟩) (cell_lt this)
    have cb4 : wr.cell? ⟨W.heap.size, 4, none⟩ = some (.slice (some ⟨bn, on, none⟩) p.1.ns.length nc) := by
      rw [← hna]
      exact HK.out.blk.cell 4
    have hkn : k < p.1.ns.length := by rw [HN1.out]; exact hlt
    clear hc hnm hna
    go_wp2_with fail
    refine KT.mono ?_
    rintro e w8 ⟨v8, rfl, A8⟩
    have HA8 : Hid (Ap B wr w8 u0 v8 (lk ++ txB nm)) := A8
    have HB8 : Hid (Below w0.heap.size w0 w8) := A8.below HK.out.ap.own HBr.out HBr.out.size hB0
    have cc5 : w8.cell? ⟨W.heap.size, 5, none⟩ = some (.slice (some ⟨b, o, none⟩) p.2.list.length kc) := (A8.blk HK.out.blk HK.out.ne).cell 5
    obtain ⟨d0, d1, d2, d3, d4, d5⟩ := HND.below HB8.out
    have KQ := HQ.out na' nc' ka' kc' v8 (lk ++ txB nm) B w0 w8 HVq.out HB8.out hB0 (Nat.le_trans hBr A8.gr.size) A8.own (by rw [List.length_append]; exact HLn.out)
    clear A8 KT hcn cb4 cb0 cb5 HND
    go_wp2_with fail
    refine KQ.mono ?_
    rintro e w9 ⟨v9, l9, rfl, H9⟩
    have HK2 : Hid (KInv B W w9 v v9 (l ++ [9]) l9 [.int .i64 9, .int .i64 p.1.n, .int .i64 p.1.s, .string p.1.t, .slice na p.1.ns.length nc, .slice (some ⟨b, o, none⟩) p.2.list.length kc] p.2 true p.1.ns (k + 1) (uv p.2.list.length ++ enc p.2 true p.1.ns)) := HK.out.step HQq.out (Below.refl _ _) (HA8.out.trans H9.out.1) (by
      simp only [if_true]
      rw [HD.out]
      exact (Wr.all lk (txB nm)).trans H9.out.2)
    clear KQ H9 HK d0 d1 d2 d3 d4 d5 cc5 HA8
    go_wp2
    go_roundw
    case rel => exact ⟨k + 1, l9, by omega, by go_num, HK2.out⟩
    case measure => simp [intOf]; omega
theorem rb_step (p : Vt) (hw : WfV p) (hc : chk0V p = 0) (ih : ∀ q ∈ p.2.list, RbC q) : RbC p := by
  intro na nc ka kc v l B w0 W hv hb hB0 hB ho hlen
  have hl : l.length ≤ 700000000 := by omega
  obtain ⟨hown, hkid⟩ := own_of0 hc
  obtain ⟨hf, ht, hkl, hnm⟩ := own_fine hown
  have fin : ∀ {w' : World} {e : Ending} (x : List Nat), x = encV p → (∃ v' l', e = .returned v' ∧ Hid (Ap B W w' v v' l' ∧ Wr l x l')) → ∃ v' l', e = .returned v' ∧ Hid (Ap B W w' v v' l' ∧ Wr l (encV p) l') := by
    rintro w' e x rfl h
    exact h
  have enil : p.2 = .nil → encV p = headB p.1 0 := fun h => by unfold encV; rw [h]; simp [enc, Fo.list]
  unfold formed at hf
  split at hf
  · next h =>
    obtain ⟨a1, a2, a3, a4, a5⟩ := leaf_of hf (by decide) (by decide)
    rw [h]
    exact (rb_1 p.1.n p.1.s p.1.t na p.1.ns.length nc ka p.2.list.length kc v l hl B W ho hB).mono fun e w' H => fin _ (by rw [enil a2, headB, bodyB, h]; rfl) H
  split at hf
  · next _ h =>
    rw [Bool.and_eq_true] at hf
    obtain ⟨a1, a2, a3, a4, a5⟩ := leaf_of hf.1 (by decide) (by decide)
    have hn : p.1.n = 0 ∨ p.1.n = 1 := by simpa using hf.2
    rw [h, show p.1.n = (p.1.n.toNat : Int) by omega]
    exact (rb_2 p.1.s p.1.t na p.1.ns.length nc ka p.2.list.length kc v l hl p.1.n.toNat (by omega) B W ho hB).mono fun e w' H => fin _ (by rw [enil a2, headB, bodyB, h]; rfl) H
  split at hf
  · next _ _ h =>
    obtain ⟨a1, a2, a3, a4, a5⟩ := leaf_of hf (by decide) (by decide)
    rw [h]
    exact (rb_3 p.1.n p.1.s p.1.t na p.1.ns.length nc ka p.2.list.length kc v l hl hw.1.n0 hw.1.n1 B W ho hB).mono fun e w' H => fin _ (by rw [enil a2, headB, bodyB, h]; rfl) H
  split at hf
  · next _ _ _ h =>
    simp only [Bool.and_eq_true, decide_eq_true_eq] at hf
    obtain ⟨⟨⟨b1, b2⟩, b3⟩, b4⟩ := hf
    obtain ⟨a1, a2, a3, a4, a5⟩ := leaf_of b1 (by decide) (by decide)
    obtain ⟨s, hs⟩ : ∃ s : Nat, p.1.s = s := ⟨p.1.s.toNat, by omega⟩
    rw [h, hs]
    exact (rb_4 p.1.n p.1.t na p.1.ns.length nc ka p.2.list.length kc v l hl hw.1.n0 hw.1.n1 s (by omega) B W ho hB).mono fun e w' H => fin _ (by rw [enil a2, headB, bodyB, h, hs]; rfl) H
  split at hf
  · next _ _ _ _ h =>
    simp only [Bool.and_eq_true, decide_eq_true_eq] at hf
    obtain ⟨⟨b1, b2⟩, b3⟩ := hf
    obtain ⟨a1, a2, a3, a4, a5⟩ := leaf_of b1 (by decide) (by decide)
    rw [h, show p.1.n = (p.1.n.toNat : Int) by omega]
    exact (rb_5 p.1.s p.1.t na p.1.ns.length nc ka p.2.list.length kc v l hl p.1.n.toNat (by omega) B W ho hB).mono fun e w' H => fin _ (by rw [enil a2, headB, bodyB, h]; rfl) H
  split at hf
  · next _ _ _ _ _ h =>
    obtain ⟨a1, a2, a3, a4, a5⟩ := leaf_of hf (by decide) (by decide)
    rw [h]
    exact (rb_6 p.1.n p.1.s p.1.t na p.1.ns.length nc ka p.2.list.length kc v l hl ht B W ho hB).mono fun e w' H => fin _ (by rw [enil a2, headB, bodyB, h]; rfl) H
  split at hf
  · next _ _ _ _ _ _ h =>
    obtain ⟨a1, a2, a3, a4, a5⟩ := leaf_of hf (by decide) (by decide)
    rw [h]
    exact (rb_7 p.1.n p.1.s p.1.t na p.1.ns.length nc ka p.2.list.length kc v l hl ht B W ho hB).mono fun e w' H => fin _ (by rw [enil a2, headB, bodyB, h]; rfl) H
  split at hf
  · next _ _ _ _ _ _ _ h =>
    have e : encV p = 8 :: (uv p.2.list.length ++ enc p.2 false p.1.ns) := by unfold encV; rw [headB, bodyB, h]; rfl
    rw [e] at hlen ⊢
    rw [h]
    exact rb_8 p hkl ih na nc ka kc v l w0 (by simp only [List.length_append, List.length_cons, List.length_nil] at hlen ⊢; omega) B W ho hB hv hb hB0
  split at hf
  · next _ _ _ _ _ _ _ _ h =>
    have e : encV p = 9 :: (uv p.2.list.length ++ enc p.2 true p.1.ns) := by unfold encV; rw [headB, bodyB, h]; rfl
    rw [e] at hlen ⊢
    rw [h]
    obtain ⟨n1, n2⟩ := names_len (hnm h)
    exact rb_9 p hkl n1 n2 ih na nc ka kc v l w0 (by simp only [List.length_append, List.length_cons, List.length_nil] at hlen ⊢; omega) B W ho hB hv hb hB0
  · cases hf
theorem rb_any : ∀ (N : Nat) (p : Vt), wt p ≤ N → WfV p → chk0V p = 0 → RbC p := by
  intro N
  induction N with
  | zero => intro p hp; exfalso; unfold wt at hp; omega
  | succ N ih =>
    intro p hp hw hc
    exact rb_step p hw hc fun q hq => ih q (by have := wt_kid hq; omega) (hw.kid hq) (chk0_mem (own_of0 hc).2 hq)
end Go.Proofs.YtlefdnjokppibaaGreatDoor
namespace Go.Proofs.YtlefdnjokppibaaGreatDoor
open Go.RowKit
set_option linter.unusedVariables false
/-- How much is looked at. -/
def ptH (h : Hd) : Nat := 1 + h.t.size
def Fo.pt : Fo → Nat
  | .nil => 0
  | .cons h k r => ptH h + k.pt + r.pt
def pt (p : Vt) : Nat := ptH p.1 + p.2.pt
theorem pt_step {f : Fo} {k : Nat} {q : Vt} (h : f.list[k]? = some q) : (f.drop k).pt = pt q + (f.drop (k + 1)).pt := by
  rw [Fo.drop_at f k q h]; rfl
theorem gtp_cast (m : Nat) : Ending.returned (.bool (decide ((65536 : Int) < (m : Int)))) = .returned (.bool (decide (65536 < m))) := by
  have : ((65536 : Int) < (m : Int)) ↔ 65536 < m := by omega
  simp only [this]
structure Pg (W W' : World) (g m m' s : Nat) : Prop where
  gr : W.grownBy W' (some g)
  blk : Blk W' g 3 [.int .i64 (m' : Int)]
  max : m' ≤ 1000000000000000
  ge : m' ≤ m + s
def PIh (p : Vt) : Prop := ∀ q : Vt, wt q < wt p → WfV q → ∀ (na : Option Addr) (nc : Nat) (ka : Option Addr) (kc : Nat) (g m : Nat) (w0 W : World), Vl w0 q na nc ka kc → Below w0.heap.size w0 W → w0.heap.size ≤ g → Blk W g 3 [.int .i64 (m : Int)] → m ≤ 65536 →
  Calls Tryz.prog 84 #[.agg #[.int .i64 q.1.k, .int .i64 q.1.n, .int .i64 q.1.s, .string q.1.t, .slice na q.1.ns.length nc, .slice ka q.2.list.length kc], .pointer (some ⟨g, 0, none⟩)] W fun e W' => ∃ m', e = .returned (.bool (decide (65536 < m'))) ∧ Hid (Pg W W' g m m' (pt q))
set_option maxRecDepth 8000 in
set_option maxHeartbeats 4000000 in
theorem parts_step (p : Vt) (ih : PIh p) (hwf : WfV p) (na : Option Addr) (nc : Nat) (ka : Option Addr) (kc : Nat) (g m : Nat) (w0 W : World) (hv : Vl w0 p na nc ka kc) (hb : Below w0.heap.size w0 W) (hg : w0.heap.size ≤ g) (hm : Blk W g 3 [.int .i64 (m : Int)]) (hm2 : m ≤ 65536) :
    Calls Tryz.prog 84 #[.agg #[.int .i64 p.1.k, .int .i64 p.1.n, .int .i64 p.1.s, .string p.1.t, .slice na p.1.ns.length nc, .slice ka p.2.list.length kc], .pointer (some ⟨g, 0, none⟩)] W fun e W' => ∃ m', e = .returned (.bool (decide (65536 < m'))) ∧ Hid (Pg W W' g m m' (pt p)) := by
  have hkl := hwf.2.1
  have htl := hwf.1.t1
  have hnl := hwf.1.c1
  obtain ⟨W1, HW1⟩ : ∃ W1, Hid (W.alloc (.cells #[.int .i64 p.1.k, .int .i64 p.1.n, .int .i64 p.1.s, .string p.1.t, .slice na p.1.ns.length nc, .slice ka p.2.list.length kc] 41) = W1) := ⟨_, rfl⟩
  have bx : Blk W1 W.heap.size 41 (six p.1 na nc ka p.2.list.length kc) := by rw [← HW1.out]; exact blk_new W 41 _
  have bm : Blk W1 g 3 [.int .i64 (m : Int)] := by rw [← HW1.out]; exact hm.alloc _
  have g1 : W.grownBy W1 none := by rw [← HW1.out]; exact World.grownBy_alloc W _ none
  have hne : g ≠ W.heap.size := Nat.ne_of_lt hm.lt
  have c0 : W1.cell? ⟨g, 0, none⟩ = some (.int .i64 (m : Int)) := bm.cell 0
  have c3 : W1.cell? ⟨W.heap.size, 3, none⟩ = some (.string p.1.t) := bx.cell 3
  have c4 : W1.cell? ⟨W.heap.size, 4, none⟩ = some (.slice na p.1.ns.length nc) := bx.cell 4
  have fr : W1.frozen? ⟨g, 0, none⟩ = false := bm.frozen 0
  have HS : Hid (pt p = ptH p.1 + p.2.pt) := rfl
  have HSh : Hid (ptH p.1 = 1 + p.1.t.size) := rfl
  have HI : Hid (PIh p) := ih
  have HW : Hid (WfV p) := hwf
  have HV : Hid (Vl w0 p na nc ka kc) := hv
  have HB : Hid (Below w0.heap.size w0 W) := hb
  have HBx : Hid (Blk W1 W.heap.size 41 (six p.1 na nc ka p.2.list.length kc)) := bx
  have HBm : Hid (Blk W1 g 3 [.int .i64 (m : Int)]) := bm
  have HG1 : Hid (W.grownBy W1 none) := g1
  generalize pt p = WS at *
  clear ih hwf hv hb bx bm g1 hm
  go_enter Tryz.func84, Tryz.ntmps84
  go_wp2
  generalize hWW : World.alloc W _ = W2
  obtain rfl : W1 = W2 := by rw [← hWW, ← HW1.out]
  clear hWW HW1
  obtain ⟨m1, HM1⟩ : ∃ m1 : Nat, Hid (m1 = m + 1 + p.1.t.size) := ⟨_, rfl⟩
  have hm1 : m1 ≤ 1000000000000000 := by rw [HM1.out]; omega
  have HX : Hid ((m : Int) + 1 + (p.1.t.size : Int) = (m1 : Int)) := by
    show _ = _
    rw [HM1.out]
    omega
  go_region
  all_goals go_wp2
  rw [HX.out]
  obtain ⟨W2, HW2⟩ : ∃ W2, Hid ((W1.setCell ⟨g, 0, none⟩ (.int .i64 (m1 : Int))).drew = W2) := ⟨_, rfl⟩
  rw [HW2.out]
  have HG2 : Hid (W1.grownBy W2 (some g)) := by
    rw [← HW2.out]
    have h := grown_setCell W1 ⟨g, 0, none⟩ (.int .i64 (m1 : Int))
    exact ⟨h.os, h.tape, h.output, h.size, h.block⟩
  have HB2 : Hid (Blk W2 g 3 [.int .i64 (m1 : Int)]) := by
    rw [← HW2.out]
    exact HBm.out.set 0 (.int .i64 (m1 : Int))
  have HX2 : Hid (Blk W2 W.heap.size 41 (six p.1 na nc ka p.2.list.length kc)) := HBx.out.kept HG2.out (fun e => hne (Option.some.inj e).symm)
  have HBw : Hid (Below w0.heap.size w0 W2) := (HB.out.grown HG1.out HB.out.size (fun k e => by cases e)).grown HG2.out (Nat.le_trans HB.out.size HG1.out.size) (fun k e => by cases e; exact hg)
  have HGW : Hid (W.grownBy W2 (some g)) := by
    have h1 := HG1.out
    have h2 := HG2.out
    exact ⟨h2.os.trans h1.os, h2.tape.trans h1.tape, h2.output.trans h1.output, Nat.le_trans h1.size h2.size, fun k hk hne => (h2.block k (Nat.lt_of_lt_of_le hk h1.size) hne).trans (h1.block k hk (by simp))⟩
  clear HW2 HX c0 c3 c4 fr HBx HBm HG1 HG2
  go_loopw [5] (fun i wr => ∃ k m' : Nat, k ≤ p.2.list.length ∧ i = .int .i64 (k : Int) ∧ m' ≤ 1000000000000000 ∧ Hid (Blk wr g 3 [.int .i64 (m' : Int)]) ∧ Hid (W2.grownBy wr (some g)) ∧ Hid (m' + (p.2.drop k).pt ≤ m1 + p.2.pt)) (fun i _ => p.2.list.length - (intOf i).toNat)
  case atStart => exact ⟨0, m1, by omega, rfl, hm1, HB2.out, World.grownBy.refl _ _, by show _ ≤ _; simp [Fo.drop]⟩
  case round =>
    obtain ⟨k, m', hk0, rfl, hmm, HBk, HGk, HMk⟩ := hrel
    have cg : wr.cell? ⟨g, 0, none⟩ = some (.int .i64 (m' : Int)) := HBk.out.cell 0
    have HXk : Hid (Blk wr W.heap.size 41 (six p.1 na nc ka p.2.list.length kc)) := HX2.out.kept HGk.out (fun e => hne (Option.some.inj e).symm)
    have c5 : wr.cell? ⟨W.heap.size, 5, none⟩ = some (.slice ka p.2.list.length kc) := HXk.out.cell 5
    have HGr : Hid (W.grownBy wr (some g)) := by
      have h1 := HGW.out
      have h2 := HGk.out
      exact ⟨h2.os.trans h1.os, h2.tape.trans h1.tape, h2.output.trans h1.output, Nat.le_trans h1.size h2.size, fun k hk hne => (h2.block k (Nat.lt_of_lt_of_le hk h1.size) hne).trans (h1.block k hk hne)⟩
    by_cases hlt : k < p.2.list.length ∧ m' ≤ 65536
    case neg =>
      have hfin : m' ≤ m + WS := by
        have h1 := HMk.out
        have h2 := HS.out
        have h3 := HSh.out
        have h4 := HM1.out
        omega
      have HF : Hid (m' ≤ m + WS) := hfin
      clear hfin HMk
      by_cases h1 : k < p.2.list.length
      · have h2 : ¬ m' ≤ 65536 := fun e => hlt ⟨h1, e⟩
        have h3 : decide ((m' : Int) ≤ 65536) = false := by simp; omega
        go_wp2
        go_ret
        exact ⟨m', by first | exact gtp_cast m' | rfl | exact gtp_yes m' (by omega), ⟨HGr.out, HBk.out, hmm, HF.out⟩⟩
      · go_wp2
        go_ret
        exact ⟨m', by first | exact gtp_cast m' | rfl | exact gtp_yes m' (by omega), ⟨HGr.out, HBk.out, hmm, HF.out⟩⟩
    obtain ⟨hlt, hle⟩ := hlt
    have h3 : decide ((m' : Int) ≤ 65536) = true := by simp; omega
    have HBr : Hid (Below w0.heap.size w0 wr) := HBw.out.grown HGk.out HBw.out.size (fun k e => by cases e; exact hg)
    obtain ⟨q, b, o, na', nc', ka', kc', hq, rfl, hnd, hvl⟩ := HV.out.kid (Below.refl _ _) (k := k) hlt
    have HQ := HI.out q (wt_kid (List.mem_of_getElem? hq)) (HW.out.kid (List.mem_of_getElem? hq)) na' nc' ka' kc' g m' w0 wr hvl HBr.out hg HBk.out hle
    obtain ⟨d0, d1, d2, d3, d4, d5⟩ := hnd.below HBr.out
    have HWq : Hid ((p.2.drop k).pt = pt q + (p.2.drop (k + 1)).pt) := pt_step hq
    generalize pt q = WQ at *
    clear hnd hvl hq
    go_wp2_with fail
    refine HQ.mono ?_
    rintro e w3 ⟨m3, rfl, h3r⟩
    clear HQ
    go_wp2
    go_roundw
    case rel =>
      have h1 := HGk.out
      have h2 := h3r.out.gr
      refine ⟨k + 1, m3, by omega, by go_num, h3r.out.max, h3r.out.blk, ⟨h2.os.trans h1.os, h2.tape.trans h1.tape, h2.output.trans h1.output, Nat.le_trans h1.size h2.size, fun k hk hne => (h2.block k (Nat.lt_of_lt_of_le hk h1.size) hne).trans (h1.block k hk hne)⟩, ?_⟩
      show _ ≤ _
      have h5 := h3r.out.ge
      have h6 := HMk.out
      have h7 := HWq.out
      omega
    case measure => simp [intOf]; omega
theorem parts_any : ∀ (N : Nat) (q : Vt), wt q ≤ N → WfV q → ∀ (na : Option Addr) (nc : Nat) (ka : Option Addr) (kc : Nat) (g m : Nat) (w0 W : World), Vl w0 q na nc ka kc → Below w0.heap.size w0 W → w0.heap.size ≤ g → Blk W g 3 [.int .i64 (m : Int)] → m ≤ 65536 →
    Calls Tryz.prog 84 #[.agg #[.int .i64 q.1.k, .int .i64 q.1.n, .int .i64 q.1.s, .string q.1.t, .slice na q.1.ns.length nc, .slice ka q.2.list.length kc], .pointer (some ⟨g, 0, none⟩)] W fun e W' => ∃ m', e = .returned (.bool (decide (65536 < m'))) ∧ Hid (Pg W W' g m m' (pt q)) := by
  intro N
  induction N with
  | zero => intro p hp; exfalso; unfold wt at hp; omega
  | succ N ih =>
    intro p hp hwf na nc ka kc g m w0 W hv hb hg hm hm2
    exact parts_step p (fun q hq hwq na nc ka kc g m w0 W h1 h2 h3 h4 h5 => ih q (by omega) hwq na nc ka kc g m w0 W h1 h2 h3 h4 h5) hwf na nc ka kc g m w0 W hv hb hg hm hm2
end Go.Proofs.YtlefdnjokppibaaGreatDoor
namespace Go.Proofs.YtlefdnjokppibaaGreatDoor
open Go.RowKit Math
set_option linter.unusedVariables false
theorem only_t {h : Hd} {kl : Nat} {F : Int} (e : only h kl F = true) (hF : F ≠ 4) : h.t.size = 0 := by
  simp only [only, Bool.and_eq_true, Bool.or_eq_true, decide_eq_true_eq] at e
  rcases e.1.1.2 with h3 | h3
  · exact absurd h3 hF
  · rw [em_of h3]; rfl
theorem formed_t {h : Hd} {kl : Nat} (e : formed h kl = true) : h.k = 6 ∨ h.k = 7 ∨ h.t.size = 0 := by
  unfold formed at e
  split at e
  · exact .inr (.inr (only_t e (by decide)))
  split at e
  · rw [Bool.and_eq_true] at e; exact .inr (.inr (only_t e.1 (by decide)))
  split at e
  · exact .inr (.inr (only_t e (by decide)))
  split at e
  · simp only [Bool.and_eq_true] at e; exact .inr (.inr (only_t e.1.1.1 (by decide)))
  split at e
  · simp only [Bool.and_eq_true] at e; exact .inr (.inr (only_t e.1.1 (by decide)))
  split at e
  · next h6 => exact .inl h6
  split at e
  · next h7 => exact .inr (.inl h7)
  split at e
  · exact .inr (.inr (only_t e (by decide)))
  split at e
  · exact .inr (.inr (only_t e (by decide)))
  · cases e
theorem head_low {h : Hd} {kl : Nat} (ho : own h kl = 0) : ptH h ≤ (headB h kl).length := by
  have hf := (own_fine ho).1
  unfold ptH headB
  rw [List.length_cons]
  rcases formed_t hf with h6 | h7 | h0
  · have : bodyB h kl = txB h.t := by unfold bodyB; simp [h6]
    rw [this, txB, List.length_append, bts_len]; omega
  · have : bodyB h kl = txB h.t := by unfold bodyB; simp [h7]
    rw [this, txB, List.length_append, bts_len]; omega
  · omega
theorem low_enc : ∀ (f : Fo) (b : Bool) (ns : List ByteArray), chk0 f = 0 → f.pt ≤ (enc f b ns).length
  | .nil, _, _, _ => by simp [enc, Fo.pt]
  | .cons h k r, b, ns, hc => by
    have c1 := chk0_mem (p := (h, k)) hc (by simp [Fo.list])
    have c2 : chk0 r = 0 := by
      have e : chk0 (.cons h k r) = if chk0V (h, k) ≠ 0 then chk0V (h, k) else chk0 r := rfl
      rw [e, if_neg (by simpa using c1)] at hc
      exact hc
    obtain ⟨a, b'⟩ := own_of0 c1
    have B1 : ptH h ≤ (headB h k.list.length).length := head_low a
    have B2 := low_enc k (decide (h.k = 9)) h.ns b'
    have B3 := low_enc r b ns.tail c2
    have e : enc (.cons h k r) b ns = ((if b then txB (ns.headD ⟨#[]⟩) else []) ++ (headB h k.list.length ++ enc k (decide (h.k = 9)) h.ns)) ++ enc r b ns.tail := rfl
    rw [e, List.length_append, List.length_append, List.length_append]
    simp only [Fo.pt]
    omega
theorem low_V (p : Vt) (hc : chk0V p = 0) : pt p ≤ (encV p).length := by
  have h := low_enc (.cons p.1 p.2 .nil) false [] (by rw [chk0_cons, if_neg (by simpa using hc)]; rfl)
  rw [enc_cons] at h
  simp only [Bool.false_eq_true, if_false, List.nil_append, enc, List.append_nil, Fo.pt] at h
  exact h
set_option maxRecDepth 8000 in
set_option maxHeartbeats 1000000 in
theorem rencode_any (p : Vt) (hw : WfV p) (hws : ws p ≤ 100000) (na : Option Addr) (nc : Nat) (ka : Option Addr) (kc : Nat) (W : World) (hv : Vl W p na nc ka kc) :
    Calls Tryz.prog 60 #[.agg #[.int .i64 p.1.k, .int .i64 p.1.n, .int .i64 p.1.s, .string p.1.t, .slice na p.1.ns.length nc, .slice ka p.2.list.length kc]] W fun e w' => ∃ v', e = .returned (.tuple #[v', .int .i64 (encE p)]) ∧ Hid (Own w' W.heap.size v' (encB p) ∧ Below W.heap.size W w') := by
  obtain ⟨W1, HW1⟩ : ∃ W1, Hid (W.alloc (.cells #[.int .i64 p.1.k, .int .i64 p.1.n, .int .i64 p.1.s, .string p.1.t, .slice na p.1.ns.length nc, .slice ka p.2.list.length kc] 41) = W1) := ⟨_, rfl⟩
  have HX : Hid (Blk W1 W.heap.size 41 (six p.1 na nc ka p.2.list.length kc)) := by rw [← HW1.out]; exact blk_new W 41 (six p.1 na nc ka p.2.list.length kc)
  have HB1 : Hid (Below W.heap.size W W1) := by rw [← HW1.out]; exact (Below.refl _ _).alloc (Nat.le_refl _) _
  have hz1 : W1.heap.size = W.heap.size + 1 := by have := HW1.out; subst this; simp
  have HV : Hid (Vl W p na nc ka kc) := hv
  have KC := rCheck_any p hw na nc ka kc W1 (hv.below HB1.out)
  have KA : Hid (chkV p 1 = 0 → RbC p ∧ (encV p).length ≤ 12000000 ∧ pt p ≤ (encV p).length) := fun h => ⟨rb_any _ p (Nat.le_refl _) hw (chk1 h), (by have := bound_V p hw (chk1 h); omega), low_V p (chk1 h)⟩
  have HN : Hid (chkV p 1 ≠ 0 → encE p = chkV p 1 ∧ encB p = []) := encE_no
  have HL : Hid (chkV p 1 = 0 → 65536 < (encV p).length → encE p = 5 ∧ encB p = []) := encE_long
  have HY : Hid (chkV p 1 = 0 → ¬ 65536 < (encV p).length → encE p = 0 ∧ encB p = encV p) := encE_yes
  have HWf : Hid (WfV p) := hw
  generalize encE p = EE at *
  generalize encB p = BB at *
  generalize chkV p 1 = E at *
  clear hv hw
  go_enter Tryz.func60, Tryz.ntmps60
  go_wp2_with fail
  generalize hWW : World.alloc W _ = W9
  obtain rfl : W1 = W9 := by rw [← hWW, ← HW1.out]
  clear hWW HW1
  refine KC.mono ?_
  clear KC
  rintro e w1 ⟨rfl, b1⟩
  have HB2 : Hid (Below W.heap.size W w1) := HB1.out.trans (b1.mono HB1.out.size)
  have HX2 : Hid (Blk w1 W.heap.size 41 (six p.1 na nc ka p.2.list.length kc)) := HX.out.below b1 HX.out.lt
  have hs1 := b1.size
  clear b1 HB1 HX
  by_cases hE : E = 0
  case neg =>
    obtain ⟨e1, e2⟩ := HN.out hE
    subst e1 e2
    have hEb : (EE != 0) = true := by simpa using hE
    go_wp2
    go_ret2
    exact ⟨_, rfl, World.ownsRow_nil _ _ _ _, HB2.out⟩
  subst hE
  obtain ⟨ka1, kl1, kp1⟩ := KA.out rfl
  clear KA HN
  obtain ⟨w3, HW3⟩ : ∃ w3, Hid (w1.alloc (.cells #[.int .i64 0] 3) = w3) := ⟨_, rfl⟩
  have hgW : W.heap.size < w1.heap.size := HX2.out.lt
  have HG3 : Hid (Blk w3 w1.heap.size 3 [.int .i64 ((0 : Nat) : Int)]) := by rw [← HW3.out]; exact blk_new w1 3 [.int .i64 0]
  have HX4 : Hid (Blk w3 W.heap.size 41 (six p.1 na nc ka p.2.list.length kc)) := by rw [← HW3.out]; exact HX2.out.alloc _
  have HB4 : Hid (Below W.heap.size W w3) := by rw [← HW3.out]; exact HB2.out.alloc HB2.out.size _
  have c0 : w1.cell? ⟨W.heap.size, 0, none⟩ = some (.int .i64 p.1.k) := HX2.out.cell 0
  have c1 : w1.cell? ⟨W.heap.size, 1, none⟩ = some (.int .i64 p.1.n) := HX2.out.cell 1
  have c2 : w1.cell? ⟨W.heap.size, 2, none⟩ = some (.int .i64 p.1.s) := HX2.out.cell 2
  have c3 : w1.cell? ⟨W.heap.size, 3, none⟩ = some (.string p.1.t) := HX2.out.cell 3
  have c4 : w1.cell? ⟨W.heap.size, 4, none⟩ = some (.slice na p.1.ns.length nc) := HX2.out.cell 4
  have c5 : w1.cell? ⟨W.heap.size, 5, none⟩ = some (.slice ka p.2.list.length kc) := HX2.out.cell 5
  have KP := parts_any _ p (Nat.le_refl _) HWf.out na nc ka kc w1.heap.size 0 W w3 HV.out HB4.out (by omega) HG3.out (by omega)
  clear HB2 HX2
  go_wp2_with fail
  generalize hWW : World.alloc w1 _ = W9
  obtain rfl : w3 = W9 := by rw [← hWW, ← HW3.out]
  clear hWW HW3
  refine KP.mono ?_
  clear KP c0 c1 c2 c3 c4 c5
  rintro e w4 ⟨m, rfl, H4⟩
  have HX5 : Hid (Blk w4 W.heap.size 41 (six p.1 na nc ka p.2.list.length kc)) := HX4.out.kept H4.out.gr (fun e => by injection e with e; omega)
  have HB5 : Hid (Below W.heap.size W w4) := HB4.out.grown H4.out.gr HB4.out.size (fun k e => by injection e with e; omega)
  have hm : m ≤ pt p := by have := H4.out.ge; omega
  clear H4 HX4 HB4 HG3
  by_cases hbig : 65536 < m
  · have hl2 : 65536 < (encV p).length := by omega
    obtain ⟨e1, e2⟩ := HL.out (by trivial) hl2
    subst e1 e2
    have hd : decide (65536 < m) = true := by simpa using hbig
    rw [hd]
    clear hl2 hm
    go_wp2
    go_ret2
    exact ⟨_, rfl, World.ownsRow_nil _ _ _ _, HB5.out⟩
  have hd : decide (65536 < m) = false := by simpa using hbig
  rw [hd]
  have c0 : w4.cell? ⟨W.heap.size, 0, none⟩ = some (.int .i64 p.1.k) := HX5.out.cell 0
  have c1 : w4.cell? ⟨W.heap.size, 1, none⟩ = some (.int .i64 p.1.n) := HX5.out.cell 1
  have c2 : w4.cell? ⟨W.heap.size, 2, none⟩ = some (.int .i64 p.1.s) := HX5.out.cell 2
  have c3 : w4.cell? ⟨W.heap.size, 3, none⟩ = some (.string p.1.t) := HX5.out.cell 3
  have c4 : w4.cell? ⟨W.heap.size, 4, none⟩ = some (.slice na p.1.ns.length nc) := HX5.out.cell 4
  have c5 : w4.cell? ⟨W.heap.size, 5, none⟩ = some (.slice ka p.2.list.length kc) := HX5.out.cell 5
  have KV := ka1 na nc ka kc (.slice none 0 0) [] W.heap.size W w4 HV.out HB5.out (Nat.le_refl _) HB5.out.size (World.ownsRow_nil _ _ _ _) (by simp only [List.length_nil]; omega)
  clear ka1 hm kp1
  go_wp2_with fail
  refine KV.mono ?_
  clear KV c0 c1 c2 c3 c4 c5
  rintro e w5 ⟨v2, l2, rfl, H2⟩
  have HB6 : Hid (Below W.heap.size W w5) := H2.out.1.below (show Own w4 W.heap.size (.slice none 0 0) [] from World.ownsRow_nil _ _ _ _) HB5.out HB5.out.size (Nat.le_refl _)
  have HO2 : Hid (Own w5 W.heap.size v2 l2) := H2.out.1.own
  have HW2 : Hid (Wr [] (encV p) l2) := H2.out.2
  obtain ⟨ax, c, rfl, _, _, hlc, hcm⟩ := HO2.out.byt
  clear H2 HX5 HB5
  have hup : l2.length ≤ 12000000 := by have := HW2.out.up; simp only [List.length_nil] at this; omega
  by_cases hl : 65536 < l2.length
  · have hl2 : 65536 < (encV p).length := by have := HW2.out.up; simp only [List.length_nil] at this; omega
    obtain ⟨e1, e2⟩ := HL.out (by trivial) hl2
    subst e1 e2
    have hlb : decide ((65536 : Int) < (l2.length : Int)) = true := by simp; omega
    clear hl2
    go_wp2
    go_ret2
    exact ⟨_, rfl, World.ownsRow_nil _ _ _ _, HB6.out⟩
  · have e : l2 = encV p := by
      rcases HW2.out.out with h | h
      · simpa using h
      · exact absurd h hl
    obtain ⟨e1, e2⟩ := HY.out (by trivial) (by rw [← e]; exact hl)
    subst e1
    have HO3 : Hid (Own w5 W.heap.size (.slice ax l2.length c) BB) := by rw [e2, ← e]; exact HO2.out
    have hlb : decide ((65536 : Int) < (l2.length : Int)) = false := by simp; omega
    clear e e2 HL HY
    go_wp2
    go_ret2
    exact ⟨_, rfl, HO3.out, HB6.out⟩
end Go.Proofs.YtlefdnjokppibaaGreatDoor
