/-
  order's appendKids; appendValue, of any value.
-/
import Derived.Test.YtmlfhplhiedfjaaGreatDoorOKf
import Derived.Test.YtmlfhplhiedfjaaGreatDoorOG5x
namespace Go.Proofs.YtmlfhplhiedfjaaGreatDoor
open Go.RowKit Math
set_option linter.unusedVariables false
set_option linter.unusedSimpArgs false
theorem zV : (Tryz.prog.info? 38).map (fun i => i.zero.map (·.cells)) = some (some zer.toArray) := by kernel_rfl
theorem sV : (Tryz.prog.info? 38).map (·.size) = some 6 := by kernel_rfl
theorem below_new {w w1 w2 : World} {g : Nat} (h1 : w.grownBy w1 none) (hg : w.heap.size ≤ g) (h2 : w1.grownBy w2 (some g)) : Below w.heap.size w w2 := by
  have b1 : Below w.heap.size w w1 := (Below.refl _ _).grown h1 (Nat.le_refl _) (fun k e => by cases e)
  exact b1.grown h2 h1.size (fun k e => by injection e with e; omega)
def AkC (p : Vt) : Prop := ∀ (na : Option Addr) (nc : Nat) (ka : Option Addr) (kc : Nat) (v : Value) (l : List Nat) (B : Nat) (w0 W : World), Vl w0 p na nc ka kc → Below w0.heap.size w0 W → w0.heap.size ≤ B → B ≤ W.heap.size → Mx w0 → Own W B v l → l.length + (keyV p).length ≤ 700000000 →
  Calls Tryz.prog 26 #[v, .agg #[.int .i64 p.1.k, .int .i64 p.1.n, .int .i64 p.1.s, .string p.1.t, .slice na p.1.ns.length nc, .slice ka p.2.list.length kc]] W fun e w' => ∃ v', e = .returned v' ∧ Ap B W w' v v' (l ++ keyV p)
structure KIv (B : Nat) (W wr : World) (v vb : Value) (l lk : List Nat) (box : List Value) (f : Fo) (b : Bool) (ns : List ByteArray) (k : Nat) (tot : List Nat) : Prop where
  ap : Ap B W wr v vb lk
  blk : Blk wr W.heap.size 38 box
  ne : vb.ownBlock ≠ some W.heap.size
  wr : ∃ x, lk = l ++ x ∧ tot = x ++ keyF (f.drop k) b (ns.drop k)
theorem KIv.len {B : Nat} {W wr : World} {v vb : Value} {l lk : List Nat} {box : List Value} {f : Fo} {b : Bool} {ns : List ByteArray} {k : Nat} {tot : List Nat} (h : KIv B W wr v vb l lk box f b ns k tot) : lk.length + (keyF (f.drop k) b (ns.drop k)).length = l.length + tot.length := by
  obtain ⟨x, rfl, rfl⟩ := h.wr
  simp only [List.length_append]
  omega
theorem KIv.step {B : Nat} {W wr w1 w2 : World} {v vb v2 : Value} {l lk : List Nat} {box : List Value} {f : Fo} {b : Bool} {ns : List ByteArray} {k : Nat} {tot : List Nat} {q : Vt} (h : KIv B W wr v vb l lk box f b ns k tot) (hq : f.list[k]? = some q)
    (g : Below wr.heap.size wr w1) (A : Ap B w1 w2 vb v2 (lk ++ ((if b then 1 :: txK ((ns.drop k).headD ⟨#[]⟩) else []) ++ keyV q))) : KIv B W w2 v v2 l (lk ++ ((if b then 1 :: txK ((ns.drop k).headD ⟨#[]⟩) else []) ++ keyV q)) box f b ns (k + 1) tot := by
  have hlt := h.blk.lt
  have hs := g.size
  refine ⟨h.ap.trans (Ap.after g A), A.blk (h.blk.below g hlt) h.ne, fun e => ?_, ?_⟩
  · rcases A.ob _ e with h1 | h1
    · exact h.ne h1
    · omega
  · obtain ⟨x, h1, h2⟩ := h.wr
    refine ⟨x ++ ((if b then 1 :: txK ((ns.drop k).headD ⟨#[]⟩) else []) ++ keyV q), by rw [h1, List.append_assoc], ?_⟩
    rw [h2, keyF_drop hq]
    simp only [List.append_assoc]
set_option maxRecDepth 8000 in
set_option maxHeartbeats 2000000 in
theorem kk_list (p : Vt) (hkl : p.2.list.length ≤ 200) (ih : ∀ q ∈ p.2.list, AkC q) (na : Option Addr) (nc : Nat) (ka : Option Addr) (kc : Nat) (v : Value) (l : List Nat) (B : Nat) (w0 W : World) (hv : Vl w0 p na nc ka kc) (hb : Below w0.heap.size w0 W) (hB0 : w0.heap.size ≤ B) (hB : B ≤ W.heap.size) (hm : Mx w0) (ho : Own W B v l) (hl : l.length + (keyF p.2 false p.1.ns).length + 1 ≤ 700000000) :
    Calls Tryz.prog 41 #[v, .agg #[.int .i64 8, .int .i64 p.1.n, .int .i64 p.1.s, .string p.1.t, .slice na p.1.ns.length nc, .slice ka p.2.list.length kc]] W fun e w' => ∃ v', e = .returned v' ∧ Ap B W w' v v' (l ++ (keyF p.2 false p.1.ns ++ [0])) := by
  obtain ⟨W1, HW1⟩ : ∃ W1, Hid (W.alloc (.cells #[.int .i64 8, .int .i64 p.1.n, .int .i64 p.1.s, .string p.1.t, .slice na p.1.ns.length nc, .slice ka p.2.list.length kc] 38) = W1) := ⟨_, rfl⟩
  have HX : Hid (Blk W1 W.heap.size 38 [.int .i64 8, .int .i64 p.1.n, .int .i64 p.1.s, .string p.1.t, .slice na p.1.ns.length nc, .slice ka p.2.list.length kc]) := by rw [← HW1.out]; exact blk_new W 38 [.int .i64 8, .int .i64 p.1.n, .int .i64 p.1.s, .string p.1.t, .slice na p.1.ns.length nc, .slice ka p.2.list.length kc]
  have HO1 : Hid (Own W1 B v l) := by rw [← HW1.out]; exact ho.alloc _
  have hz1 : W1.heap.size = W.heap.size + 1 := by have := HW1.out; subst this; simp
  have HB1 : Hid (Below W.heap.size W W1) := by rw [← HW1.out]; exact (Below.refl _ _).alloc (Nat.le_refl _) _
  have HO : Hid (Own W B v l) := ho
  have HV : Hid (Vl w0 p na nc ka kc) := hv
  have HI : Hid (∀ q ∈ p.2.list, AkC q) := ih
  have HBw : Hid (Below w0.heap.size w0 W) := hb
  have HM : Hid (Mx w0) := hm
  have HT : Hid (l.length + (keyF p.2 false p.1.ns).length + 1 ≤ 700000000) := hl
  have HI0 : Hid (KIv B W W1 v v l l [.int .i64 8, .int .i64 p.1.n, .int .i64 p.1.s, .string p.1.t, .slice na p.1.ns.length nc, .slice ka p.2.list.length kc] p.2 false p.1.ns 0 (keyF p.2 false p.1.ns)) := by
    refine ⟨Ap.after HB1.out (Ap.refl HO1.out), HX.out, ho.ne, ⟨[], by simp, ?_⟩⟩
    simp [Fo.drop]
  have c5 : W1.cell? ⟨W.heap.size, 5, none⟩ = some (.slice ka p.2.list.length kc) := HX.out.cell 5
  clear ho hv ih hb hl hm
  go_enter Tryz.func41, Tryz.ntmps41
  go_wp2_with fail
  generalize hWW : World.alloc W _ = W9
  obtain rfl : W1 = W9 := by rw [← hWW, ← HW1.out]
  clear hWW HW1 HX HO1 HB1 hz1 c5
  go_loopw [0, 10] (fun vb i wr => ∃ (k : Nat) (lk : List Nat), k ≤ p.2.list.length ∧ i = .int .i64 (k : Int) ∧ Hid (KIv B W wr v vb l lk [.int .i64 8, .int .i64 p.1.n, .int .i64 p.1.s, .string p.1.t, .slice na p.1.ns.length nc, .slice ka p.2.list.length kc] p.2 false p.1.ns k (keyF p.2 false p.1.ns))) (fun _ i _ => p.2.list.length - (intOf i).toNat)
  case atStart => exact ⟨0, _, by omega, rfl, HI0.out⟩
  case round =>
    clear HI0
    obtain ⟨k, lk, hk0, rfl, HK⟩ := hrel
    have hBr : B ≤ wr.heap.size := by have := HK.out.ap.gr.size; omega
    by_cases hlt : k < p.2.list.length
    case neg =>
      have hlk : lk = l ++ keyF p.2 false p.1.ns := by
        obtain ⟨x, h1, h2⟩ := HK.out.wr
        rw [Fo.drop_end _ _ (by omega)] at h2
        simp only [keyF, List.append_nil] at h2
        rw [h1, h2]
      have hll : lk.length + 1 ≤ 700000000 := by rw [hlk, List.length_append]; exact HT.out
      have HLk : Hid (lk = l ++ keyF p.2 false p.1.ns) := hlk
      clear hlk
      go_wp2_with (at_builtin; go_must (refine ap_bytes rfl (.tmp 31) (.tmp 32) rfl B u0 lk rfl (HK.out.ap.own.alloc _) _ _ _ [0] rfl rfl (byt_lit wr [0]) (by simp) (by simp; omega) (by simp; omega) ?_))
      intro v9 w9 A9
      have HF : Hid (Ap B W w9 v v9 (l ++ (keyF p.2 false p.1.ns ++ [0]))) := by
        have h1 := HK.out.ap.trans (Ap.after ((Below.refl _ _).alloc (Nat.le_refl _) _) A9)
        rw [HLk.out, List.append_assoc] at h1
        exact h1
      clear A9 HK
      go_wp2
      go_ret
      exact ⟨_, rfl, HF.out⟩
    have HBr : Hid (Below w0.heap.size w0 wr) := HK.out.ap.below HO.out HBw.out HBw.out.size hB0
    obtain ⟨q, b, o, na', nc', ka', kc', hq, rfl, hnd, hvl⟩ := HV.out.kid (Below.refl _ _) (k := k) hlt
    have HQq : Hid (p.2.list[k]? = some q) := hq
    have HQ : Hid (AkC q) := HI.out q (List.mem_of_getElem? hq)
    have HVq : Hid (Vl w0 q na' nc' ka' kc') := hvl
    obtain ⟨d0, d1, d2, d3, d4, d5⟩ := hnd.below HBr.out
    clear hnd hvl hq
    go_wp2_with (refine al_zero rfl 38 rfl zer zV ?_)
    intro g6 w6 hg6 Bz6 gr6
    go_wp2_with (refine st_all rfl 38 (.tmp 6) (.tmp 14) rfl g6 38 zer (six q.1 na' nc' ka' q.2.list.length kc') rfl rfl Bz6 rfl sV (six_one _ _ _ _ _ _) ?_)
    intro w7 B7 gr7
    have G7 : Hid (Below wr.heap.size wr w7) := below_new gr6 hg6 gr7
    have HB7x : Hid (Blk w7 W.heap.size 38 [.int .i64 8, .int .i64 p.1.n, .int .i64 p.1.s, .string p.1.t, .slice na p.1.ns.length nc, .slice (some ⟨b, o, none⟩) p.2.list.length kc]) := HK.out.blk.below G7.out HK.out.blk.lt
    have cb0 : w7.cell? ⟨W.heap.size, 0, none⟩ = some (.int .i64 8) := HB7x.out.cell 0
    have HB7 : Hid (Blk w7 g6 38 (six q.1 na' nc' ka' q.2.list.length kc')) := B7
    have hB7 : B ≤ w7.heap.size := by have := G7.out.size; omega
    have HO7 : Hid (Own w7 B u0 lk) := HK.out.ap.own.below G7.out
    have Hb7 : Hid (Below w0.heap.size w0 w7) := HBr.out.trans (G7.out.mono HBr.out.size)
    have hgl : g6 < w7.heap.size := B7.lt
    have HNE6 : Hid (u0.ownBlock ≠ some g6) := fun e => by have := (World.ownsRow.lt HK.out.ap.own _ e).2; omega
    clear Bz6 gr6 gr7 B7 d0 d1 d2 d3 d4 d5
    have e0 : w7.cell? ⟨g6, 0, none⟩ = some (.int .i64 q.1.k) := HB7.out.cell 0
    have e1 : w7.cell? ⟨g6, 1, none⟩ = some (.int .i64 q.1.n) := HB7.out.cell 1
    have e2 : w7.cell? ⟨g6, 2, none⟩ = some (.int .i64 q.1.s) := HB7.out.cell 2
    have e3 : w7.cell? ⟨g6, 3, none⟩ = some (.string q.1.t) := HB7.out.cell 3
    have e4 : w7.cell? ⟨g6, 4, none⟩ = some (.slice na' q.1.ns.length nc') := HB7.out.cell 4
    have e5 : w7.cell? ⟨g6, 5, none⟩ = some (.slice ka' q.2.list.length kc') := HB7.out.cell 5
    have KQ := HQ.out na' nc' ka' kc' u0 lk B w0 w7 HVq.out Hb7.out hB0 hB7 HM.out HO7.out (by
      have h1 := HK.out.len
      have h2 := HT.out
      have h3 := congrArg List.length (keyF_drop (b := false) (ns := p.1.ns) HQq.out)
      simp only [List.length_append] at h3 h1 h2
      omega)
    go_wp2_with fail
    refine KQ.mono ?_
    rintro e w9 ⟨v9, rfl, H9⟩
    have HK2 : Hid (KIv B W w9 v v9 l (lk ++ keyV q) [.int .i64 8, .int .i64 p.1.n, .int .i64 p.1.s, .string p.1.t, .slice na p.1.ns.length nc, .slice (some ⟨b, o, none⟩) p.2.list.length kc] p.2 false p.1.ns (k + 1) (keyF p.2 false p.1.ns)) := by
      have := HK.out.step HQq.out G7.out (by simpa using H9)
      show KIv _ _ _ _ _ _ _ _ _ _ _ _ _
      simpa using this
    clear KQ H9 HK e0 e1 e2 e3 e4 e5 cb0
    go_wp2
    go_roundw
    case rel => exact ⟨k + 1, _, by omega, by go_num, HK2.out⟩
    case measure => simp [intOf]; omega
set_option maxRecDepth 8000 in
set_option maxHeartbeats 2000000 in
theorem kk_struct (p : Vt) (hkl : p.2.list.length ≤ 200) (hn : p.1.ns.length = p.2.list.length) (hn2 : ∀ x ∈ p.1.ns, x.size ≤ 40) (ih : ∀ q ∈ p.2.list, AkC q) (na : Option Addr) (nc : Nat) (ka : Option Addr) (kc : Nat) (v : Value) (l : List Nat) (B : Nat) (w0 W : World) (hv : Vl w0 p na nc ka kc) (hb : Below w0.heap.size w0 W) (hB0 : w0.heap.size ≤ B) (hB : B ≤ W.heap.size) (hm : Mx w0) (ho : Own W B v l) (hl : l.length + (keyF p.2 true p.1.ns).length + 1 ≤ 700000000) :
    Calls Tryz.prog 41 #[v, .agg #[.int .i64 9, .int .i64 p.1.n, .int .i64 p.1.s, .string p.1.t, .slice na p.1.ns.length nc, .slice ka p.2.list.length kc]] W fun e w' => ∃ v', e = .returned v' ∧ Ap B W w' v v' (l ++ (keyF p.2 true p.1.ns ++ [0])) := by
  obtain ⟨W1, HW1⟩ : ∃ W1, Hid (W.alloc (.cells #[.int .i64 9, .int .i64 p.1.n, .int .i64 p.1.s, .string p.1.t, .slice na p.1.ns.length nc, .slice ka p.2.list.length kc] 38) = W1) := ⟨_, rfl⟩
  have HX : Hid (Blk W1 W.heap.size 38 [.int .i64 9, .int .i64 p.1.n, .int .i64 p.1.s, .string p.1.t, .slice na p.1.ns.length nc, .slice ka p.2.list.length kc]) := by rw [← HW1.out]; exact blk_new W 38 [.int .i64 9, .int .i64 p.1.n, .int .i64 p.1.s, .string p.1.t, .slice na p.1.ns.length nc, .slice ka p.2.list.length kc]
  have HO1 : Hid (Own W1 B v l) := by rw [← HW1.out]; exact ho.alloc _
  have hz1 : W1.heap.size = W.heap.size + 1 := by have := HW1.out; subst this; simp
  have HB1 : Hid (Below W.heap.size W W1) := by rw [← HW1.out]; exact (Below.refl _ _).alloc (Nat.le_refl _) _
  have HO : Hid (Own W B v l) := ho
  have HV : Hid (Vl w0 p na nc ka kc) := hv
  have HI : Hid (∀ q ∈ p.2.list, AkC q) := ih
  have HBw : Hid (Below w0.heap.size w0 W) := hb
  have HM : Hid (Mx w0) := hm
  have HN1 : Hid (p.1.ns.length = p.2.list.length) := hn
  have HN2 : Hid (∀ x ∈ p.1.ns, x.size ≤ 40) := hn2
  have HT : Hid (l.length + (keyF p.2 true p.1.ns).length + 1 ≤ 700000000) := hl
  have HI0 : Hid (KIv B W W1 v v l l [.int .i64 9, .int .i64 p.1.n, .int .i64 p.1.s, .string p.1.t, .slice na p.1.ns.length nc, .slice ka p.2.list.length kc] p.2 true p.1.ns 0 (keyF p.2 true p.1.ns)) := by
    refine ⟨Ap.after HB1.out (Ap.refl HO1.out), HX.out, ho.ne, ⟨[], by simp, ?_⟩⟩
    simp [Fo.drop]
  have c5 : W1.cell? ⟨W.heap.size, 5, none⟩ = some (.slice ka p.2.list.length kc) := HX.out.cell 5
  clear ho hv ih hb hl hm hn hn2
  go_enter Tryz.func41, Tryz.ntmps41
  go_wp2_with fail
  generalize hWW : World.alloc W _ = W9
  obtain rfl : W1 = W9 := by rw [← hWW, ← HW1.out]
  clear hWW HW1 HX HO1 HB1 hz1 c5
  go_loopw [0, 10] (fun vb i wr => ∃ (k : Nat) (lk : List Nat), k ≤ p.2.list.length ∧ i = .int .i64 (k : Int) ∧ Hid (KIv B W wr v vb l lk [.int .i64 9, .int .i64 p.1.n, .int .i64 p.1.s, .string p.1.t, .slice na p.1.ns.length nc, .slice ka p.2.list.length kc] p.2 true p.1.ns k (keyF p.2 true p.1.ns))) (fun _ i _ => p.2.list.length - (intOf i).toNat)
  case atStart => exact ⟨0, _, by omega, rfl, HI0.out⟩
  case round =>
    clear HI0
    obtain ⟨k, lk, hk0, rfl, HK⟩ := hrel
    have hBr : B ≤ wr.heap.size := by have := HK.out.ap.gr.size; omega
    by_cases hlt : k < p.2.list.length
    case neg =>
      have hlk : lk = l ++ keyF p.2 true p.1.ns := by
        obtain ⟨x, h1, h2⟩ := HK.out.wr
        rw [Fo.drop_end _ _ (by omega)] at h2
        simp only [keyF, List.append_nil] at h2
        rw [h1, h2]
      have hll : lk.length + 1 ≤ 700000000 := by rw [hlk, List.length_append]; exact HT.out
      have HLk : Hid (lk = l ++ keyF p.2 true p.1.ns) := hlk
      clear hlk
      go_wp2_with (at_builtin; go_must (refine ap_bytes rfl (.tmp 31) (.tmp 32) rfl B u0 lk rfl (HK.out.ap.own.alloc _) _ _ _ [0] rfl rfl (byt_lit wr [0]) (by simp) (by simp; omega) (by simp; omega) ?_))
      intro v9 w9 A9
      have HF : Hid (Ap B W w9 v v9 (l ++ (keyF p.2 true p.1.ns ++ [0]))) := by
        have h1 := HK.out.ap.trans (Ap.after ((Below.refl _ _).alloc (Nat.le_refl _) _) A9)
        rw [HLk.out, List.append_assoc] at h1
        exact h1
      clear A9 HK
      go_wp2
      go_ret
      exact ⟨_, rfl, HF.out⟩
    have HBr : Hid (Below w0.heap.size w0 wr) := HK.out.ap.below HO.out HBw.out HBw.out.size hB0
    obtain ⟨q, b, o, na', nc', ka', kc', hq, rfl, hnd, hvl⟩ := HV.out.kid (Below.refl _ _) (k := k) hlt
    have HQq : Hid (p.2.list[k]? = some q) := hq
    have HQ : Hid (AkC q) := HI.out q (List.mem_of_getElem? hq)
    have HVq : Hid (Vl w0 q na' nc' ka' kc') := hvl
    obtain ⟨d0, d1, d2, d3, d4, d5⟩ := hnd.below HBr.out
    clear hnd hvl hq
    go_wp2_with (refine al_zero rfl 38 rfl zer zV ?_)
    intro g6 w6 hg6 Bz6 gr6
    go_wp2_with (refine st_all rfl 38 (.tmp 6) (.tmp 14) rfl g6 38 zer (six q.1 na' nc' ka' q.2.list.length kc') rfl rfl Bz6 rfl sV (six_one _ _ _ _ _ _) ?_)
    intro w7 B7 gr7
    have G7 : Hid (Below wr.heap.size wr w7) := below_new gr6 hg6 gr7
    have HB7x : Hid (Blk w7 W.heap.size 38 [.int .i64 9, .int .i64 p.1.n, .int .i64 p.1.s, .string p.1.t, .slice na p.1.ns.length nc, .slice (some ⟨b, o, none⟩) p.2.list.length kc]) := HK.out.blk.below G7.out HK.out.blk.lt
    have cb0 : w7.cell? ⟨W.heap.size, 0, none⟩ = some (.int .i64 9) := HB7x.out.cell 0
    have HB7 : Hid (Blk w7 g6 38 (six q.1 na' nc' ka' q.2.list.length kc')) := B7
    have hB7 : B ≤ w7.heap.size := by have := G7.out.size; omega
    have HO7 : Hid (Own w7 B u0 lk) := HK.out.ap.own.below G7.out
    have Hb7 : Hid (Below w0.heap.size w0 w7) := HBr.out.trans (G7.out.mono HBr.out.size)
    have hgl : g6 < w7.heap.size := B7.lt
    have HNE6 : Hid (u0.ownBlock ≠ some g6) := fun e => by have := (World.ownsRow.lt HK.out.ap.own _ e).2; omega
    clear Bz6 gr6 gr7 B7 d0 d1 d2 d3 d4 d5
    obtain ⟨nm, hnm⟩ : ∃ nm, p.1.ns[k]? = some nm := ⟨_, List.getElem?_eq_getElem (by rw [HN1.out]; exact hlt)⟩
    have hns : nm.size ≤ 40 := HN2.out nm (List.mem_of_getElem? hnm)
    have HD : Hid ((p.1.ns.drop k).headD ⟨#[]⟩ = nm) := by
      show _ = _
      obtain ⟨h1, h2⟩ := List.getElem?_eq_some_iff.1 hnm
      rw [List.drop_eq_getElem_cons h1, h2]
      rfl
    have HLn : Hid (lk.length + (1 :: txK nm).length + (keyV q).length ≤ 700000000) := by
      have h1 := HK.out.len
      have h2 := HT.out
      have h3 := congrArg List.length (keyF_drop (b := true) (ns := p.1.ns) HQq.out)
      simp only [if_true] at h3
      rw [HD.out] at h3
      simp only [List.length_append] at h3 h1 h2
      show _ ≤ _
      omega
    have hlk : lk.length ≤ 700000000 := by have := HLn.out; omega
    rcases HV.out.nms with hem | ⟨bn, on, hna, hc⟩
    · rw [hem] at hnm; simp at hnm
    have hcn0 : w0.cell? ⟨bn, on + k, none⟩ = some (.string nm) := hc k nm hnm
    have hbn := cell_lt hcn0
    have hkn : k < p.1.ns.length := by rw [HN1.out]; exact hlt
    subst hna
    clear hc hnm
    go_wp2
    obtain ⟨C, hC⟩ : ∃ C : World → Prop, C = fun W' => Blk W' W.heap.size 38 [.int .i64 9, .int .i64 p.1.n, .int .i64 p.1.s, .string p.1.t, .slice (some ⟨bn, on, none⟩) p.1.ns.length nc, .slice (some ⟨b, o, none⟩) p.2.list.length kc] ∧ Blk W' g6 38 (six q.1 na' nc' ka' q.2.list.length kc') ∧ Below w0.heap.size w0 W' := ⟨_, rfl⟩
    have Q4 : Hid (∀ W', C W' → W'.cell? ⟨W.heap.size, 4, none⟩ = some (.slice (some ⟨bn, on, none⟩) p.1.ns.length nc)) := fun W' h => by rw [hC] at h; exact h.1.cell 4
    have QN : Hid (∀ W', C W' → W'.cell? ⟨bn, on + k, none⟩ = some (.string nm)) := fun W' h => by
      rw [hC] at h
      rw [← hcn0]
      exact h.2.2.cell (p := ⟨bn, on + k, none⟩) hbn
    have CA : Hid (∀ W' W'' v v' l l', C W' → Own W' B v l → Ap B W' W'' v v' l' → v.ownBlock ≠ some W.heap.size → v.ownBlock ≠ some g6 → C W'') := fun W' W'' v v' l l' h ho A hne hne2 => by
      rw [hC] at h ⊢
      exact ⟨A.blk h.1 hne, A.blk h.2.1 hne2, A.below ho h.2.2 h.2.2.size hB0⟩
    have CL : Hid (∀ W' o, C W' → C (W'.alloc o)) := fun W' o h => by
      rw [hC] at h ⊢
      exact ⟨h.1.alloc o, h.2.1.alloc o, h.2.2.alloc h.2.2.size o⟩
    have CX : Hid (∀ W', C W' → Blk W' g6 38 (six q.1 na' nc' ka' q.2.list.length kc') ∧ Below w0.heap.size w0 W') := fun W' h => by rw [hC] at h; exact h.2
    have D0 : Hid (Below w7.heap.size w7 { w7 with drawn := w7.drawn + 1 }) := Below.drew (Below.refl _ _)
    have C0 : Hid (C { w7 with drawn := w7.drawn + 1 }) := by rw [hC]; exact ⟨HB7x.out, HB7.out, Hb7.out.trans (D0.out.mono Hb7.out.size)⟩
    have HO8 : Hid (Own { w7 with drawn := w7.drawn + 1 } B u0 lk) := HO7.out.below D0.out
    have hsz : ({ w7 with drawn := w7.drawn + 1 } : World).heap.size = w7.heap.size := rfl
    have hWl : W.heap.size < w7.heap.size := HB7x.out.lt
    clear hC cb0
    refine region_calm C 9 (by kernel_rfl) ?_
    generalize ({ w7 with drawn := w7.drawn + 1 } : World) = v0 at *
    have hCp : ∀ p : Prop, (∀ W, C W → p) ↔ p := fun p => ⟨fun h => h _ C0.out, fun h _ _ => h⟩
    refine seg 4 [0, 3, 4, 5, 6, 7] rfl (by kernel_rfl) whole_blind C0.out (by kernel_rfl) ?_
    change wpQuiet _ _ _ _ (_ :: _ :: _ :: _ :: _ :: _ :: []) _
    repeat (first
      | go_big_quiet_skip
      | (go_big_quiet_want
         first
         | (refine q_one 36 (.inr (.inr (.inl rfl))) (.tmp 21) rfl W.heap.size 4 rfl _ Q4.out ?_
            simp only [Act.put, List.setIfInBounds_toArray, List.set_cons_zero, List.set_cons_succ]
            go_big_quiet_on)
         | (refine q_one 9 (.inr (.inl rfl)) (.tmp 24) rfl bn (on + k) rfl _ QN.out ?_
            simp only [Act.put, List.setIfInBounds_toArray, List.set_cons_zero, List.set_cons_succ]
            go_big_quiet_on)
         | (go_big_quiet_op
            go_big_quiet_on)))
    refine wpQuiet_nil ?_
    refine lone_do (i := 1) 3 rfl (by kernel_rfl) rfl (by rfl) ?_
    intro K hK
    refine oper_byteC 1 rfl ?_
    refine hK _ _ (CL.out _ _ C0.out) ?_
    simp only [Act.put, List.setIfInBounds_toArray, List.set_cons_zero, List.set_cons_succ]
    refine lone_do (i := 2) 2 rfl (by kernel_rfl) rfl (by rfl) ?_
    intro K hK
    refine oper_apb (.tmp 18) (.tmp 19) rfl B u0 lk rfl (HO8.out.alloc _) _ _ _ [1] rfl rfl (byt_lit v0 [1]) (by simp) (by simp; omega) (by simp; omega) ?_
    intro v1 w1 A1
    have HA1 : Hid (Ap B w7 w1 u0 v1 (lk ++ [1])) := Ap.after D0.out (Ap.after ((Below.refl _ _).alloc (Nat.le_refl _) _) A1)
    have hc1 : C w1 := CA.out _ _ _ _ _ _ (CL.out _ _ C0.out) (HO8.out.alloc _) A1 HK.out.ne HNE6.out
    have hsA := A1.gr.size
    simp only [World.size_alloc] at hsA
    have HNE1 : Hid (v1.ownBlock ≠ some W.heap.size ∧ v1.ownBlock ≠ some g6) := by
      constructor
      · intro e
        rcases A1.ob _ e with h | h
        · exact HK.out.ne h
        · simp at h
          omega
      · intro e
        rcases A1.ob _ e with h | h
        · exact HNE6.out h
        · simp at h
          omega
    have HM1 : Hid (Mx w1) := HM.out.below (CX.out _ hc1).2 HM.out.pos
    clear A1
    refine hK _ _ hc1 ?_
    simp only [Act.put, List.setIfInBounds_toArray, List.set_cons_zero, List.set_cons_succ]
    refine lone_do (i := 8) 1 rfl (by kernel_rfl) rfl (by rfl) ?_
    intro K hK
    refine oper_call 40 #[.tmp 20, .tmp 25] #[52, 9] rfl #[v1, .string nm] (by rw [List.map_toArray]; rfl) (enters Tryz.func40 (by kernel_rfl) rfl) (fun v' w' => Ap B w1 w' v1 v' (lk ++ [1] ++ txK nm)) (kTx v1 (lk ++ [1]) nm B w1 HA1.out.own (by omega) HM1.out (by omega) (by simp; omega)) ?_
    intro v2 w2 A2
    have HA2 : Hid (Ap B w7 w2 u0 v2 (lk ++ (1 :: txK nm))) := by
      have := HA1.out.trans A2
      show Ap _ _ _ _ _ _
      simpa using this
    have hc2 : C w2 := CA.out _ _ _ _ _ _ hc1 HA1.out.own A2 HNE1.out.1 HNE1.out.2
    have hsB := A2.gr.size
    clear A2
    refine hK _ _ hc2 ?_
    simp only [Act.put, List.setIfInBounds_toArray, List.set_cons_zero, List.set_cons_succ]
    refine lone_calm (i := 9) 0 rfl (by kernel_rfl) rfl rfl hc2 ?_
    have hCq : ∀ p : Prop, (∀ W, C W → p) ↔ p := fun p => ⟨fun h => h _ hc2, fun h _ _ => h⟩
    go_big_quiet_want
    go_big_quiet_op
    go_big_quiet_on
    refine wpQuiet_nil ?_
    refine anyC_done (by kernel_rfl) ⟨rfl, ?_⟩
    have B8 := (CX.out _ hc2).1
    have Hb8 : Hid (Below w0.heap.size w0 w2) := (CX.out _ hc2).2
    have e0 : w2.cell? ⟨g6, 0, none⟩ = some (.int .i64 q.1.k) := B8.cell 0
    have e1 : w2.cell? ⟨g6, 1, none⟩ = some (.int .i64 q.1.n) := B8.cell 1
    have e2 : w2.cell? ⟨g6, 2, none⟩ = some (.int .i64 q.1.s) := B8.cell 2
    have e3 : w2.cell? ⟨g6, 3, none⟩ = some (.string q.1.t) := B8.cell 3
    have e4 : w2.cell? ⟨g6, 4, none⟩ = some (.slice na' q.1.ns.length nc') := B8.cell 4
    have e5 : w2.cell? ⟨g6, 5, none⟩ = some (.slice ka' q.2.list.length kc') := B8.cell 5
    have KQ := HQ.out na' nc' ka' kc' v2 (lk ++ (1 :: txK nm)) B w0 w2 HVq.out Hb8.out hB0 (by omega) HM.out HA2.out.own (by rw [List.length_append]; exact HLn.out)
    clear hc2 hCq hCp hc1 B8
    go_wp2_with fail
    refine KQ.mono ?_
    rintro e w9 ⟨v9, rfl, H9⟩
    have HK2 : Hid (KIv B W w9 v v9 l (lk ++ (1 :: (txK nm ++ keyV q))) [.int .i64 9, .int .i64 p.1.n, .int .i64 p.1.s, .string p.1.t, .slice (some ⟨bn, on, none⟩) p.1.ns.length nc, .slice (some ⟨b, o, none⟩) p.2.list.length kc] p.2 true p.1.ns (k + 1) (keyF p.2 true p.1.ns)) := by
      have h1 := HK.out.step (v2 := v9) (w2 := w9) HQq.out G7.out (by
        have h2 := HA2.out.trans H9
        simp only [if_true]
        rw [HD.out]
        simpa using h2)
      simp only [if_true] at h1
      rw [HD.out] at h1
      show KIv _ _ _ _ _ _ _ _ _ _ _ _ _
      simpa using h1
    clear KQ H9 HK e0 e1 e2 e3 e4 e5
    go_wp2
    go_roundw
    case rel => exact ⟨k + 1, _, by omega, by go_num, HK2.out⟩
    case measure => simp [intOf]; omega
theorem keyV_lt {p : Vt} (h : p.1.k < 8) : keyV p = headK p.1 := by unfold keyV; rw [if_neg (by omega), List.append_nil]
theorem ak_step (p : Vt) (hw : WfV p) (hc : chk0V p = 0) (ih : ∀ q ∈ p.2.list, AkC q) : AkC p := by
  intro na nc ka kc v l B w0 W hv hb hB0 hB hm ho hlen
  have hl : l.length ≤ 700000000 := by omega
  have hmW : Mx W := hm.below hb hm.pos
  have hBp : 0 < B := Nat.lt_of_lt_of_le hm.pos hB0
  obtain ⟨hown, hkid⟩ := own_of0 hc
  obtain ⟨hf, ht, hkl, hnm⟩ := own_fine hown
  have fin : ∀ {w' : World} {e : Ending} (x : List Nat), x = keyV p → (∃ v', e = .returned v' ∧ Ap B W w' v v' (l ++ x)) → ∃ v', e = .returned v' ∧ Ap B W w' v v' (l ++ keyV p) := by
    rintro w' e x rfl h
    exact h
  unfold formed at hf
  split at hf
  · next h =>
    rw [h]
    exact (kv_1 p.1.n p.1.s p.1.t na p.1.ns.length nc ka p.2.list.length kc v l hl B W ho hB).mono fun e w' H => fin _ (by rw [keyV_lt (by omega), headK]; simp [h]) H
  split at hf
  · next _ h =>
    rw [Bool.and_eq_true] at hf
    have hn : p.1.n = 0 ∨ p.1.n = 1 := by simpa using hf.2
    have hn' : p.1.n = (p.1.n.toNat : Int) := by omega
    rw [h, hn']
    exact (kv_2 p.1.s p.1.t na p.1.ns.length nc ka p.2.list.length kc v l hl p.1.n.toNat (by omega) B W ho hB).mono fun e w' H => fin _ (by rw [keyV_lt (by omega), headK]; simp [h]) H
  split at hf
  · next _ _ h =>
    obtain ⟨a1, a2, a3, a4, a5⟩ := leaf_of hf (by decide) (by decide)
    have hs := a4 (by decide)
    rw [h]
    exact (kv_3 p.1.n p.1.s p.1.t na p.1.ns.length nc ka p.2.list.length kc v l hl hw.1.n0 hw.1.n1 (by omega) (by omega) B W ho hB).mono fun e w' H => fin _ (by rw [keyV_lt (by omega), headK]; simp [h]) H
  split at hf
  · next _ _ _ h =>
    simp only [Bool.and_eq_true, decide_eq_true_eq] at hf
    obtain ⟨⟨⟨b1, b2⟩, b3⟩, b4⟩ := hf
    rw [h]
    exact (kv_4 p.1.n p.1.s p.1.t na p.1.ns.length nc ka p.2.list.length kc v l hl hw.1.n0 hw.1.n1 (by omega) (by omega) B W ho hB).mono fun e w' H => fin _ (by rw [keyV_lt (by omega), headK]; simp [h]) H
  split at hf
  · next _ _ _ _ h =>
    simp only [Bool.and_eq_true, decide_eq_true_eq] at hf
    obtain ⟨⟨b1, b2⟩, b3⟩ := hf
    have hn' : p.1.n = (p.1.n.toNat : Int) := by omega
    rw [h, hn']
    exact (kv_5 p.1.s p.1.t na p.1.ns.length nc ka p.2.list.length kc v l hl p.1.n.toNat (by omega) B W ho hB).mono fun e w' H => fin _ (by rw [keyV_lt (by omega), headK]; simp [h]) H
  split at hf
  · next _ _ _ _ _ h =>
    rw [h]
    exact (kv_6 p.1.n p.1.s p.1.t na p.1.ns.length nc ka p.2.list.length kc v l hl ht B W hmW hBp ho hB).mono fun e w' H => fin _ (by rw [keyV_lt (by omega), headK]; simp [h]) H
  split at hf
  · next _ _ _ _ _ _ h =>
    rw [h]
    exact (kv_7 p.1.n p.1.s p.1.t na p.1.ns.length nc ka p.2.list.length kc v l hl ht B W hmW hBp ho hB).mono fun e w' H => fin _ (by rw [keyV_lt (by omega), headK]; simp [h]) H
  split at hf
  · next _ _ _ _ _ _ _ h =>
    have e : keyV p = 112 :: (keyF p.2 false p.1.ns ++ [0]) := by unfold keyV headK; simp [h]
    rw [e] at hlen ⊢
    rw [h]
    refine kv_8 p.1.n p.1.s p.1.t na p.1.ns.length nc ka p.2.list.length kc v l hl B W ho hB _ (fun v1 w1 A => ?_)
    have hsz := A.gr.size
    exact kk_list p hkl ih na nc ka kc v1 (l ++ [112]) B w0 w1 hv (A.below ho hb hb.size hB0) hB0 (by omega) hm A.own (by simp only [List.length_append, List.length_cons, List.length_nil] at hlen ⊢; omega)
  split at hf
  · next _ _ _ _ _ _ _ _ h =>
    have e : keyV p = 128 :: (keyF p.2 true p.1.ns ++ [0]) := by unfold keyV headK; simp [h]
    rw [e] at hlen ⊢
    rw [h]
    obtain ⟨n1, n2⟩ := names_len (hnm h)
    refine kv_9 p.1.n p.1.s p.1.t na p.1.ns.length nc ka p.2.list.length kc v l hl B W ho hB _ (fun v1 w1 A => ?_)
    have hsz := A.gr.size
    exact kk_struct p hkl n1 n2 ih na nc ka kc v1 (l ++ [128]) B w0 w1 hv (A.below ho hb hb.size hB0) hB0 (by omega) hm A.own (by simp only [List.length_append, List.length_cons, List.length_nil] at hlen ⊢; omega)
  · cases hf
theorem ak_any : ∀ (N : Nat) (p : Vt), wt p ≤ N → WfV p → chk0V p = 0 → AkC p := by
  intro N
  induction N with
  | zero => intro p hp; exfalso; unfold wt at hp; omega
  | succ N ih =>
    intro p hp hw hc
    exact ak_step p hw hc fun q hq => ih q (by have := wt_kid hq; omega) (hw.kid hq) (chk0_mem (own_of0 hc).2 hq)
end Go.Proofs.YtmlfhplhiedfjaaGreatDoor
