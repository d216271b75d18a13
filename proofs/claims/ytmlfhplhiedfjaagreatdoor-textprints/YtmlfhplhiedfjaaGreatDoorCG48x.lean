/-
  The document's own show and Print, of any value. · The law's great of chapter 9.
-/
import Derived.Test.YtmlfhplhiedfjaaGreatDoorCG44x
import Derived.Test.YtmlfhplhiedfjaaGreatDoorCG34x
import Derived.Test.YtmlfhplhiedfjaaGreatDoorCG47x
import Derived.Test.YtmlfhplhiedfjaaGreatDoorCG6x
namespace Go.Proofs.YtmlfhplhiedfjaaGreatDoor
open Go.RowKit Math
set_option linter.unusedVariables false
set_option linter.unusedSimpArgs false
theorem sh_step (p : Vt) (hw : WfV p) (hc : chk0V p = 0) (ih : ∀ q ∈ p.2.list, ShC q) : ShC p := by
  obtain ⟨ho, hck⟩ := own_of0 hc
  have fn := own_fine ho
  obtain ⟨hk, a1, a2, a3, a4, a5⟩ := form9 fn.1
  obtain ⟨⟨k, n, s, t, ns⟩, f⟩ := p
  simp only at hk a1 a2 a3 a4 a5
  intro na nc ka kc w0 W hv hb hl
  rcases hk with rfl | rfl | rfl | rfl | rfl | rfl | rfl | rfl | rfl
  · exact sh1 n s t ns f na nc ka kc W
  · exact sh2 n s t ns f na nc ka kc W
  · obtain ⟨n1, n2, n3⟩ := num9 hw.1 ho (.inl rfl)
    have hs : s = 0 := a2 (by decide)
    subst hs
    exact sh3 n 0 t ns f ⟨n1, n2, rfl, a3 (by decide) (by decide), a4 (by decide)⟩ (nil9 (a5 (by decide) (by decide))) (own3 ho (.inl rfl)) na nc ka kc W
  · obtain ⟨n1, n2, n3⟩ := num9 hw.1 ho (.inr rfl)
    have hs : s ≠ 0 := fun e => by have := n3.1 e; simp at this
    exact sh4 n s t ns f ⟨n1, n2, (by unfold D6.kd; rw [if_neg (by simp only at n2 ⊢; omega)]), a3 (by decide) (by decide), a4 (by decide)⟩ (nil9 (a5 (by decide) (by decide))) (own3 ho (.inr rfl)) na nc ka kc W
  · have hn : 0 ≤ n ∧ n ≤ 9007199254740992 := by
      have := fn.1
      unfold formed at this
      simp at this
      omega
    exact sh5 n s t ns f hn.1 hn.2 na nc ka kc W
  · exact sh6 n s t ns f (by have := fn.t; simp only at this; omega) na nc ka kc W
  · exact sh7 n s t ns f (by have := fn.t; simp only at this; omega) na nc ka kc W
  · have e : prV (⟨8, n, s, t, ns⟩, f) = 91 :: (prF f false ns true ++ [93]) := rfl
    rw [e] at hl ⊢
    exact sh8 (⟨8, n, s, t, ns⟩, f) fn.c ih na nc ka kc w0 W hv hb (by simpa using hl)
  · have hnm := names_len (fn.nm rfl)
    have e : prV (⟨9, n, s, t, ns⟩, f) = 123 :: (prF f true ns true ++ [125]) := rfl
    rw [e] at hl ⊢
    exact sh9 (⟨9, n, s, t, ns⟩, f) fn.c hnm.1 hnm.2 ih na nc ka kc w0 W hv hb (by simpa using hl)
theorem sh_any : ∀ (N : Nat) (p : Vt), wt p ≤ N → WfV p → chk0V p = 0 → ShC p := by
  intro N
  induction N with
  | zero => intro p h; simp [wt] at h
  | succ N ih =>
    intro p hN hw hc
    exact sh_step p hw hc fun q hq => ih q (by have := wt_kid hq; omega) (hw.kid hq) (chk0_mem (own_of0 hc).2 hq)
set_option maxRecDepth 8000 in
set_option maxHeartbeats 2000000 in
theorem rprint_any (p : Vt) (hw : WfV p) (hws : ws p ≤ 100000) (na : Option Addr) (nc : Nat) (ka : Option Addr) (kc : Nat) (W : World) (hv : Vl W p na nc ka kc) :
    Calls Tryz.prog 19 #[.agg #[.int .i64 p.1.k, .int .i64 p.1.n, .int .i64 p.1.s, .string p.1.t, .slice na p.1.ns.length nc, .slice ka p.2.list.length kc]] W fun e w' => e = .returned (.tuple #[.string (prT p), .int .i64 (encE p)]) ∧ Below W.heap.size W w' := by
  obtain ⟨W1, HW1⟩ : ∃ W1, Hid (W.alloc (.cells #[.int .i64 p.1.k, .int .i64 p.1.n, .int .i64 p.1.s, .string p.1.t, .slice na p.1.ns.length nc, .slice ka p.2.list.length kc] 38) = W1) := ⟨_, rfl⟩
  have HB1 : Hid (Below W.heap.size W W1) := by rw [← HW1.out]; exact (Below.refl _ _).alloc (Nat.le_refl _) _
  have HX1 : Hid (Blk W1 W.heap.size 38 [.int .i64 p.1.k, .int .i64 p.1.n, .int .i64 p.1.s, .string p.1.t, .slice na p.1.ns.length nc, .slice ka p.2.list.length kc]) := by rw [← HW1.out]; exact blk_new W 38 [.int .i64 p.1.k, .int .i64 p.1.n, .int .i64 p.1.s, .string p.1.t, .slice na p.1.ns.length nc, .slice ka p.2.list.length kc]
  have c0 : W1.cell? ⟨W.heap.size, 0, none⟩ = some (.int .i64 p.1.k) := HX1.out.cell 0
  have c1 : W1.cell? ⟨W.heap.size, 1, none⟩ = some (.int .i64 p.1.n) := HX1.out.cell 1
  have c2 : W1.cell? ⟨W.heap.size, 2, none⟩ = some (.int .i64 p.1.s) := HX1.out.cell 2
  have c3 : W1.cell? ⟨W.heap.size, 3, none⟩ = some (.string p.1.t) := HX1.out.cell 3
  have c4 : W1.cell? ⟨W.heap.size, 4, none⟩ = some (.slice na p.1.ns.length nc) := HX1.out.cell 4
  have c5 : W1.cell? ⟨W.heap.size, 5, none⟩ = some (.slice ka p.2.list.length kc) := HX1.out.cell 5
  have HV : Hid (Vl W p na nc ka kc) := hv
  have KE := rencode_any p hw hws na nc ka kc W1 (hv.below HB1.out)
  have HY : Hid (encE p = 0 → ∀ w, Below W1.heap.size W1 w → Calls Tryz.prog 34 #[.agg #[.int .i64 p.1.k, .int .i64 p.1.n, .int .i64 p.1.s, .string p.1.t, .slice na p.1.ns.length nc, .slice ka p.2.list.length kc]] w fun e w' => e = .returned (.string (prT p)) ∧ Below w.heap.size w w') := fun h w g => by
    have hc := encE_chk0 h
    have hl := prV_len p hw hc
    have K := sh_any _ p (Nat.le_refl _) hw hc na nc ka kc W w HV.out (HB1.out.trans (g.mono HB1.out.size)) (by omega)
    have e : prT p = ofB (prV p) := by rw [← prT_yes hw h, ofB_bts]
    rw [e]
    exact K
  have HN : Hid (encE p ≠ 0 → prT p = ⟨#[]⟩) := fun h => prT_no h
  generalize encE p = E at *
  generalize prT p = S at *
  clear hv
  go_enter Tryz.func19, Tryz.ntmps19
  go_wp2_with fail
  generalize hWW : World.alloc W _ = W9
  obtain rfl : W1 = W9 := by rw [← hWW, ← HW1.out] <;> rfl
  clear hWW HW1
  refine KE.mono ?_
  rintro e w2 ⟨v2, rfl, H2⟩
  have HB2 : Hid (Below W1.heap.size W1 w2) := H2.out.2
  clear KE H2 c0 c1 c2 c3 c4 c5
  by_cases hE : E = 0
  case neg =>
    obtain rfl : S = ⟨#[]⟩ := HN.out hE
    have hb : (E != 0) = true := by simpa using hE
    have HF : Hid (Below W.heap.size W w2) := HB1.out.trans (HB2.out.mono HB1.out.size)
    clear hE HY HN HX1
    go_wp2
    go_ret2
    exact ⟨rfl, HF.out⟩
  subst hE
  have KS := HY.out rfl w2 HB2.out
  have HX2 : Hid (Blk w2 W.heap.size 38 (six p.1 na nc ka p.2.list.length kc)) := HX1.out.below HB2.out HX1.out.lt
  have c0 : w2.cell? ⟨W.heap.size, 0, none⟩ = some (.int .i64 p.1.k) := HX2.out.cell 0
  have c1 : w2.cell? ⟨W.heap.size, 1, none⟩ = some (.int .i64 p.1.n) := HX2.out.cell 1
  have c2 : w2.cell? ⟨W.heap.size, 2, none⟩ = some (.int .i64 p.1.s) := HX2.out.cell 2
  have c3 : w2.cell? ⟨W.heap.size, 3, none⟩ = some (.string p.1.t) := HX2.out.cell 3
  have c4 : w2.cell? ⟨W.heap.size, 4, none⟩ = some (.slice na p.1.ns.length nc) := HX2.out.cell 4
  have c5 : w2.cell? ⟨W.heap.size, 5, none⟩ = some (.slice ka p.2.list.length kc) := HX2.out.cell 5
  clear HY HN HX1
  go_wp2_with fail
  refine KS.mono ?_
  rintro e w3 ⟨rfl, b3⟩
  have HF : Hid (Below W.heap.size W w3) := (HB1.out.trans (HB2.out.mono HB1.out.size)).trans (b3.mono (by have := HB2.out.size; have := HB1.out.size; omega))
  clear KS b3 c0 c1 c2 c3 c4 c5 HX2
  go_wp2
  go_ret2
  exact ⟨rfl, HF.out⟩
end Go.Proofs.YtmlfhplhiedfjaaGreatDoor
namespace Go.Proofs.YtmlfhplhiedfjaaGreatDoor
open Go.RowKit
set_option linter.unusedVariables false
set_option linter.unusedSimpArgs false
def GIh9 (p : Vt) : Prop := ∀ q : Vt, wt q < wt p → WfV q → ∀ (na : Option Addr) (nc : Nat) (ka : Option Addr) (kc : Nat) (g m : Nat) (w0 W : World), Vl w0 q na nc ka kc → Below w0.heap.size w0 W → w0.heap.size ≤ g → Blk W g 3 [.int .i64 (m : Int)] → m ≤ 2000 →
  Calls Tryz.prog 16 #[.agg #[.int .i64 q.1.k, .int .i64 q.1.n, .int .i64 q.1.s, .string q.1.t, .slice na q.1.ns.length nc, .slice ka q.2.list.length kc], .pointer (some ⟨g, 0, none⟩)] W fun e W' => ∃ m', e = .returned (.bool (decide (2000 < m'))) ∧ Hid (Gr W W' g m m' (ws q))
set_option maxRecDepth 8000 in
set_option maxHeartbeats 4000000 in
theorem great_step9 (p : Vt) (ih : GIh9 p) (hwf : WfV p) (na : Option Addr) (nc : Nat) (ka : Option Addr) (kc : Nat) (g m : Nat) (w0 W : World) (hv : Vl w0 p na nc ka kc) (hb : Below w0.heap.size w0 W) (hg : w0.heap.size ≤ g) (hm : Blk W g 3 [.int .i64 (m : Int)]) (hm2 : m ≤ 2000) :
    Calls Tryz.prog 16 #[.agg #[.int .i64 p.1.k, .int .i64 p.1.n, .int .i64 p.1.s, .string p.1.t, .slice na p.1.ns.length nc, .slice ka p.2.list.length kc], .pointer (some ⟨g, 0, none⟩)] W fun e W' => ∃ m', e = .returned (.bool (decide (2000 < m'))) ∧ Hid (Gr W W' g m m' (ws p)) := by
  have hkl := hwf.2.1
  have htl := hwf.1.t1
  have hnl := hwf.1.c1
  obtain ⟨W1, HW1⟩ : ∃ W1, Hid (W.alloc (.cells #[.int .i64 p.1.k, .int .i64 p.1.n, .int .i64 p.1.s, .string p.1.t, .slice na p.1.ns.length nc, .slice ka p.2.list.length kc] 38) = W1) := ⟨_, rfl⟩
  have bx : Blk W1 W.heap.size 38 (six p.1 na nc ka p.2.list.length kc) := by rw [← HW1.out]; exact blk_new W 38 _
  have bm : Blk W1 g 3 [.int .i64 (m : Int)] := by rw [← HW1.out]; exact hm.alloc _
  have g1 : W.grownBy W1 none := by rw [← HW1.out]; exact World.grownBy_alloc W _ none
  have hne : g ≠ W.heap.size := Nat.ne_of_lt hm.lt
  have c0 : W1.cell? ⟨g, 0, none⟩ = some (.int .i64 (m : Int)) := bm.cell 0
  have c3 : W1.cell? ⟨W.heap.size, 3, none⟩ = some (.string p.1.t) := bx.cell 3
  have c4 : W1.cell? ⟨W.heap.size, 4, none⟩ = some (.slice na p.1.ns.length nc) := bx.cell 4
  have fr : W1.frozen? ⟨g, 0, none⟩ = false := bm.frozen 0
  have HS : Hid (ws p = wsH p.1 + p.2.ws) := rfl
  have HSh : Hid (wsH p.1 = 1 + p.1.t.size / 20 + p.1.ns.length) := rfl
  have HI : Hid (GIh9 p) := ih
  have HW : Hid (WfV p) := hwf
  have HV : Hid (Vl w0 p na nc ka kc) := hv
  have HB : Hid (Below w0.heap.size w0 W) := hb
  have HBx : Hid (Blk W1 W.heap.size 38 (six p.1 na nc ka p.2.list.length kc)) := bx
  have HBm : Hid (Blk W1 g 3 [.int .i64 (m : Int)]) := bm
  have HG1 : Hid (W.grownBy W1 none) := g1
  generalize ws p = WS at *
  clear ih hwf hv hb bx bm g1 hm
  go_enter Tryz.func16, Tryz.ntmps16
  go_wp2
  generalize hWW : World.alloc W _ = W2
  obtain rfl : W1 = W2 := by rw [← hWW, ← HW1.out]
  clear hWW HW1
  obtain ⟨m1, HM1⟩ : ∃ m1 : Nat, Hid (m1 = m + 1 + p.1.t.size / 20 + p.1.ns.length) := ⟨_, rfl⟩
  have hm1 : m1 ≤ 1000000000000000 := by rw [HM1.out]; omega
  have HX : Hid ((m : Int) + 1 + (p.1.t.size : Int) / 20 + (p.1.ns.length : Int) = (m1 : Int)) := by
    show _ = _
    rw [HM1.out]
    omega
  go_region
  all_goals go_wp2
  rw [HX.out]
  obtain ⟨W2, HW2⟩ : ∃ W2, Hid ((W1.setCell ⟨g, 0, none⟩ (.int .i64 (m1 : Int))).drew = W2) := ⟨_, rfl⟩
  rw [HW2.out]
  have HG2 : Hid (W1.grownBy W2 (some g)) := by
    rw [← HW2.out]
    have h := grown_setCell W1 ⟨g, 0, none⟩ (.int .i64 (m1 : Int))
    exact ⟨h.os, h.tape, h.output, h.size, h.block⟩
  have HB2 : Hid (Blk W2 g 3 [.int .i64 (m1 : Int)]) := by
    rw [← HW2.out]
    exact HBm.out.set 0 (.int .i64 (m1 : Int))
  have HX2 : Hid (Blk W2 W.heap.size 38 (six p.1 na nc ka p.2.list.length kc)) := HBx.out.kept HG2.out (fun e => hne (Option.some.inj e).symm)
  have HBw : Hid (Below w0.heap.size w0 W2) := (HB.out.grown HG1.out HB.out.size (fun k e => by cases e)).grown HG2.out (Nat.le_trans HB.out.size HG1.out.size) (fun k e => by cases e; exact hg)
  have HGW : Hid (W.grownBy W2 (some g)) := by
    have h1 := HG1.out
    have h2 := HG2.out
    exact ⟨h2.os.trans h1.os, h2.tape.trans h1.tape, h2.output.trans h1.output, Nat.le_trans h1.size h2.size, fun k hk hne => (h2.block k (Nat.lt_of_lt_of_le hk h1.size) hne).trans (h1.block k hk (by simp))⟩
  clear HW2 HX c0 c3 c4 fr HBx HBm HG1 HG2
  go_loopw [5] (fun i wr => ∃ k m' : Nat, k ≤ p.2.list.length ∧ i = .int .i64 (k : Int) ∧ m' ≤ 1000000000000000 ∧ Hid (Blk wr g 3 [.int .i64 (m' : Int)]) ∧ Hid (W2.grownBy wr (some g)) ∧ Hid (m' ≤ 2000 → m1 + p.2.ws ≤ m' + (p.2.drop k).ws)) (fun i _ => p.2.list.length - (intOf i).toNat)
  case atStart => exact ⟨0, m1, by omega, rfl, hm1, HB2.out, World.grownBy.refl _ _, fun _ => by simp [Fo.drop]⟩
  case round =>
    obtain ⟨k, m', hk0, rfl, hmm, HBk, HGk, HMk⟩ := hrel
    have cg : wr.cell? ⟨g, 0, none⟩ = some (.int .i64 (m' : Int)) := HBk.out.cell 0
    have HXk : Hid (Blk wr W.heap.size 38 (six p.1 na nc ka p.2.list.length kc)) := HX2.out.kept HGk.out (fun e => hne (Option.some.inj e).symm)
    have c5 : wr.cell? ⟨W.heap.size, 5, none⟩ = some (.slice ka p.2.list.length kc) := HXk.out.cell 5
    have HGr : Hid (W.grownBy wr (some g)) := by
      have h1 := HGW.out
      have h2 := HGk.out
      exact ⟨h2.os.trans h1.os, h2.tape.trans h1.tape, h2.output.trans h1.output, Nat.le_trans h1.size h2.size, fun k hk hne => (h2.block k (Nat.lt_of_lt_of_le hk h1.size) hne).trans (h1.block k hk hne)⟩
    by_cases hlt : k < p.2.list.length ∧ m' ≤ 2000
    case neg =>
      have hfin : m' ≤ 2000 → m + WS ≤ m' := fun h => by
        have h1 := HMk.out h
        rw [Fo.drop_end _ _ (by omega)] at h1
        have h2 := HS.out
        have h3 := HSh.out
        have h4 := HM1.out
        simp only [Fo.ws] at h1
        omega
      have HF : Hid (m' ≤ 2000 → m + WS ≤ m') := hfin
      clear hfin HMk
      by_cases h1 : k < p.2.list.length
      · have h2 : ¬ m' ≤ 2000 := fun e => hlt ⟨h1, e⟩
        have h3 : decide ((m' : Int) ≤ 2000) = false := by simp; omega
        go_wp2
        go_ret
        exact ⟨m', by first | exact gt_cast m' | rfl | exact gt_yes m' (by omega), ⟨HGr.out, HBk.out, hmm, HF.out⟩⟩
      · go_wp2
        go_ret
        exact ⟨m', by first | exact gt_cast m' | rfl | exact gt_yes m' (by omega), ⟨HGr.out, HBk.out, hmm, HF.out⟩⟩
    obtain ⟨hlt, hle⟩ := hlt
    have h3 : decide ((m' : Int) ≤ 2000) = true := by simp; omega
    have HBr : Hid (Below w0.heap.size w0 wr) := HBw.out.grown HGk.out HBw.out.size (fun k e => by cases e; exact hg)
    obtain ⟨q, b, o, na', nc', ka', kc', hq, rfl, hnd, hvl⟩ := HV.out.kid (Below.refl _ _) (k := k) hlt
    have HQ := HI.out q (wt_kid (List.mem_of_getElem? hq)) (HW.out.kid (List.mem_of_getElem? hq)) na' nc' ka' kc' g m' w0 wr hvl HBr.out hg HBk.out hle
    obtain ⟨d0, d1, d2, d3, d4, d5⟩ := hnd.below HBr.out
    have HWq : Hid ((p.2.drop k).ws = ws q + (p.2.drop (k + 1)).ws) := ws_step hq
    generalize ws q = WQ at *
    clear hnd hvl hq
    go_wp2_with fail
    refine HQ.mono ?_
    rintro e w3 ⟨m3, rfl, h3r⟩
    clear HQ
    go_wp2
    go_roundw
    case rel =>
      have h1 := HGk.out
      have h2 := h3r.out.gr
      refine ⟨k + 1, m3, by omega, by go_num, h3r.out.max, h3r.out.blk, ⟨h2.os.trans h1.os, h2.tape.trans h1.tape, h2.output.trans h1.output, Nat.le_trans h1.size h2.size, fun k hk hne => (h2.block k (Nat.lt_of_lt_of_le hk h1.size) hne).trans (h1.block k hk hne)⟩, fun h => ?_⟩
      have h5 := h3r.out.ge h
      have h6 := HMk.out hle
      have h7 := HWq.out
      omega
    case measure => simp [intOf]; omega
theorem great_any9 : ∀ (N : Nat) (q : Vt), wt q ≤ N → WfV q → ∀ (na : Option Addr) (nc : Nat) (ka : Option Addr) (kc : Nat) (g m : Nat) (w0 W : World), Vl w0 q na nc ka kc → Below w0.heap.size w0 W → w0.heap.size ≤ g → Blk W g 3 [.int .i64 (m : Int)] → m ≤ 2000 →
    Calls Tryz.prog 16 #[.agg #[.int .i64 q.1.k, .int .i64 q.1.n, .int .i64 q.1.s, .string q.1.t, .slice na q.1.ns.length nc, .slice ka q.2.list.length kc], .pointer (some ⟨g, 0, none⟩)] W fun e W' => ∃ m', e = .returned (.bool (decide (2000 < m'))) ∧ Hid (Gr W W' g m m' (ws q)) := by
  intro N
  induction N with
  | zero => intro p hp; exfalso; unfold wt at hp; omega
  | succ N ih =>
    intro p hp hwf na nc ka kc g m w0 W hv hb hg hm hm2
    exact great_step9 p (fun q hq hwq na nc ka kc g m w0 W h1 h2 h3 h4 h5 => ih q (by omega) hwq na nc ka kc g m w0 W h1 h2 h3 h4 h5) hwf na nc ka kc g m w0 W hv hb hg hm hm2
end Go.Proofs.YtmlfhplhiedfjaaGreatDoor
