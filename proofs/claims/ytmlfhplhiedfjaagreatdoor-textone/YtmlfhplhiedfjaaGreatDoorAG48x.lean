/-
  The law's known of chapter 9; two values with one text are one. · The law's great of chapter 9.
-/
import Derived.Test.YtmlfhplhiedfjaaGreatDoorARd1
import Derived.Test.YtmlfhplhiedfjaaGreatDoorAGrt
namespace Go.Proofs.YtmlfhplhiedfjaaGreatDoor
open Go.RowKit Math
set_option linter.unusedVariables false
set_option linter.unusedSimpArgs false
/-- Two values have the same text just if they are one. -/
theorem prV_inj {W : World} (ht : D6.Ptab W) {a b : Vt} (ha : WfV a) (hb : WfV b) (ea : encE a = 0) (eb : encE b = 0) (hl : (prV a).length ≤ 524288) (h : prV a = prV b) : a = b := by
  have e : bts (prT a) = prV a := prT_yes ha ea
  have hz : (prT a).size ≤ 524288 := by
    have := congrArg List.length e
    rw [bts_len] at this
    omega
  obtain ⟨_, _, _, ⟨p, na, nc, ka, kc, E, _, H⟩, _⟩ := tparse_any (prT a) (by omega) W ht []
  rcases H.out.ok with ⟨_, _, _, h1⟩ | ⟨_, _, h1⟩
  · rw [h1 a ha ea e.symm, h1 b hb eb (by rw [e, h])]
  · exact absurd e.symm (h1 hz a ha ea)
def kn9 : Vt := (⟨9, 0, 0, em, [⟨#[97]⟩, ⟨#[98]⟩]⟩, .cons ⟨3, 1, 0, em, []⟩ .nil (.cons ⟨8, 0, 0, em, []⟩ (.cons ⟨1, 0, 0, em, []⟩ .nil (.cons ⟨6, 0, 0, ⟨#[105, 116, 39, 115]⟩, []⟩ .nil (.cons ⟨7, 0, 0, ⟨#[0]⟩, []⟩ .nil .nil))) .nil))
def knS : ByteArray := ⟨#[123, 39, 97, 39, 58, 32, 49, 44, 32, 39, 98, 39, 58, 32, 91, 110, 117, 108, 108, 44, 32, 39, 105, 116, 39, 39, 115, 39, 44, 32, 35, 48, 48, 93, 125]⟩
theorem kn9_enc : encE kn9 = 0 := by kernel_rfl
theorem hok9 (k n s : Int) (t : ByteArray) (ns : List ByteArray) (hk : 0 ≤ k ∧ k ≤ 9) (hn : 0 ≤ n ∧ n ≤ 1) (hs : s = 0) (ht : t.size ≤ 4) (hl : ns.length ≤ 2) (hx : ∀ x ∈ ns, x.size ≤ 1) : Hok ⟨k, n, s, t, ns⟩ :=
  ⟨by show (-9223372036854775808 : Int) ≤ k; omega, by show k < 9223372036854775808; omega, by show (-9223372036854775808 : Int) ≤ n; omega, by show n < 9223372036854775808; omega, by show (-9223372036854775808 : Int) ≤ s; omega, by show s < 9223372036854775808; omega, by show t.size ≤ _; omega, by show ns.length ≤ _; omega, fun x hx2 => by have := hx x hx2; omega⟩
theorem kn9_wf : WfV kn9 := by
  refine ⟨hok9 9 0 0 em _ (by omega) (by omega) rfl (by decide) (by decide) (by simp; decide), by decide, ⟨⟨hok9 3 1 0 em [] (by omega) (by omega) rfl (by decide) (by decide) (by simp), by decide, trivial⟩, ⟨⟨hok9 8 0 0 em [] (by omega) (by omega) rfl (by decide) (by decide) (by simp), by decide, ?_⟩, trivial⟩⟩⟩
  exact ⟨⟨hok9 1 0 0 em [] (by omega) (by omega) rfl (by decide) (by decide) (by simp), by decide, trivial⟩, ⟨hok9 6 0 0 _ [] (by omega) (by omega) rfl (by decide) (by decide) (by simp), by decide, trivial⟩, ⟨hok9 7 0 0 _ [] (by omega) (by omega) rfl (by decide) (by decide) (by simp), by decide, trivial⟩, trivial⟩
theorem pN_one : pN 1 0 = [49] := by
  have h : dcB 1 = ⟨#[49]⟩ := by
    unfold dcB
    rw [Lib.decDigits_one (by omega)]
    rfl
  unfold pN D6.txt
  rw [if_neg (by omega), if_pos rfl, show (1 : Int).natAbs = 1 from rfl, h]
  rfl
theorem kn9_pr : prV kn9 = bts knS := by
  have h : pH ⟨3, 1, 0, em, []⟩ (prF .nil (decide ((3 : Int) = 9)) [] true) = [49] := by
    unfold pH
    simp only [show ¬ (3 : Int) = 1 by decide, show ¬ (3 : Int) = 2 by decide, if_false, if_true, show (0 : Int).toNat = 0 from rfl]
    exact pN_one
  unfold prV kn9
  show pH _ (prF (.cons ⟨3, 1, 0, em, []⟩ .nil _) _ _ _) = _
  rw [prF, h]
  rfl
theorem knS_size : knS.size = 35 := rfl
set_option maxRecDepth 8000 in
set_option maxHeartbeats 2000000 in
theorem known9 (W : World) (ht : D6.Ptab W) : Calls Tryz.prog 21 #[] W fun e w' => e = .returned (.bool true) ∧ Below W.heap.size W w' := by
  have HTb : Hid (D6.Ptab W) := ht
  have K := tparse_any knS (by rw [knS_size]; omega) W ht
  clear ht
  go_enter Tryz.func21, Tryz.ntmps21
  go_wp2_with fail
  refine K.mono ?_
  rintro e w1 ⟨p, na, nc, ka, kc, E, rfl, H1⟩
  have HP : Hid (E = 0 ∧ p = kn9) := by
    rcases H1.out.ok with ⟨a, _, _, b⟩ | ⟨_, _, b⟩
    · exact ⟨a, (b kn9 kn9_wf kn9_enc kn9_pr).symm⟩
    · exact absurd kn9_pr (b (by rw [knS_size]; omega) kn9 kn9_wf kn9_enc)
  have HB1 : Hid (Below W.heap.size W w1) := H1.out.bl
  have HV1 : Hid (Vl w1 p na nc ka kc) := H1.out.vl
  have HL : Hid (p.2.list.length = 2) := by show _ = _; rw [HP.out.2]; rfl
  have HPr : Hid (WfV p ∧ ws p ≤ 800000 ∧ encE p = 0 ∧ prT p = knS) := by
    refine ⟨H1.out.wf, by have := H1.out.wz; omega, by rw [HP.out.2]; exact kn9_enc, ?_⟩
    rw [HP.out.2, ← ofB_bts (prT kn9), prT_yes kn9_wf kn9_enc, kn9_pr, ofB_bts]
  obtain rfl : E = 0 := HP.out.1
  clear K H1 HP
  go_wp2_with (refine al_zero rfl 38 rfl zer z25 ?_)
  intro g w2 hg bz2 gr2
  go_wp2_with (refine st_all rfl 38 (.tmp 1) (.tmp 7) rfl g 38 zer (six p.1 na nc ka p.2.list.length kc) rfl rfl bz2 rfl s25 (six_one _ _ _ _ _ _) ?_)
  intro w3 b3 gr3
  have HB3 : Hid (Below w1.heap.size w1 w3) := below_new gr2 hg gr3
  have HX3 : Hid (Blk w3 g 38 (six p.1 na nc ka p.2.list.length kc)) := b3
  have HBW3 : Hid (Below W.heap.size W w3) := HB1.out.trans (HB3.out.mono HB1.out.size)
  have K2 := print_any p HPr.out.1 HPr.out.2.1 na nc ka kc w3 (HV1.out.below HB3.out) (ptab_below HTb.out HBW3.out)
  rw [HPr.out.2.2.1, HPr.out.2.2.2] at K2
  have d0 : w3.cell? ⟨g, 0, none⟩ = some (.int .i64 p.1.k) := HX3.out.cell 0
  have d1 : w3.cell? ⟨g, 1, none⟩ = some (.int .i64 p.1.n) := HX3.out.cell 1
  have d2 : w3.cell? ⟨g, 2, none⟩ = some (.int .i64 p.1.s) := HX3.out.cell 2
  have d3 : w3.cell? ⟨g, 3, none⟩ = some (.string p.1.t) := HX3.out.cell 3
  have d4 : w3.cell? ⟨g, 4, none⟩ = some (.slice na p.1.ns.length nc) := HX3.out.cell 4
  have d5 : w3.cell? ⟨g, 5, none⟩ = some (.slice ka p.2.list.length kc) := HX3.out.cell 5
  clear bz2 gr2 b3 gr3 HB3
  go_wp2_with fail
  refine K2.mono ?_
  rintro e w4 ⟨rfl, b4⟩
  have HX4 : Hid (Blk w4 g 38 (six p.1 na nc ka p.2.list.length kc)) := HX3.out.below b4 HX3.out.lt
  have HBW4 : Hid (Below W.heap.size W w4) := HBW3.out.trans (b4.mono HBW3.out.size)
  have f5 : w4.cell? ⟨g, 5, none⟩ = some (.slice ka p.2.list.length kc) := HX4.out.cell 5
  rw [HL.out] at f5
  have hkk : knS.toList = [123, 39, 97, 39, 58, 32, 49, 44, 32, 39, 98, 39, 58, 32, 91, 110, 117, 108, 108, 44, 32, 39, 105, 116, 39, 39, 115, 39, 44, 32, 35, 48, 48, 93, 125] := by
    rw [ByteArray.toList_eq]
    rfl
  generalize knS = S at *
  clear K2 b4 d0 d1 d2 d3 d4 d5 HX3 HX4 HL HPr HV1 HBW3 HB1
  go_wp2
  go_ret
  exact ⟨rfl, HBW4.out⟩
end Go.Proofs.YtmlfhplhiedfjaaGreatDoor
namespace Go.Proofs.YtmlfhplhiedfjaaGreatDoor
open Go.RowKit
set_option linter.unusedVariables false
set_option linter.unusedSimpArgs false
def GIh9 (p : Vt) : Prop := ∀ q : Vt, wt q < wt p → WfV q → ∀ (na : Option Addr) (nc : Nat) (ka : Option Addr) (kc : Nat) (g m : Nat) (w0 W : World), Vl w0 q na nc ka kc → Below w0.heap.size w0 W → w0.heap.size ≤ g → Blk W g 3 [.int .i64 (m : Int)] → m ≤ 2000 →
  Calls Tryz.prog 16 #[.agg #[.int .i64 q.1.k, .int .i64 q.1.n, .int .i64 q.1.s, .string q.1.t, .slice na q.1.ns.length nc, .slice ka q.2.list.length kc], .pointer (some ⟨g, 0, none⟩)] W fun e W' => ∃ m', e = .returned (.bool (decide (2000 < m'))) ∧ Hid (Gr W W' g m m' (ws q))
set_option maxRecDepth 8000 in
set_option maxHeartbeats 4000000 in
theorem great_step9 (p : Vt) (ih : GIh9 p) (hwf : WfV p) (na : Option Addr) (nc : Nat) (ka : Option Addr) (kc : Nat) (g m : Nat) (w0 W : World) (hv : Vl w0 p na nc ka kc) (hb : Below w0.heap.size w0 W) (hg : w0.heap.size ≤ g) (hm : Blk W g 3 [.int .i64 (m : Int)]) (hm2 : m ≤ 2000) :
    Calls Tryz.prog 16 #[.agg #[.int .i64 p.1.k, .int .i64 p.1.n, .int .i64 p.1.s, .string p.1.t, .slice na p.1.ns.length nc, .slice ka p.2.list.length kc], .pointer (some ⟨g, 0, none⟩)] W fun e W' => ∃ m', e = .returned (.bool (decide (2000 < m'))) ∧ Hid (Gr W W' g m m' (ws p)) := by
  have hkl := hwf.2.1
  have htl := hwf.1.t1
  have hnl := hwf.1.c1
  obtain ⟨W1, HW1⟩ : ∃ W1, Hid (W.alloc (.cells #[.int .i64 p.1.k, .int .i64 p.1.n, .int .i64 p.1.s, .string p.1.t, .slice na p.1.ns.length nc, .slice ka p.2.list.length kc] 38) = W1) := ⟨_, rfl⟩
  have bx : Blk W1 W.heap.size 38 (six p.1 na nc ka p.2.list.length kc) := by rw [← HW1.out]; exact blk_new W 38 _
  have bm : Blk W1 g 3 [.int .i64 (m : Int)] := by rw [← HW1.out]; exact hm.alloc _
  have g1 : W.grownBy W1 none := by rw [← HW1.out]; exact World.grownBy_alloc W _ none
  have hne : g ≠ W.heap.size := Nat.ne_of_lt hm.lt
  have c0 : W1.cell? ⟨g, 0, none⟩ = some (.int .i64 (m : Int)) := bm.cell 0
  have c3 : W1.cell? ⟨W.heap.size, 3, none⟩ = some (.string p.1.t) := bx.cell 3
  have c4 : W1.cell? ⟨W.heap.size, 4, none⟩ = some (.slice na p.1.ns.length nc) := bx.cell 4
  have fr : W1.frozen? ⟨g, 0, none⟩ = false := bm.frozen 0
  have HS : Hid (ws p = wsH p.1 + p.2.ws) := rfl
  have HSh : Hid (wsH p.1 = 1 + p.1.t.size / 20 + p.1.ns.length) := rfl
  have HI : Hid (GIh9 p) := ih
  have HW : Hid (WfV p) := hwf
  have HV : Hid (Vl w0 p na nc ka kc) := hv
  have HB : Hid (Below w0.heap.size w0 W) := hb
  have HBx : Hid (Blk W1 W.heap.size 38 (six p.1 na nc ka p.2.list.length kc)) := bx
  have HBm : Hid (Blk W1 g 3 [.int .i64 (m : Int)]) := bm
  have HG1 : Hid (W.grownBy W1 none) := g1
  generalize ws p = WS at *
  clear ih hwf hv hb bx bm g1 hm
  go_enter Tryz.func16, Tryz.ntmps16
  go_wp2
  generalize hWW : World.alloc W _ = W2
  obtain rfl : W1 = W2 := by rw [← hWW, ← HW1.out]
  clear hWW HW1
  obtain ⟨m1, HM1⟩ : ∃ m1 : Nat, Hid (m1 = m + 1 + p.1.t.size / 20 + p.1.ns.length) := ⟨_, rfl⟩
  have hm1 : m1 ≤ 1000000000000000 := by rw [HM1.out]; omega
  have HX : Hid ((m : Int) + 1 + (p.1.t.size : Int) / 20 + (p.1.ns.length : Int) = (m1 : Int)) := by
    show _ = _
    rw [HM1.out]
    omega
  go_region
  all_goals go_wp2
  rw [HX.out]
  obtain ⟨W2, HW2⟩ : ∃ W2, Hid ((W1.setCell ⟨g, 0, none⟩ (.int .i64 (m1 : Int))).drew = W2) := ⟨_, rfl⟩
  rw [HW2.out]
  have HG2 : Hid (W1.grownBy W2 (some g)) := by
    rw [← HW2.out]
    have h := grown_setCell W1 ⟨g, 0, none⟩ (.int .i64 (m1 : Int))
    exact ⟨h.os, h.tape, h.output, h.size, h.block⟩
  have HB2 : Hid (Blk W2 g 3 [.int .i64 (m1 : Int)]) := by
    rw [← HW2.out]
    exact HBm.out.set 0 (.int .i64 (m1 : Int))
  have HX2 : Hid (Blk W2 W.heap.size 38 (six p.1 na nc ka p.2.list.length kc)) := HBx.out.kept HG2.out (fun e => hne (Option.some.inj e).symm)
  have HBw : Hid (Below w0.heap.size w0 W2) := (HB.out.grown HG1.out HB.out.size (fun k e => by cases e)).grown HG2.out (Nat.le_trans HB.out.size HG1.out.size) (fun k e => by cases e; exact hg)
  have HGW : Hid (W.grownBy W2 (some g)) := by
    have h1 := HG1.out
    have h2 := HG2.out
    exact ⟨h2.os.trans h1.os, h2.tape.trans h1.tape, h2.output.trans h1.output, Nat.le_trans h1.size h2.size, fun k hk hne => (h2.block k (Nat.lt_of_lt_of_le hk h1.size) hne).trans (h1.block k hk (by simp))⟩
  clear HW2 HX c0 c3 c4 fr HBx HBm HG1 HG2
  go_loopw [5] (fun i wr => ∃ k m' : Nat, k ≤ p.2.list.length ∧ i = .int .i64 (k : Int) ∧ m' ≤ 1000000000000000 ∧ Hid (Blk wr g 3 [.int .i64 (m' : Int)]) ∧ Hid (W2.grownBy wr (some g)) ∧ Hid (m' ≤ 2000 → m1 + p.2.ws ≤ m' + (p.2.drop k).ws)) (fun i _ => p.2.list.length - (intOf i).toNat)
  case atStart => exact ⟨0, m1, by omega, rfl, hm1, HB2.out, World.grownBy.refl _ _, fun _ => by simp [Fo.drop]⟩
  case round =>
    obtain ⟨k, m', hk0, rfl, hmm, HBk, HGk, HMk⟩ := hrel
    have cg : wr.cell? ⟨g, 0, none⟩ = some (.int .i64 (m' : Int)) := HBk.out.cell 0
    have HXk : Hid (Blk wr W.heap.size 38 (six p.1 na nc ka p.2.list.length kc)) := HX2.out.kept HGk.out (fun e => hne (Option.some.inj e).symm)
    have c5 : wr.cell? ⟨W.heap.size, 5, none⟩ = some (.slice ka p.2.list.length kc) := HXk.out.cell 5
    have HGr : Hid (W.grownBy wr (some g)) := by
      have h1 := HGW.out
      have h2 := HGk.out
      exact ⟨h2.os.trans h1.os, h2.tape.trans h1.tape, h2.output.trans h1.output, Nat.le_trans h1.size h2.size, fun k hk hne => (h2.block k (Nat.lt_of_lt_of_le hk h1.size) hne).trans (h1.block k hk hne)⟩
    by_cases hlt : k < p.2.list.length ∧ m' ≤ 2000
    case neg =>
      have hfin : m' ≤ 2000 → m + WS ≤ m' := fun h => by
        have h1 := HMk.out h
        rw [Fo.drop_end _ _ (by omega)] at h1
        have h2 := HS.out
        have h3 := HSh.out
        have h4 := HM1.out
        simp only [Fo.ws] at h1
        omega
      have HF : Hid (m' ≤ 2000 → m + WS ≤ m') := hfin
      clear hfin HMk
      by_cases h1 : k < p.2.list.length
      · have h2 : ¬ m' ≤ 2000 := fun e => hlt ⟨h1, e⟩
        have h3 : decide ((m' : Int) ≤ 2000) = false := by simp; omega
        go_wp2
        go_ret
        exact ⟨m', by first | exact gt_cast m' | rfl | exact gt_yes m' (by omega), ⟨HGr.out, HBk.out, hmm, HF.out⟩⟩
      · go_wp2
        go_ret
        exact ⟨m', by first | exact gt_cast m' | rfl | exact gt_yes m' (by omega), ⟨HGr.out, HBk.out, hmm, HF.out⟩⟩
    obtain ⟨hlt, hle⟩ := hlt
    have h3 : decide ((m' : Int) ≤ 2000) = true := by simp; omega
    have HBr : Hid (Below w0.heap.size w0 wr) := HBw.out.grown HGk.out HBw.out.size (fun k e => by cases e; exact hg)
    obtain ⟨q, b, o, na', nc', ka', kc', hq, rfl, hnd, hvl⟩ := HV.out.kid (Below.refl _ _) (k := k) hlt
    have HQ := HI.out q (wt_kid (List.mem_of_getElem? hq)) (HW.out.kid (List.mem_of_getElem? hq)) na' nc' ka' kc' g m' w0 wr hvl HBr.out hg HBk.out hle
    obtain ⟨d0, d1, d2, d3, d4, d5⟩ := hnd.below HBr.out
    have HWq : Hid ((p.2.drop k).ws = ws q + (p.2.drop (k + 1)).ws) := ws_step hq
    generalize ws q = WQ at *
    clear hnd hvl hq
    go_wp2_with fail
    refine HQ.mono ?_
    rintro e w3 ⟨m3, rfl, h3r⟩
    clear HQ
    go_wp2
    go_roundw
    case rel =>
      have h1 := HGk.out
      have h2 := h3r.out.gr
      refine ⟨k + 1, m3, by omega, by go_num, h3r.out.max, h3r.out.blk, ⟨h2.os.trans h1.os, h2.tape.trans h1.tape, h2.output.trans h1.output, Nat.le_trans h1.size h2.size, fun k hk hne => (h2.block k (Nat.lt_of_lt_of_le hk h1.size) hne).trans (h1.block k hk hne)⟩, fun h => ?_⟩
      have h5 := h3r.out.ge h
      have h6 := HMk.out hle
      have h7 := HWq.out
      omega
    case measure => simp [intOf]; omega
theorem great_any9 : ∀ (N : Nat) (q : Vt), wt q ≤ N → WfV q → ∀ (na : Option Addr) (nc : Nat) (ka : Option Addr) (kc : Nat) (g m : Nat) (w0 W : World), Vl w0 q na nc ka kc → Below w0.heap.size w0 W → w0.heap.size ≤ g → Blk W g 3 [.int .i64 (m : Int)] → m ≤ 2000 →
    Calls Tryz.prog 16 #[.agg #[.int .i64 q.1.k, .int .i64 q.1.n, .int .i64 q.1.s, .string q.1.t, .slice na q.1.ns.length nc, .slice ka q.2.list.length kc], .pointer (some ⟨g, 0, none⟩)] W fun e W' => ∃ m', e = .returned (.bool (decide (2000 < m'))) ∧ Hid (Gr W W' g m m' (ws q)) := by
  intro N
  induction N with
  | zero => intro p hp; exfalso; unfold wt at hp; omega
  | succ N ih =>
    intro p hp hwf na nc ka kc g m w0 W hv hb hg hm hm2
    exact great_step9 p (fun q hq hwq na nc ka kc g m w0 W h1 h2 h3 h4 h5 => ih q (by omega) hwq na nc ka kc g m w0 W h1 h2 h3 h4 h5) hwf na nc ka kc g m w0 W hv hb hg hm hm2
end Go.Proofs.YtmlfhplhiedfjaaGreatDoor
