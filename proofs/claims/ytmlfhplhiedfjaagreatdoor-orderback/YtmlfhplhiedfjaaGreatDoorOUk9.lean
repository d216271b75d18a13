/-
  order's reader: nest, of a Struct.
-/
import Derived.Test.YtmlfhplhiedfjaaGreatDoorOG40x
namespace Go.Proofs.YtmlfhplhiedfjaaGreatDoor
open Go.RowKit Math
set_option linter.unusedVariables false
set_option linter.unusedSimpArgs false
set_option maxRecDepth 8000 in
set_option maxHeartbeats 4000000 in
theorem nest9 (dp : Int) (VC : Hid (OvC (dp + 1))) (hdp : 0 ≤ dp) (hdp2 : dp ≤ 16) (r : Nat) (k : ByteArray) (i : Nat) (bad : Bool) (W : World) (hi : i ≤ k.size) (hN : k.size ≤ 1000000000) (hr : r ≠ 0) (hm : Mx W) (hb : Blk W r 58 [.string k, .int .i64 (i : Int), .bool bad]) :
    Calls Tryz.prog 46 #[.pointer (some ⟨r, 0, none⟩), .int .i64 9, .int .i64 dp] W fun e w' => ∃ f ns na nc ka kc j bad', e = .returned (.agg #[.int .i64 9, .int .i64 0, .int .i64 0, .string ⟨#[]⟩, .slice na ns.length nc, .slice ka f.list.length kc]) ∧ Hid (Ox true dp 9 r k W w' i bad f ns na nc ka kc j bad') := by
  have hrW : r < W.heap.size := hb.lt
  have HM : Hid (Mx W) := hm
  have HB : Hid (Blk W r 58 [.string k, .int .i64 (i : Int), .bool bad]) := hb
  clear hb hm
  go_enter Tryz.func46, Tryz.ntmps46
  go_wp2_with (refine al_zero rfl 38 rfl zer zV ?_)
  intro g6 w1 hg6 b1 gr1
  have HZ1 : Hid (Blk w1 g6 38 zer ∧ W.grownBy w1 none) := ⟨b1, gr1⟩
  have hg6l : g6 < w1.heap.size := b1.lt
  clear b1 gr1
  go_wp2_with (refine al_zero rfl 38 rfl zer zV ?_)
  intro g8 w2 hg8 b2 gr2
  have HZ2 : Hid (Blk w2 g8 38 zer ∧ w1.grownBy w2 none) := ⟨b2, gr2⟩
  clear b2 gr2
  go_wp2_with (refine st_all rfl 38 (.tmp 7) (.tmp 9) rfl g8 38 zer [.int .i64 9, .int .i64 0, .int .i64 0, .string ⟨#[]⟩, .slice none 0 0, .slice none 0 0] rfl rfl HZ2.out.1 rfl sV (D6.ones rfl) ?_)
  intro w3 b3 gr3
  have HOd : Hid (Od W r g6 g8 w3.heap.size) := ⟨hrW, hg6, by omega, b3.lt⟩
  have HI0 : Hid (NK 58 w3.heap.size g6 g8 r W 9 w3 [.string k, .int .i64 ((i : Nat) : Int), .bool bad] [] .nil (.slice none 0 0) (.slice none 0 0) [] []) := by
    have e1 := HZ1.out.2
    have e2 := HZ2.out.2
    refine ⟨⟨((HB.out.kept e1 (by simp)).kept e2 (by simp)).kept gr3 (by intro c; injection c with c; omega), ⟨gr3.os.trans (e2.os.trans e1.os), gr3.tape.trans (e2.tape.trans e1.tape), gr3.output.trans (e2.output.trans e1.output), Nat.le_trans (Nat.le_trans e1.size e2.size) gr3.size, fun x hx hne => ?_⟩⟩, (HZ1.out.1.kept e2 (by simp)).kept gr3 (by intro c; injection c with c; omega), b3, World.ownsRow_nil _ _ _ _, World.ownsRow_nil _ _ _ _, ⟨rfl, rfl⟩, fun x hx => (by simp at hx), fun x c => (by simp [Value.ownBlock] at c), Nat.le_refl _⟩
    have h1 := e1.size
    have h2 := e2.size
    rw [gr3.block x (by omega) (by intro c; injection c with c; omega), e2.block x (by omega) (by simp), e1.block x hx (by simp)]
  clear b3 gr3 HZ1 HZ2 HB
  go_wp2
  go_loopw [] (fun wr => ∃ (j : Nat) (bd : Bool) (ns : List ByteArray) (f : Fo) (vn vk : Value) (cs : List Value) (Lf : List Nat), j ≤ k.size ∧ Hid ((NK 58 w3.heap.size g6 g8 r W 9 wr [.string k, .int .i64 ((j : Nat) : Int), .bool bd] ns f vn vk cs Lf) ∧ Ns True true dp ((bts k).drop i) bad ((bts k).drop j) bd f ns ∧ Wf f ∧ f.list.length ≤ 200 ∧ (∀ x ∈ ns, x.size ≤ 1000000000) ∧ ns.length ≤ 200)) (fun wr => 201 - kln g8 wr)
  case atStart => exact ⟨i, bad, [], .nil, _, _, [], [], hi, HI0.out, Ns.start _ _ _ _ _, trivial, by simp [Fo.list], by simp, by simp⟩
  case round =>
    clear HI0
    obtain ⟨j, bd, ns, f, vn, vk, cs, Lf, hj, HJ⟩ := hrel
    obtain ⟨na0, nc0, ka0, kc0, _, rfl, rfl, _, _⟩ := HJ.out.1.val
    have HN : Hid (NK 58 w3.heap.size g6 g8 r W 9 wr [.string k, .int .i64 ((j : Nat) : Int), .bool bd] ns f (.slice na0 ns.length nc0) (.slice ka0 f.list.length kc0) cs Lf) := HJ.out.1
    have HNs : Hid (Ns True true dp ((bts k).drop i) bad ((bts k).drop j) bd f ns) := HJ.out.2.1
    have HW : Hid (Wf f ∧ f.list.length ≤ 200 ∧ (∀ x ∈ ns, x.size ≤ 1000000000) ∧ ns.length ≤ 200) := HJ.out.2.2
    have hfl : f.list.length ≤ 200 := HW.out.2.1
    have HMr : Hid (Mx wr) := HM.out.kept HN.out.ro.gr (by intro e; injection e with e; exact hr e)
    have c2 : wr.cell? ⟨r, 2, none⟩ = some (.bool bd) := HN.out.ro.blk.cell 2
    clear HJ
    cases bd with
    | true =>
      have HNx : Hid (NK 58 w3.heap.size g6 g8 r W 9 wr [.string k, .int .i64 ((j : Nat) : Int), .bool true] ns f (.slice na0 ns.length nc0) (.slice ka0 f.list.length kc0) cs Lf) := HN.out
      clear HN
      have HRd : Hid (Rd (encN true) (fun x => True ∧ chk0 x.1 = 0) (NsOk true dp) ((bts k).drop i) bad ((bts k).drop j) true (f, ns)) := HNs.out.bad (f, ns)
      obtain ⟨na, nc, ka, kc, Lp, e1, e2, hvl, hrg⟩ := HNx.out.val
      injection e1 with e1 _ e3
      injection e2 with e2 _ e4
      subst e1 e2 e3 e4
      have HV : Hid (VlL wr (nst 9 (f, ns)) na0 nc0 ka0 kc0 Lp ∧ ∀ x ∈ Lp, w3.heap.size ≤ x ∧ x < wr.heap.size) := ⟨hvl, hrg⟩
      have HWf : Hid (WfV (nst 9 (f, ns))) := nst_wf 9 (by decide) (by decide) HW.out.1 (by have := HW.out.2.1; omega) (by have := HW.out.2.2.2; omega) HW.out.2.2.1
      clear hvl hrg HNs
      go_wp2_with (first
        | refine D6.ld_all rfl 38 (.tmp 7) rfl g8 38 _ _ rfl HNx.out.b8 Tryz.underlying38 rfl sV ?_
        | refine st_all rfl 38 (.tmp 6) (.tmp 54) rfl g6 38 zer (six ⟨9, 0, 0, em, ns⟩ na0 nc0 ka0 f.list.length kc0) rfl rfl HNx.out.b6 rfl sV (six_one _ _ _ _ _ _) ?_)
      intro w9 b9 g9
      have HB9 : Hid (Blk w9 g6 38 (six ⟨9, 0, 0, em, ns⟩ na0 nc0 ka0 f.list.length kc0)) := b9
      have HQ : Hid (Ox true dp 9 r k W w9 i bad f ns na0 nc0 ka0 kc0 j true) := by
        have o1 := HOd.out.r
        have o2 := HOd.out.l6
        have o3 := HOd.out.l8
        have o4 := HOd.out.lB
        have kg := kr_grown HNx.out.ro g9 (fun x c => by injection c with c; omega)
        refine ⟨⟨kg.blk, by omega, kg.gr⟩, ⟨Lp, HV.out.1.keep fun x hx => ?_, fun x hx => ?_⟩, HWf.out, HRd.out⟩
        · have := HV.out.2 x hx
          exact g9.block x this.2 (by intro c; injection c with c; omega)
        · have := HV.out.2 x hx
          have := g9.size
          omega
      clear b9 g9 HV HWf HRd HNx
      go_wp2
      refine bodyPost_ret (D6.res_row rfl _ g6 38 _ _ rfl HB9.out Tryz.underlying38 rfl sV) rfl ?_
      exact ⟨f, ns, na0, nc0, ka0, kc0, j, true, rfl, HQ.out⟩
    | false =>
      by_cases hs0 : ∃ h : j < k.size, (k[j]'h).toNat = 0
      · obtain ⟨hjl, hx0⟩ := hs0
        have K := skip_yes r k j 0 hjl hx0 hN false wr HN.out.ro.blk
        have HR0 : Hid (Rb ((bts k).drop j) false ((bts k).drop (j + 1)) false 0) := rb_yes k j 0 hjl hx0
        clear hx0
        go_wp2_with fail
        refine K.mono ?_
        rintro e w4 ⟨rfl, H4⟩
        have HNx : Hid (NK 58 w3.heap.size g6 g8 r W 9 w4 [.string k, .int .i64 (((j + 1) : Nat) : Int), .bool false] ns f (.slice na0 ns.length nc0) (.slice ka0 f.list.length kc0) cs Lf) := HN.out.read HOd.out ⟨H4.out.blk, H4.out.gr⟩
        clear K H4 HN c2
        have HRd : Hid (Rd (encN true) (fun x => True ∧ chk0 x.1 = 0) (NsOk true dp) ((bts k).drop i) bad ((bts k).drop (j + 1)) false (f, ns)) := HNs.out.done HR0.out
        obtain ⟨na, nc, ka, kc, Lp, e1, e2, hvl, hrg⟩ := HNx.out.val
        injection e1 with e1 _ e3
        injection e2 with e2 _ e4
        subst e1 e2 e3 e4
        have HV : Hid (VlL w4 (nst 9 (f, ns)) na0 nc0 ka0 kc0 Lp ∧ ∀ x ∈ Lp, w3.heap.size ≤ x ∧ x < w4.heap.size) := ⟨hvl, hrg⟩
        have HWf : Hid (WfV (nst 9 (f, ns))) := nst_wf 9 (by decide) (by decide) HW.out.1 (by have := HW.out.2.1; omega) (by have := HW.out.2.2.2; omega) HW.out.2.2.1
        clear hvl hrg HNs
        go_wp2_with (first
          | refine D6.ld_all rfl 38 (.tmp 7) rfl g8 38 _ _ rfl HNx.out.b8 Tryz.underlying38 rfl sV ?_
          | refine st_all rfl 38 (.tmp 6) (.tmp 54) rfl g6 38 zer (six ⟨9, 0, 0, em, ns⟩ na0 nc0 ka0 f.list.length kc0) rfl rfl HNx.out.b6 rfl sV (six_one _ _ _ _ _ _) ?_)
        intro w9 b9 g9
        have HB9 : Hid (Blk w9 g6 38 (six ⟨9, 0, 0, em, ns⟩ na0 nc0 ka0 f.list.length kc0)) := b9
        have HQ : Hid (Ox true dp 9 r k W w9 i bad f ns na0 nc0 ka0 kc0 (j + 1) false) := by
          have o1 := HOd.out.r
          have o2 := HOd.out.l6
          have o3 := HOd.out.l8
          have o4 := HOd.out.lB
          have kg := kr_grown HNx.out.ro g9 (fun x c => by injection c with c; omega)
          refine ⟨⟨kg.blk, by omega, kg.gr⟩, ⟨Lp, HV.out.1.keep fun x hx => ?_, fun x hx => ?_⟩, HWf.out, HRd.out⟩
          · have := HV.out.2 x hx
            exact g9.block x this.2 (by intro c; injection c with c; omega)
          · have := HV.out.2 x hx
            have := g9.size
            omega
        clear b9 g9 HV HWf HRd HNx
        go_wp2
        refine bodyPost_ret (D6.res_row rfl _ g6 38 _ _ rfl HB9.out Tryz.underlying38 rfl sV) rfl ?_
        exact ⟨f, ns, na0, nc0, ka0, kc0, (j + 1), false, rfl, HQ.out⟩
      have K := skip_no r k j 0 hj (fun h e => hs0 ⟨h, e⟩) hN false wr HN.out.ro.blk
      have HN0 : Hid (∀ t, ((bts k).drop j) ≠ 0 :: t) := rb_no k j 0 hs0
      clear hs0
      go_wp2_with fail
      refine K.mono ?_
      rintro e w4 ⟨rfl, H4⟩
      have HN4 : Hid (NK 58 w3.heap.size g6 g8 r W 9 w4 [.string k, .int .i64 ((j : Nat) : Int), .bool false] ns f (.slice na0 ns.length nc0) (.slice ka0 f.list.length kc0) cs Lf) := HN.out.read HOd.out ⟨H4.out.blk, H4.out.gr⟩
      have HM4 : Hid (Mx w4) := HMr.out.kept H4.out.gr (by intro e; injection e with e; exact hr e)
      have HMs : Hid (kln g8 wr = f.list.length) := kln_of (HN.out.b8.cell 5)
      clear K H4 HN c2 HMr
      have c5 : w4.cell? ⟨g8, 5, none⟩ = some (.slice ka0 f.list.length kc0) := HN4.out.b8.cell 5
      by_cases h200 : f.list.length = 200
      · have h2b : ((f.list.length : Int) == 200) = true := by rw [h200]; rfl
        have HF2 : Hid (f.list.length = 200) := h200
        clear h200 hfl
        go_wp2_with (refine st_one rfl 4 (.tmp 35) (.const (.bool true)) rfl r 2 58 _ (.bool true) rfl rfl rfl rfl (by simp) HN4.out.ro.blk s4 ?_)
        intro w5 b5 g5
        have HNx : Hid (NK 58 w3.heap.size g6 g8 r W 9 w5 [.string k, .int .i64 ((j : Nat) : Int), .bool true] ns f (.slice na0 ns.length nc0) (.slice ka0 f.list.length kc0) cs Lf) := HN4.out.read HOd.out ⟨b5, g5⟩
        clear b5 g5 HN4 c5
        have HRd : Hid (Rd (encN true) (fun x => True ∧ chk0 x.1 = 0) (NsOk true dp) ((bts k).drop i) bad ((bts k).drop j) true (f, ns)) := HNs.out.brk HN0.out (.inl HF2.out) (f, ns)
        obtain ⟨na, nc, ka, kc, Lp, e1, e2, hvl, hrg⟩ := HNx.out.val
        injection e1 with e1 _ e3
        injection e2 with e2 _ e4
        subst e1 e2 e3 e4
        have HV : Hid (VlL w5 (nst 9 (f, ns)) na0 nc0 ka0 kc0 Lp ∧ ∀ x ∈ Lp, w3.heap.size ≤ x ∧ x < w5.heap.size) := ⟨hvl, hrg⟩
        have HWf : Hid (WfV (nst 9 (f, ns))) := nst_wf 9 (by decide) (by decide) HW.out.1 (by have := HW.out.2.1; omega) (by have := HW.out.2.2.2; omega) HW.out.2.2.1
        clear hvl hrg HNs
        go_wp2_with (first
          | refine D6.ld_all rfl 38 (.tmp 7) rfl g8 38 _ _ rfl HNx.out.b8 Tryz.underlying38 rfl sV ?_
          | refine st_all rfl 38 (.tmp 6) (.tmp 54) rfl g6 38 zer (six ⟨9, 0, 0, em, ns⟩ na0 nc0 ka0 f.list.length kc0) rfl rfl HNx.out.b6 rfl sV (six_one _ _ _ _ _ _) ?_)
        intro w9 b9 g9
        have HB9 : Hid (Blk w9 g6 38 (six ⟨9, 0, 0, em, ns⟩ na0 nc0 ka0 f.list.length kc0)) := b9
        have HQ : Hid (Ox true dp 9 r k W w9 i bad f ns na0 nc0 ka0 kc0 j true) := by
          have o1 := HOd.out.r
          have o2 := HOd.out.l6
          have o3 := HOd.out.l8
          have o4 := HOd.out.lB
          have kg := kr_grown HNx.out.ro g9 (fun x c => by injection c with c; omega)
          refine ⟨⟨kg.blk, by omega, kg.gr⟩, ⟨Lp, HV.out.1.keep fun x hx => ?_, fun x hx => ?_⟩, HWf.out, HRd.out⟩
          · have := HV.out.2 x hx
            exact g9.block x this.2 (by intro c; injection c with c; omega)
          · have := HV.out.2 x hx
            have := g9.size
            omega
        clear b9 g9 HV HWf HRd HNx
        go_wp2
        refine bodyPost_ret (D6.res_row rfl _ g6 38 _ _ rfl HB9.out Tryz.underlying38 rfl sV) rfl ?_
        exact ⟨f, ns, na0, nc0, ka0, kc0, j, true, rfl, HQ.out⟩
      have h2b : ((f.list.length : Int) == 200) = false := beq_eq_false_iff_ne.2 (by omega)
      by_cases hs1 : ∃ h : j < k.size, (k[j]'h).toNat = 1
      case neg =>
        have K := skip_no r k j 1 hj (fun h e => hs1 ⟨h, e⟩) hN false w4 HN4.out.ro.blk
        have HN1 : Hid (∀ t, ((bts k).drop j) ≠ 1 :: t) := rb_no k j 1 hs1
        clear hs1
        go_wp2_with fail
        refine K.mono ?_
        rintro e w5 ⟨rfl, H5⟩
        have HN5 : Hid (NK 58 w3.heap.size g6 g8 r W 9 w5 [.string k, .int .i64 ((j : Nat) : Int), .bool false] ns f (.slice na0 ns.length nc0) (.slice ka0 f.list.length kc0) cs Lf) := HN4.out.read HOd.out ⟨H5.out.blk, H5.out.gr⟩
        clear K H5 HN4 c5
        go_wp2_with (refine st_one rfl 4 (.tmp 35) (.const (.bool true)) rfl r 2 58 _ (.bool true) rfl rfl rfl rfl (by simp) HN5.out.ro.blk s4 ?_)
        intro w6 b6 gr6
        have HNx : Hid (NK 58 w3.heap.size g6 g8 r W 9 w6 [.string k, .int .i64 ((j : Nat) : Int), .bool true] ns f (.slice na0 ns.length nc0) (.slice ka0 f.list.length kc0) cs Lf) := HN5.out.read HOd.out ⟨b6, gr6⟩
        clear b6 gr6 HN5
        have HRd : Hid (Rd (encN true) (fun x => True ∧ chk0 x.1 = 0) (NsOk true dp) ((bts k).drop i) bad ((bts k).drop j) true (f, ns)) := HNs.out.brk HN0.out (.inr ⟨rfl, HN1.out⟩) (f, ns)
        obtain ⟨na, nc, ka, kc, Lp, e1, e2, hvl, hrg⟩ := HNx.out.val
        injection e1 with e1 _ e3
        injection e2 with e2 _ e4
        subst e1 e2 e3 e4
        have HV : Hid (VlL w6 (nst 9 (f, ns)) na0 nc0 ka0 kc0 Lp ∧ ∀ x ∈ Lp, w3.heap.size ≤ x ∧ x < w6.heap.size) := ⟨hvl, hrg⟩
        have HWf : Hid (WfV (nst 9 (f, ns))) := nst_wf 9 (by decide) (by decide) HW.out.1 (by have := HW.out.2.1; omega) (by have := HW.out.2.2.2; omega) HW.out.2.2.1
        clear hvl hrg HNs
        go_wp2_with (first
          | refine D6.ld_all rfl 38 (.tmp 7) rfl g8 38 _ _ rfl HNx.out.b8 Tryz.underlying38 rfl sV ?_
          | refine st_all rfl 38 (.tmp 6) (.tmp 54) rfl g6 38 zer (six ⟨9, 0, 0, em, ns⟩ na0 nc0 ka0 f.list.length kc0) rfl rfl HNx.out.b6 rfl sV (six_one _ _ _ _ _ _) ?_)
        intro w9 b9 g9
        have HB9 : Hid (Blk w9 g6 38 (six ⟨9, 0, 0, em, ns⟩ na0 nc0 ka0 f.list.length kc0)) := b9
        have HQ : Hid (Ox true dp 9 r k W w9 i bad f ns na0 nc0 ka0 kc0 j true) := by
          have o1 := HOd.out.r
          have o2 := HOd.out.l6
          have o3 := HOd.out.l8
          have o4 := HOd.out.lB
          have kg := kr_grown HNx.out.ro g9 (fun x c => by injection c with c; omega)
          refine ⟨⟨kg.blk, by omega, kg.gr⟩, ⟨Lp, HV.out.1.keep fun x hx => ?_, fun x hx => ?_⟩, HWf.out, HRd.out⟩
          · have := HV.out.2 x hx
            exact g9.block x this.2 (by intro c; injection c with c; omega)
          · have := HV.out.2 x hx
            have := g9.size
            omega
        clear b9 g9 HV HWf HRd HNx
        go_wp2
        refine bodyPost_ret (D6.res_row rfl _ g6 38 _ _ rfl HB9.out Tryz.underlying38 rfl sV) rfl ?_
        exact ⟨f, ns, na0, nc0, ka0, kc0, j, true, rfl, HQ.out⟩
      obtain ⟨hjl, hx1⟩ := hs1
      have K := skip_yes r k j 1 hjl hx1 hN false w4 HN4.out.ro.blk
      have HR1 : Hid (Rb ((bts k).drop j) false ((bts k).drop (j + 1)) false 1) := rb_yes k j 1 hjl hx1
      clear hx1
      go_wp2_with fail
      refine K.mono ?_
      rintro e w5 ⟨rfl, H5⟩
      have HN5 : Hid (NK 58 w3.heap.size g6 g8 r W 9 w5 [.string k, .int .i64 (((j + 1) : Nat) : Int), .bool false] ns f (.slice na0 ns.length nc0) (.slice ka0 f.list.length kc0) cs Lf) := HN4.out.read HOd.out ⟨H5.out.blk, H5.out.gr⟩
      have HM5 : Hid (Mx w5) := HM4.out.kept H5.out.gr (by intro e; injection e with e; exact hr e)
      clear K H5 HN4 c5 HM4
      obtain ⟨C, hC⟩ : ∃ C : World → Prop, C = fun w' => w'.cell? ⟨g8, 4, none⟩ = some (.slice na0 ns.length nc0) := ⟨_, rfl⟩
      have CN : Hid (∀ w', C w' → w'.cell? ⟨g8, 4, none⟩ = some (.slice na0 ns.length nc0)) := fun w' h => by rw [hC] at h; exact h
      have CI : Hid (∀ w', w'.cell? ⟨g8, 4, none⟩ = some (.slice na0 ns.length nc0) → C w') := fun w' h => by rw [hC]; exact h
      have D0 : Hid (Below w5.heap.size w5 { w5 with drawn := w5.drawn + 1 }) := Below.drew (Below.refl _ _)
      have HNv : Hid (NK 58 w3.heap.size g6 g8 r W 9 { w5 with drawn := w5.drawn + 1 } [.string k, .int .i64 (((j + 1) : Nat) : Int), .bool false] ns f (.slice na0 ns.length nc0) (.slice ka0 f.list.length kc0) cs Lf) := HN5.out.below D0.out
      have HMv : Hid (Mx { w5 with drawn := w5.drawn + 1 }) := HM5.out.below D0.out HM5.out.pos
      have C0 : Hid (C { w5 with drawn := w5.drawn + 1 }) := CI.out _ (HNv.out.b8.cell 4)
      clear hC HN5 D0 HM5
      go_wp2
      refine region_calm C 7 (by kernel_rfl) ?_
      have hCp : ∀ p : Prop, (∀ W, C W → p) ↔ p := fun p => ⟨fun h => h _ C0.out, fun h _ _ => h⟩
      generalize ({ w5 with drawn := w5.drawn + 1 } : World) = v0 at *
      refine seg 5 [0, 1, 2] rfl (by kernel_rfl) whole_blind C0.out (by kernel_rfl) ?_
      change wpQuiet _ _ _ _ (_ :: _ :: _ :: []) _
      repeat (first
        | go_big_quiet_skip
        | (go_big_quiet_want
           first
           | (refine q_one 36 (.inr (.inr (.inl rfl))) (.tmp 38) rfl g8 4 rfl (.slice na0 ns.length nc0) CN.out ?_
              simp only [Act.put, List.setIfInBounds_toArray, List.set_cons_zero, List.set_cons_succ]
              go_big_quiet_on)
           | (go_big_quiet_op
              go_big_quiet_on)))
      refine wpQuiet_nil ?_
      refine lone_do (i := 3) 4 rfl (by kernel_rfl) rfl (by rfl) ?_
      intro K hK
      refine oper_call 45 #[.tmp 40] #[56] rfl #[.pointer (some ⟨r, 0, none⟩)] (by rw [List.map_toArray]; rfl) (enters Tryz.func45 (by kernel_rfl) rfl) (fun v' w' => ∃ (s : ByteArray) (j2 : Nat) (bd2 : Bool), v' = .string s ∧ Hid (Ko r k v0 w' j2 bd2 ∧ s.size ≤ k.size ∧ Rd txK (fun _ => True) (fun _ => True) ((bts k).drop (j + 1)) false ((bts k).drop j2) bd2 s)) ((text_any r k (j + 1) hjl hN hr false v0 HMv.out HNv.out.ro.blk).mono fun e' w' ⟨s, j2, bd2, h1, h2⟩ => ⟨_, h1, s, j2, bd2, rfl, h2⟩) ?_
      rintro _ v1 ⟨s, j2, bd2, rfl, H1⟩
      have HN1 : Hid (NK 58 w3.heap.size g6 g8 r W 9 v1 [.string k, .int .i64 ((j2 : Nat) : Int), .bool bd2] ns f (.slice na0 ns.length nc0) (.slice ka0 f.list.length kc0) cs Lf) := HNv.out.read HOd.out ⟨H1.out.1.blk, H1.out.1.gr⟩
      have HT : Hid (Rd txK (fun _ => True) (fun _ => True) ((bts k).drop (j + 1)) false ((bts k).drop j2) bd2 s) := H1.out.2.2
      have HM1 : Hid (Mx v1) := HMv.out.kept H1.out.1.gr (by intro e; injection e with e; exact hr e)
      have hj2 : j2 ≤ k.size := H1.out.1.le
      have hss : s.size ≤ 1000000000 := Nat.le_trans H1.out.2.1 hN
      have c1 : C v1 := CI.out _ (HN1.out.b8.cell 4)
      refine hK _ _ c1 ?_
      simp only [Act.put, List.setIfInBounds_toArray, List.set_cons_zero, List.set_cons_succ]
      clear H1 HNv C0 hCp HMv
      refine lone_do (i := 4) 3 rfl (by kernel_rfl) rfl (by rfl) ?_
      intro K hK
      refine oper_name 41 rfl s rfl ?_
      have DA : Hid (Below v1.heap.size v1 (v1.alloc (.cells #[.string s] 9))) := (Below.refl _ _).alloc (Nat.le_refl _) _
      have HNa : Hid (NK 58 w3.heap.size g6 g8 r W 9 (v1.alloc (.cells #[.string s] 9)) [.string k, .int .i64 ((j2 : Nat) : Int), .bool bd2] ns f (.slice na0 ns.length nc0) (.slice ka0 f.list.length kc0) cs Lf) := HN1.out.below DA.out
      have HNms : Hid (Nms (v1.alloc (.cells #[.string s] 9)) (some ⟨v1.heap.size, 0, none⟩) [s]) := .inr ⟨v1.heap.size, 0, rfl, fun i x hx => by
        rw [Nat.zero_add, World.cell?_alloc_new]
        cases i with
        | zero => simp at hx; subst hx; rfl
        | succ i => simp at hx⟩
      have ca : C (v1.alloc (.cells #[.string s] 9)) := CI.out _ (HNa.out.b8.cell 4)
      refine hK _ _ ca ?_
      simp only [Act.put, List.setIfInBounds_toArray, List.set_cons_zero, List.set_cons_succ]
      refine lone_do (i := 5) 2 rfl (by kernel_rfl) rfl (by rfl) ?_
      intro K hK
      refine oper_apn (.tmp 39) (.tmp 42) rfl w3.heap.size (.slice na0 ns.length nc0) ns.length (ns.map Value.string) rfl HNa.out.nm (some ⟨v1.heap.size, 0, none⟩) 1 [s] rfl HNms.out (by intro h; cases h) (by have := HW.out.2.2.2; simp only [List.length_cons, List.length_nil]; omega) HNa.out.sz ?_
      intro vn' v2 o2 g2 a2
      have hc2 : C v2 := CI.out _ ((HNa.out.b8.kept g2 (fun c => by have := (World.ownsRow.lt HNa.out.nm _ c.symm).1; have := HOd.out.lB; omega)).cell 4)
      refine hK _ _ hc2 ?_
      simp only [Act.put, List.setIfInBounds_toArray, List.set_cons_zero, List.set_cons_succ]
      have hCq : ∀ p : Prop, (∀ W, C W → p) ↔ p := fun p => ⟨fun h => h _ hc2, fun h _ _ => h⟩
      refine lone_calm (i := 6) 1 rfl (by kernel_rfl) rfl rfl hc2 ?_
      go_big_quiet_want
      go_big_quiet_op
      go_big_quiet_on
      refine wpQuiet_nil ?_
      have HB8 : Hid (Blk v2 g8 38 [.int .i64 9, .int .i64 0, .int .i64 0, .string ⟨#[]⟩, (.slice na0 ns.length nc0), (.slice ka0 f.list.length kc0)]) := HNa.out.b8.kept g2 (fun c => by have := (World.ownsRow.lt HNa.out.nm _ c.symm).1; have := HOd.out.lB; omega)
      have HO2 : Hid (v2.ownsRow w3.heap.size 9 1 vn' (ns.length + 1) (ns.map Value.string ++ [.string s])) := o2
      obtain ⟨hcel, hone⟩ : vn'.cells = #[vn'] ∧ vn'.oneCell' = true := by
        rcases o2 with ⟨_, ⟨h, _⟩ | ⟨_, _, _, h, _⟩⟩ <;> subst h <;> exact ⟨rfl, rfl⟩
      have HA2 : Hid (vn'.ownBlock = Value.ownBlock (.slice na0 ns.length nc0) ∨ vn'.ownBlock = some (v1.alloc (.cells #[.string s] 9)).heap.size) := a2
      have HG2 : Hid ((v1.alloc (.cells #[.string s] 9)).grownBy v2 (Value.ownBlock (.slice na0 ns.length nc0))) := g2
      have HM2 : Hid (Mx v2) := (HM1.out.below DA.out HM1.out.pos).kept g2 (fun c => by have := (World.ownsRow.lt HNa.out.nm _ c).1; have := HOd.out.lB; have := HOd.out.r; omega)
      clear o2 g2 a2 ca c1 HNa HNms hCq
      refine lone_last (i := 7) 0 rfl rfl (by kernel_rfl) rfl (by rfl) ?_
      intro K hK
      refine oper_st1 36 (.tmp 44) (.tmp 43) rfl g8 4 38 _ vn' rfl rfl hcel hone (by simp) HB8.out sNm ?_
      intro v3 b3 g3
      have HK : Hid (NK 58 w3.heap.size g6 g8 r W 9 v3 [.string k, .int .i64 ((j2 : Nat) : Int), .bool bd2] (ns ++ [s]) f vn' (.slice ka0 f.list.length kc0) cs Lf) := HN1.out.name HOd.out DA.out HG2.out HO2.out HA2.out b3 g3
      have HM3 : Hid (Mx v3) := HM2.out.kept g3 (by intro e; injection e with e; have := HOd.out.l6; have := HOd.out.l8; have := HOd.out.r; omega)
      clear b3 g3 HB8 HO2 HA2 HG2 DA HN1 hc2 HM1 HM2
      refine hK _ _ ?_
      simp only [Act.put, List.setIfInBounds_toArray, List.set_cons_zero, List.set_cons_succ]
      refine anyC_done (by kernel_rfl) ⟨rfl, ?_⟩
      clear CN CI hcel hone
      obtain ⟨C, hC⟩ : ∃ C : World → Prop, C = fun w' => w'.cell? ⟨g8, 5, none⟩ = some (.slice ka0 f.list.length kc0) := ⟨_, rfl⟩
      have CN : Hid (∀ w', C w' → w'.cell? ⟨g8, 5, none⟩ = some (.slice ka0 f.list.length kc0)) := fun w' h => by rw [hC] at h; exact h
      have CI : Hid (∀ w', w'.cell? ⟨g8, 5, none⟩ = some (.slice ka0 f.list.length kc0) → C w') := fun w' h => by rw [hC]; exact h
      have D0 : Hid (Below v3.heap.size v3 { v3 with drawn := v3.drawn + 1 }) := Below.drew (Below.refl _ _)
      have HKv : Hid (NK 58 w3.heap.size g6 g8 r W 9 { v3 with drawn := v3.drawn + 1 } [.string k, .int .i64 ((j2 : Nat) : Int), .bool bd2] (ns ++ [s]) f vn' (.slice ka0 f.list.length kc0) cs Lf) := HK.out.below D0.out
      have HMv : Hid (Mx { v3 with drawn := v3.drawn + 1 }) := HM3.out.below D0.out HM3.out.pos
      have C0 : Hid (C { v3 with drawn := v3.drawn + 1 }) := CI.out _ (HKv.out.b8.cell 5)
      clear hC HK D0 HM3
      go_wp2
      refine region_calm C 9 (by kernel_rfl) ?_
      have hCp : ∀ p : Prop, (∀ W, C W → p) ↔ p := fun p => ⟨fun h => h _ C0.out, fun h _ _ => h⟩
      generalize ({ v3 with drawn := v3.drawn + 1 } : World) = y0 at *
      refine seg 5 [0, 1, 2, 3, 4] rfl (by kernel_rfl) whole_blind C0.out (by kernel_rfl) ?_
      change wpQuiet _ _ _ _ (_ :: _ :: _ :: _ :: _ :: []) _
      repeat (first
        | go_big_quiet_skip
        | (go_big_quiet_want
           first
           | (refine q_one 22 (.inr (.inr (.inr (.inl rfl)))) (.tmp 45) rfl g8 5 rfl (.slice ka0 f.list.length kc0) CN.out ?_
              simp only [Act.put, List.setIfInBounds_toArray, List.set_cons_zero, List.set_cons_succ]
              go_big_quiet_on)
           | (go_big_quiet_op
              go_big_quiet_on)))
      refine wpQuiet_nil ?_
      have KV := VC.out r k j2 bd2 y0 hj2 hN hr HMv.out HKv.out.ro.blk
      refine lone_do (i := 5) 4 rfl (by kernel_rfl) rfl (by rfl) ?_
      intro K hK
      refine oper_call 27 #[.tmp 47, .tmp 49] #[56, 3] rfl #[.pointer (some ⟨r, 0, none⟩), .int .i64 (dp + 1)] (by rw [List.map_toArray]; rfl) (enters Tryz.func27 (by kernel_rfl) rfl) (fun v' w' => ∃ (q : Vt) (na : Option Addr) (nc : Nat) (ka : Option Addr) (kc : Nat) (j3 : Nat) (bd3 : Bool), v' = .agg #[.int .i64 q.1.k, .int .i64 q.1.n, .int .i64 q.1.s, .string q.1.t, .slice na q.1.ns.length nc, .slice ka q.2.list.length kc] ∧ Hid (Oo (dp + 1) r k y0 w' j2 bd2 q na nc ka kc j3 bd3)) (KV.mono fun e' w' ⟨q, na, nc, ka, kc, j3, bd3, h1, h2⟩ => ⟨_, h1, q, na, nc, ka, kc, j3, bd3, rfl, h2⟩) ?_
      rintro _ y1 ⟨q, na, nc, ka, kc, j3, bd3, rfl, H5⟩
      have HN5 : Hid (NK 58 w3.heap.size g6 g8 r W 9 y1 [.string k, .int .i64 ((j3 : Nat) : Int), .bool bd3] (ns ++ [s]) f vn' (.slice ka0 f.list.length kc0) cs Lf) := HKv.out.read HOd.out ⟨H5.out.ko.blk, H5.out.ko.gr⟩
      have HS2 : Hid (Ns True true dp ((bts k).drop i) bad ((bts k).drop j3) bd3 (f.snoc q) (ns ++ [s])) := HNs.out.field HR1.out HT.out H5.out.vr
      have hj3 : j3 ≤ k.size := H5.out.ko.le
      have HQ5 : Hid (∃ Lq, VlL y1 q na nc ka kc Lq ∧ ∀ x ∈ Lq, w3.heap.size ≤ x ∧ x < y1.heap.size ∧ Value.ownBlock vn' ≠ some x ∧ Value.ownBlock (.slice ka0 f.list.length kc0) ≠ some x) := by
        obtain ⟨Lq, a1, a2⟩ := H5.out.vl
        refine ⟨Lq, a1, fun x hx => ?_⟩
        have h1 := a2 x hx
        have h3 := HKv.out.sz
        refine ⟨by omega, by omega, fun c => ?_, fun c => ?_⟩
        · have := (World.ownsRow.lt HKv.out.nm x c).2
          omega
        · have := (World.ownsRow.lt HKv.out.kd x c).2
          omega
      have HQw : Hid (WfV q) := H5.out.wf
      have c1 : C y1 := CI.out _ (HN5.out.b8.cell 5)
      refine hK _ _ c1 ?_
      simp only [Act.put, List.setIfInBounds_toArray, List.set_cons_zero, List.set_cons_succ]
      clear H5 HKv C0 hCp KV HMv
      refine lone_do (i := 6) 3 rfl (by kernel_rfl) rfl (by rfl) ?_
      intro K hK
      refine oper_kid 50 rfl (.int .i64 q.1.k) (.int .i64 q.1.n) (.int .i64 q.1.s) (.string q.1.t) (.slice na q.1.ns.length nc) (.slice ka q.2.list.length kc) rfl ?_
      obtain ⟨y2, HY2⟩ : ∃ y2, Hid (y1.alloc (.cells #[.int .i64 q.1.k, .int .i64 q.1.n, .int .i64 q.1.s, .string q.1.t, .slice na q.1.ns.length nc, .slice ka q.2.list.length kc] 38) = y2) := ⟨_, rfl⟩
      have GA : Hid (Below y1.heap.size y1 y2) := by rw [← HY2.out]; exact (Below.refl _ _).alloc (Nat.le_refl _) _
      have HC9 : Hid (∀ j u, (six q.1 na nc ka q.2.list.length kc)[j]? = some u → y2.cell? ⟨y1.heap.size, j, none⟩ = some u) := fun j u hj => by
        rw [← HY2.out, World.cell?_alloc_new]
        show (six q.1 na nc ka q.2.list.length kc).toArray[j]? = some u
        rw [List.getElem?_toArray]
        exact hj
      rw [HY2.out]
      have HNa : Hid (NK 58 w3.heap.size g6 g8 r W 9 y2 [.string k, .int .i64 ((j3 : Nat) : Int), .bool bd3] (ns ++ [s]) f vn' (.slice ka0 f.list.length kc0) cs Lf) := HN5.out.below GA.out
      have ca : C y2 := CI.out _ (HNa.out.b8.cell 5)
      refine hK _ _ ca ?_
      simp only [Act.put, List.setIfInBounds_toArray, List.set_cons_zero, List.set_cons_succ]
      clear HY2 c1
      refine lone_do (i := 7) 2 rfl (by kernel_rfl) rfl (by rfl) ?_
      intro K hK
      refine oper_apk (.tmp 46) (.tmp 51) rfl w3.heap.size (.slice ka0 f.list.length kc0) f.list.length cs rfl HNa.out.kd y1.heap.size 1 1 (six q.1 na nc ka q.2.list.length kc) rfl rfl HC9.out (six_one _ _ _ _ _ _) (by omega) HNa.out.sz ?_
      intro vk' y3 o3 g3 a3
      have hc3 : C y3 := CI.out _ ((HNa.out.b8.kept g3 (fun c => by have := (World.ownsRow.lt HNa.out.kd _ c.symm).1; have := HOd.out.lB; omega)).cell 5)
      refine hK _ _ hc3 ?_
      simp only [Act.put, List.setIfInBounds_toArray, List.set_cons_zero, List.set_cons_succ]
      have hCq : ∀ p : Prop, (∀ W, C W → p) ↔ p := fun p => ⟨fun h => h _ hc3, fun h _ _ => h⟩
      refine lone_calm (i := 8) 1 rfl (by kernel_rfl) rfl rfl hc3 ?_
      go_big_quiet_want
      go_big_quiet_op
      go_big_quiet_on
      refine wpQuiet_nil ?_
      have HB8 : Hid (Blk y3 g8 38 [.int .i64 9, .int .i64 0, .int .i64 0, .string ⟨#[]⟩, vn', (.slice ka0 f.list.length kc0)]) := HNa.out.b8.kept g3 (fun c => by have := (World.ownsRow.lt HNa.out.kd _ c.symm).1; have := HOd.out.lB; omega)
      have HO3 : Hid (y3.ownsRow w3.heap.size 38 6 vk' (f.list.length + 1) (cs ++ six q.1 na nc ka q.2.list.length kc)) := o3
      obtain ⟨hcel, hone⟩ : vk'.cells = #[vk'] ∧ vk'.oneCell' = true := by
        rcases o3 with ⟨_, ⟨h, _⟩ | ⟨_, _, _, h, _⟩⟩ <;> subst h <;> exact ⟨rfl, rfl⟩
      have HA3 : Hid (vk'.ownBlock = Value.ownBlock (.slice ka0 f.list.length kc0) ∨ vk'.ownBlock = some y2.heap.size) := a3
      have HG3 : Hid (y2.grownBy y3 (Value.ownBlock (.slice ka0 f.list.length kc0))) := g3
      clear o3 g3 a3 ca HNa HC9 hCq
      refine lone_last (i := 9) 0 rfl rfl (by kernel_rfl) rfl (by rfl) ?_
      intro K hK
      refine oper_st1 22 (.tmp 53) (.tmp 52) rfl g8 5 38 _ vk' rfl rfl hcel hone (by simp) HB8.out sKd ?_
      intro y4 b4 g4x
      have HKn : Hid (∃ Lf', NK 58 w3.heap.size g6 g8 r W 9 y4 [.string k, .int .i64 ((j3 : Nat) : Int), .bool bd3] (ns ++ [s]) (f.snoc q) vn' vk' (cs ++ six q.1 na nc ka q.2.list.length kc) Lf') := by
        obtain ⟨Lq, a1, a2⟩ := HQ5.out
        exact ⟨Lf ++ Lq, HN5.out.kid HOd.out a1 a2 GA.out HG3.out HO3.out HA3.out b4 g4x⟩
      have HFn : Hid (Wf (f.snoc q) ∧ (f.snoc q).list.length ≤ 200 ∧ (∀ x ∈ (ns ++ [s]), x.size ≤ 1000000000) ∧ ((ns ++ [s])).length ≤ 200) := by
        refine ⟨wf_snoc HQw.out HW.out.1, by rw [snoc_list, List.length_append, List.length_singleton]; omega, ?_, ?_⟩
        · intro x hx
          rcases List.mem_append.1 hx with hx | hx
          · exact HW.out.2.2.1 x hx
          · simp at hx
            subst hx
            exact hss
        · rw [List.length_append, List.length_singleton, HNs.out.ln rfl]
          omega
      have HMe : Hid (kln g8 y4 = f.list.length + 1) := by
        obtain ⟨_, hk⟩ := HKn.out
        obtain ⟨na9, nc9, ka9, kc9, _, h1, h2, _, _⟩ := hk.val
        have hc := hk.b8.cell 5
        rw [h2] at hc
        have := kln_of (g := g8) hc
        rw [snoc_list, List.length_append, List.length_singleton] at this
        exact this
      clear b4 g4x HB8 HO3 HA3 HG3 GA HN5 hc3 HQ5
      refine hK _ _ ?_
      simp only [Act.put, List.setIfInBounds_toArray, List.set_cons_zero, List.set_cons_succ]
      refine anyC_done (by kernel_rfl) ⟨rfl, ?_⟩
      clear CN CI hcel hone
      go_wp2
      go_roundw
      case rel =>
        obtain ⟨Lf', hk⟩ := HKn.out
        exact ⟨j3, bd3, _, f.snoc q, _, vk', _, Lf', hj3, hk, HS2.out, HFn.out⟩
      case measure =>
        rw [HMs.out, HMe.out]
        omega
end Go.Proofs.YtmlfhplhiedfjaaGreatDoor
