/-
  text's reader: record.
-/
import Derived.Test.YtpfiejmhnkcjbaaGreatDoorFG43x
namespace Go.Proofs.YtpfiejmhnkcjbaaGreatDoor
open Go.RowKit Math
set_option linter.unusedVariables false
set_option linter.unusedSimpArgs false
set_option maxRecDepth 8000 in
set_option maxHeartbeats 4000000 in
theorem record9 (dp : Int) (VC : Hid (VvC (dp + 1))) (hdp : 0 ≤ dp) (hdp2 : dp ≤ 16) (r : Nat) (s : ByteArray) (bad : Bool) (hs : s.size ≤ 600000) (W : World) (hb : Blk W r 106 [.string s, .bool bad]) :
    Calls Tryz.prog 109 #[.pointer (some ⟨r, 0, none⟩), .int .i64 dp] W fun e w' => ∃ (x : Fo × List ByteArray) (na : Option Addr) (nc : Nat) (ka : Option Addr) (kc : Nat) (s' : ByteArray) (bad' : Bool), e = .returned (.agg #[.int .i64 9, .int .i64 0, .int .i64 0, .string ⟨#[]⟩, .slice na x.2.length nc, .slice ka x.1.list.length kc]) ∧ Hid (Vp9 true dp 9 r W w' s s' bad bad' x na nc ka kc) := by
  have hrW : r < W.heap.size := hb.lt
  have HB : Hid (Blk W r 106 [.string s, .bool bad]) := hb
  clear hb
  go_enter Tryz.func109, Tryz.ntmps109
  go_wp2_with (refine al_zero rfl 41 rfl zer z25 ?_)
  intro g4 w1 hg4 bz1 gr1
  have HZ1 : Hid (Blk w1 g4 41 zer ∧ W.grownBy w1 none) := ⟨bz1, gr1⟩
  have hg4l : g4 < w1.heap.size := bz1.lt
  have K1 := must9 r s ⟨#[123]⟩ bad w1 (HB.out.kept gr1 (by simp))
  clear bz1 gr1 HB
  go_wp2_with fail
  refine K1.mono ?_
  rintro e w2 ⟨s1, b1, rfl, H2⟩
  have HM1 : Hid (Rm [if true then 123 else 91] (bts s) bad (bts s1) b1 ∧ (b1 = false → s1.size + 1 = s.size)) := by
    refine ⟨H2.out.2.1, fun h => ?_⟩
    have := congrArg List.length (H2.out.2.2.1 h)
    rw [List.length_append, bts_len, bts_len, bts_len] at this
    have h3 : (⟨#[123]⟩ : ByteArray).size = 1 := rfl
    omega
  have hs1 : s1.size ≤ s.size := H2.out.2.2.2
  have HK2 : Hid (Kt r w1 w2 s1 b1) := H2.out.1
  clear K1 H2
  go_wp2_with (refine al_zero rfl 41 rfl zer z25 ?_)
  intro g5 w3 hg5 bz3 gr3
  go_wp2_with (refine st_all rfl 41 (.tmp 5) (.tmp 8) rfl g5 41 zer [.int .i64 9, .int .i64 0, .int .i64 0, .string ⟨#[]⟩, .slice none 0 0, .slice none 0 0] rfl rfl bz3 rfl s25 (D6.ones rfl) ?_)
  intro w4 b4 gr4
  have hz12 : w1.heap.size ≤ w2.heap.size := HK2.out.gr.size
  have hzW : W.heap.size ≤ w1.heap.size := HZ1.out.2.size
  have HOd : Hid (Od W r g4 g5 w4.heap.size) := ⟨hrW, hg4, by omega, b4.lt⟩
  have HI0 : Hid (NK 106 w4.heap.size g4 g5 r W 9 w4 [.string s1, .bool b1] [] .nil (.slice none 0 0) (.slice none 0 0) [] []) := by
    have e1 := HZ1.out.2
    have HB4 : Below w2.heap.size w2 w4 := below_new gr3 hg5 gr4
    have k4 := HK2.out.then HB4
    have z1 := HZ1.out.1.kept HK2.out.gr (by intro c; injection c with c; omega)
    refine ⟨⟨k4.blk, ⟨k4.gr.os.trans e1.os, k4.gr.tape.trans e1.tape, k4.gr.output.trans e1.output, Nat.le_trans e1.size k4.gr.size, fun x hx hne => ?_⟩⟩, z1.below HB4 z1.lt, b4, World.ownsRow_nil _ _ _ _, World.ownsRow_nil _ _ _ _, ⟨rfl, rfl⟩, fun x hx => (by cases hx), fun x c => (by cases c), Nat.le_refl _⟩
    rw [k4.gr.block x (by omega) hne, e1.block x hx (by simp)]
  clear bz3 gr3 b4 gr4 HZ1 HK2
  go_wp2
  go_loopw [] (fun wr => ∃ (sk : ByteArray) (bk : Bool) (ns : List ByteArray) (f : Fo) (vn vk : Value) (cs : List Value) (Lf : List Nat), sk.size ≤ s1.size ∧ f.list.length ≤ 700000 ∧ ns.length ≤ 700000 ∧ Hid (NK 106 w4.heap.size g4 g5 r W 9 wr [.string sk, .bool bk] ns f vn vk cs Lf ∧ Nx true dp (bts s1) b1 (bts sk) bk f ns ∧ Wf f ∧ (∀ x ∈ ns, x.size ≤ 1000000000))) (fun wr => sln r wr)
  case atStart => exact ⟨s1, b1, [], .nil, _, _, [], [], Nat.le_refl _, by simp [Fo.list], by simp, HI0.out, Nx.start _ _ _ _, trivial, by simp⟩
  case round =>
    clear HI0
    obtain ⟨sk, bk, ns, f, vn, vk, cs, Lf, hsk, hfl0, hnl0, HJ⟩ := hrel
    obtain ⟨na0, nc0, ka0, kc0, _, rfl, rfl, _, _⟩ := HJ.out.1.val
    have HN : Hid (NK 106 w4.heap.size g4 g5 r W 9 wr [.string sk, .bool bk] ns f (.slice na0 ns.length nc0) (.slice ka0 f.list.length kc0) cs Lf) := HJ.out.1
    have HNs : Hid (Nx true dp (bts s1) b1 (bts sk) bk f ns) := HJ.out.2.1
    have HW : Hid (Wf f ∧ (∀ x ∈ ns, x.size ≤ 1000000000)) := HJ.out.2.2
    have HMs : Hid (sln r wr = if bk then 0 else sk.size + 1) := sln_of HN.out.ro.blk
    have c5 : wr.cell? ⟨g5, 5, none⟩ = some (.slice ka0 f.list.length kc0) := HN.out.b8.cell 5
    have KG := goesOn9 r f.list.length sk ⟨#[125]⟩ bk (by omega) wr HN.out.ro.blk
    clear HJ
    go_wp2_with fail
    refine KG.mono ?_
    rintro e w5 ⟨s5, b5, t, rfl, H5⟩
    have hs5 : s5.size ≤ sk.size := H5.out.2.1
    have HNx : Hid (NK 106 w4.heap.size g4 g5 r W 9 w5 [.string s5, .bool b5] ns f (.slice na0 ns.length nc0) (.slice ka0 f.list.length kc0) cs Lf) := HN.out.read HOd.out H5.out.1
    have HGo : Hid (Go9 sk s5 bk b5 [125] (if f.list.length = 0 then [] else [44, 32]) t) := H5.out.2.2
    have HMx : Hid (sln r w5 = if b5 then 0 else s5.size + 1) := sln_of H5.out.1.blk
    clear KG H5 HN c5
    cases t with
    | false =>
      have HRe : Hid (Rt (encX true) (fun x m => NxOk true dp x ∧ Stp m) (bts s1) b1 (bts s5) b5 (f, ns) ∧ (b5 = false → f.ws + ns.length + 1 + s5.size ≤ s.size)) := by
        cases HGo.out with
        | was h h2 h3 =>
          subst h h2 h3
          exact ⟨HNs.out.isBad _, fun h => by cases h⟩
        | fin h h2 h3 =>
          subst h h2
          refine ⟨HNs.out.done h3, fun _ => ?_⟩
          have h4 := HNs.out.pr rfl
          have h5 := congrArg List.length h3
          have h6 := HM1.out.2 (by
            cases hb1 : b1 with
            | false => rfl
            | true => have := HNs.out.st hb1; cases this)
          rw [List.length_append, bts_len, bts_len] at h5
          rw [bts_len, bts_len] at h4
          simp only [List.length_cons, List.length_nil] at h5
          omega
        | brk h h2 h3 h4 =>
          subst h h2
          exact ⟨HNs.out.brk h3 h4 _, fun h => by cases h⟩
      clear HGo
      obtain ⟨na, nc, ka, kc, Lp, e1, e2, hvl, hrg⟩ := HNx.out.val
      injection e1 with e1 _ e3
      injection e2 with e2 _ e4
      subst e1 e2 e3 e4
      have HVv : Hid (VlL w5 (nst 9 (f, ns)) na0 nc0 ka0 kc0 Lp ∧ ∀ x ∈ Lp, w4.heap.size ≤ x ∧ x < w5.heap.size) := ⟨hvl, hrg⟩
      have HWf : Hid (WfV (nst 9 (f, ns))) := nst_wf9 9 (by decide) (by decide) HW.out.1 (by omega) (by omega) HW.out.2
      have HRt : Hid (Rt (encX true) (fun x m => NxOk true dp x ∧ Stp m) (bts s1) b1 (bts s5) b5 (f, ns)) := HRe.out.1
      have HPr : Hid (b5 = false → f.ws + ns.length + 1 + s5.size ≤ s.size) := HRe.out.2
      clear hvl hrg HNs
      go_wp2_with (first
        | refine D6.ld_all rfl 41 (.tmp 5) rfl g5 41 _ _ rfl HNx.out.b8 Tryz.underlying41 rfl s25 ?_
        | refine st_all rfl 41 (.tmp 4) (.tmp 32) rfl g4 41 zer (six ⟨9, 0, 0, em, ns⟩ na0 nc0 ka0 f.list.length kc0) rfl rfl HNx.out.b6 rfl s25 (six_one _ _ _ _ _ _) ?_)
      intro w9 b9 g9
      have HB9 : Hid (Blk w9 g4 41 (six ⟨9, 0, 0, em, ns⟩ na0 nc0 ka0 f.list.length kc0)) := b9
      have HQ : Hid (Vp9 true dp 9 r W w9 s s5 bad b5 (f, ns) na0 nc0 ka0 kc0) := by
        have o1 := HOd.out.r
        have o2 := HOd.out.l6
        have o3 := HOd.out.l8
        have o4 := HOd.out.lB
        have kg := kr_grown HNx.out.ro g9 (fun x c => by injection c with c; omega)
        refine ⟨kg, ⟨Lp, HVv.out.1.keep fun x hx => ?_, fun x hx => ?_⟩, HWf.out, ⟨_, _, HM1.out.1, HRt.out⟩, HPr.out, by omega⟩
        · have := HVv.out.2 x hx
          exact g9.block x this.2 (by intro c; injection c with c; omega)
        · have := HVv.out.2 x hx
          have := g9.size
          omega
      clear b9 g9 HVv HWf HRt HPr HNx
      go_wp2
      refine bodyPost_ret (D6.res_row rfl _ g4 41 _ _ rfl HB9.out Tryz.underlying41 rfl s25) rfl ?_
      exact ⟨(f, ns), na0, nc0, ka0, kc0, s5, b5, rfl, HQ.out⟩
    | true =>
      have HOn : Hid (bk = false ∧ b5 = false ∧ (∀ t, bts sk ≠ 125 :: t) ∧ Rm (if f.list.length = 0 then [] else [44, 32]) (bts sk) false (bts s5) false) := by
        cases HGo.out with
        | on h h2 h3 h4 => exact ⟨h, h2, h3, h4⟩
      obtain rfl : bk = false := HOn.out.1
      obtain rfl : b5 = false := HOn.out.2.1
      have hbnd : f.ws + ns.length + sk.size ≤ s1.size := by
        have := HNs.out.pr rfl
        rw [bts_len, bts_len] at this
        omega
      have hfw := len_ws f
      have hcnt : f.list.length + ns.length ≤ s1.size := by omega
      have hfl : f.list.length + 1 ≤ 1000000 := by omega
      have hsz : s5.size ≤ 600000 := by omega
      clear HGo hfw
      have HK : Hid (NK 106 w4.heap.size g4 g5 r W 9 w5 [.string s5, .bool false] ns f (.slice na0 ns.length nc0) (.slice ka0 f.list.length kc0) cs Lf) := HNx.out
      have hnl : ns.length + 1 ≤ 1000000 := by omega
      clear HNx
      obtain ⟨C, hC⟩ : ∃ C : World → Prop, C = fun w' => w'.cell? ⟨g5, 4, none⟩ = some (.slice na0 ns.length nc0) := ⟨_, rfl⟩
      have CN : Hid (∀ w', C w' → w'.cell? ⟨g5, 4, none⟩ = some (.slice na0 ns.length nc0)) := fun w' h => by rw [hC] at h; exact h
      have CI : Hid (∀ w', w'.cell? ⟨g5, 4, none⟩ = some (.slice na0 ns.length nc0) → C w') := fun w' h => by rw [hC]; exact h
      have D0 : Hid (Below w5.heap.size w5 { w5 with drawn := w5.drawn + 1 }) := Below.drew (Below.refl _ _)
      have HNv : Hid (NK 106 w4.heap.size g4 g5 r W 9 { w5 with drawn := w5.drawn + 1 } [.string s5, .bool false] ns f (.slice na0 ns.length nc0) (.slice ka0 f.list.length kc0) cs Lf) := HK.out.below D0.out
      have C0 : Hid (C { w5 with drawn := w5.drawn + 1 }) := CI.out _ (HNv.out.b8.cell 4)
      clear hC HK D0
      go_wp2
      refine region_calm C 7 (by kernel_rfl) ?_
      have hCp : ∀ p : Prop, (∀ W, C W → p) ↔ p := fun p => ⟨fun h => h _ C0.out, fun h _ _ => h⟩
      generalize ({ w5 with drawn := w5.drawn + 1 } : World) = v0 at *
      refine seg 5 [0, 1, 2] rfl (by kernel_rfl) whole_blind C0.out (by kernel_rfl) ?_
      change wpQuiet _ _ _ _ (_ :: _ :: _ :: []) _
      repeat (first
        | go_big_quiet_skip
        | (go_big_quiet_want
           first
           | (refine q_one 38 (.inr (.inr (.inl rfl))) (.tmp 14) rfl g5 4 rfl (.slice na0 ns.length nc0) CN.out ?_
              simp only [Act.put, List.setIfInBounds_toArray, List.set_cons_zero, List.set_cons_succ]
              go_big_quiet_on)
           | (go_big_quiet_op
              go_big_quiet_on)))
      refine wpQuiet_nil ?_
      have KT := text9 r s5 false hsz v0 HNv.out.ro.blk
      refine lone_do (i := 3) 4 rfl (by kernel_rfl) rfl (by rfl) ?_
      intro K hK
      refine oper_call 106 #[.tmp 16] #[104] rfl #[.pointer (some ⟨r, 0, none⟩)] (by rw [List.map_toArray]; rfl) (enters Tryz.func106 (by kernel_rfl) rfl) (fun v' w' => ∃ (x : ByteArray) (s7 : ByteArray) (b7 : Bool), v' = .string x ∧ Hid (Kt r v0 w' s7 b7 ∧ Rt pQ (fun _ m => ∀ t, m ≠ 39 :: t) (bts s5) false (bts s7) b7 x ∧ (b7 = false → x.size + 1 + s7.size ≤ s5.size) ∧ x.size ≤ 600000 ∧ s7.size ≤ s5.size)) (KT.mono fun e w' ⟨s7, b7, x, he, hh⟩ => ⟨_, he, x, s7, b7, rfl, hh⟩) ?_
      rintro _ v1 ⟨nm, s7, b7, rfl, H1⟩
      have HN1 : Hid (NK 106 w4.heap.size g4 g5 r W 9 v1 [.string s7, .bool b7] ns f (.slice na0 ns.length nc0) (.slice ka0 f.list.length kc0) cs Lf) := HNv.out.read HOd.out H1.out.1
      have HTx : Hid (Rt pQ (fun _ m => ∀ t, m ≠ 39 :: t) (bts s5) false (bts s7) b7 nm ∧ (b7 = false → 1 + (bts s7).length ≤ (bts s5).length)) := ⟨H1.out.2.1, fun h => by have := H1.out.2.2.1 h; rw [bts_len, bts_len]; omega⟩
      have hnm : nm.size ≤ 600000 := H1.out.2.2.2.1
      have hz7 : s7.size ≤ s5.size := H1.out.2.2.2.2
      have c1 : C v1 := CI.out _ (HN1.out.b8.cell 4)
      refine hK _ _ c1 ?_
      simp only [Act.put, List.setIfInBounds_toArray, List.set_cons_zero, List.set_cons_succ]
      clear H1 HNv C0 hCp KT
      refine lone_do (i := 4) 3 rfl (by kernel_rfl) rfl (by rfl) ?_
      intro K hK
      refine oper_name 17 rfl nm rfl ?_
      have DA : Hid (Below v1.heap.size v1 (v1.alloc (.cells #[.string nm] 9))) := (Below.refl _ _).alloc (Nat.le_refl _) _
      have HNa : Hid (NK 106 w4.heap.size g4 g5 r W 9 (v1.alloc (.cells #[.string nm] 9)) [.string s7, .bool b7] ns f (.slice na0 ns.length nc0) (.slice ka0 f.list.length kc0) cs Lf) := HN1.out.below DA.out
      have HNms : Hid (Nms (v1.alloc (.cells #[.string nm] 9)) (some ⟨v1.heap.size, 0, none⟩) [nm]) := .inr ⟨v1.heap.size, 0, rfl, fun i x hx => by
        rw [Nat.zero_add, World.cell?_alloc_new]
        cases i with
        | zero => simp at hx; subst hx; rfl
        | succ i => simp at hx⟩
      have ca : C (v1.alloc (.cells #[.string nm] 9)) := CI.out _ (HNa.out.b8.cell 4)
      refine hK _ _ ca ?_
      simp only [Act.put, List.setIfInBounds_toArray, List.set_cons_zero, List.set_cons_succ]
      refine lone_do (i := 5) 2 rfl (by kernel_rfl) rfl (by rfl) ?_
      intro K hK
      refine oper_apn9 (.tmp 15) (.tmp 18) rfl w4.heap.size (.slice na0 ns.length nc0) ns.length (ns.map Value.string) rfl HNa.out.nm (some ⟨v1.heap.size, 0, none⟩) 1 [nm] rfl HNms.out (by intro h; cases h) (by simp only [List.length_cons, List.length_nil]; exact hnl) HNa.out.sz ?_
      intro vn' v2 o2 g2 a2
      have hc2 : C v2 := CI.out _ ((HNa.out.b8.kept g2 (fun c => by have := (World.ownsRow.lt HNa.out.nm _ c.symm).1; have := HOd.out.lB; omega)).cell 4)
      refine hK _ _ hc2 ?_
      simp only [Act.put, List.setIfInBounds_toArray, List.set_cons_zero, List.set_cons_succ]
      have hCq : ∀ p : Prop, (∀ W, C W → p) ↔ p := fun p => ⟨fun h => h _ hc2, fun h _ _ => h⟩
      refine lone_calm (i := 6) 1 rfl (by kernel_rfl) rfl rfl hc2 ?_
      go_big_quiet_want
      go_big_quiet_op
      go_big_quiet_on
      refine wpQuiet_nil ?_
      have HB8 : Hid (Blk v2 g5 41 [.int .i64 9, .int .i64 0, .int .i64 0, .string ⟨#[]⟩, (.slice na0 ns.length nc0), (.slice ka0 f.list.length kc0)]) := HNa.out.b8.kept g2 (fun c => by have := (World.ownsRow.lt HNa.out.nm _ c.symm).1; have := HOd.out.lB; omega)
      have HO2 : Hid (v2.ownsRow w4.heap.size 9 1 vn' (ns.length + 1) (ns.map Value.string ++ [.string nm])) := o2
      obtain ⟨hcel, hone⟩ : vn'.cells = #[vn'] ∧ vn'.oneCell' = true := by
        rcases o2 with ⟨_, ⟨h, _⟩ | ⟨_, _, _, h, _⟩⟩ <;> subst h <;> exact ⟨rfl, rfl⟩
      have HA2 : Hid (vn'.ownBlock = Value.ownBlock (.slice na0 ns.length nc0) ∨ vn'.ownBlock = some (v1.alloc (.cells #[.string nm] 9)).heap.size) := a2
      have HG2 : Hid ((v1.alloc (.cells #[.string nm] 9)).grownBy v2 (Value.ownBlock (.slice na0 ns.length nc0))) := g2
      clear o2 g2 a2 ca c1 HNa HNms hCq
      refine lone_last (i := 7) 0 rfl rfl (by kernel_rfl) rfl (by rfl) ?_
      intro K hK
      refine oper_st1 38 (.tmp 20) (.tmp 19) rfl g5 4 41 _ vn' rfl rfl hcel hone (by simp) HB8.out sNm ?_
      intro v3 b3 g3
      have HKm : Hid (NK 106 w4.heap.size g4 g5 r W 9 v3 [.string s7, .bool b7] (ns ++ [nm]) f vn' (.slice ka0 f.list.length kc0) cs Lf) := HN1.out.name HOd.out DA.out HG2.out HO2.out HA2.out b3 g3
      clear b3 g3 HB8 HO2 HA2 HG2 DA HN1 hc2
      refine hK _ _ ?_
      simp only [Act.put, List.setIfInBounds_toArray, List.set_cons_zero, List.set_cons_succ]
      refine anyC_done (by kernel_rfl) ⟨rfl, ?_⟩
      clear CN CI hcel hone
      have KM := must9 r s7 ⟨#[58, 32]⟩ b7 v3 HKm.out.ro.blk
      go_wp2_with fail
      refine KM.mono ?_
      rintro e w6 ⟨s6, b6, rfl, H6⟩
      have HK : Hid (NK 106 w4.heap.size g4 g5 r W 9 w6 [.string s6, .bool b6] (ns ++ [nm]) f vn' (.slice ka0 f.list.length kc0) cs Lf) := HKm.out.read HOd.out H6.out.1
      have HRm : Hid (Rm [58, 32] (bts s7) b7 (bts s6) b6) := H6.out.2.1
      have hz6 : s6.size ≤ s7.size := H6.out.2.2.2
      have hsz0 : s5.size ≤ 600000 := hsz
      clear hsz
      have hsz : s6.size ≤ 600000 := by omega
      clear KM H6 HKm
      obtain ⟨C, hC⟩ : ∃ C : World → Prop, C = fun w' => w'.cell? ⟨g5, 5, none⟩ = some (.slice ka0 f.list.length kc0) := ⟨_, rfl⟩
      have CN : Hid (∀ w', C w' → w'.cell? ⟨g5, 5, none⟩ = some (.slice ka0 f.list.length kc0)) := fun w' h => by rw [hC] at h; exact h
      have CI : Hid (∀ w', w'.cell? ⟨g5, 5, none⟩ = some (.slice ka0 f.list.length kc0) → C w') := fun w' h => by rw [hC]; exact h
      have D0 : Hid (Below w6.heap.size w6 { w6 with drawn := w6.drawn + 1 }) := Below.drew (Below.refl _ _)
      have HKv : Hid (NK 106 w4.heap.size g4 g5 r W 9 { w6 with drawn := w6.drawn + 1 } [.string s6, .bool b6] (ns ++ [nm]) f vn' (.slice ka0 f.list.length kc0) cs Lf) := HK.out.below D0.out
      have C0 : Hid (C { w6 with drawn := w6.drawn + 1 }) := CI.out _ (HKv.out.b8.cell 5)
      clear hC HK D0
      go_wp2
      refine region_calm C 9 (by kernel_rfl) ?_
      have hCp : ∀ p : Prop, (∀ W, C W → p) ↔ p := fun p => ⟨fun h => h _ C0.out, fun h _ _ => h⟩
      generalize ({ w6 with drawn := w6.drawn + 1 } : World) = y0 at *
      refine seg 5 [0, 1, 2, 3, 4] rfl (by kernel_rfl) whole_blind C0.out (by kernel_rfl) ?_
      change wpQuiet _ _ _ _ (_ :: _ :: _ :: _ :: _ :: []) _
      repeat (first
        | go_big_quiet_skip
        | (go_big_quiet_want
           first
           | (refine q_one 39 (.inr (.inr (.inr (.inl rfl)))) (.tmp 23) rfl g5 5 rfl (.slice ka0 f.list.length kc0) CN.out ?_
              simp only [Act.put, List.setIfInBounds_toArray, List.set_cons_zero, List.set_cons_succ]
              go_big_quiet_on)
           | (go_big_quiet_op
              go_big_quiet_on)))
      refine wpQuiet_nil ?_
      have KV := VC.out r s6 b6 y0 hsz HKv.out.ro.blk
      refine lone_do (i := 5) 4 rfl (by kernel_rfl) rfl (by rfl) ?_
      intro K hK
      refine oper_call 79 #[.tmp 25, .tmp 27] #[104, 3] rfl #[.pointer (some ⟨r, 0, none⟩), .int .i64 (dp + 1)] (by rw [List.map_toArray]; rfl) (enters Tryz.func79 (by kernel_rfl) rfl) (fun v' w' => ∃ (q : Vt) (na : Option Addr) (nc : Nat) (ka : Option Addr) (kc : Nat) (s3 : ByteArray) (b3 : Bool), v' = .agg #[.int .i64 q.1.k, .int .i64 q.1.n, .int .i64 q.1.s, .string q.1.t, .slice na q.1.ns.length nc, .slice ka q.2.list.length kc] ∧ Hid (Vo9 (dp + 1) r y0 w' s6 s3 b6 b3 q na nc ka kc)) (KV.mono fun e w' ⟨p, na, nc, ka, kc, s3, b3, he, hh⟩ => ⟨_, he, p, na, nc, ka, kc, s3, b3, rfl, hh⟩) ?_
      rintro _ y1 ⟨q, na, nc, ka, kc, s3, b3, rfl, H5⟩
      have HN5 : Hid (NK 106 w4.heap.size g4 g5 r W 9 y1 [.string s3, .bool b3] (ns ++ [nm]) f vn' (.slice ka0 f.list.length kc0) cs Lf) := HKv.out.read HOd.out H5.out.kt
      have HVx : Hid (Vx (dp + 1) (bts s6) b6 (bts s3) b3 q) := H5.out.vx
      have hz5 : s3.size ≤ s6.size := H5.out.le
      have HQ5 : Hid (∃ Lq, VlL y1 q na nc ka kc Lq ∧ ∀ x ∈ Lq, w4.heap.size ≤ x ∧ x < y1.heap.size ∧ Value.ownBlock vn' ≠ some x ∧ Value.ownBlock (.slice ka0 f.list.length kc0) ≠ some x) := by
        obtain ⟨Lq, a1, a2⟩ := H5.out.vl
        refine ⟨Lq, a1, fun x hx => ?_⟩
        have h1 := a2 x hx
        have h3 := HKv.out.sz
        refine ⟨by omega, by omega, fun c => ?_, fun c => ?_⟩
        · have := (World.ownsRow.lt HKv.out.nm x c).2
          omega
        · have := (World.ownsRow.lt HKv.out.kd x c).2
          omega
      have HQw : Hid (WfV q) := H5.out.wf
      have c1 : C y1 := CI.out _ (HN5.out.b8.cell 5)
      refine hK _ _ c1 ?_
      simp only [Act.put, List.setIfInBounds_toArray, List.set_cons_zero, List.set_cons_succ]
      clear H5 HKv C0 hCp KV
      refine lone_do (i := 6) 3 rfl (by kernel_rfl) rfl (by rfl) ?_
      intro K hK
      refine oper_kid 28 rfl (.int .i64 q.1.k) (.int .i64 q.1.n) (.int .i64 q.1.s) (.string q.1.t) (.slice na q.1.ns.length nc) (.slice ka q.2.list.length kc) rfl ?_
      obtain ⟨y2, HY2⟩ : ∃ y2, Hid (y1.alloc (.cells #[.int .i64 q.1.k, .int .i64 q.1.n, .int .i64 q.1.s, .string q.1.t, .slice na q.1.ns.length nc, .slice ka q.2.list.length kc] 41) = y2) := ⟨_, rfl⟩
      have GA : Hid (Below y1.heap.size y1 y2) := by rw [← HY2.out]; exact (Below.refl _ _).alloc (Nat.le_refl _) _
      have HC9 : Hid (∀ j u, (six q.1 na nc ka q.2.list.length kc)[j]? = some u → y2.cell? ⟨y1.heap.size, j, none⟩ = some u) := fun j u hj => by
        rw [← HY2.out, World.cell?_alloc_new]
        show (six q.1 na nc ka q.2.list.length kc).toArray[j]? = some u
        rw [List.getElem?_toArray]
        exact hj
      rw [HY2.out]
      have HNa : Hid (NK 106 w4.heap.size g4 g5 r W 9 y2 [.string s3, .bool b3] (ns ++ [nm]) f vn' (.slice ka0 f.list.length kc0) cs Lf) := HN5.out.below GA.out
      have ca : C y2 := CI.out _ (HNa.out.b8.cell 5)
      refine hK _ _ ca ?_
      simp only [Act.put, List.setIfInBounds_toArray, List.set_cons_zero, List.set_cons_succ]
      clear HY2 c1
      refine lone_do (i := 7) 2 rfl (by kernel_rfl) rfl (by rfl) ?_
      intro K hK
      refine oper_apk9 (.tmp 24) (.tmp 29) rfl w4.heap.size (.slice ka0 f.list.length kc0) f.list.length cs rfl HNa.out.kd y1.heap.size 1 1 (six q.1 na nc ka q.2.list.length kc) rfl rfl HC9.out (six_one _ _ _ _ _ _) hfl HNa.out.sz ?_
      intro vk' y3 o3 g3 a3
      have hc3 : C y3 := CI.out _ ((HNa.out.b8.kept g3 (fun c => by have := (World.ownsRow.lt HNa.out.kd _ c.symm).1; have := HOd.out.lB; omega)).cell 5)
      refine hK _ _ hc3 ?_
      simp only [Act.put, List.setIfInBounds_toArray, List.set_cons_zero, List.set_cons_succ]
      have hCq : ∀ p : Prop, (∀ W, C W → p) ↔ p := fun p => ⟨fun h => h _ hc3, fun h _ _ => h⟩
      refine lone_calm (i := 8) 1 rfl (by kernel_rfl) rfl rfl hc3 ?_
      go_big_quiet_want
      go_big_quiet_op
      go_big_quiet_on
      refine wpQuiet_nil ?_
      have HB8 : Hid (Blk y3 g5 41 [.int .i64 9, .int .i64 0, .int .i64 0, .string ⟨#[]⟩, vn', (.slice ka0 f.list.length kc0)]) := HNa.out.b8.kept g3 (fun c => by have := (World.ownsRow.lt HNa.out.kd _ c.symm).1; have := HOd.out.lB; omega)
      have HO3 : Hid (y3.ownsRow w4.heap.size 41 6 vk' (f.list.length + 1) (cs ++ six q.1 na nc ka q.2.list.length kc)) := o3
      obtain ⟨hcel, hone⟩ : vk'.cells = #[vk'] ∧ vk'.oneCell' = true := by
        rcases o3 with ⟨_, ⟨h, _⟩ | ⟨_, _, _, h, _⟩⟩ <;> subst h <;> exact ⟨rfl, rfl⟩
      have HA3 : Hid (vk'.ownBlock = Value.ownBlock (.slice ka0 f.list.length kc0) ∨ vk'.ownBlock = some y2.heap.size) := a3
      have HG3 : Hid (y2.grownBy y3 (Value.ownBlock (.slice ka0 f.list.length kc0))) := g3
      clear o3 g3 a3 ca HNa HC9 hCq
      refine lone_last (i := 9) 0 rfl rfl (by kernel_rfl) rfl (by rfl) ?_
      intro K hK
      refine oper_st1 39 (.tmp 31) (.tmp 30) rfl g5 5 41 _ vk' rfl rfl hcel hone (by simp) HB8.out sKd ?_
      intro y4 b4 g4x
      have HKn : Hid (∃ Lf', NK 106 w4.heap.size g4 g5 r W 9 y4 [.string s3, .bool b3] (ns ++ [nm]) (f.snoc q) vn' vk' (cs ++ six q.1 na nc ka q.2.list.length kc) Lf') := by
        obtain ⟨Lq, a1, a2⟩ := HQ5.out
        exact ⟨Lf ++ Lq, HN5.out.kid HOd.out a1 a2 GA.out HG3.out HO3.out HA3.out b4 g4x⟩
      clear b4 g4x HB8 HO3 HA3 HG3 GA HN5 hc3 HQ5
      refine hK _ _ ?_
      simp only [Act.put, List.setIfInBounds_toArray, List.set_cons_zero, List.set_cons_succ]
      refine anyC_done (by kernel_rfl) ⟨rfl, ?_⟩
      clear CN CI hcel hone
      have HS2 : Hid (Nx true dp (bts s1) b1 (bts s3) b3 (f.snoc q) (ns ++ [nm])) := HNs.out.field HOn.out.2.2.1 HOn.out.2.2.2 HTx.out.1 HTx.out.2 HRm.out HVx.out
      have HFn : Hid (Wf (f.snoc q) ∧ (∀ x ∈ ns ++ [nm], x.size ≤ 1000000000)) := ⟨wf_snoc HQw.out HW.out.1, fun x hx => by
        rcases List.mem_append.1 hx with h | h
        · exact HW.out.2 x h
        · obtain rfl := List.mem_singleton.1 h
          omega⟩
      have hln2 : (f.snoc q).list.length ≤ 700000 := by rw [snoc_list, List.length_append, List.length_singleton]; omega
      have hln3 : (ns ++ [nm]).length ≤ 700000 := by rw [List.length_append, List.length_singleton]; omega
      have HMe : Hid (sln r y4 < sln r wr) := by
        obtain ⟨_, hk⟩ := HKn.out
        show _ < _
        rw [sln_of hk.ro.blk, HMs.out]
        cases hb3 : b3 with
        | true => simp
        | false =>
          have := HVx.out.pr hb3
          have h2 := ws_pos q
          rw [bts_len, bts_len] at this
          simp
          omega
      clear HVx HOn HNs HRm HTx
      go_wp2
      go_roundw
      case rel =>
        obtain ⟨Lf', hk⟩ := HKn.out
        exact ⟨s3, b3, _, f.snoc q, _, vk', _, Lf', by omega, hln2, hln3, hk, HS2.out, HFn.out⟩
      case measure => exact HMe.out
end Go.Proofs.YtpfiejmhnkcjbaaGreatDoor
