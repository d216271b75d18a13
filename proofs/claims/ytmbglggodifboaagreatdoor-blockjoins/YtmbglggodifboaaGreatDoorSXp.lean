/-
  codec's reader: nest.
-/
import Derived.Test.YtmbglggodifboaaGreatDoorSG28x
namespace Go.Proofs.YtmbglggodifboaaGreatDoor
open Go.RowKit Math
set_option linter.unusedVariables false
set_option linter.unusedSimpArgs false
set_option maxRecDepth 8000 in
set_option maxHeartbeats 2000000 in
theorem nest8 (d : Nat) (dp : Int) (hdp : 0 ≤ dp) (hdp2 : dp ≤ 16) (VC : Hid (ValC 127 (rdV d) (fun r => #[.pointer (some ⟨r, 0, none⟩), .int .i64 (dp + 1)]))) : ValP 134 (neR d 8 false) (fun r => #[.pointer (some ⟨r, 0, none⟩), .int .i64 8, .int .i64 dp]) := by
  intro w0 W r ab cb L i err hE hb hi hsm hp
  have HE : Hid (En w0 W r ab cb L) := hE
  have Hr : Hid (Blk W r 170 [.slice ab L.length cb, .int .i64 (i : Int), .int .i64 err]) := hb
  have HSm : Hid (err = 0 → Sm (neR d 8 false) L i) := hsm
  have HP : Hid (err = 0 → 0 < L.length) := hp
  have hrW : r < W.heap.size := hb.lt
  clear hE hb hsm hp
  show Calls _ _ #[.pointer (some ⟨r, 0, none⟩), .int .i64 8, .int .i64 dp] _ _
  go_enter Tryz.func134, Tryz.ntmps134
  go_wp2_with (refine al_zero rfl 41 rfl zer z25 ?_)
  intro g6 w1 hg6 B6 gr6
  go_wp2_with (refine al_zero rfl 41 rfl zer z25 ?_)
  intro g8 w2 hg8 B8 gr8
  go_wp2_with (refine st_all rfl 41 (.tmp 8) (.tmp 14) rfl g8 41 zer [.int .i64 8, .int .i64 0, .int .i64 0, .string ⟨#[]⟩, .slice none 0 0, .slice none 0 0] rfl rfl B8 rfl s25 (by simp [Value.oneCell']) ?_)
  intro w3 B8' gr8'
  have G1 : Hid (Below W.heap.size W w1) := (Below.refl _ _).grown gr6 (Nat.le_refl _) (fun k e => by cases e)
  have G3 : Hid (Below w1.heap.size w1 w3) := below_new gr8 hg8 gr8'
  have h61 := B6.lt
  have h83 := B8'.lt
  have HOd : Hid (Od W r g6 g8 w3.heap.size) := ⟨hrW, hg6, by omega, h83⟩
  have GW3 : Hid (Below W.heap.size W w3) := G1.out.trans (G3.out.mono G1.out.size)
  have HI0 : Hid (NI w3.heap.size g6 g8 r ab cb L W 8 w3 i err [] .nil (.slice none 0 0) (.slice none 0 0) [] []) := by
    refine ⟨⟨Hr.out.below GW3.out hrW, hi, ⟨GW3.out.os, GW3.out.tape, GW3.out.output, GW3.out.size, fun x hx _ => GW3.out.block x hx⟩⟩, B6.below G3.out h61, B8', World.ownsRow_nil _ _ _ _, World.ownsRow_nil _ _ _ _, ⟨rfl, rfl⟩, fun x hx => by simp at hx, fun x c => by simp [Value.ownBlock] at c, Nat.le_refl _⟩
  clear B6 gr6 B8 gr8 B8' gr8' G1 G3 Hr GW3 h61 h83 hg6 hg8
  have KL := length_any w0 w3 r ab cb L i err (HE.out.ro HI0.out.ro) HI0.out.ro.blk hi HP.out
  go_wp2_with fail
  refine KL.mono ?_
  clear KL
  rintro e w4 ⟨n, j0, e0, rfl, hn, hz, H4⟩
  have HI4 : Hid (NI w3.heap.size g6 g8 r ab cb L W 8 w4 j0 e0 [] .nil (.slice none 0 0) (.slice none 0 0) [] []) := HI0.out.read HOd.out H4.out.1
  have HL : Hid (St lenR L i err j0 e0 n) := H4.out.2
  have HZ : Hid (e0 ≠ 0 → n = 0) := hz
  have HSn : Hid (e0 = 0 → err = 0 ∧ Sn d false L j0 n) := fun h0 => by
    rcases HL.out with ⟨a, _, c⟩ | ⟨a, ⟨b1, _, _⟩ | ⟨x, _, c, q⟩⟩
    · exact absurd (c ▸ h0) a
    · exact ⟨a, sn_of (HSm.out a) b1⟩
    · omega
  clear H4 HI0 HSm hz
  go_wp2
  go_loopw [9, 18] (fun rv iv wr => ∃ (m j : Nat) (e rf : Int) (ns : List ByteArray) (f : Fo) (vn vk : Value) (cs : List Value) (Lf : List Nat), m ≤ n ∧ rv = .int .i64 rf ∧ iv = .int .i64 (m : Int) ∧ Hid ((NI w3.heap.size g6 g8 r ab cb L W 8 wr j e ns f vn vk cs Lf) ∧ St (rdN (fun l => rdV d l) false m) L j0 e0 j e (f, ns) ∧ (e0 = 0 → e = 0) ∧ rf = chk0 f ∧ Wf f ∧ f.list.length = m ∧ (∀ x ∈ ns, x.size ≤ 65536) ∧ ns.length ≤ m)) (fun _ iv _ => n - (intOf iv).toNat)
  case atStart => exact ⟨0, j0, e0, 0, [], .nil, _, _, [], [], by omega, rfl, rfl, HI4.out, st_ret _ L j0 e0, fun h => h, rfl, trivial, rfl, (by simp), (by simp)⟩
  case round =>
    clear HI4
    obtain ⟨m, j, e, rf, ns, f, vn, vk, cs, Lf, hm, rfl, rfl, HJ⟩ := hrel
    obtain ⟨hNI, hSt, he0, hrf, hwf, hfl, hsz, hnl⟩ := HJ.out
    have HN : Hid (NI w3.heap.size g6 g8 r ab cb L W 8 wr j e ns f vn vk cs Lf) := hNI
    have HS : Hid (St (rdN (fun l => rdV d l) false m) L j0 e0 j e (f, ns)) := hSt
    have HF : Hid (rf = chk0 f ∧ Wf f ∧ f.list.length = m ∧ (∀ x ∈ ns, x.size ≤ 65536) ∧ ns.length ≤ m) := ⟨hrf, hwf, hfl, hsz, hnl⟩
    have HE0 : Hid (e0 = 0 → e = 0) := he0
    clear hNI hSt hrf hwf hsz HJ he0
    by_cases hlt : m < n
    case neg =>
      obtain rfl : m = n := by omega
      obtain ⟨na, nc, ka, kc, Lp, rfl, rfl, hvl, hrg⟩ := HN.out.val
      have HV : Hid (VlL wr (nst 8 (f, ns)) na nc ka kc Lp ∧ ∀ x ∈ Lp, w3.heap.size ≤ x ∧ x < wr.heap.size) := ⟨hvl, hrg⟩
      have HW : Hid (WfV (nst 8 (f, ns))) := ⟨⟨by show (-9223372036854775808 : Int) ≤ 8; omega, by show (8 : Int) < 9223372036854775808; omega, by show (-9223372036854775808 : Int) ≤ 0; omega, by show (0 : Int) < 9223372036854775808; omega, by show (-9223372036854775808 : Int) ≤ 0; omega, by show (0 : Int) < 9223372036854775808; omega, by show em.size ≤ _; decide, by show ns.length ≤ _; omega, fun x hx => by have := HF.out.2.2.2.1 x hx; omega⟩, by show f.list.length ≤ _; omega, HF.out.2.1⟩
      have HST : Hid (St (neR d 8 false) L i err j e (nst 8 (f, ns))) := st_bind HL.out (st_bind HS.out (st_ret _ L j e))
      obtain ⟨E, HEq⟩ : ∃ E, Hid ((if own ⟨8, 0, 0, em, ns⟩ m ≠ 0 then own ⟨8, 0, 0, em, ns⟩ m else rf) = E) := ⟨_, rfl⟩
      have HRf : Hid (E = chk0V (nst 8 (f, ns))) := by
        show E = _
        rw [← HEq.out, HF.out.1]
        show _ = if own _ f.list.length ≠ 0 then own _ f.list.length else chk0 f
        rw [hfl]
        rfl
      clear hvl hrg
      obtain ⟨C, hC⟩ : ∃ C : World → Prop, C = fun w' => Blk w' g8 41 (six ⟨8, 0, 0, em, ns⟩ na nc ka f.list.length kc) := ⟨_, rfl⟩
      have CN : Hid (∀ w', C w' → Nd w' g8 0 ⟨8, 0, 0, em, ns⟩ na nc ka f.list.length kc) := fun w' h => by rw [hC] at h; exact ⟨h.cell 0, h.cell 1, h.cell 2, h.cell 3, h.cell 4, h.cell 5⟩
      have CB : Hid (∀ w1 w2, C w1 → Below w1.heap.size w1 w2 → C w2) := fun w1 w2 h k => by rw [hC] at h ⊢; exact h.below k h.lt
      have hg68 := HOd.out.l8
      have CS : Hid (∀ w1 w2, C w1 → w1.grownBy w2 (some g6) → C w2) := fun w1 w2 h k => by rw [hC] at h ⊢; exact h.kept k (by intro c; injection c with c; omega)
      have D0 : Hid (Below wr.heap.size wr { wr with drawn := wr.drawn + 1 }) := Below.drew (Below.refl _ _)
      have C0 : Hid (C { wr with drawn := wr.drawn + 1 }) := CB.out _ _ (by rw [hC]; exact HN.out.b8) D0.out
      clear hC
      go_wp2
      refine region_calm C 8 (by kernel_rfl) ?_
      have HNv : Hid (Below wr.heap.size wr { wr with drawn := wr.drawn + 1 }) := D0.out
      have hCp : ∀ p : Prop, (∀ W, C W → p) ↔ p := fun p => ⟨fun h => h _ C0.out, fun h _ _ => h⟩
      clear D0
      generalize ({ wr with drawn := wr.drawn + 1 } : World) = v0 at *
      refine seg 5 [0, 1, 2, 4] rfl (by kernel_rfl) whole_blind C0.out (by kernel_rfl) ?_
      change wpQuiet _ _ _ _ (_ :: _ :: _ :: _ :: []) _
      repeat (first
        | go_big_quiet_skip
        | (go_big_quiet_want
           first
           | (refine q_val (.tmp 8) rfl g8 0 rfl ⟨8, 0, 0, em, ns⟩ na nc ka f.list.length kc CN.out ?_
              simp only [Act.put, List.setIfInBounds_toArray, List.set_cons_zero, List.set_cons_succ]
              go_big_quiet_on)
           | (go_big_quiet_op
              go_big_quiet_on)))
      refine wpQuiet_nil ?_
      have HVv : Hid (Vl v0 (nst 8 (f, ns)) na nc ka kc) := HV.out.1.vl.below HNv.out
      have KS := shell_any ⟨8, 0, 0, em, ns⟩ HW.out.1 na nc ka f.list.length kc m hn v0 HVv.out.nms HVv.out.nc
      rw [shell_own] at KS
      refine lone_do (i := 3) 4 rfl (by kernel_rfl) rfl (by rfl) ?_
      intro K hK
      refine oper_call 138 #[.tmp 63, .tmp 64] #[41, 3] rfl #[.agg #[.int .i64 8, .int .i64 0, .int .i64 0, .string em, .slice na ns.length nc, .slice ka f.list.length kc], .int .i64 (m : Int)] (by rw [List.map_toArray]; rfl) (enters Tryz.func138 (by kernel_rfl) rfl) (fun v' w' => v' = .int .i64 (own ⟨8, 0, 0, em, ns⟩ m) ∧ Below v0.heap.size v0 w') (KS.mono fun e' w' ⟨h1, h2⟩ => ⟨_, h1, rfl, h2.out⟩) ?_
      rintro _ v1 ⟨rfl, hb1⟩
      have c1 := CB.out _ _ C0.out hb1
      have HN1 : Hid (Below wr.heap.size wr v1) := HNv.out.trans (hb1.mono HNv.out.size)
      refine hK _ _ c1 ?_
      simp only [Act.put, List.setIfInBounds_toArray, List.set_cons_zero, List.set_cons_succ]
      clear KS HVv HNv C0 hb1 hCp
      refine lone_do (i := 5) 3 rfl (by kernel_rfl) rfl (by rfl) ?_
      intro K hK
      refine oper_two 65 66 rfl (own ⟨8, 0, 0, em, ns⟩ m) rf rfl rfl ?_
      have DA : Hid (Below v1.heap.size v1 (v1.alloc (.cells #[.int .i64 (own ⟨8, 0, 0, em, ns⟩ m), .int .i64 rf] 29))) := (Below.refl _ _).alloc (Nat.le_refl _) _
      have ca := CB.out _ _ c1 DA.out
      refine hK _ _ ca ?_
      simp only [Act.put, List.setIfInBounds_toArray, List.set_cons_zero, List.set_cons_succ]
      refine lone_do (i := 6) 2 rfl (by kernel_rfl) rfl (by rfl) ?_
      intro K hK
      refine oper_call 97 #[.tmp 67] #[160] rfl #[.slice (some ⟨v1.heap.size, 0, none⟩) 2 2] (by rw [List.map_toArray]; rfl) (enters Tryz.func97 (by kernel_rfl) rfl) (fun v' w' => v' = .int .i64 E ∧ w' = v1.alloc (.cells #[.int .i64 (own ⟨8, 0, 0, em, ns⟩ m), .int .i64 rf] 29)) ((or_lit (own ⟨8, 0, 0, em, ns⟩ m) rf v1).mono fun e' w' ⟨h1, h2⟩ => ⟨_, h1, by rw [HEq.out], h2⟩) ?_
      rintro _ _ ⟨rfl, rfl⟩
      refine hK _ _ ca ?_
      simp only [Act.put, List.setIfInBounds_toArray, List.set_cons_zero, List.set_cons_succ]
      have HN2 : Hid (Below wr.heap.size wr (v1.alloc (.cells #[.int .i64 (own ⟨8, 0, 0, em, ns⟩ m), .int .i64 rf] 29))) := HN1.out.trans (DA.out.mono HN1.out.size)
      clear HN1 c1 DA
      generalize v1.alloc (.cells #[.int .i64 (own ⟨8, 0, 0, em, ns⟩ m), .int .i64 rf] 29) = v2 at *
      have HNI2 : Hid (NI w3.heap.size g6 g8 r ab cb L W 8 v2 j e ns f (.slice na ns.length nc) (.slice ka f.list.length kc) cs Lf) := HN.out.below HN2.out
      refine lone_do (i := 7) 1 rfl (by kernel_rfl) rfl (by rfl) ?_
      intro K hK
      refine oper_sta 41 (.tmp 6) (.tmp 62) rfl rfl g6 41 zer (six ⟨8, 0, 0, em, ns⟩ na nc ka f.list.length kc) rfl rfl HNI2.out.b6 rfl s25 (six_one _ _ _ _ _ _) ?_
      intro v3 b3 gr3
      have HB3 : Hid (Blk v3 g6 41 (six ⟨8, 0, 0, em, ns⟩ na nc ka f.list.length kc)) := b3
      have c3 := CS.out _ _ ca gr3
      have HVo : Hid (Vo (neR d 8 false) r ab cb L W v3 i err (nst 8 (f, ns)) na nc ka kc j e E) := by
        have o1 := HOd.out.r
        have o2 := HOd.out.l6
        have o3 := HOd.out.l8
        have o4 := HOd.out.lB
        refine ⟨ro_grown HNI2.out.ro gr3 (fun x c => by injection c with c; omega), ⟨Lp, HV.out.1.keep fun x hx => ?_, fun x hx => ?_⟩, HW.out, HST.out, fun _ => HRf.out⟩
        · have := HV.out.2 x hx
          exact (gr3.block x (Nat.lt_of_lt_of_le this.2 HN2.out.size) (by intro c; injection c with c; omega)).trans (HN2.out.block x this.2)
        · have := HV.out.2 x hx
          have := HN2.out.size
          have := gr3.size
          omega
      clear b3 gr3 ca HN2 HNI2
      refine hK _ _ c3 ?_
      simp only [Act.put, List.setIfInBounds_toArray, List.set_cons_zero, List.set_cons_succ]
      have hCq : ∀ p : Prop, (∀ W, C W → p) ↔ p := fun p => ⟨fun h => h _ c3, fun h _ _ => h⟩
      refine lone_calm (i := 8) 0 rfl (by kernel_rfl) rfl rfl c3 ?_
      go_big_quiet_want
      go_big_quiet_op
      go_big_quiet_on
      refine wpQuiet_nil ?_
      refine anyC_done (by kernel_rfl) ⟨rfl, ?_⟩
      clear c3 hCq CN CB CS
      go_wp2
      refine bodyPost_ret (res_two rfl _ g6 41 _ _ rfl HB3.out Tryz.underlying41 rfl s25) rfl ?_
      exact ⟨nst 8 (f, ns), na, nc, ka, kc, j, e, E, rfl, HVo.out⟩
    have h00 : e0 = 0 := by
      rcases Classical.em (e0 = 0) with h | h
      · exact h
      · have := HZ.out h
        omega
    subst h00
    obtain rfl : e = 0 := HE0.out rfl
    obtain ⟨her, hsn⟩ := HSn.out rfl
    subst her
    have HSn2 : Hid (Sn d false L j0 n) := hsn
    have HPl : Hid (0 < L.length) := HP.out rfl
    clear hsn
    have HK : Hid (NI w3.heap.size g6 g8 r ab cb L W 8 wr j 0 ns f vn vk cs Lf) := HN.out
    have HTx : Hid ((0 : Int) = 0 → if false then txR (L.drop j) = .ok (em, L.drop j) else j = j) := fun _ => rfl
    clear HN
    have HEk : Hid (En w0 wr r ab cb L) := HE.out.ro HK.out.ro
    have KV := VC.out w0 wr r ab cb L j 0 HEk.out HK.out.ro.blk HK.out.ro.le (fun h => kid_sm HE.out.oct HSn2.out hlt (st_ok HS.out) (show (if (false : Bool) then txR (L.drop j) = .ok (em, L.drop j) else j = j) from rfl))
    go_wp2_with fail
    refine KV.mono ?_
    clear KV
    rintro _ w5 ⟨q, na, nc, ka, kc, j2, e2, rfk, rfl, H5⟩
    have HK5 : Hid (NI w3.heap.size g6 g8 r ab cb L W 8 w5 j2 e2 ns f vn vk cs Lf) := HK.out.read HOd.out H5.out.ro
    have HS2 : Hid (St (rdN (fun l => rdV d l) false (m + 1)) L j0 0 j2 e2 (f.snoc q, ns)) := st_bind HS.out (st_bind (f := fun l => rdV d l) (g := fun v => .ret (f.snoc v, ns)) H5.out.st (st_ret _ L j2 e2))
    have HQ5 : Hid (∃ Lq, VlL w5 q na nc ka kc Lq ∧ ∀ x ∈ Lq, wr.heap.size ≤ x ∧ x < w5.heap.size) := H5.out.vl
    have HQw : Hid (WfV q ∧ (e2 = 0 → rfk = chk0V q)) := ⟨H5.out.wf, H5.out.rf⟩
    have HQs : Hid (St (rdV d) L j 0 j2 e2 q) := H5.out.st
    have HBd : Hid ((∀ x, vn.ownBlock = some x → x < wr.heap.size) ∧ (∀ x, vk.ownBlock = some x → x < wr.heap.size) ∧ w3.heap.size ≤ wr.heap.size) := ⟨fun x c => (World.ownsRow.lt HK.out.nm x c).2, fun x c => (World.ownsRow.lt HK.out.kd x c).2, HK.out.sz⟩
    clear H5 HK HEk
    go_wp2_with (refine al_zero rfl 41 rfl zer z25 ?_)
    intro g11 w6 hg11 B11 gr11
    go_wp2_with (refine st_all rfl 41 (.tmp 11) (.tmp 34) rfl g11 41 zer (six q.1 na nc ka q.2.list.length kc) rfl rfl B11 rfl s25 (six_one _ _ _ _ _ _) ?_)
    intro w7 B7 gr7
    have G7 : Hid (Below w5.heap.size w5 w7) := below_new gr11 hg11 gr7
    have HK7 : Hid (NI w3.heap.size g6 g8 r ab cb L W 8 w7 j2 e2 ns f vn vk cs Lf) := HK5.out.below G7.out
    have HB7 : Hid (Blk w7 g11 41 (six q.1 na nc ka q.2.list.length kc)) := B7
    have HQ7 : Hid (∃ Lq, VlL w7 q na nc ka kc Lq ∧ ∀ x ∈ Lq, w3.heap.size ≤ x ∧ x < w7.heap.size ∧ vn.ownBlock ≠ some x ∧ vk.ownBlock ≠ some x) := by
      obtain ⟨Lq, a1, a2⟩ := HQ5.out
      refine ⟨Lq, a1.keep fun x hx => G7.out.block x (a2 x hx).2, fun x hx => ?_⟩
      have h1 := a2 x hx
      have h2 := G7.out.size
      have h3 := HBd.out.2.2
      refine ⟨by omega, by omega, fun c => ?_, fun c => ?_⟩
      · have := HBd.out.1 x c
        omega
      · have := HBd.out.2.1 x c
        omega
    have cr2 : w7.cell? ⟨r, 2, none⟩ = some (.int .i64 e2) := HK7.out.ro.blk.cell 2
    clear B11 gr11 B7 gr7 G7 HQ5 HK5 HBd
    by_cases he2 : e2 = 0
    case neg =>
      have heb : (e2 != 0) = true := by simpa using he2
      have HST : Hid (St (neR d 8 false) L i 0 j2 e2 (lf 0 0 0 em)) := ne_fail HL.out HS2.out (by omega) he2
      have hr6 : r ≠ g6 := by have := HOd.out.l6; have := HOd.out.r; omega
      have h6 := HOd.out.l6
      obtain ⟨C, hC⟩ : ∃ C : World → Prop, C = fun w' => w'.cell? ⟨r, 2, none⟩ = some (.int .i64 e2) := ⟨_, rfl⟩
      have CN : Hid (∀ w', C w' → w'.cell? ⟨r, 2, none⟩ = some (.int .i64 e2)) := fun w' h => by rw [hC] at h; exact h
      have CI : Hid (∀ w', w'.cell? ⟨r, 2, none⟩ = some (.int .i64 e2) → C w') := fun w' h => by rw [hC]; exact h
      have D0 : Hid (Below w7.heap.size w7 { w7 with drawn := w7.drawn + 1 }) := Below.drew (Below.refl _ _)
      have HKv : Hid (NI w3.heap.size g6 g8 r ab cb L W 8 { w7 with drawn := w7.drawn + 1 } j2 e2 ns f vn vk cs Lf) := HK7.out.below D0.out
      have C0 : Hid (C { w7 with drawn := w7.drawn + 1 }) := CI.out _ (HKv.out.ro.blk.cell 2)
      clear hC HK7 D0
      go_wp2
      clear cr2
      refine region_calm C 6 (by kernel_rfl) ?_
      have hCp : ∀ p : Prop, (∀ W, C W → p) ↔ p := fun p => ⟨fun h => h _ C0.out, fun h _ _ => h⟩
      generalize ({ w7 with drawn := w7.drawn + 1 } : World) = v0 at *
      refine seg 2 [0, 1, 2, 3, 4] rfl (by kernel_rfl) whole_blind C0.out (by kernel_rfl) ?_
      change wpQuiet _ _ _ _ (_ :: _ :: _ :: _ :: _ :: []) _
      repeat (first
        | go_big_quiet_skip
        | (go_big_quiet_want
           first
           | (refine q_nil (.tmp 42) rfl r 0 rfl ?_
              simp only [Act.put, List.setIfInBounds_toArray, List.set_cons_zero, List.set_cons_succ]
              go_big_quiet_on)
           | (refine q_fld 2 (.inr rfl) (.tmp 43) rfl r rfl ?_
              simp only [Act.put, List.setIfInBounds_toArray, List.set_cons_zero, List.set_cons_succ]
              go_big_quiet_on)
           | (refine q_one 29 (.inr (.inr (.inr (.inr (.inr rfl))))) (.tmp 44) rfl r 2 rfl _ CN.out ?_
              simp only [Act.put, List.setIfInBounds_toArray, List.set_cons_zero, List.set_cons_succ]
              go_big_quiet_on)
           | (go_big_quiet_op
              go_big_quiet_on)))
      refine wpQuiet_nil ?_
      refine lone_do (i := 5) 1 rfl (by kernel_rfl) rfl (by rfl) ?_
      intro K hK
      refine oper_sta 41 (.tmp 6) (.tmp 41) rfl rfl g6 41 zer zer rfl rfl HKv.out.b6 rfl s25 (by simp [zer, Value.oneCell']) ?_
      intro v3 b3 gr3
      have HB3 : Hid (Blk v3 g6 41 zer) := b3
      have HVo : Hid (Vo (neR d 8 false) r ab cb L W v3 i 0 (lf 0 0 0 em) none 0 none 0 j2 e2 e2) :=
        ⟨ro_grown HKv.out.ro gr3 (fun x c => by injection c with c; omega), ⟨[], vl_lf v3 0 0 0 em, by simp⟩, wf_lf 0 0 0 em (by omega) (by omega) (by omega) (by decide), HST.out, fun h => absurd h he2⟩
      have c3 : C v3 := CI.out _ (HVo.out.ro.blk.cell 2)
      clear b3 gr3 HKv
      refine hK _ _ c3 ?_
      simp only [Act.put, List.setIfInBounds_toArray, List.set_cons_zero, List.set_cons_succ]
      have hCq : ∀ p : Prop, (∀ W, C W → p) ↔ p := fun p => ⟨fun h => h _ c3, fun h _ _ => h⟩
      refine lone_calm (i := 6) 0 rfl (by kernel_rfl) rfl rfl c3 ?_
      go_big_quiet_want
      go_big_quiet_op
      go_big_quiet_on
      refine wpQuiet_nil ?_
      refine anyC_done (by kernel_rfl) ⟨rfl, ?_⟩
      clear c3 hCq CN CI
      go_wp2
      refine bodyPost_ret (res_two rfl _ g6 41 _ _ rfl HB3.out Tryz.underlying41 rfl s25) rfl ?_
      exact ⟨lf 0 0 0 em, none, 0, none, 0, j2, e2, e2, rfl, HVo.out⟩
    subst he2
    have hjk : j2 ≤ 65536 := kid_at (kid_sm HE.out.oct HSn2.out hlt (st_ok HS.out) (show (if (false : Bool) then txR (L.drop j) = .ok (em, L.drop j) else j = j) from rfl)) (st_ok HQs.out) HK7.out.ro.le
    obtain ⟨E, HEq⟩ : ∃ E, Hid ((if rf ≠ 0 then rf else rfk) = E) := ⟨_, rfl⟩
    have KO := or_lit rf rfk w7
    rw [HEq.out] at KO
    obtain ⟨w8, HW8⟩ : ∃ w8, Hid (w7.alloc (.cells #[.int .i64 rf, .int .i64 rfk] 29) = w8) := ⟨_, rfl⟩
    rw [HW8.out] at KO
    have G8 : Hid (Below w7.heap.size w7 w8) := by rw [← HW8.out]; exact (Below.refl _ _).alloc (Nat.le_refl _) _
    go_wp2_with fail
    generalize hWW : World.alloc w7 _ = W9
    obtain rfl : w8 = W9 := by rw [← hWW, ← HW8.out]
    clear hWW HW8
    refine KO.mono ?_
    clear KO cr2
    rintro _ w8x ⟨rfl, hw8⟩
    obtain rfl : w8 = w8x := hw8.symm
    clear hw8
    have HK8 : Hid (NI w3.heap.size g6 g8 r ab cb L W 8 w8 j2 0 ns f vn vk cs Lf) := HK7.out.below G8.out
    have HB8 : Hid (Blk w8 g11 41 (six q.1 na nc ka q.2.list.length kc)) := HB7.out.below G8.out HB7.out.lt
    have HQ8 : Hid (∃ Lq, VlL w8 q na nc ka kc Lq ∧ ∀ x ∈ Lq, w3.heap.size ≤ x ∧ x < w8.heap.size ∧ vn.ownBlock ≠ some x ∧ vk.ownBlock ≠ some x) := by
      obtain ⟨Lq, a1, a2⟩ := HQ7.out
      refine ⟨Lq, a1.keep fun x hx => G8.out.block x (a2 x hx).2.1, fun x hx => ?_⟩
      obtain ⟨h1, h2, h3, h4⟩ := a2 x hx
      have := G8.out.size
      exact ⟨h1, by omega, h3, h4⟩
    clear G8 HK7 HB7 HQ7
    have cr1 : w8.cell? ⟨r, 1, none⟩ = some (.int .i64 (j2 : Int)) := HK8.out.ro.blk.cell 1
    have hjb : decide ((j2 : Int) ≤ 65536) = true := by simp; omega
    have ck5 : w8.cell? ⟨g8, 5, none⟩ = some vk := HK8.out.b8.cell 5
    have c0 : w8.cell? ⟨g11, 0, none⟩ = some (.int .i64 q.1.k) := HB8.out.cell 0
    have c1 : w8.cell? ⟨g11, 1, none⟩ = some (.int .i64 q.1.n) := HB8.out.cell 1
    have c2 : w8.cell? ⟨g11, 2, none⟩ = some (.int .i64 q.1.s) := HB8.out.cell 2
    have c3 : w8.cell? ⟨g11, 3, none⟩ = some (.string q.1.t) := HB8.out.cell 3
    have c4 : w8.cell? ⟨g11, 4, none⟩ = some (.slice na q.1.ns.length nc) := HB8.out.cell 4
    have c5 : w8.cell? ⟨g11, 5, none⟩ = some (.slice ka q.2.list.length kc) := HB8.out.cell 5
    obtain ⟨w9, HW9⟩ : ∃ w9, Hid (w8.alloc (.cells #[.int .i64 q.1.k, .int .i64 q.1.n, .int .i64 q.1.s, .string q.1.t, .slice na q.1.ns.length nc, .slice ka q.2.list.length kc] 41) = w9) := ⟨_, rfl⟩
    have G9 : Hid (Below w8.heap.size w8 w9) := by rw [← HW9.out]; exact (Below.refl _ _).alloc (Nat.le_refl _) _
    have hz9 : w9.heap.size = w8.heap.size + 1 := by have := HW9.out; subst this; simp
    have HK9 : Hid (NI w3.heap.size g6 g8 r ab cb L W 8 w9 j2 0 ns f vn vk cs Lf) := HK8.out.below G9.out
    have HC9 : Hid (∀ j u, (six q.1 na nc ka q.2.list.length kc)[j]? = some u → w9.cell? ⟨w8.heap.size, j, none⟩ = some u) := fun j u hj => by
      rw [← HW9.out, World.cell?_alloc_new]
      show (six q.1 na nc ka q.2.list.length kc).toArray[j]? = some u
      rw [List.getElem?_toArray]
      exact hj
    have hbase : w3.heap.size ≤ w9.heap.size := HK9.out.sz
    go_wp2_with (at_builtin; go_must (generalize hWW : World.alloc w8 _ = W9; obtain rfl : w9 = W9 := (by rw [← hWW, ← HW9.out]); clear hWW HW9; refine app_kids rfl (.tmp 56) (.tmp 58) rfl w3.heap.size vk f.list.length cs rfl HK9.out.kd w8.heap.size 1 1 (six q.1 na nc ka q.2.list.length kc) rfl rfl HC9.out (six_one _ _ _ _ _ _) (by omega) hbase ?_))
    intro vk' w10 o10 g10 a10
    have HB10 : Hid (Blk w10 g8 41 [.int .i64 8, .int .i64 0, .int .i64 0, .string ⟨#[]⟩, vn, vk]) := HK9.out.b8.kept g10 (fun c => by have := (World.ownsRow.lt HK9.out.kd _ c.symm).1; have := HOd.out.lB; omega)
    have HO10 : Hid (w10.ownsRow w3.heap.size 41 6 vk' (f.list.length + 1) (cs ++ six q.1 na nc ka q.2.list.length kc)) := by first | exact o10 | (show World.ownsRow _ _ _ _ _ _ _; rw [hfl]; exact o10)
    have HG10 : Hid (w9.grownBy w10 vk.ownBlock) := g10
    have HA10 : Hid (vk'.ownBlock = vk.ownBlock ∨ vk'.ownBlock = some w9.heap.size) := by first | exact a10 | (show _ ∨ _; rw [hz9]; exact a10)
    obtain ⟨hcel, hone⟩ : vk'.cells = #[vk'] ∧ vk'.oneCell' = true := by
      rcases o10 with ⟨_, ⟨h, _⟩ | ⟨_, _, _, h, _⟩⟩ <;> subst h <;> exact ⟨rfl, rfl⟩
    clear o10 g10 a10 c0 c1 c2 c3 c4 c5 ck5 cr1 HC9
    go_wp2_with (refine st_one rfl 39 (.tmp 60) (.tmp 59) rfl g8 5 41 _ vk' rfl rfl hcel hone (by simp) HB10.out s23 ?_)
    intro w11 b11 g11x
    have HKn : Hid (∃ Lf', NI w3.heap.size g6 g8 r ab cb L W 8 w11 j2 0 ns (f.snoc q) vn vk' (cs ++ six q.1 na nc ka q.2.list.length kc) Lf') := by
      obtain ⟨Lq, a1, a2⟩ := HQ8.out
      exact ⟨Lf ++ Lq, HK8.out.kid HOd.out a1 a2 G9.out HG10.out HO10.out HA10.out b11 g11x⟩
    have HFn : Hid (E = chk0 (f.snoc q) ∧ Wf (f.snoc q) ∧ (f.snoc q).list.length = m + 1 ∧ (∀ x ∈ ns, x.size ≤ 65536) ∧ (ns).length ≤ m + 1) := by
      refine ⟨?_, wf_snoc HQw.out.1 HF.out.2.1, by rw [snoc_list, List.length_append, hfl]; rfl, ?_, ?_⟩
      · rw [← HEq.out, chk0_snoc, HF.out.1, HQw.out.2 (by first | rfl | trivial)]
      · exact HF.out.2.2.2.1
      · have := HF.out.2.2.2.2
        omega
    clear b11 g11x HB10 HO10 HG10 HA10 HK9 HK8 HB8 HQ8 G9 HQw HQs HF HS hcel hone HTx
    go_wp2
    go_roundw
    case rel =>
      obtain ⟨Lf', hk⟩ := HKn.out
      exact ⟨m + 1, j2, 0, E, _, f.snoc q, _, vk', _, Lf', by omega, rfl, by go_num, hk, HS2.out, fun _ => rfl, HFn.out⟩
    case measure => simp [intOf]; omega
set_option maxRecDepth 8000 in
set_option maxHeartbeats 2000000 in
theorem nest9 (d : Nat) (dp : Int) (hdp : 0 ≤ dp) (hdp2 : dp ≤ 16) (VC : Hid (ValC 127 (rdV d) (fun r => #[.pointer (some ⟨r, 0, none⟩), .int .i64 (dp + 1)]))) : ValP 134 (neR d 9 true) (fun r => #[.pointer (some ⟨r, 0, none⟩), .int .i64 9, .int .i64 dp]) := by
  intro w0 W r ab cb L i err hE hb hi hsm hp
  have HE : Hid (En w0 W r ab cb L) := hE
  have Hr : Hid (Blk W r 170 [.slice ab L.length cb, .int .i64 (i : Int), .int .i64 err]) := hb
  have HSm : Hid (err = 0 → Sm (neR d 9 true) L i) := hsm
  have HP : Hid (err = 0 → 0 < L.length) := hp
  have hrW : r < W.heap.size := hb.lt
  clear hE hb hsm hp
  show Calls _ _ #[.pointer (some ⟨r, 0, none⟩), .int .i64 9, .int .i64 dp] _ _
  go_enter Tryz.func134, Tryz.ntmps134
  go_wp2_with (refine al_zero rfl 41 rfl zer z25 ?_)
  intro g6 w1 hg6 B6 gr6
  go_wp2_with (refine al_zero rfl 41 rfl zer z25 ?_)
  intro g8 w2 hg8 B8 gr8
  go_wp2_with (refine st_all rfl 41 (.tmp 8) (.tmp 14) rfl g8 41 zer [.int .i64 9, .int .i64 0, .int .i64 0, .string ⟨#[]⟩, .slice none 0 0, .slice none 0 0] rfl rfl B8 rfl s25 (by simp [Value.oneCell']) ?_)
  intro w3 B8' gr8'
  have G1 : Hid (Below W.heap.size W w1) := (Below.refl _ _).grown gr6 (Nat.le_refl _) (fun k e => by cases e)
  have G3 : Hid (Below w1.heap.size w1 w3) := below_new gr8 hg8 gr8'
  have h61 := B6.lt
  have h83 := B8'.lt
  have HOd : Hid (Od W r g6 g8 w3.heap.size) := ⟨hrW, hg6, by omega, h83⟩
  have GW3 : Hid (Below W.heap.size W w3) := G1.out.trans (G3.out.mono G1.out.size)
  have HI0 : Hid (NI w3.heap.size g6 g8 r ab cb L W 9 w3 i err [] .nil (.slice none 0 0) (.slice none 0 0) [] []) := by
    refine ⟨⟨Hr.out.below GW3.out hrW, hi, ⟨GW3.out.os, GW3.out.tape, GW3.out.output, GW3.out.size, fun x hx _ => GW3.out.block x hx⟩⟩, B6.below G3.out h61, B8', World.ownsRow_nil _ _ _ _, World.ownsRow_nil _ _ _ _, ⟨rfl, rfl⟩, fun x hx => by simp at hx, fun x c => by simp [Value.ownBlock] at c, Nat.le_refl _⟩
  clear B6 gr6 B8 gr8 B8' gr8' G1 G3 Hr GW3 h61 h83 hg6 hg8
  have KL := length_any w0 w3 r ab cb L i err (HE.out.ro HI0.out.ro) HI0.out.ro.blk hi HP.out
  go_wp2_with fail
  refine KL.mono ?_
  clear KL
  rintro e w4 ⟨n, j0, e0, rfl, hn, hz, H4⟩
  have HI4 : Hid (NI w3.heap.size g6 g8 r ab cb L W 9 w4 j0 e0 [] .nil (.slice none 0 0) (.slice none 0 0) [] []) := HI0.out.read HOd.out H4.out.1
  have HL : Hid (St lenR L i err j0 e0 n) := H4.out.2
  have HZ : Hid (e0 ≠ 0 → n = 0) := hz
  have HSn : Hid (e0 = 0 → err = 0 ∧ Sn d true L j0 n) := fun h0 => by
    rcases HL.out with ⟨a, _, c⟩ | ⟨a, ⟨b1, _, _⟩ | ⟨x, _, c, q⟩⟩
    · exact absurd (c ▸ h0) a
    · exact ⟨a, sn_of (HSm.out a) b1⟩
    · omega
  clear H4 HI0 HSm hz
  go_wp2
  go_loopw [9, 18] (fun rv iv wr => ∃ (m j : Nat) (e rf : Int) (ns : List ByteArray) (f : Fo) (vn vk : Value) (cs : List Value) (Lf : List Nat), m ≤ n ∧ rv = .int .i64 rf ∧ iv = .int .i64 (m : Int) ∧ Hid ((NI w3.heap.size g6 g8 r ab cb L W 9 wr j e ns f vn vk cs Lf) ∧ St (rdN (fun l => rdV d l) true m) L j0 e0 j e (f, ns) ∧ (e0 = 0 → e = 0) ∧ rf = chk0 f ∧ Wf f ∧ f.list.length = m ∧ (∀ x ∈ ns, x.size ≤ 65536) ∧ ns.length ≤ m)) (fun _ iv _ => n - (intOf iv).toNat)
  case atStart => exact ⟨0, j0, e0, 0, [], .nil, _, _, [], [], by omega, rfl, rfl, HI4.out, st_ret _ L j0 e0, fun h => h, rfl, trivial, rfl, (by simp), (by simp)⟩
  case round =>
    clear HI4
    obtain ⟨m, j, e, rf, ns, f, vn, vk, cs, Lf, hm, rfl, rfl, HJ⟩ := hrel
    obtain ⟨hNI, hSt, he0, hrf, hwf, hfl, hsz, hnl⟩ := HJ.out
    have HN : Hid (NI w3.heap.size g6 g8 r ab cb L W 9 wr j e ns f vn vk cs Lf) := hNI
    have HS : Hid (St (rdN (fun l => rdV d l) true m) L j0 e0 j e (f, ns)) := hSt
    have HF : Hid (rf = chk0 f ∧ Wf f ∧ f.list.length = m ∧ (∀ x ∈ ns, x.size ≤ 65536) ∧ ns.length ≤ m) := ⟨hrf, hwf, hfl, hsz, hnl⟩
    have HE0 : Hid (e0 = 0 → e = 0) := he0
    clear hNI hSt hrf hwf hsz HJ he0
    by_cases hlt : m < n
    case neg =>
      obtain rfl : m = n := by omega
      obtain ⟨na, nc, ka, kc, Lp, rfl, rfl, hvl, hrg⟩ := HN.out.val
      have HV : Hid (VlL wr (nst 9 (f, ns)) na nc ka kc Lp ∧ ∀ x ∈ Lp, w3.heap.size ≤ x ∧ x < wr.heap.size) := ⟨hvl, hrg⟩
      have HW : Hid (WfV (nst 9 (f, ns))) := ⟨⟨by show (-9223372036854775808 : Int) ≤ 9; omega, by show (9 : Int) < 9223372036854775808; omega, by show (-9223372036854775808 : Int) ≤ 0; omega, by show (0 : Int) < 9223372036854775808; omega, by show (-9223372036854775808 : Int) ≤ 0; omega, by show (0 : Int) < 9223372036854775808; omega, by show em.size ≤ _; decide, by show ns.length ≤ _; omega, fun x hx => by have := HF.out.2.2.2.1 x hx; omega⟩, by show f.list.length ≤ _; omega, HF.out.2.1⟩
      have HST : Hid (St (neR d 9 true) L i err j e (nst 9 (f, ns))) := st_bind HL.out (st_bind HS.out (st_ret _ L j e))
      obtain ⟨E, HEq⟩ : ∃ E, Hid ((if own ⟨9, 0, 0, em, ns⟩ m ≠ 0 then own ⟨9, 0, 0, em, ns⟩ m else rf) = E) := ⟨_, rfl⟩
      have HRf : Hid (E = chk0V (nst 9 (f, ns))) := by
        show E = _
        rw [← HEq.out, HF.out.1]
        show _ = if own _ f.list.length ≠ 0 then own _ f.list.length else chk0 f
        rw [hfl]
        rfl
      clear hvl hrg
      obtain ⟨C, hC⟩ : ∃ C : World → Prop, C = fun w' => Blk w' g8 41 (six ⟨9, 0, 0, em, ns⟩ na nc ka f.list.length kc) := ⟨_, rfl⟩
      have CN : Hid (∀ w', C w' → Nd w' g8 0 ⟨9, 0, 0, em, ns⟩ na nc ka f.list.length kc) := fun w' h => by rw [hC] at h; exact ⟨h.cell 0, h.cell 1, h.cell 2, h.cell 3, h.cell 4, h.cell 5⟩
      have CB : Hid (∀ w1 w2, C w1 → Below w1.heap.size w1 w2 → C w2) := fun w1 w2 h k => by rw [hC] at h ⊢; exact h.below k h.lt
      have hg68 := HOd.out.l8
      have CS : Hid (∀ w1 w2, C w1 → w1.grownBy w2 (some g6) → C w2) := fun w1 w2 h k => by rw [hC] at h ⊢; exact h.kept k (by intro c; injection c with c; omega)
      have D0 : Hid (Below wr.heap.size wr { wr with drawn := wr.drawn + 1 }) := Below.drew (Below.refl _ _)
      have C0 : Hid (C { wr with drawn := wr.drawn + 1 }) := CB.out _ _ (by rw [hC]; exact HN.out.b8) D0.out
      clear hC
      go_wp2
      refine region_calm C 8 (by kernel_rfl) ?_
      have HNv : Hid (Below wr.heap.size wr { wr with drawn := wr.drawn + 1 }) := D0.out
      have hCp : ∀ p : Prop, (∀ W, C W → p) ↔ p := fun p => ⟨fun h => h _ C0.out, fun h _ _ => h⟩
      clear D0
      generalize ({ wr with drawn := wr.drawn + 1 } : World) = v0 at *
      refine seg 5 [0, 1, 2, 4] rfl (by kernel_rfl) whole_blind C0.out (by kernel_rfl) ?_
      change wpQuiet _ _ _ _ (_ :: _ :: _ :: _ :: []) _
      repeat (first
        | go_big_quiet_skip
        | (go_big_quiet_want
           first
           | (refine q_val (.tmp 8) rfl g8 0 rfl ⟨9, 0, 0, em, ns⟩ na nc ka f.list.length kc CN.out ?_
              simp only [Act.put, List.setIfInBounds_toArray, List.set_cons_zero, List.set_cons_succ]
              go_big_quiet_on)
           | (go_big_quiet_op
              go_big_quiet_on)))
      refine wpQuiet_nil ?_
      have HVv : Hid (Vl v0 (nst 9 (f, ns)) na nc ka kc) := HV.out.1.vl.below HNv.out
      have KS := shell_any ⟨9, 0, 0, em, ns⟩ HW.out.1 na nc ka f.list.length kc m hn v0 HVv.out.nms HVv.out.nc
      rw [shell_own] at KS
      refine lone_do (i := 3) 4 rfl (by kernel_rfl) rfl (by rfl) ?_
      intro K hK
      refine oper_call 138 #[.tmp 63, .tmp 64] #[41, 3] rfl #[.agg #[.int .i64 9, .int .i64 0, .int .i64 0, .string em, .slice na ns.length nc, .slice ka f.list.length kc], .int .i64 (m : Int)] (by rw [List.map_toArray]; rfl) (enters Tryz.func138 (by kernel_rfl) rfl) (fun v' w' => v' = .int .i64 (own ⟨9, 0, 0, em, ns⟩ m) ∧ Below v0.heap.size v0 w') (KS.mono fun e' w' ⟨h1, h2⟩ => ⟨_, h1, rfl, h2.out⟩) ?_
      rintro _ v1 ⟨rfl, hb1⟩
      have c1 := CB.out _ _ C0.out hb1
      have HN1 : Hid (Below wr.heap.size wr v1) := HNv.out.trans (hb1.mono HNv.out.size)
      refine hK _ _ c1 ?_
      simp only [Act.put, List.setIfInBounds_toArray, List.set_cons_zero, List.set_cons_succ]
      clear KS HVv HNv C0 hb1 hCp
      refine lone_do (i := 5) 3 rfl (by kernel_rfl) rfl (by rfl) ?_
      intro K hK
      refine oper_two 65 66 rfl (own ⟨9, 0, 0, em, ns⟩ m) rf rfl rfl ?_
      have DA : Hid (Below v1.heap.size v1 (v1.alloc (.cells #[.int .i64 (own ⟨9, 0, 0, em, ns⟩ m), .int .i64 rf] 29))) := (Below.refl _ _).alloc (Nat.le_refl _) _
      have ca := CB.out _ _ c1 DA.out
      refine hK _ _ ca ?_
      simp only [Act.put, List.setIfInBounds_toArray, List.set_cons_zero, List.set_cons_succ]
      refine lone_do (i := 6) 2 rfl (by kernel_rfl) rfl (by rfl) ?_
      intro K hK
      refine oper_call 97 #[.tmp 67] #[160] rfl #[.slice (some ⟨v1.heap.size, 0, none⟩) 2 2] (by rw [List.map_toArray]; rfl) (enters Tryz.func97 (by kernel_rfl) rfl) (fun v' w' => v' = .int .i64 E ∧ w' = v1.alloc (.cells #[.int .i64 (own ⟨9, 0, 0, em, ns⟩ m), .int .i64 rf] 29)) ((or_lit (own ⟨9, 0, 0, em, ns⟩ m) rf v1).mono fun e' w' ⟨h1, h2⟩ => ⟨_, h1, by rw [HEq.out], h2⟩) ?_
      rintro _ _ ⟨rfl, rfl⟩
      refine hK _ _ ca ?_
      simp only [Act.put, List.setIfInBounds_toArray, List.set_cons_zero, List.set_cons_succ]
      have HN2 : Hid (Below wr.heap.size wr (v1.alloc (.cells #[.int .i64 (own ⟨9, 0, 0, em, ns⟩ m), .int .i64 rf] 29))) := HN1.out.trans (DA.out.mono HN1.out.size)
      clear HN1 c1 DA
      generalize v1.alloc (.cells #[.int .i64 (own ⟨9, 0, 0, em, ns⟩ m), .int .i64 rf] 29) = v2 at *
      have HNI2 : Hid (NI w3.heap.size g6 g8 r ab cb L W 9 v2 j e ns f (.slice na ns.length nc) (.slice ka f.list.length kc) cs Lf) := HN.out.below HN2.out
      refine lone_do (i := 7) 1 rfl (by kernel_rfl) rfl (by rfl) ?_
      intro K hK
      refine oper_sta 41 (.tmp 6) (.tmp 62) rfl rfl g6 41 zer (six ⟨9, 0, 0, em, ns⟩ na nc ka f.list.length kc) rfl rfl HNI2.out.b6 rfl s25 (six_one _ _ _ _ _ _) ?_
      intro v3 b3 gr3
      have HB3 : Hid (Blk v3 g6 41 (six ⟨9, 0, 0, em, ns⟩ na nc ka f.list.length kc)) := b3
      have c3 := CS.out _ _ ca gr3
      have HVo : Hid (Vo (neR d 9 true) r ab cb L W v3 i err (nst 9 (f, ns)) na nc ka kc j e E) := by
        have o1 := HOd.out.r
        have o2 := HOd.out.l6
        have o3 := HOd.out.l8
        have o4 := HOd.out.lB
        refine ⟨ro_grown HNI2.out.ro gr3 (fun x c => by injection c with c; omega), ⟨Lp, HV.out.1.keep fun x hx => ?_, fun x hx => ?_⟩, HW.out, HST.out, fun _ => HRf.out⟩
        · have := HV.out.2 x hx
          exact (gr3.block x (Nat.lt_of_lt_of_le this.2 HN2.out.size) (by intro c; injection c with c; omega)).trans (HN2.out.block x this.2)
        · have := HV.out.2 x hx
          have := HN2.out.size
          have := gr3.size
          omega
      clear b3 gr3 ca HN2 HNI2
      refine hK _ _ c3 ?_
      simp only [Act.put, List.setIfInBounds_toArray, List.set_cons_zero, List.set_cons_succ]
      have hCq : ∀ p : Prop, (∀ W, C W → p) ↔ p := fun p => ⟨fun h => h _ c3, fun h _ _ => h⟩
      refine lone_calm (i := 8) 0 rfl (by kernel_rfl) rfl rfl c3 ?_
      go_big_quiet_want
      go_big_quiet_op
      go_big_quiet_on
      refine wpQuiet_nil ?_
      refine anyC_done (by kernel_rfl) ⟨rfl, ?_⟩
      clear c3 hCq CN CB CS
      go_wp2
      refine bodyPost_ret (res_two rfl _ g6 41 _ _ rfl HB3.out Tryz.underlying41 rfl s25) rfl ?_
      exact ⟨nst 9 (f, ns), na, nc, ka, kc, j, e, E, rfl, HVo.out⟩
    have h00 : e0 = 0 := by
      rcases Classical.em (e0 = 0) with h | h
      · exact h
      · have := HZ.out h
        omega
    subst h00
    obtain rfl : e = 0 := HE0.out rfl
    obtain ⟨her, hsn⟩ := HSn.out rfl
    subst her
    have HSn2 : Hid (Sn d true L j0 n) := hsn
    have HPl : Hid (0 < L.length) := HP.out rfl
    clear hsn
    obtain ⟨C, hC⟩ : ∃ C : World → Prop, C = fun w' => w'.cell? ⟨g8, 4, none⟩ = some vn := ⟨_, rfl⟩
    have CN : Hid (∀ w', C w' → w'.cell? ⟨g8, 4, none⟩ = some vn) := fun w' h => by rw [hC] at h; exact h
    have CI : Hid (∀ w', w'.cell? ⟨g8, 4, none⟩ = some vn → C w') := fun w' h => by rw [hC]; exact h
    have D0 : Hid (Below wr.heap.size wr { wr with drawn := wr.drawn + 1 }) := Below.drew (Below.refl _ _)
    have HNv : Hid (NI w3.heap.size g6 g8 r ab cb L W 9 { wr with drawn := wr.drawn + 1 } j 0 ns f vn vk cs Lf) := HN.out.below D0.out
    have C0 : Hid (C { wr with drawn := wr.drawn + 1 }) := CI.out _ (HNv.out.b8.cell 4)
    clear hC HN D0
    go_wp2
    refine region_calm C 7 (by kernel_rfl) ?_
    have hCp : ∀ p : Prop, (∀ W, C W → p) ↔ p := fun p => ⟨fun h => h _ C0.out, fun h _ _ => h⟩
    generalize ({ wr with drawn := wr.drawn + 1 } : World) = v0 at *
    refine seg 5 [0, 1, 2] rfl (by kernel_rfl) whole_blind C0.out (by kernel_rfl) ?_
    change wpQuiet _ _ _ _ (_ :: _ :: _ :: []) _
    repeat (first
      | go_big_quiet_skip
      | (go_big_quiet_want
         first
         | (refine q_one 38 (.inr (.inr (.inl rfl))) (.tmp 22) rfl g8 4 rfl vn CN.out ?_
            simp only [Act.put, List.setIfInBounds_toArray, List.set_cons_zero, List.set_cons_succ]
            go_big_quiet_on)
         | (go_big_quiet_op
            go_big_quiet_on)))
    refine wpQuiet_nil ?_
    refine lone_do (i := 3) 4 rfl (by kernel_rfl) rfl (by rfl) ?_
    intro K hK
    refine oper_call 133 #[.tmp 24] #[168] rfl #[.pointer (some ⟨r, 0, none⟩)] (by rw [List.map_toArray]; rfl) (enters Tryz.func133 (by kernel_rfl) rfl) (fun v' w' => ∃ (s : ByteArray) (j1 : Nat) (e1 : Int), v' = .string s ∧ s.size ≤ 65536 ∧ Hid (Ro r ab cb L.length v0 w' j1 e1 ∧ St txR L j 0 j1 e1 s)) ((text_any w0 v0 r ab cb L j 0 (HE.out.ro HNv.out.ro) HNv.out.ro.blk HNv.out.ro.le (fun _ => HPl.out)).mono fun e' w' ⟨s, j1, e1, h1, h2, _, h3⟩ => ⟨_, h1, s, j1, e1, rfl, h2, h3⟩) ?_
    rintro _ v1 ⟨s, j1, e1, rfl, hs, H1⟩
    have HN1 : Hid (NI w3.heap.size g6 g8 r ab cb L W 9 v1 j1 e1 ns f vn vk cs Lf) := HNv.out.read HOd.out H1.out.1
    have HT : Hid (St txR L j 0 j1 e1 s) := H1.out.2
    have c1 : C v1 := CI.out _ (HN1.out.b8.cell 4)
    refine hK _ _ c1 ?_
    simp only [Act.put, List.setIfInBounds_toArray, List.set_cons_zero, List.set_cons_succ]
    clear H1 HNv C0 hCp
    refine lone_do (i := 4) 3 rfl (by kernel_rfl) rfl (by rfl) ?_
    intro K hK
    refine oper_name 25 rfl s rfl ?_
    have DA : Hid (Below v1.heap.size v1 (v1.alloc (.cells #[.string s] 9))) := (Below.refl _ _).alloc (Nat.le_refl _) _
    have HNa : Hid (NI w3.heap.size g6 g8 r ab cb L W 9 (v1.alloc (.cells #[.string s] 9)) j1 e1 ns f vn vk cs Lf) := HN1.out.below DA.out
    have HNms : Hid (Nms (v1.alloc (.cells #[.string s] 9)) (some ⟨v1.heap.size, 0, none⟩) [s]) := .inr ⟨v1.heap.size, 0, rfl, fun i x hx => by
      rw [Nat.zero_add, World.cell?_alloc_new]
      cases i with
      | zero => simp at hx; subst hx; rfl
      | succ i => simp at hx⟩
    have ca : C (v1.alloc (.cells #[.string s] 9)) := CI.out _ (HNa.out.b8.cell 4)
    refine hK _ _ ca ?_
    simp only [Act.put, List.setIfInBounds_toArray, List.set_cons_zero, List.set_cons_succ]
    have hzv : (v1.alloc (.cells #[.string s] 9)).heap.size = v1.heap.size + 1 := by simp
    refine lone_do (i := 5) 2 rfl (by kernel_rfl) rfl (by rfl) ?_
    intro K hK
    refine oper_apn (.tmp 23) (.tmp 26) rfl w3.heap.size vn ns.length (ns.map Value.string) rfl HNa.out.nm (some ⟨v1.heap.size, 0, none⟩) 1 [s] rfl HNms.out (by intro h; cases h) (by simp only [List.length_cons, List.length_nil]; omega) HNa.out.sz ?_
    intro vn' v2 o2 g2 a2
    have hc2 : C v2 := CI.out _ ((HNa.out.b8.kept g2 (fun c => by have := (World.ownsRow.lt HNa.out.nm _ c.symm).1; have := HOd.out.lB; omega)).cell 4)
    refine hK _ _ hc2 ?_
    simp only [Act.put, List.setIfInBounds_toArray, List.set_cons_zero, List.set_cons_succ]
    have hCq : ∀ p : Prop, (∀ W, C W → p) ↔ p := fun p => ⟨fun h => h _ hc2, fun h _ _ => h⟩
    refine lone_calm (i := 6) 1 rfl (by kernel_rfl) rfl rfl hc2 ?_
    go_big_quiet_want
    go_big_quiet_op
    go_big_quiet_on
    refine wpQuiet_nil ?_
    have HB8 : Hid (Blk v2 g8 41 [.int .i64 9, .int .i64 0, .int .i64 0, .string ⟨#[]⟩, vn, vk]) := HNa.out.b8.kept g2 (fun c => by have := (World.ownsRow.lt HNa.out.nm _ c.symm).1; have := HOd.out.lB; omega)
    have HO2 : Hid (v2.ownsRow w3.heap.size 9 1 vn' (ns.length + 1) (ns.map Value.string ++ [.string s])) := o2
    obtain ⟨hcel, hone⟩ : vn'.cells = #[vn'] ∧ vn'.oneCell' = true := by
      rcases o2 with ⟨_, ⟨h, _⟩ | ⟨_, _, _, h, _⟩⟩ <;> subst h <;> exact ⟨rfl, rfl⟩
    have HA2 : Hid (vn'.ownBlock = vn.ownBlock ∨ vn'.ownBlock = some (v1.alloc (.cells #[.string s] 9)).heap.size) := a2
    have HG2 : Hid ((v1.alloc (.cells #[.string s] 9)).grownBy v2 vn.ownBlock) := g2
    clear o2 g2 a2 ca c1 HNa HNms hCq
    refine lone_last (i := 7) 0 rfl rfl (by kernel_rfl) rfl (by rfl) ?_
    intro K hK
    refine oper_st1 38 (.tmp 28) (.tmp 27) rfl g8 4 41 _ vn' rfl rfl hcel hone (by simp) HB8.out s22 ?_
    intro v3 b3 g3
    have HK : Hid (NI w3.heap.size g6 g8 r ab cb L W 9 v3 j1 e1 (ns ++ [s]) f vn' vk cs Lf) := HN1.out.name HOd.out DA.out HG2.out HO2.out HA2.out b3 g3
    clear b3 g3 HB8 HO2 HA2 HG2 DA HN1 hc2
    refine hK _ _ ?_
    simp only [Act.put, List.setIfInBounds_toArray, List.set_cons_zero, List.set_cons_succ]
    refine anyC_done (by kernel_rfl) ⟨rfl, ?_⟩
    clear CN CI hcel hone
    have HTx : Hid (e1 = 0 → if true then txR (L.drop j) = .ok (s, L.drop j1) else j1 = j) := fun h => by
      subst h
      exact st_ok HT.out
    have HEk : Hid (En w0 v3 r ab cb L) := HE.out.ro HK.out.ro
    have KV := VC.out w0 v3 r ab cb L j1 e1 HEk.out HK.out.ro.blk HK.out.ro.le (fun h => kid_sm HE.out.oct HSn2.out hlt (st_ok HS.out) (HTx.out h))
    go_wp2_with fail
    refine KV.mono ?_
    clear KV
    rintro _ w5 ⟨q, na, nc, ka, kc, j2, e2, rfk, rfl, H5⟩
    have HK5 : Hid (NI w3.heap.size g6 g8 r ab cb L W 9 w5 j2 e2 (ns ++ [s]) f vn' vk cs Lf) := HK.out.read HOd.out H5.out.ro
    have HS2 : Hid (St (rdN (fun l => rdV d l) true (m + 1)) L j0 0 j2 e2 (f.snoc q, (ns ++ [s]))) := st_bind HS.out (st_bind (f := txR) (g := fun s => Rdr.bind (fun l => rdV d l) fun v => .ret (f.snoc v, ns ++ [s])) HT.out (st_bind (f := fun l => rdV d l) (g := fun v => .ret (f.snoc v, ns ++ [s])) H5.out.st (st_ret _ L j2 e2)))
    have HQ5 : Hid (∃ Lq, VlL w5 q na nc ka kc Lq ∧ ∀ x ∈ Lq, v3.heap.size ≤ x ∧ x < w5.heap.size) := H5.out.vl
    have HQw : Hid (WfV q ∧ (e2 = 0 → rfk = chk0V q)) := ⟨H5.out.wf, H5.out.rf⟩
    have HQs : Hid (St (rdV d) L j1 e1 j2 e2 q) := H5.out.st
    have HBd : Hid ((∀ x, vn'.ownBlock = some x → x < v3.heap.size) ∧ (∀ x, vk.ownBlock = some x → x < v3.heap.size) ∧ w3.heap.size ≤ v3.heap.size) := ⟨fun x c => (World.ownsRow.lt HK.out.nm x c).2, fun x c => (World.ownsRow.lt HK.out.kd x c).2, HK.out.sz⟩
    clear H5 HK HEk
    go_wp2_with (refine al_zero rfl 41 rfl zer z25 ?_)
    intro g11 w6 hg11 B11 gr11
    go_wp2_with (refine st_all rfl 41 (.tmp 11) (.tmp 34) rfl g11 41 zer (six q.1 na nc ka q.2.list.length kc) rfl rfl B11 rfl s25 (six_one _ _ _ _ _ _) ?_)
    intro w7 B7 gr7
    have G7 : Hid (Below w5.heap.size w5 w7) := below_new gr11 hg11 gr7
    have HK7 : Hid (NI w3.heap.size g6 g8 r ab cb L W 9 w7 j2 e2 (ns ++ [s]) f vn' vk cs Lf) := HK5.out.below G7.out
    have HB7 : Hid (Blk w7 g11 41 (six q.1 na nc ka q.2.list.length kc)) := B7
    have HQ7 : Hid (∃ Lq, VlL w7 q na nc ka kc Lq ∧ ∀ x ∈ Lq, w3.heap.size ≤ x ∧ x < w7.heap.size ∧ vn'.ownBlock ≠ some x ∧ vk.ownBlock ≠ some x) := by
      obtain ⟨Lq, a1, a2⟩ := HQ5.out
      refine ⟨Lq, a1.keep fun x hx => G7.out.block x (a2 x hx).2, fun x hx => ?_⟩
      have h1 := a2 x hx
      have h2 := G7.out.size
      have h3 := HBd.out.2.2
      refine ⟨by omega, by omega, fun c => ?_, fun c => ?_⟩
      · have := HBd.out.1 x c
        omega
      · have := HBd.out.2.1 x c
        omega
    have cr2 : w7.cell? ⟨r, 2, none⟩ = some (.int .i64 e2) := HK7.out.ro.blk.cell 2
    clear B11 gr11 B7 gr7 G7 HQ5 HK5 HBd
    by_cases he2 : e2 = 0
    case neg =>
      have heb : (e2 != 0) = true := by simpa using he2
      have HST : Hid (St (neR d 9 true) L i 0 j2 e2 (lf 0 0 0 em)) := ne_fail HL.out HS2.out (by omega) he2
      have hr6 : r ≠ g6 := by have := HOd.out.l6; have := HOd.out.r; omega
      have h6 := HOd.out.l6
      obtain ⟨C, hC⟩ : ∃ C : World → Prop, C = fun w' => w'.cell? ⟨r, 2, none⟩ = some (.int .i64 e2) := ⟨_, rfl⟩
      have CN : Hid (∀ w', C w' → w'.cell? ⟨r, 2, none⟩ = some (.int .i64 e2)) := fun w' h => by rw [hC] at h; exact h
      have CI : Hid (∀ w', w'.cell? ⟨r, 2, none⟩ = some (.int .i64 e2) → C w') := fun w' h => by rw [hC]; exact h
      have D0 : Hid (Below w7.heap.size w7 { w7 with drawn := w7.drawn + 1 }) := Below.drew (Below.refl _ _)
      have HKv : Hid (NI w3.heap.size g6 g8 r ab cb L W 9 { w7 with drawn := w7.drawn + 1 } j2 e2 (ns ++ [s]) f vn' vk cs Lf) := HK7.out.below D0.out
      have C0 : Hid (C { w7 with drawn := w7.drawn + 1 }) := CI.out _ (HKv.out.ro.blk.cell 2)
      clear hC HK7 D0
      go_wp2
      clear cr2
      refine region_calm C 6 (by kernel_rfl) ?_
      have hCp : ∀ p : Prop, (∀ W, C W → p) ↔ p := fun p => ⟨fun h => h _ C0.out, fun h _ _ => h⟩
      generalize ({ w7 with drawn := w7.drawn + 1 } : World) = v0 at *
      refine seg 2 [0, 1, 2, 3, 4] rfl (by kernel_rfl) whole_blind C0.out (by kernel_rfl) ?_
      change wpQuiet _ _ _ _ (_ :: _ :: _ :: _ :: _ :: []) _
      repeat (first
        | go_big_quiet_skip
        | (go_big_quiet_want
           first
           | (refine q_nil (.tmp 42) rfl r 0 rfl ?_
              simp only [Act.put, List.setIfInBounds_toArray, List.set_cons_zero, List.set_cons_succ]
              go_big_quiet_on)
           | (refine q_fld 2 (.inr rfl) (.tmp 43) rfl r rfl ?_
              simp only [Act.put, List.setIfInBounds_toArray, List.set_cons_zero, List.set_cons_succ]
              go_big_quiet_on)
           | (refine q_one 29 (.inr (.inr (.inr (.inr (.inr rfl))))) (.tmp 44) rfl r 2 rfl _ CN.out ?_
              simp only [Act.put, List.setIfInBounds_toArray, List.set_cons_zero, List.set_cons_succ]
              go_big_quiet_on)
           | (go_big_quiet_op
              go_big_quiet_on)))
      refine wpQuiet_nil ?_
      refine lone_do (i := 5) 1 rfl (by kernel_rfl) rfl (by rfl) ?_
      intro K hK
      refine oper_sta 41 (.tmp 6) (.tmp 41) rfl rfl g6 41 zer zer rfl rfl HKv.out.b6 rfl s25 (by simp [zer, Value.oneCell']) ?_
      intro v3 b3 gr3
      have HB3 : Hid (Blk v3 g6 41 zer) := b3
      have HVo : Hid (Vo (neR d 9 true) r ab cb L W v3 i 0 (lf 0 0 0 em) none 0 none 0 j2 e2 e2) :=
        ⟨ro_grown HKv.out.ro gr3 (fun x c => by injection c with c; omega), ⟨[], vl_lf v3 0 0 0 em, by simp⟩, wf_lf 0 0 0 em (by omega) (by omega) (by omega) (by decide), HST.out, fun h => absurd h he2⟩
      have c3 : C v3 := CI.out _ (HVo.out.ro.blk.cell 2)
      clear b3 gr3 HKv
      refine hK _ _ c3 ?_
      simp only [Act.put, List.setIfInBounds_toArray, List.set_cons_zero, List.set_cons_succ]
      have hCq : ∀ p : Prop, (∀ W, C W → p) ↔ p := fun p => ⟨fun h => h _ c3, fun h _ _ => h⟩
      refine lone_calm (i := 6) 0 rfl (by kernel_rfl) rfl rfl c3 ?_
      go_big_quiet_want
      go_big_quiet_op
      go_big_quiet_on
      refine wpQuiet_nil ?_
      refine anyC_done (by kernel_rfl) ⟨rfl, ?_⟩
      clear c3 hCq CN CI
      go_wp2
      refine bodyPost_ret (res_two rfl _ g6 41 _ _ rfl HB3.out Tryz.underlying41 rfl s25) rfl ?_
      exact ⟨lf 0 0 0 em, none, 0, none, 0, j2, e2, e2, rfl, HVo.out⟩
    subst he2
    have hjk : j2 ≤ 65536 := by
      have h1 : e1 = 0 := by
        rcases HQs.out with ⟨a, _, c⟩ | ⟨a, _⟩
        · exact absurd c.symm a
        · exact a
      subst h1
      exact kid_at (kid_sm HE.out.oct HSn2.out hlt (st_ok HS.out) (HTx.out (by first | rfl | trivial))) (st_ok HQs.out) HK7.out.ro.le
    obtain ⟨E, HEq⟩ : ∃ E, Hid ((if rf ≠ 0 then rf else rfk) = E) := ⟨_, rfl⟩
    have KO := or_lit rf rfk w7
    rw [HEq.out] at KO
    obtain ⟨w8, HW8⟩ : ∃ w8, Hid (w7.alloc (.cells #[.int .i64 rf, .int .i64 rfk] 29) = w8) := ⟨_, rfl⟩
    rw [HW8.out] at KO
    have G8 : Hid (Below w7.heap.size w7 w8) := by rw [← HW8.out]; exact (Below.refl _ _).alloc (Nat.le_refl _) _
    go_wp2_with fail
    generalize hWW : World.alloc w7 _ = W9
    obtain rfl : w8 = W9 := by rw [← hWW, ← HW8.out]
    clear hWW HW8
    refine KO.mono ?_
    clear KO cr2
    rintro _ w8x ⟨rfl, hw8⟩
    obtain rfl : w8 = w8x := hw8.symm
    clear hw8
    have HK8 : Hid (NI w3.heap.size g6 g8 r ab cb L W 9 w8 j2 0 (ns ++ [s]) f vn' vk cs Lf) := HK7.out.below G8.out
    have HB8 : Hid (Blk w8 g11 41 (six q.1 na nc ka q.2.list.length kc)) := HB7.out.below G8.out HB7.out.lt
    have HQ8 : Hid (∃ Lq, VlL w8 q na nc ka kc Lq ∧ ∀ x ∈ Lq, w3.heap.size ≤ x ∧ x < w8.heap.size ∧ vn'.ownBlock ≠ some x ∧ vk.ownBlock ≠ some x) := by
      obtain ⟨Lq, a1, a2⟩ := HQ7.out
      refine ⟨Lq, a1.keep fun x hx => G8.out.block x (a2 x hx).2.1, fun x hx => ?_⟩
      obtain ⟨h1, h2, h3, h4⟩ := a2 x hx
      have := G8.out.size
      exact ⟨h1, by omega, h3, h4⟩
    clear G8 HK7 HB7 HQ7
    have cr1 : w8.cell? ⟨r, 1, none⟩ = some (.int .i64 (j2 : Int)) := HK8.out.ro.blk.cell 1
    have hjb : decide ((j2 : Int) ≤ 65536) = true := by simp; omega
    have ck5 : w8.cell? ⟨g8, 5, none⟩ = some vk := HK8.out.b8.cell 5
    have c0 : w8.cell? ⟨g11, 0, none⟩ = some (.int .i64 q.1.k) := HB8.out.cell 0
    have c1 : w8.cell? ⟨g11, 1, none⟩ = some (.int .i64 q.1.n) := HB8.out.cell 1
    have c2 : w8.cell? ⟨g11, 2, none⟩ = some (.int .i64 q.1.s) := HB8.out.cell 2
    have c3 : w8.cell? ⟨g11, 3, none⟩ = some (.string q.1.t) := HB8.out.cell 3
    have c4 : w8.cell? ⟨g11, 4, none⟩ = some (.slice na q.1.ns.length nc) := HB8.out.cell 4
    have c5 : w8.cell? ⟨g11, 5, none⟩ = some (.slice ka q.2.list.length kc) := HB8.out.cell 5
    obtain ⟨w9, HW9⟩ : ∃ w9, Hid (w8.alloc (.cells #[.int .i64 q.1.k, .int .i64 q.1.n, .int .i64 q.1.s, .string q.1.t, .slice na q.1.ns.length nc, .slice ka q.2.list.length kc] 41) = w9) := ⟨_, rfl⟩
    have G9 : Hid (Below w8.heap.size w8 w9) := by rw [← HW9.out]; exact (Below.refl _ _).alloc (Nat.le_refl _) _
    have hz9 : w9.heap.size = w8.heap.size + 1 := by have := HW9.out; subst this; simp
    have HK9 : Hid (NI w3.heap.size g6 g8 r ab cb L W 9 w9 j2 0 (ns ++ [s]) f vn' vk cs Lf) := HK8.out.below G9.out
    have HC9 : Hid (∀ j u, (six q.1 na nc ka q.2.list.length kc)[j]? = some u → w9.cell? ⟨w8.heap.size, j, none⟩ = some u) := fun j u hj => by
      rw [← HW9.out, World.cell?_alloc_new]
      show (six q.1 na nc ka q.2.list.length kc).toArray[j]? = some u
      rw [List.getElem?_toArray]
      exact hj
    have hbase : w3.heap.size ≤ w9.heap.size := HK9.out.sz
    go_wp2_with (at_builtin; go_must (generalize hWW : World.alloc w8 _ = W9; obtain rfl : w9 = W9 := (by rw [← hWW, ← HW9.out]); clear hWW HW9; refine app_kids rfl (.tmp 56) (.tmp 58) rfl w3.heap.size vk f.list.length cs rfl HK9.out.kd w8.heap.size 1 1 (six q.1 na nc ka q.2.list.length kc) rfl rfl HC9.out (six_one _ _ _ _ _ _) (by omega) hbase ?_))
    intro vk' w10 o10 g10 a10
    have HB10 : Hid (Blk w10 g8 41 [.int .i64 9, .int .i64 0, .int .i64 0, .string ⟨#[]⟩, vn', vk]) := HK9.out.b8.kept g10 (fun c => by have := (World.ownsRow.lt HK9.out.kd _ c.symm).1; have := HOd.out.lB; omega)
    have HO10 : Hid (w10.ownsRow w3.heap.size 41 6 vk' (f.list.length + 1) (cs ++ six q.1 na nc ka q.2.list.length kc)) := by first | exact o10 | (show World.ownsRow _ _ _ _ _ _ _; rw [hfl]; exact o10)
    have HG10 : Hid (w9.grownBy w10 vk.ownBlock) := g10
    have HA10 : Hid (vk'.ownBlock = vk.ownBlock ∨ vk'.ownBlock = some w9.heap.size) := by first | exact a10 | (show _ ∨ _; rw [hz9]; exact a10)
    obtain ⟨hcel, hone⟩ : vk'.cells = #[vk'] ∧ vk'.oneCell' = true := by
      rcases o10 with ⟨_, ⟨h, _⟩ | ⟨_, _, _, h, _⟩⟩ <;> subst h <;> exact ⟨rfl, rfl⟩
    clear o10 g10 a10 c0 c1 c2 c3 c4 c5 ck5 cr1 HC9
    go_wp2_with (refine st_one rfl 39 (.tmp 60) (.tmp 59) rfl g8 5 41 _ vk' rfl rfl hcel hone (by simp) HB10.out s23 ?_)
    intro w11 b11 g11x
    have HKn : Hid (∃ Lf', NI w3.heap.size g6 g8 r ab cb L W 9 w11 j2 0 (ns ++ [s]) (f.snoc q) vn' vk' (cs ++ six q.1 na nc ka q.2.list.length kc) Lf') := by
      obtain ⟨Lq, a1, a2⟩ := HQ8.out
      exact ⟨Lf ++ Lq, HK8.out.kid HOd.out a1 a2 G9.out HG10.out HO10.out HA10.out b11 g11x⟩
    have HFn : Hid (E = chk0 (f.snoc q) ∧ Wf (f.snoc q) ∧ (f.snoc q).list.length = m + 1 ∧ (∀ x ∈ (ns ++ [s]), x.size ≤ 65536) ∧ ((ns ++ [s])).length ≤ m + 1) := by
      refine ⟨?_, wf_snoc HQw.out.1 HF.out.2.1, by rw [snoc_list, List.length_append, hfl]; rfl, ?_, ?_⟩
      · rw [← HEq.out, chk0_snoc, HF.out.1, HQw.out.2 (by first | rfl | trivial)]
      · intro x hx
        rcases List.mem_append.1 hx with hx | hx
        · exact HF.out.2.2.2.1 x hx
        · simp at hx
          subst hx
          exact hs
      · rw [List.length_append]
        have := HF.out.2.2.2.2
        simp
        omega
    clear b11 g11x HB10 HO10 HG10 HA10 HK9 HK8 HB8 HQ8 G9 HQw HQs HF HS hcel hone HTx
    go_wp2
    go_roundw
    case rel =>
      obtain ⟨Lf', hk⟩ := HKn.out
      exact ⟨m + 1, j2, 0, E, _, f.snoc q, _, vk', _, Lf', by omega, rfl, by go_num, hk, HS2.out, fun _ => rfl, HFn.out⟩
    case measure => simp [intOf]; omega
end Go.Proofs.YtmbglggodifboaaGreatDoor
