/-
  The document's own reader of order: number.
-/
import Derived.Test.YtmlfhplhiedfjaaGreatDoorOVo
import Derived.Test.YtmlfhplhiedfjaaGreatDoorOG24x
import Derived.Test.YtmlfhplhiedfjaaGreatDoorOUg
import Derived.Test.YtmlfhplhiedfjaaGreatDoorOG38x
namespace Go.Proofs.YtmlfhplhiedfjaaGreatDoor
open Go.RowKit Math
set_option linter.unusedVariables false
set_option linter.unusedSimpArgs false
theorem Kr.kept {t : TypeId} {r : Nat} {W w1 w2 : World} {rc : List Value} {g : Nat} (h : Kr t r W w1 rc) (k : w1.grownBy w2 (some g)) (hg : W.heap.size ≤ g) (hr : r < W.heap.size) : Kr t r W w2 rc := kr_grown h k (fun x c => by injection c with c; omega)
theorem Kr.new {t : TypeId} {r : Nat} {W w1 w2 : World} {rc : List Value} (h : Kr t r W w1 rc) (k : w1.grownBy w2 none) : Kr t r W w2 rc := kr_grown h k (fun x c => by cases c)
/-- What a number's digits come to. -/
theorem dk_fin {l l' : List Nat} {bad neg b' : Bool} {c : Nat} {D : List Nat} (h : Dk l bad neg c l' b' D) (hb : bad = false) {x : Hd} {m : List Nat} (H : NumOk x) (hl : l = numB x.n x.s ++ m) :
    b' = false ∧ decide (x.n < 0) = neg ∧ l' = m ∧ vD D * 10 ^ nou c D = x.n.natAbs ∧ (D.length : Int) + (nou c D : Int) - ((c : Int) - 192) = x.s ∧ D.length + nou c D ≤ 19 ∧ x.n.natAbs ≠ 0 := by
  obtain ⟨k0, k1, k2, k3, k4, k5⟩ := h hb x m H hl
  obtain ⟨n0, n1, s0, s1, hr, _⟩ := num_parts H
  obtain ⟨a1, a2, a3⟩ := ky_val x.n.natAbs x.s (by omega) (by omega) s0 s1 hr
  rw [k4, ← k3] at a1 a2 a3
  exact ⟨k0, k2, k5, a1, a2, a3, by omega⟩
set_option maxRecDepth 8000 in
set_option maxHeartbeats 8000000 in
theorem rnumber_any (r : Nat) (s : ByteArray) (bad : Bool) (W : World) (hN : s.size ≤ 1000000) (hb : Blk W r 62 (QC s bad)) :
    Calls Tryz.prog 48 #[.pointer (some ⟨r, 0, none⟩)] W fun e w' => ∃ h s' bad', e = .returned (.agg #[.int .i64 h.k, .int .i64 h.n, .int .i64 h.s, .string ⟨#[]⟩, .slice none 0 0, .slice none 0 0]) ∧ Hid (Kq r W w' s' bad' ∧ NuH h ∧ RdM (bts s) bad (bts s') bad' h ∧ s'.size ≤ s.size) := by
  have hrW : r < W.heap.size := hb.lt
  have HB : Hid (Blk W r 62 (QC s bad)) := hb
  clear hb
  go_enter Tryz.func48, Tryz.ntmps48
  go_wp2_with (refine al_zero rfl 38 rfl zer zV ?_)
  intro gv w0 hgv b0 g0
  have HK0 : Hid (Kq r W w0 s bad) := ⟨HB.out.kept g0 (by simp), ⟨g0.os, g0.tape, g0.output, g0.size, fun x hx hne => g0.block x hx (by simp)⟩⟩
  have HV0 : Hid (Blk w0 gv 38 zer) := b0
  clear b0 g0 HB
  have K := one_any r s bad w0 hN HK0.out.blk
  go_wp2_with fail
  refine K.mono ?_
  rintro e w1 ⟨x, s1, b1, rfl, H1⟩
  have HK1 : Hid (Kq r W w1 s1 b1) := HK0.out.trans H1.out.1
  have HV1 : Hid (Blk w1 gv 38 zer) := HV0.out.kept H1.out.1.gr (by intro e; injection e with e; omega)
  have HR1 : Hid (Rb (bts s) bad (bts s1) b1 x) := H1.out.2.1
  have hx : x < 256 := H1.out.2.2.1
  have HS1 : Hid (s1.size ≤ s.size) := H1.out.2.2.2.1
  clear K H1 HK0 HV0
  by_cases h128 : x = 128
  · subst h128
    have HRd : Hid (RdM (bts s) bad (bts s1) b1 ⟨3, 0, 0, ⟨#[]⟩, []⟩) := by
      refine ⟨HR1.out.suf, fun h => ⟨(HR1.out.so h).1, fun f => f.elim⟩, fun hb h m H hl => ?_⟩
      by_cases hn : h.n = 0
      · rw [zero_num H hn] at hl ⊢
        obtain ⟨r1, _, r3⟩ := HR1.out.co hb 128 m trivial hl
        exact ⟨r1, rfl, r3⟩
      · exfalso
        obtain ⟨x', D', e1, e2, _⟩ := numB_shape H hn
        rw [e1] at hl
        exact e2 (HR1.out.co hb x' _ trivial hl).2.1.symm
    clear HR1
    go_wp2_with (refine st_all rfl 38 (.tmp 2) (.tmp 17) rfl gv 38 zer [.int .i64 3, .int .i64 0, .int .i64 0, .string ⟨#[]⟩, .slice none 0 0, .slice none 0 0] rfl rfl HV1.out rfl sV (D6.ones rfl) ?_)
    intro wz bz gz
    have HBz : Hid (Blk wz gv 38 [.int .i64 3, .int .i64 0, .int .i64 0, .string ⟨#[]⟩, .slice none 0 0, .slice none 0 0]) := bz
    have HKz : Hid (Kq r W wz s1 b1) := HK1.out.kept gz hgv hrW
    clear bz gz HV1 HK1
    go_wp2
    exact bodyPost_ret (D6.res_row rfl _ gv 38 _ _ rfl HBz.out Tryz.underlying38 rfl sV) rfl ⟨⟨3, 0, 0, ⟨#[]⟩, []⟩, s1, b1, rfl, HKz.out, nuH3, HRd.out, HS1.out⟩
  by_cases hxb : x < 128
  case pos =>
    have hxd : decide ((x : Int) < 128) = true := by simp; omega
    have hne : ((x : Int) == 128) = false := beq_eq_false_iff_ne.2 (by omega)
    have HDn : Hid (Dn (bts s) bad true (255 - x) (bts s1) b1 []) := by
      have := Dn.start HR1.out (by omega) hx
      rw [decide_eq_true hxb] at this
      exact this
    have HX := xor_u8 x hx
    have hc2 : (255 - x) < 256 := by omega
    obtain ⟨cc, hcc⟩ : ∃ cc : Nat, cc = (255 - x) := ⟨_, rfl⟩
    rw [← hcc] at HDn hc2
    rw [← hcc] at HX
    clear HR1
    clear hcc
    go_wp2
    go_loopw [6, 7, 8] (fun nv kv _ wr => ∃ (nn : Nat) (D : List Nat) (sk : ByteArray) (bk : Bool), nv = .int .u64 (nn : Int) ∧ kv = .int .i64 (D.length : Int) ∧ nn < 18446744073709551616 ∧ D.length ≤ 19 ∧ Hid (Kq r W wr sk bk ∧ Blk wr gv 38 zer ∧ Dn (bts s) bad true cc (bts sk) bk D ∧ nn = vD D ∧ sk.size ≤ s.size)) (fun _ _ _ wr => lft r wr)
    case atStart => exact ⟨0, [], s1, b1, rfl, rfl, by omega, by simp, HK1.out, HV1.out, HDn.out, rfl, HS1.out⟩
    case round =>
      clear HK1 HV1 HDn HS1
      obtain ⟨nn, D, sk, bk, rfl, rfl, hnn, hD, HJ⟩ := hrel
      have HK : Hid (Kq r W wr sk bk) := HJ.out.1
      have HV : Hid (Blk wr gv 38 zer) := HJ.out.2.1
      have HD : Hid (Dn (bts s) bad true cc (bts sk) bk D) := HJ.out.2.2.1
      have HNv : Hid (nn = vD D) := HJ.out.2.2.2.1
      have HSk : Hid (sk.size ≤ s.size) := HJ.out.2.2.2.2
      have c1 : wr.cell? ⟨r, 1, none⟩ = some (.bool bk) := HK.out.blk.cell 1
      have HLf : Hid (lft r wr = if bk then 0 else sk.size + 1) := lft_of HK.out.blk
      clear HJ
      cases bk with
      | true =>
        obtain ⟨sx, hsx⟩ : ∃ sx, sx = sk := ⟨_, rfl⟩
        have HRd : Hid (RdM (bts s) bad (bts sx) true h0) := by rw [hsx]; exact HD.out.bad _
        have HSx : Hid (sx.size ≤ s.size) := by rw [hsx]; exact HSk.out
        subst hsx
        clear HD HNv HSk HLf
        go_wp2
        go_loop [6, 7] (fun nv kv => nv = .int .u64 (nn : Int) ∧ kv = .int .i64 (D.length : Int)) (fun _ _ => 0)
        case atStart => exact ⟨rfl, rfl⟩
        case round =>
          obtain ⟨rfl, rfl⟩ := hrel
          by_cases hek : (D.length : Int) < (cc : Int) - 192
          · have hekb : decide ((D.length : Int) < (cc : Int) - 192) = true := decide_eq_true hek
            go_wp2_with (refine st_one rfl 4 (.tmp 120) (.const (.bool true)) rfl r 1 62 _ (.bool true) rfl rfl rfl rfl (by simp) HK.out.blk s4 ?_)
            intro w9 b9 g9
            have HK9 : Hid (Kq r W w9 sx true) := ⟨b9, HK.out.gr.trans g9⟩
            have HV9 : Hid (Blk w9 gv 38 zer) := HV.out.kept g9 (by intro e; injection e with e; omega)
            clear b9 g9 HK HV
            go_wp2_with (refine st_all rfl 38 (.tmp 2) (.tmp 121) rfl gv 38 zer [.int .i64 0, .int .i64 0, .int .i64 0, .string ⟨#[]⟩, .slice none 0 0, .slice none 0 0] rfl rfl HV9.out rfl sV (D6.ones rfl) ?_)
            intro wz bz gz
            have HBz : Hid (Blk wz gv 38 [.int .i64 0, .int .i64 0, .int .i64 0, .string ⟨#[]⟩, .slice none 0 0, .slice none 0 0]) := bz
            have HKz : Hid (Kq r W wz sx true) := HK9.out.kept gz hgv hrW
            clear bz gz HV9 HK9
            go_wp2
            exact bodyPost_ret (D6.res_row rfl _ gv 38 _ _ rfl HBz.out Tryz.underlying38 rfl sV) rfl ⟨h0, sx, true, rfl, HKz.out, nuH0, HRd.out, HSx.out⟩
          · have hekb : decide ((D.length : Int) < (cc : Int) - 192) = false := decide_eq_false hek
            go_wp2_with (refine st_one rfl 4 (.tmp 120) (.const (.bool true)) rfl r 1 62 _ (.bool true) rfl rfl rfl rfl (by simp) HK.out.blk s4 ?_)
            intro w9 b9 g9
            have HK9 : Hid (Kq r W w9 sx true) := ⟨b9, HK.out.gr.trans g9⟩
            have HV9 : Hid (Blk w9 gv 38 zer) := HV.out.kept g9 (by intro e; injection e with e; omega)
            clear b9 g9 HK HV
            go_wp2_with (refine st_all rfl 38 (.tmp 2) (.tmp 121) rfl gv 38 zer [.int .i64 0, .int .i64 0, .int .i64 0, .string ⟨#[]⟩, .slice none 0 0, .slice none 0 0] rfl rfl HV9.out rfl sV (D6.ones rfl) ?_)
            intro wz bz gz
            have HBz : Hid (Blk wz gv 38 [.int .i64 0, .int .i64 0, .int .i64 0, .string ⟨#[]⟩, .slice none 0 0, .slice none 0 0]) := bz
            have HKz : Hid (Kq r W wz sx true) := HK9.out.kept gz hgv hrW
            clear bz gz HV9 HK9
            go_wp2
            exact bodyPost_ret (D6.res_row rfl _ gv 38 _ _ rfl HBz.out Tryz.underlying38 rfl sV) rfl ⟨h0, sx, true, rfl, HKz.out, nuH0, HRd.out, HSx.out⟩
      | false =>
        have K := one_any r sk false wr (by have := HSk.out; omega) HK.out.blk
        go_wp2_with fail
        refine K.mono ?_
        rintro e w2 ⟨y, s2, b2, rfl, H2⟩
        have HK2 : Hid (Kq r W w2 s2 b2) := HK.out.trans H2.out.1
        have HV2 : Hid (Blk w2 gv 38 zer) := HV.out.kept H2.out.1.gr (by intro e; injection e with e; omega)
        have HR2 : Hid (Rb (bts sk) false (bts s2) b2 y) := H2.out.2.1
        have hy : y < 256 := H2.out.2.2.1
        have HS2 : Hid (s2.size ≤ s.size) := Nat.le_trans H2.out.2.2.2.1 HSk.out
        have HYz : Hid (b2 = true → y = 0) := H2.out.2.2.2.2
        obtain ⟨sx, hsx⟩ : ∃ sx, sx = s2 := ⟨_, rfl⟩
        have HSx : Hid (sx.size ≤ s.size) := by rw [hsx]; exact HS2.out
        have HSf : Hid (∃ e, (bts s) = e ++ bts sx) := by rw [hsx]; exact suf_trans HD.out.suf HR2.out.suf
        subst hsx
        have HBd : Hid (bad = false) := HD.out.so rfl
        clear K H2 HK HV c1 HS2
        obtain ⟨d, hd⟩ : ∃ d : Nat, tn true y = d := ⟨_, rfl⟩
        have hd2 : d < 256 := by rw [← hd]; exact tn_lt _ _ hy
        have hdv : 255 - y = d := by rw [← hd]; rfl
        have HXy := xor_u8 y hy
        rw [hdv] at HXy
        have HTd : Hid (tn true y = d) := hd
        clear hd
        clear hdv
        by_cases hd0 : d = 0
        case neg =>
          have hdb : ((d : Int) == 0) = false := beq_eq_false_iff_ne.2 (by omega)
          obtain ⟨hDn2, hDv2⟩ := HD.out.digit HR2.out hy HTd.out hd0
          have HD2 : Hid (Dn (bts s) bad true cc (bts sx) b2 (D ++ [d])) := hDn2
          have HDv : Hid (bad = false → ∀ h m, NumOk h → (bts s) = numB h.n h.s ++ m → d ≤ 10 ∧ ∃ u, kyD h.n.natAbs = D ++ d :: u) := hDv2
          have HD1 : Hid (Dn (bts s) bad true cc (bts sk) false D) := HD.out
          have HLs : Hid (b2 = false → sx.size + 1 ≤ sk.size) := fun e => by
            subst e
            have := rb_len1 HR2.out
            rw [bts_len, bts_len] at this
            exact this
          clear hDn2 hDv2 HD HR2 HTd
          by_cases hbig : 10 < d ∨ 19 < D.length + 1 ∨ 1844674407370955160 < nn
          · have HRd : Hid (RdM (bts s) bad (bts sx) true h0) := rdM_no HSf.out (fun hb h m H hl => by
              obtain ⟨a1, u, a2⟩ := HDv.out hb h m H hl
              obtain ⟨_, hn0, _⟩ := HD1.out.co hb h m H hl
              obtain ⟨b1', b2'⟩ := ky_small H hn0 a2
              rw [List.length_cons, Nat.pow_succ, ← HNv.out] at b2'
              have : nn * 10 ≤ nn * (10 ^ u.length * 10) := Nat.mul_le_mul_left _ (by have := Nat.one_le_pow u.length 10 (by decide); omega)
              rw [List.length_cons] at b1'
              omega) h0
            clear HDv HD1 HD2 HNv HLs
            by_cases q1 : 10 < d
            · have q1b : decide ((10 : Int) < (d : Int)) = true := decide_eq_true (by omega)
              go_wp2_with (refine st_one rfl 4 (.tmp 52) (.const (.bool true)) rfl r 1 62 _ (.bool true) rfl rfl rfl rfl (by simp) HK2.out.blk s4 ?_)
              intro w9 b9 g9
              have HK9 : Hid (Kq r W w9 sx true) := ⟨b9, HK2.out.gr.trans g9⟩
              have HV9 : Hid (Blk w9 gv 38 zer) := HV2.out.kept g9 (by intro e; injection e with e; omega)
              clear b9 g9 HK2 HV2
              go_wp2_with (refine st_all rfl 38 (.tmp 2) (.tmp 53) rfl gv 38 zer [.int .i64 0, .int .i64 0, .int .i64 0, .string ⟨#[]⟩, .slice none 0 0, .slice none 0 0] rfl rfl HV9.out rfl sV (D6.ones rfl) ?_)
              intro wz bz gz
              have HBz : Hid (Blk wz gv 38 [.int .i64 0, .int .i64 0, .int .i64 0, .string ⟨#[]⟩, .slice none 0 0, .slice none 0 0]) := bz
              have HKz : Hid (Kq r W wz sx true) := HK9.out.kept gz hgv hrW
              clear bz gz HV9 HK9
              go_wp2
              exact bodyPost_ret (D6.res_row rfl _ gv 38 _ _ rfl HBz.out Tryz.underlying38 rfl sV) rfl ⟨h0, sx, true, rfl, HKz.out, nuH0, HRd.out, HSx.out⟩
            have q1b : decide ((10 : Int) < (d : Int)) = false := decide_eq_false (by omega)
            by_cases q2 : 19 < D.length + 1
            · have q2b : decide ((19 : Int) < (D.length : Int) + 1) = true := decide_eq_true (by omega)
              go_wp2_with (refine st_one rfl 4 (.tmp 52) (.const (.bool true)) rfl r 1 62 _ (.bool true) rfl rfl rfl rfl (by simp) HK2.out.blk s4 ?_)
              intro w9 b9 g9
              have HK9 : Hid (Kq r W w9 sx true) := ⟨b9, HK2.out.gr.trans g9⟩
              have HV9 : Hid (Blk w9 gv 38 zer) := HV2.out.kept g9 (by intro e; injection e with e; omega)
              clear b9 g9 HK2 HV2
              go_wp2_with (refine st_all rfl 38 (.tmp 2) (.tmp 53) rfl gv 38 zer [.int .i64 0, .int .i64 0, .int .i64 0, .string ⟨#[]⟩, .slice none 0 0, .slice none 0 0] rfl rfl HV9.out rfl sV (D6.ones rfl) ?_)
              intro wz bz gz
              have HBz : Hid (Blk wz gv 38 [.int .i64 0, .int .i64 0, .int .i64 0, .string ⟨#[]⟩, .slice none 0 0, .slice none 0 0]) := bz
              have HKz : Hid (Kq r W wz sx true) := HK9.out.kept gz hgv hrW
              clear bz gz HV9 HK9
              go_wp2
              exact bodyPost_ret (D6.res_row rfl _ gv 38 _ _ rfl HBz.out Tryz.underlying38 rfl sV) rfl ⟨h0, sx, true, rfl, HKz.out, nuH0, HRd.out, HSx.out⟩
            have q2b : decide ((19 : Int) < (D.length : Int) + 1) = false := decide_eq_false (by omega)
            have q3b : decide ((1844674407370955160 : Int) < (nn : Int)) = true := decide_eq_true (by omega)
            go_wp2_with (refine st_one rfl 4 (.tmp 52) (.const (.bool true)) rfl r 1 62 _ (.bool true) rfl rfl rfl rfl (by simp) HK2.out.blk s4 ?_)
            intro w9 b9 g9
            have HK9 : Hid (Kq r W w9 sx true) := ⟨b9, HK2.out.gr.trans g9⟩
            have HV9 : Hid (Blk w9 gv 38 zer) := HV2.out.kept g9 (by intro e; injection e with e; omega)
            clear b9 g9 HK2 HV2
            go_wp2_with (refine st_all rfl 38 (.tmp 2) (.tmp 53) rfl gv 38 zer [.int .i64 0, .int .i64 0, .int .i64 0, .string ⟨#[]⟩, .slice none 0 0, .slice none 0 0] rfl rfl HV9.out rfl sV (D6.ones rfl) ?_)
            intro wz bz gz
            have HBz : Hid (Blk wz gv 38 [.int .i64 0, .int .i64 0, .int .i64 0, .string ⟨#[]⟩, .slice none 0 0, .slice none 0 0]) := bz
            have HKz : Hid (Kq r W wz sx true) := HK9.out.kept gz hgv hrW
            clear bz gz HV9 HK9
            go_wp2
            exact bodyPost_ret (D6.res_row rfl _ gv 38 _ _ rfl HBz.out Tryz.underlying38 rfl sV) rfl ⟨h0, sx, true, rfl, HKz.out, nuH0, HRd.out, HSx.out⟩
          · have q1b : decide ((10 : Int) < (d : Int)) = false := decide_eq_false (by omega)
            have q2b : decide ((19 : Int) < (D.length : Int) + 1) = false := decide_eq_false (by omega)
            have q3b : decide ((1844674407370955160 : Int) < (nn : Int)) = false := decide_eq_false (by omega)
            obtain ⟨n2, hn2⟩ : ∃ n2 : Nat, n2 = nn * 10 + (d - 1) := ⟨_, rfl⟩
            have HN2 : Hid (n2 = vD (D ++ [d]) ∧ n2 = nn * 10 + (d - 1) ∧ n2 < 18446744073709551616 ∧ (D ++ [d]).length = D.length + 1) := ⟨by rw [hn2, vD_snoc, HNv.out], hn2, by omega, by simp⟩
            have HM2 : Hid (lft r w2 < sk.size + 1) := by
              show _ < _
              rw [lft_of HK2.out.blk]
              cases b2 with
              | true => simp
              | false => have := HLs.out rfl; simp; omega
            clear hn2 HDv HD1 HNv HLs HYz
            go_wp2
            go_roundw
            case rel =>
              obtain ⟨e1, e2, e3, e4⟩ := HN2.out
              exact ⟨n2, D ++ [d], sx, b2, (by congr 1; first | (simp only [IntKind.wrap_u64, IntKind.wrap_u8]; omega) | omega), (by rw [e4]; go_num), e3, (by rw [e4]; omega), HK2.out, HV2.out, HD2.out, e1, HSx.out⟩
            case measure =>
              have := HM2.out
              rw [HLf.out]
              simpa using this
        have HDk : Hid (Dk (bts s) bad true cc (bts sx) b2 D) := HD.out.last HR2.out hy (by rw [HTd.out, hd0])
        have hdb : ((d : Int) == 0) = true := by rw [hd0]; rfl
        have d1 : w2.cell? ⟨r, 1, none⟩ = some (.bool b2) := HK2.out.blk.cell 1
        clear HD HR2 HTd HYz HLf
        cases b2 with
        | true =>
          have HRd : Hid (RdM (bts s) bad (bts sx) true h0) := rdM_no HSf.out (fun hb h m H hl => by have := (HDk.out hb h m H hl).1; cases this) h0
          clear HDk HNv
          go_wp2
          go_loop [6, 7] (fun nv kv => nv = .int .u64 (nn : Int) ∧ kv = .int .i64 (D.length : Int)) (fun _ _ => 0)
          case atStart => exact ⟨rfl, rfl⟩
          case round =>
            obtain ⟨rfl, rfl⟩ := hrel
            by_cases hek : (D.length : Int) < (cc : Int) - 192
            · have hekb : decide ((D.length : Int) < (cc : Int) - 192) = true := decide_eq_true hek
              go_wp2_with (refine st_one rfl 4 (.tmp 120) (.const (.bool true)) rfl r 1 62 _ (.bool true) rfl rfl rfl rfl (by simp) HK2.out.blk s4 ?_)
              intro w9 b9 g9
              have HK9 : Hid (Kq r W w9 sx true) := ⟨b9, HK2.out.gr.trans g9⟩
              have HV9 : Hid (Blk w9 gv 38 zer) := HV2.out.kept g9 (by intro e; injection e with e; omega)
              clear b9 g9 HK2 HV2
              go_wp2_with (refine st_all rfl 38 (.tmp 2) (.tmp 121) rfl gv 38 zer [.int .i64 0, .int .i64 0, .int .i64 0, .string ⟨#[]⟩, .slice none 0 0, .slice none 0 0] rfl rfl HV9.out rfl sV (D6.ones rfl) ?_)
              intro wz bz gz
              have HBz : Hid (Blk wz gv 38 [.int .i64 0, .int .i64 0, .int .i64 0, .string ⟨#[]⟩, .slice none 0 0, .slice none 0 0]) := bz
              have HKz : Hid (Kq r W wz sx true) := HK9.out.kept gz hgv hrW
              clear bz gz HV9 HK9
              go_wp2
              exact bodyPost_ret (D6.res_row rfl _ gv 38 _ _ rfl HBz.out Tryz.underlying38 rfl sV) rfl ⟨h0, sx, true, rfl, HKz.out, nuH0, HRd.out, HSx.out⟩
            · have hekb : decide ((D.length : Int) < (cc : Int) - 192) = false := decide_eq_false hek
              go_wp2_with (refine st_one rfl 4 (.tmp 120) (.const (.bool true)) rfl r 1 62 _ (.bool true) rfl rfl rfl rfl (by simp) HK2.out.blk s4 ?_)
              intro w9 b9 g9
              have HK9 : Hid (Kq r W w9 sx true) := ⟨b9, HK2.out.gr.trans g9⟩
              have HV9 : Hid (Blk w9 gv 38 zer) := HV2.out.kept g9 (by intro e; injection e with e; omega)
              clear b9 g9 HK2 HV2
              go_wp2_with (refine st_all rfl 38 (.tmp 2) (.tmp 121) rfl gv 38 zer [.int .i64 0, .int .i64 0, .int .i64 0, .string ⟨#[]⟩, .slice none 0 0, .slice none 0 0] rfl rfl HV9.out rfl sV (D6.ones rfl) ?_)
              intro wz bz gz
              have HBz : Hid (Blk wz gv 38 [.int .i64 0, .int .i64 0, .int .i64 0, .string ⟨#[]⟩, .slice none 0 0, .slice none 0 0]) := bz
              have HKz : Hid (Kq r W wz sx true) := HK9.out.kept gz hgv hrW
              clear bz gz HV9 HK9
              go_wp2
              exact bodyPost_ret (D6.res_row rfl _ gv 38 _ _ rfl HBz.out Tryz.underlying38 rfl sV) rfl ⟨h0, sx, true, rfl, HKz.out, nuH0, HRd.out, HSx.out⟩
        | false =>
          obtain ⟨nz, hnz⟩ : ∃ nz : Nat, nz = nou cc D := ⟨_, rfl⟩
          have hnz2 : (nz : Int) = max ((cc : Int) - 192 - (D.length : Int)) 0 := by rw [hnz]; unfold nou; omega
          have HNz : Hid (nz = nou cc D) := hnz
          have HNz2 : Hid ((nz : Int) = max ((cc : Int) - 192 - (D.length : Int)) 0) := hnz2
          clear hnz hnz2
          go_wp2
          go_loop [6, 7] (fun nv kv => ∃ (j n2 : Nat), j ≤ nz ∧ nv = .int .u64 (n2 : Int) ∧ kv = .int .i64 ((D.length : Int) + (j : Int)) ∧ n2 < 18446744073709551616 ∧ D.length + j ≤ 19 ∧ Hid (n2 = vD D * 10 ^ j)) (fun _ kv => 19 - (intOf kv).toNat)
          case atStart => exact ⟨0, nn, by omega, rfl, by simp, hnn, by omega, by show _ = _; rw [HNv.out]; simp⟩
          case round =>
            obtain ⟨j, n2, hj, rfl, rfl, hn2, hDj, HP⟩ := hrel
            by_cases hlt : j < nz
            · have hekb : decide ((D.length : Int) + (j : Int) < (cc : Int) - 192) = true := decide_eq_true (by have := HNz2.out; omega)
              by_cases hbig : 19 < D.length + j + 1 ∨ 1844674407370955161 < n2
              · have HRd : Hid (RdM (bts s) bad (bts sx) true h0) := rdM_no HSf.out (fun hb h m H hl => by
                  obtain ⟨_, _, _, f1, _, f3, _⟩ := dk_fin HDk.out hb H hl
                  rw [← HNz.out] at f1 f3
                  obtain ⟨n0, n1, _⟩ := num_parts H
                  have h1 : n2 * 10 ≤ vD D * 10 ^ nz := by
                    rw [HP.out, Nat.mul_assoc, ← Nat.pow_succ]
                    exact Nat.mul_le_mul_left _ (Nat.pow_le_pow_right (by decide) (by omega))
                  omega) h0
                clear HDk HP HNz HNv
                by_cases q1 : 19 < D.length + j + 1
                · have q1b : decide ((19 : Int) < (D.length : Int) + (j : Int) + 1) = true := decide_eq_true (by omega)
                  go_wp2_with (refine st_one rfl 4 (.tmp 80) (.const (.bool true)) rfl r 1 62 _ (.bool true) rfl rfl rfl rfl (by simp) HK2.out.blk s4 ?_)
                  intro w9 b9 g9
                  have HK9 : Hid (Kq r W w9 sx true) := ⟨b9, HK2.out.gr.trans g9⟩
                  have HV9 : Hid (Blk w9 gv 38 zer) := HV2.out.kept g9 (by intro e; injection e with e; omega)
                  clear b9 g9 HK2 HV2
                  go_wp2_with (refine st_all rfl 38 (.tmp 2) (.tmp 81) rfl gv 38 zer [.int .i64 0, .int .i64 0, .int .i64 0, .string ⟨#[]⟩, .slice none 0 0, .slice none 0 0] rfl rfl HV9.out rfl sV (D6.ones rfl) ?_)
                  intro wz bz gz
                  have HBz : Hid (Blk wz gv 38 [.int .i64 0, .int .i64 0, .int .i64 0, .string ⟨#[]⟩, .slice none 0 0, .slice none 0 0]) := bz
                  have HKz : Hid (Kq r W wz sx true) := HK9.out.kept gz hgv hrW
                  clear bz gz HV9 HK9
                  go_wp2
                  exact bodyPost_ret (D6.res_row rfl _ gv 38 _ _ rfl HBz.out Tryz.underlying38 rfl sV) rfl ⟨h0, sx, true, rfl, HKz.out, nuH0, HRd.out, HSx.out⟩
                have q1b : decide ((19 : Int) < (D.length : Int) + (j : Int) + 1) = false := decide_eq_false (by omega)
                have q2b : decide ((1844674407370955161 : Int) < (n2 : Int)) = true := decide_eq_true (by omega)
                go_wp2_with (refine st_one rfl 4 (.tmp 80) (.const (.bool true)) rfl r 1 62 _ (.bool true) rfl rfl rfl rfl (by simp) HK2.out.blk s4 ?_)
                intro w9 b9 g9
                have HK9 : Hid (Kq r W w9 sx true) := ⟨b9, HK2.out.gr.trans g9⟩
                have HV9 : Hid (Blk w9 gv 38 zer) := HV2.out.kept g9 (by intro e; injection e with e; omega)
                clear b9 g9 HK2 HV2
                go_wp2_with (refine st_all rfl 38 (.tmp 2) (.tmp 81) rfl gv 38 zer [.int .i64 0, .int .i64 0, .int .i64 0, .string ⟨#[]⟩, .slice none 0 0, .slice none 0 0] rfl rfl HV9.out rfl sV (D6.ones rfl) ?_)
                intro wz bz gz
                have HBz : Hid (Blk wz gv 38 [.int .i64 0, .int .i64 0, .int .i64 0, .string ⟨#[]⟩, .slice none 0 0, .slice none 0 0]) := bz
                have HKz : Hid (Kq r W wz sx true) := HK9.out.kept gz hgv hrW
                clear bz gz HV9 HK9
                go_wp2
                exact bodyPost_ret (D6.res_row rfl _ gv 38 _ _ rfl HBz.out Tryz.underlying38 rfl sV) rfl ⟨h0, sx, true, rfl, HKz.out, nuH0, HRd.out, HSx.out⟩
              · have q1b : decide ((19 : Int) < (D.length : Int) + (j : Int) + 1) = false := decide_eq_false (by omega)
                have q2b : decide ((1844674407370955161 : Int) < (n2 : Int)) = false := decide_eq_false (by omega)
                have HP2 : Hid (n2 * 10 = vD D * 10 ^ (j + 1)) := by show _ = _; rw [HP.out, Nat.pow_succ, Nat.mul_assoc]
                clear HP
                go_wp2
                go_round
                case rel => exact ⟨j + 1, n2 * 10, by omega, (by first | (congr 1; done) | (congr 1; simp only [IntKind.wrap_u64]; omega) | (congr 1; omega)), (by first | (congr 1; done) | (congr 1; omega) | (congr 1; unfold wrap64; omega)), by omega, by omega, HP2.out⟩
                case measure => simp [intOf]; omega
            · obtain rfl : j = nz := by omega
              have hekb : decide ((D.length : Int) + (j : Int) < (cc : Int) - 192) = false := decide_eq_false (by have := HNz2.out; omega)
              obtain ⟨sc, hsc⟩ : ∃ sc : Int, (D.length : Int) + (j : Int) - ((cc : Int) - 192) = sc := ⟨_, rfl⟩
              have hs0 : decide (sc < 0) = false := decide_eq_false (by have := HNz2.out; omega)
              have HSc0 : Hid (0 ≤ sc) := by show _ ≤ _; have := HNz2.out; omega
              have HFi : Hid (∀ h m, bad = false → NumOk h → (bts s) = numB h.n h.s ++ m → bts sx = m ∧ decide (h.n < 0) = true ∧ n2 = h.n.natAbs ∧ sc = h.s ∧ h.n.natAbs ≠ 0 ∧ sc ≤ 18 ∧ -9223372036854775808 ≤ h.n ∧ h.n < 9223372036854775808) := fun h m hb H hl => by
                obtain ⟨f0, f1, f2, f3, f4, f5, f6⟩ := dk_fin HDk.out hb H hl
                obtain ⟨n0, n1, s0, s1, _⟩ := num_parts H
                rw [← HNz.out] at f3 f4
                exact ⟨f2, f1, by rw [HP.out, f3], by rw [← hsc, f4], f6, by rw [← hsc, f4]; exact s1, n0, n1⟩
              clear HDk HP HNz HNv HNz2
              by_cases hbig : 18 < sc ∨ n2 = 0 ∨ 9223372036854775808 < n2
              · have HRd : Hid (RdM (bts s) bad (bts sx) true h0) := rdM_no HSf.out (fun hb h m H hl => by
                  obtain ⟨_, g1, g2, g3, g4, g5, g6, g7⟩ := HFi.out h m hb H hl
                  have : h.n < 0 := of_decide_eq_true g1
                  omega) h0
                clear HFi
                by_cases q1 : 18 < sc
                · have q1b : decide ((18 : Int) < sc) = true := decide_eq_true q1
                  go_wp2_with (refine st_one rfl 4 (.tmp 120) (.const (.bool true)) rfl r 1 62 _ (.bool true) rfl rfl rfl rfl (by simp) HK2.out.blk s4 ?_)
                  intro w9 b9 g9
                  have HK9 : Hid (Kq r W w9 sx true) := ⟨b9, HK2.out.gr.trans g9⟩
                  have HV9 : Hid (Blk w9 gv 38 zer) := HV2.out.kept g9 (by intro e; injection e with e; omega)
                  clear b9 g9 HK2 HV2
                  go_wp2_with (refine st_all rfl 38 (.tmp 2) (.tmp 121) rfl gv 38 zer [.int .i64 0, .int .i64 0, .int .i64 0, .string ⟨#[]⟩, .slice none 0 0, .slice none 0 0] rfl rfl HV9.out rfl sV (D6.ones rfl) ?_)
                  intro wz bz gz
                  have HBz : Hid (Blk wz gv 38 [.int .i64 0, .int .i64 0, .int .i64 0, .string ⟨#[]⟩, .slice none 0 0, .slice none 0 0]) := bz
                  have HKz : Hid (Kq r W wz sx true) := HK9.out.kept gz hgv hrW
                  clear bz gz HV9 HK9
                  go_wp2
                  exact bodyPost_ret (D6.res_row rfl _ gv 38 _ _ rfl HBz.out Tryz.underlying38 rfl sV) rfl ⟨h0, sx, true, rfl, HKz.out, nuH0, HRd.out, HSx.out⟩
                have q1b : decide ((18 : Int) < sc) = false := decide_eq_false q1
                by_cases q2 : n2 = 0
                · subst q2
                  go_wp2_with (refine st_one rfl 4 (.tmp 120) (.const (.bool true)) rfl r 1 62 _ (.bool true) rfl rfl rfl rfl (by simp) HK2.out.blk s4 ?_)
                  intro w9 b9 g9
                  have HK9 : Hid (Kq r W w9 sx true) := ⟨b9, HK2.out.gr.trans g9⟩
                  have HV9 : Hid (Blk w9 gv 38 zer) := HV2.out.kept g9 (by intro e; injection e with e; omega)
                  clear b9 g9 HK2 HV2
                  go_wp2_with (refine st_all rfl 38 (.tmp 2) (.tmp 121) rfl gv 38 zer [.int .i64 0, .int .i64 0, .int .i64 0, .string ⟨#[]⟩, .slice none 0 0, .slice none 0 0] rfl rfl HV9.out rfl sV (D6.ones rfl) ?_)
                  intro wz bz gz
                  have HBz : Hid (Blk wz gv 38 [.int .i64 0, .int .i64 0, .int .i64 0, .string ⟨#[]⟩, .slice none 0 0, .slice none 0 0]) := bz
                  have HKz : Hid (Kq r W wz sx true) := HK9.out.kept gz hgv hrW
                  clear bz gz HV9 HK9
                  go_wp2
                  exact bodyPost_ret (D6.res_row rfl _ gv 38 _ _ rfl HBz.out Tryz.underlying38 rfl sV) rfl ⟨h0, sx, true, rfl, HKz.out, nuH0, HRd.out, HSx.out⟩
                have q2b : ((n2 : Int) == 0) = false := beq_eq_false_iff_ne.2 (by omega)
                have q3b : decide ((9223372036854775808 : Int) < (n2 : Int)) = true := decide_eq_true (by omega)
                go_wp2_with (refine st_one rfl 4 (.tmp 120) (.const (.bool true)) rfl r 1 62 _ (.bool true) rfl rfl rfl rfl (by simp) HK2.out.blk s4 ?_)
                intro w9 b9 g9
                have HK9 : Hid (Kq r W w9 sx true) := ⟨b9, HK2.out.gr.trans g9⟩
                have HV9 : Hid (Blk w9 gv 38 zer) := HV2.out.kept g9 (by intro e; injection e with e; omega)
                clear b9 g9 HK2 HV2
                go_wp2_with (refine st_all rfl 38 (.tmp 2) (.tmp 121) rfl gv 38 zer [.int .i64 0, .int .i64 0, .int .i64 0, .string ⟨#[]⟩, .slice none 0 0, .slice none 0 0] rfl rfl HV9.out rfl sV (D6.ones rfl) ?_)
                intro wz bz gz
                have HBz : Hid (Blk wz gv 38 [.int .i64 0, .int .i64 0, .int .i64 0, .string ⟨#[]⟩, .slice none 0 0, .slice none 0 0]) := bz
                have HKz : Hid (Kq r W wz sx true) := HK9.out.kept gz hgv hrW
                clear bz gz HV9 HK9
                go_wp2
                exact bodyPost_ret (D6.res_row rfl _ gv 38 _ _ rfl HBz.out Tryz.underlying38 rfl sV) rfl ⟨h0, sx, true, rfl, HKz.out, nuH0, HRd.out, HSx.out⟩
              have q1b : decide ((18 : Int) < sc) = false := decide_eq_false (by omega)
              have q2b : ((n2 : Int) == 0) = false := beq_eq_false_iff_ne.2 (by omega)
              have q3b : decide ((9223372036854775808 : Int) < (n2 : Int)) = false := decide_eq_false (by omega)
              obtain ⟨R, hR⟩ : ∃ R, D6.mkR (-(n2 : Int)) sc = R := ⟨_, rfl⟩
              have HO : Hid ((R.e = 0 ∧ (R.k = 3 ∨ R.k = 4) ∧ -9223372036854775808 ≤ R.n ∧ R.n < 9223372036854775808 ∧ 0 ≤ R.s ∧ R.s ≤ 18) ∨ (R.e ≠ 0 ∧ R.k = 0 ∧ R.n = 0 ∧ R.s = 0)) := by rw [← hR]; exact mkR_out _ _
              have HNu : Hid (NuH (hdR R)) := by rw [← hR]; exact nuH_mk _ _
              have HCo : Hid (∀ h m, bad = false → NumOk h → (bts s) = numB h.n h.s ++ m → bts sx = m ∧ R = .ok h.n h.s.toNat) := fun h m hb H hl => by
                obtain ⟨g0, g1, g2, g3, g4, g5, g6, g7⟩ := HFi.out h m hb H hl
                have gn : h.n < 0 := of_decide_eq_true g1
                have gv : (-(n2 : Int)) = h.n := by omega
                refine ⟨g0, ?_⟩
                rw [← hR, gv, g3]
                exact mkR_key H
              have K : Hid (∀ v' s' : Int, v' = (-(n2 : Int)) → s' = sc → Calls Tryz.prog 92 #[.int .i64 v', .int .i64 s'] w2 fun e w' => e = .returned (.tuple #[.agg #[.int .i64 R.k, .int .i64 R.n, .int .i64 R.s, .string ⟨#[]⟩, .slice none 0 0, .slice none 0 0], .int .i64 R.e]) ∧ D6.Grow w2 w') := fun v' s' hv hv2 => by
                have := D6.makeR_any (-(n2 : Int)) sc (by omega) (by omega) w2
                rw [hR] at this
                rw [hv, hv2]
                exact this
              clear hR HFi
              go_wp2_with fail
              refine (K.out _ _ (by first | omega | (unfold wrap64; omega)) (by omega)).mono ?_
              rintro e w3 ⟨rfl, g3⟩
              have g3' : Below w2.heap.size w2 w3 := g3
              have HK3 : Hid (Kq r W w3 sx false) := HK2.out.then g3'
              have HV3 : Hid (Blk w3 gv 38 zer) := HV2.out.below g3' HV2.out.lt
              have hsz3 : W.heap.size ≤ w3.heap.size := HK3.out.gr.size
              clear K g3 g3' HK2 HV2 d1
              go_wp2_with (refine al_zero rfl 38 rfl zer zV ?_)
              intro gx w4 hgx b4 g4
              have HK4 : Hid (Kq r W w4 sx false) := HK3.out.new g4
              have HV4 : Hid (Blk w4 gv 38 zer) := HV3.out.kept g4 (by simp)
              have hgvx : gv < w3.heap.size := HV3.out.lt
              clear HK3 HV3 g4
              go_wp2_with (refine st_all rfl 38 (.tmp 11) (.tmp 134) rfl gx 38 zer [.int .i64 R.k, .int .i64 R.n, .int .i64 R.s, .string ⟨#[]⟩, .slice none 0 0, .slice none 0 0] rfl rfl b4 rfl sV (D6.ones rfl) ?_)
              intro w5 b5 g5
              have HX5 : Hid (Blk w5 gx 38 [.int .i64 R.k, .int .i64 R.n, .int .i64 R.s, .string ⟨#[]⟩, .slice none 0 0, .slice none 0 0]) := b5
              have HK5 : Hid (Kq r W w5 sx false) := HK4.out.kept g5 (by omega) hrW
              have HV5 : Hid (Blk w5 gv 38 zer) := HV4.out.kept g5 (by intro e; injection e with e; omega)
              clear b5 g5 b4 HK4 HV4
              by_cases hRe : R.e = 0
              · have hne2 : (R.e != 0) = false := by simpa using hRe
                have HRd : Hid (RdM (bts s) bad (bts sx) false (hdR R)) := ⟨HSf.out, fun _ => ⟨HBd.out, fun f => f.elim⟩, fun hb h m H hl => by
                  obtain ⟨a1, a2⟩ := HCo.out h m hb H hl
                  exact ⟨rfl, by unfold hdR; rw [a2]; exact ok_hd H, a1⟩⟩
                clear HCo HO
                go_wp2_with (first
                  | refine D6.ld_all rfl 38 (.tmp 11) rfl gx 38 _ _ rfl HX5.out Tryz.underlying38 rfl sV ?_
                  | refine st_all rfl 38 (.tmp 2) (.tmp 141) rfl gv 38 zer [.int .i64 R.k, .int .i64 R.n, .int .i64 R.s, .string ⟨#[]⟩, .slice none 0 0, .slice none 0 0] rfl rfl HV5.out rfl sV (D6.ones rfl) ?_)
                intro wz bz gz
                have HBz : Hid (Blk wz gv 38 [.int .i64 R.k, .int .i64 R.n, .int .i64 R.s, .string ⟨#[]⟩, .slice none 0 0, .slice none 0 0]) := bz
                have HKz : Hid (Kq r W wz sx false) := HK5.out.kept gz hgv hrW
                clear bz gz HV5 HK5 HX5
                go_wp2
                exact bodyPost_ret (D6.res_row rfl _ gv 38 _ _ rfl HBz.out Tryz.underlying38 rfl sV) rfl ⟨hdR R, sx, false, rfl, HKz.out, HNu.out, HRd.out, HSx.out⟩
              · have hne2 : (R.e != 0) = true := by simpa using hRe
                have HRd : Hid (RdM (bts s) bad (bts sx) true (hdR R)) := rdM_no HSf.out (fun hb h m H hl => by
                  have := (HCo.out h m hb H hl).2
                  rw [this] at hRe
                  exact hRe rfl) _
                clear HCo HO
                go_wp2_with (refine st_one rfl 4 (.tmp 140) (.const (.bool true)) rfl r 1 62 _ (.bool true) rfl rfl rfl rfl (by simp) HK5.out.blk s4 ?_)
                intro w6 b6 g6
                have HK6 : Hid (Kq r W w6 sx true) := ⟨b6, HK5.out.gr.trans g6⟩
                have HV6 : Hid (Blk w6 gv 38 zer) := HV5.out.kept g6 (by intro e; injection e with e; omega)
                have HX6 : Hid (Blk w6 gx 38 [.int .i64 R.k, .int .i64 R.n, .int .i64 R.s, .string ⟨#[]⟩, .slice none 0 0, .slice none 0 0]) := HX5.out.kept g6 (by intro e; injection e with e; omega)
                clear b6 g6 HK5 HV5 HX5
                go_wp2_with (first
                  | refine D6.ld_all rfl 38 (.tmp 11) rfl gx 38 _ _ rfl HX6.out Tryz.underlying38 rfl sV ?_
                  | refine st_all rfl 38 (.tmp 2) (.tmp 141) rfl gv 38 zer [.int .i64 R.k, .int .i64 R.n, .int .i64 R.s, .string ⟨#[]⟩, .slice none 0 0, .slice none 0 0] rfl rfl HV6.out rfl sV (D6.ones rfl) ?_)
                intro wz bz gz
                have HBz : Hid (Blk wz gv 38 [.int .i64 R.k, .int .i64 R.n, .int .i64 R.s, .string ⟨#[]⟩, .slice none 0 0, .slice none 0 0]) := bz
                have HKz : Hid (Kq r W wz sx true) := HK6.out.kept gz hgv hrW
                clear bz gz HV6 HK6 HX6
                go_wp2
                exact bodyPost_ret (D6.res_row rfl _ gv 38 _ _ rfl HBz.out Tryz.underlying38 rfl sV) rfl ⟨hdR R, sx, true, rfl, HKz.out, HNu.out, HRd.out, HSx.out⟩
  case neg =>
    have hxd : decide ((x : Int) < 128) = false := by simp; omega
    have hne : ((x : Int) == 128) = false := beq_eq_false_iff_ne.2 (by omega)
    have HDn : Hid (Dn (bts s) bad false x (bts s1) b1 []) := by
      have := Dn.start HR1.out (by omega) hx
      rw [decide_eq_false hxb] at this
      exact this
    have hc2 : x < 256 := by omega
    obtain ⟨cc, hcc⟩ : ∃ cc : Nat, cc = x := ⟨_, rfl⟩
    rw [← hcc] at HDn hc2

    clear HR1
    subst hcc
    go_wp2
    go_loopw [6, 7, 8] (fun nv kv _ wr => ∃ (nn : Nat) (D : List Nat) (sk : ByteArray) (bk : Bool), nv = .int .u64 (nn : Int) ∧ kv = .int .i64 (D.length : Int) ∧ nn < 18446744073709551616 ∧ D.length ≤ 19 ∧ Hid (Kq r W wr sk bk ∧ Blk wr gv 38 zer ∧ Dn (bts s) bad false cc (bts sk) bk D ∧ nn = vD D ∧ sk.size ≤ s.size)) (fun _ _ _ wr => lft r wr)
    case atStart => exact ⟨0, [], s1, b1, rfl, rfl, by omega, by simp, HK1.out, HV1.out, HDn.out, rfl, HS1.out⟩
    case round =>
      clear HK1 HV1 HDn HS1
      obtain ⟨nn, D, sk, bk, rfl, rfl, hnn, hD, HJ⟩ := hrel
      have HK : Hid (Kq r W wr sk bk) := HJ.out.1
      have HV : Hid (Blk wr gv 38 zer) := HJ.out.2.1
      have HD : Hid (Dn (bts s) bad false cc (bts sk) bk D) := HJ.out.2.2.1
      have HNv : Hid (nn = vD D) := HJ.out.2.2.2.1
      have HSk : Hid (sk.size ≤ s.size) := HJ.out.2.2.2.2
      have c1 : wr.cell? ⟨r, 1, none⟩ = some (.bool bk) := HK.out.blk.cell 1
      have HLf : Hid (lft r wr = if bk then 0 else sk.size + 1) := lft_of HK.out.blk
      clear HJ
      cases bk with
      | true =>
        obtain ⟨sx, hsx⟩ : ∃ sx, sx = sk := ⟨_, rfl⟩
        have HRd : Hid (RdM (bts s) bad (bts sx) true h0) := by rw [hsx]; exact HD.out.bad _
        have HSx : Hid (sx.size ≤ s.size) := by rw [hsx]; exact HSk.out
        subst hsx
        clear HD HNv HSk HLf
        go_wp2
        go_loop [6, 7] (fun nv kv => nv = .int .u64 (nn : Int) ∧ kv = .int .i64 (D.length : Int)) (fun _ _ => 0)
        case atStart => exact ⟨rfl, rfl⟩
        case round =>
          obtain ⟨rfl, rfl⟩ := hrel
          by_cases hek : (D.length : Int) < (cc : Int) - 192
          · have hekb : decide ((D.length : Int) < (cc : Int) - 192) = true := decide_eq_true hek
            go_wp2_with (refine st_one rfl 4 (.tmp 120) (.const (.bool true)) rfl r 1 62 _ (.bool true) rfl rfl rfl rfl (by simp) HK.out.blk s4 ?_)
            intro w9 b9 g9
            have HK9 : Hid (Kq r W w9 sx true) := ⟨b9, HK.out.gr.trans g9⟩
            have HV9 : Hid (Blk w9 gv 38 zer) := HV.out.kept g9 (by intro e; injection e with e; omega)
            clear b9 g9 HK HV
            go_wp2_with (refine st_all rfl 38 (.tmp 2) (.tmp 121) rfl gv 38 zer [.int .i64 0, .int .i64 0, .int .i64 0, .string ⟨#[]⟩, .slice none 0 0, .slice none 0 0] rfl rfl HV9.out rfl sV (D6.ones rfl) ?_)
            intro wz bz gz
            have HBz : Hid (Blk wz gv 38 [.int .i64 0, .int .i64 0, .int .i64 0, .string ⟨#[]⟩, .slice none 0 0, .slice none 0 0]) := bz
            have HKz : Hid (Kq r W wz sx true) := HK9.out.kept gz hgv hrW
            clear bz gz HV9 HK9
            go_wp2
            exact bodyPost_ret (D6.res_row rfl _ gv 38 _ _ rfl HBz.out Tryz.underlying38 rfl sV) rfl ⟨h0, sx, true, rfl, HKz.out, nuH0, HRd.out, HSx.out⟩
          · have hekb : decide ((D.length : Int) < (cc : Int) - 192) = false := decide_eq_false hek
            go_wp2_with (refine st_one rfl 4 (.tmp 120) (.const (.bool true)) rfl r 1 62 _ (.bool true) rfl rfl rfl rfl (by simp) HK.out.blk s4 ?_)
            intro w9 b9 g9
            have HK9 : Hid (Kq r W w9 sx true) := ⟨b9, HK.out.gr.trans g9⟩
            have HV9 : Hid (Blk w9 gv 38 zer) := HV.out.kept g9 (by intro e; injection e with e; omega)
            clear b9 g9 HK HV
            go_wp2_with (refine st_all rfl 38 (.tmp 2) (.tmp 121) rfl gv 38 zer [.int .i64 0, .int .i64 0, .int .i64 0, .string ⟨#[]⟩, .slice none 0 0, .slice none 0 0] rfl rfl HV9.out rfl sV (D6.ones rfl) ?_)
            intro wz bz gz
            have HBz : Hid (Blk wz gv 38 [.int .i64 0, .int .i64 0, .int .i64 0, .string ⟨#[]⟩, .slice none 0 0, .slice none 0 0]) := bz
            have HKz : Hid (Kq r W wz sx true) := HK9.out.kept gz hgv hrW
            clear bz gz HV9 HK9
            go_wp2
            exact bodyPost_ret (D6.res_row rfl _ gv 38 _ _ rfl HBz.out Tryz.underlying38 rfl sV) rfl ⟨h0, sx, true, rfl, HKz.out, nuH0, HRd.out, HSx.out⟩
      | false =>
        have K := one_any r sk false wr (by have := HSk.out; omega) HK.out.blk
        go_wp2_with fail
        refine K.mono ?_
        rintro e w2 ⟨y, s2, b2, rfl, H2⟩
        have HK2 : Hid (Kq r W w2 s2 b2) := HK.out.trans H2.out.1
        have HV2 : Hid (Blk w2 gv 38 zer) := HV.out.kept H2.out.1.gr (by intro e; injection e with e; omega)
        have HR2 : Hid (Rb (bts sk) false (bts s2) b2 y) := H2.out.2.1
        have hy : y < 256 := H2.out.2.2.1
        have HS2 : Hid (s2.size ≤ s.size) := Nat.le_trans H2.out.2.2.2.1 HSk.out
        have HYz : Hid (b2 = true → y = 0) := H2.out.2.2.2.2
        obtain ⟨sx, hsx⟩ : ∃ sx, sx = s2 := ⟨_, rfl⟩
        have HSx : Hid (sx.size ≤ s.size) := by rw [hsx]; exact HS2.out
        have HSf : Hid (∃ e, (bts s) = e ++ bts sx) := by rw [hsx]; exact suf_trans HD.out.suf HR2.out.suf
        subst hsx
        have HBd : Hid (bad = false) := HD.out.so rfl
        clear K H2 HK HV c1 HS2
        obtain ⟨d, hd⟩ : ∃ d : Nat, tn false y = d := ⟨_, rfl⟩
        have hd2 : d < 256 := by rw [← hd]; exact tn_lt _ _ hy
        have hdv : y = d := by rw [← hd]; rfl
        subst hdv
        have HTd : Hid (tn false y = y) := hd
        clear hd
        by_cases hd0 : y = 0
        case neg =>
          have hdb : ((y : Int) == 0) = false := beq_eq_false_iff_ne.2 (by omega)
          obtain ⟨hDn2, hDv2⟩ := HD.out.digit HR2.out hy HTd.out hd0
          have HD2 : Hid (Dn (bts s) bad false cc (bts sx) b2 (D ++ [y])) := hDn2
          have HDv : Hid (bad = false → ∀ h m, NumOk h → (bts s) = numB h.n h.s ++ m → y ≤ 10 ∧ ∃ u, kyD h.n.natAbs = D ++ y :: u) := hDv2
          have HD1 : Hid (Dn (bts s) bad false cc (bts sk) false D) := HD.out
          have HLs : Hid (b2 = false → sx.size + 1 ≤ sk.size) := fun e => by
            subst e
            have := rb_len1 HR2.out
            rw [bts_len, bts_len] at this
            exact this
          clear hDn2 hDv2 HD HR2 HTd
          by_cases hbig : 10 < y ∨ 19 < D.length + 1 ∨ 1844674407370955160 < nn
          · have HRd : Hid (RdM (bts s) bad (bts sx) true h0) := rdM_no HSf.out (fun hb h m H hl => by
              obtain ⟨a1, u, a2⟩ := HDv.out hb h m H hl
              obtain ⟨_, hn0, _⟩ := HD1.out.co hb h m H hl
              obtain ⟨b1', b2'⟩ := ky_small H hn0 a2
              rw [List.length_cons, Nat.pow_succ, ← HNv.out] at b2'
              have : nn * 10 ≤ nn * (10 ^ u.length * 10) := Nat.mul_le_mul_left _ (by have := Nat.one_le_pow u.length 10 (by decide); omega)
              rw [List.length_cons] at b1'
              omega) h0
            clear HDv HD1 HD2 HNv HLs
            by_cases q1 : 10 < y
            · have q1b : decide ((10 : Int) < (y : Int)) = true := decide_eq_true (by omega)
              go_wp2_with (refine st_one rfl 4 (.tmp 52) (.const (.bool true)) rfl r 1 62 _ (.bool true) rfl rfl rfl rfl (by simp) HK2.out.blk s4 ?_)
              intro w9 b9 g9
              have HK9 : Hid (Kq r W w9 sx true) := ⟨b9, HK2.out.gr.trans g9⟩
              have HV9 : Hid (Blk w9 gv 38 zer) := HV2.out.kept g9 (by intro e; injection e with e; omega)
              clear b9 g9 HK2 HV2
              go_wp2_with (refine st_all rfl 38 (.tmp 2) (.tmp 53) rfl gv 38 zer [.int .i64 0, .int .i64 0, .int .i64 0, .string ⟨#[]⟩, .slice none 0 0, .slice none 0 0] rfl rfl HV9.out rfl sV (D6.ones rfl) ?_)
              intro wz bz gz
              have HBz : Hid (Blk wz gv 38 [.int .i64 0, .int .i64 0, .int .i64 0, .string ⟨#[]⟩, .slice none 0 0, .slice none 0 0]) := bz
              have HKz : Hid (Kq r W wz sx true) := HK9.out.kept gz hgv hrW
              clear bz gz HV9 HK9
              go_wp2
              exact bodyPost_ret (D6.res_row rfl _ gv 38 _ _ rfl HBz.out Tryz.underlying38 rfl sV) rfl ⟨h0, sx, true, rfl, HKz.out, nuH0, HRd.out, HSx.out⟩
            have q1b : decide ((10 : Int) < (y : Int)) = false := decide_eq_false (by omega)
            by_cases q2 : 19 < D.length + 1
            · have q2b : decide ((19 : Int) < (D.length : Int) + 1) = true := decide_eq_true (by omega)
              go_wp2_with (refine st_one rfl 4 (.tmp 52) (.const (.bool true)) rfl r 1 62 _ (.bool true) rfl rfl rfl rfl (by simp) HK2.out.blk s4 ?_)
              intro w9 b9 g9
              have HK9 : Hid (Kq r W w9 sx true) := ⟨b9, HK2.out.gr.trans g9⟩
              have HV9 : Hid (Blk w9 gv 38 zer) := HV2.out.kept g9 (by intro e; injection e with e; omega)
              clear b9 g9 HK2 HV2
              go_wp2_with (refine st_all rfl 38 (.tmp 2) (.tmp 53) rfl gv 38 zer [.int .i64 0, .int .i64 0, .int .i64 0, .string ⟨#[]⟩, .slice none 0 0, .slice none 0 0] rfl rfl HV9.out rfl sV (D6.ones rfl) ?_)
              intro wz bz gz
              have HBz : Hid (Blk wz gv 38 [.int .i64 0, .int .i64 0, .int .i64 0, .string ⟨#[]⟩, .slice none 0 0, .slice none 0 0]) := bz
              have HKz : Hid (Kq r W wz sx true) := HK9.out.kept gz hgv hrW
              clear bz gz HV9 HK9
              go_wp2
              exact bodyPost_ret (D6.res_row rfl _ gv 38 _ _ rfl HBz.out Tryz.underlying38 rfl sV) rfl ⟨h0, sx, true, rfl, HKz.out, nuH0, HRd.out, HSx.out⟩
            have q2b : decide ((19 : Int) < (D.length : Int) + 1) = false := decide_eq_false (by omega)
            have q3b : decide ((1844674407370955160 : Int) < (nn : Int)) = true := decide_eq_true (by omega)
            go_wp2_with (refine st_one rfl 4 (.tmp 52) (.const (.bool true)) rfl r 1 62 _ (.bool true) rfl rfl rfl rfl (by simp) HK2.out.blk s4 ?_)
            intro w9 b9 g9
            have HK9 : Hid (Kq r W w9 sx true) := ⟨b9, HK2.out.gr.trans g9⟩
            have HV9 : Hid (Blk w9 gv 38 zer) := HV2.out.kept g9 (by intro e; injection e with e; omega)
            clear b9 g9 HK2 HV2
            go_wp2_with (refine st_all rfl 38 (.tmp 2) (.tmp 53) rfl gv 38 zer [.int .i64 0, .int .i64 0, .int .i64 0, .string ⟨#[]⟩, .slice none 0 0, .slice none 0 0] rfl rfl HV9.out rfl sV (D6.ones rfl) ?_)
            intro wz bz gz
            have HBz : Hid (Blk wz gv 38 [.int .i64 0, .int .i64 0, .int .i64 0, .string ⟨#[]⟩, .slice none 0 0, .slice none 0 0]) := bz
            have HKz : Hid (Kq r W wz sx true) := HK9.out.kept gz hgv hrW
            clear bz gz HV9 HK9
            go_wp2
            exact bodyPost_ret (D6.res_row rfl _ gv 38 _ _ rfl HBz.out Tryz.underlying38 rfl sV) rfl ⟨h0, sx, true, rfl, HKz.out, nuH0, HRd.out, HSx.out⟩
          · have q1b : decide ((10 : Int) < (y : Int)) = false := decide_eq_false (by omega)
            have q2b : decide ((19 : Int) < (D.length : Int) + 1) = false := decide_eq_false (by omega)
            have q3b : decide ((1844674407370955160 : Int) < (nn : Int)) = false := decide_eq_false (by omega)
            obtain ⟨n2, hn2⟩ : ∃ n2 : Nat, n2 = nn * 10 + (y - 1) := ⟨_, rfl⟩
            have HN2 : Hid (n2 = vD (D ++ [y]) ∧ n2 = nn * 10 + (y - 1) ∧ n2 < 18446744073709551616 ∧ (D ++ [y]).length = D.length + 1) := ⟨by rw [hn2, vD_snoc, HNv.out], hn2, by omega, by simp⟩
            have HM2 : Hid (lft r w2 < sk.size + 1) := by
              show _ < _
              rw [lft_of HK2.out.blk]
              cases b2 with
              | true => simp
              | false => have := HLs.out rfl; simp; omega
            clear hn2 HDv HD1 HNv HLs HYz
            go_wp2
            go_roundw
            case rel =>
              obtain ⟨e1, e2, e3, e4⟩ := HN2.out
              exact ⟨n2, D ++ [y], sx, b2, (by congr 1; first | (simp only [IntKind.wrap_u64, IntKind.wrap_u8]; omega) | omega), (by rw [e4]; go_num), e3, (by rw [e4]; omega), HK2.out, HV2.out, HD2.out, e1, HSx.out⟩
            case measure =>
              have := HM2.out
              rw [HLf.out]
              simpa using this
        have HDk : Hid (Dk (bts s) bad false cc (bts sx) b2 D) := HD.out.last HR2.out hy (by rw [HTd.out, hd0])
        have hdb : ((y : Int) == 0) = true := by rw [hd0]; rfl
        have d1 : w2.cell? ⟨r, 1, none⟩ = some (.bool b2) := HK2.out.blk.cell 1
        clear HD HR2 HTd HYz HLf
        cases b2 with
        | true =>
          have HRd : Hid (RdM (bts s) bad (bts sx) true h0) := rdM_no HSf.out (fun hb h m H hl => by have := (HDk.out hb h m H hl).1; cases this) h0
          clear HDk HNv
          go_wp2
          go_loop [6, 7] (fun nv kv => nv = .int .u64 (nn : Int) ∧ kv = .int .i64 (D.length : Int)) (fun _ _ => 0)
          case atStart => exact ⟨rfl, rfl⟩
          case round =>
            obtain ⟨rfl, rfl⟩ := hrel
            by_cases hek : (D.length : Int) < (cc : Int) - 192
            · have hekb : decide ((D.length : Int) < (cc : Int) - 192) = true := decide_eq_true hek
              go_wp2_with (refine st_one rfl 4 (.tmp 120) (.const (.bool true)) rfl r 1 62 _ (.bool true) rfl rfl rfl rfl (by simp) HK2.out.blk s4 ?_)
              intro w9 b9 g9
              have HK9 : Hid (Kq r W w9 sx true) := ⟨b9, HK2.out.gr.trans g9⟩
              have HV9 : Hid (Blk w9 gv 38 zer) := HV2.out.kept g9 (by intro e; injection e with e; omega)
              clear b9 g9 HK2 HV2
              go_wp2_with (refine st_all rfl 38 (.tmp 2) (.tmp 121) rfl gv 38 zer [.int .i64 0, .int .i64 0, .int .i64 0, .string ⟨#[]⟩, .slice none 0 0, .slice none 0 0] rfl rfl HV9.out rfl sV (D6.ones rfl) ?_)
              intro wz bz gz
              have HBz : Hid (Blk wz gv 38 [.int .i64 0, .int .i64 0, .int .i64 0, .string ⟨#[]⟩, .slice none 0 0, .slice none 0 0]) := bz
              have HKz : Hid (Kq r W wz sx true) := HK9.out.kept gz hgv hrW
              clear bz gz HV9 HK9
              go_wp2
              exact bodyPost_ret (D6.res_row rfl _ gv 38 _ _ rfl HBz.out Tryz.underlying38 rfl sV) rfl ⟨h0, sx, true, rfl, HKz.out, nuH0, HRd.out, HSx.out⟩
            · have hekb : decide ((D.length : Int) < (cc : Int) - 192) = false := decide_eq_false hek
              go_wp2_with (refine st_one rfl 4 (.tmp 120) (.const (.bool true)) rfl r 1 62 _ (.bool true) rfl rfl rfl rfl (by simp) HK2.out.blk s4 ?_)
              intro w9 b9 g9
              have HK9 : Hid (Kq r W w9 sx true) := ⟨b9, HK2.out.gr.trans g9⟩
              have HV9 : Hid (Blk w9 gv 38 zer) := HV2.out.kept g9 (by intro e; injection e with e; omega)
              clear b9 g9 HK2 HV2
              go_wp2_with (refine st_all rfl 38 (.tmp 2) (.tmp 121) rfl gv 38 zer [.int .i64 0, .int .i64 0, .int .i64 0, .string ⟨#[]⟩, .slice none 0 0, .slice none 0 0] rfl rfl HV9.out rfl sV (D6.ones rfl) ?_)
              intro wz bz gz
              have HBz : Hid (Blk wz gv 38 [.int .i64 0, .int .i64 0, .int .i64 0, .string ⟨#[]⟩, .slice none 0 0, .slice none 0 0]) := bz
              have HKz : Hid (Kq r W wz sx true) := HK9.out.kept gz hgv hrW
              clear bz gz HV9 HK9
              go_wp2
              exact bodyPost_ret (D6.res_row rfl _ gv 38 _ _ rfl HBz.out Tryz.underlying38 rfl sV) rfl ⟨h0, sx, true, rfl, HKz.out, nuH0, HRd.out, HSx.out⟩
        | false =>
          obtain ⟨nz, hnz⟩ : ∃ nz : Nat, nz = nou cc D := ⟨_, rfl⟩
          have hnz2 : (nz : Int) = max ((cc : Int) - 192 - (D.length : Int)) 0 := by rw [hnz]; unfold nou; omega
          have HNz : Hid (nz = nou cc D) := hnz
          have HNz2 : Hid ((nz : Int) = max ((cc : Int) - 192 - (D.length : Int)) 0) := hnz2
          clear hnz hnz2
          go_wp2
          go_loop [6, 7] (fun nv kv => ∃ (j n2 : Nat), j ≤ nz ∧ nv = .int .u64 (n2 : Int) ∧ kv = .int .i64 ((D.length : Int) + (j : Int)) ∧ n2 < 18446744073709551616 ∧ D.length + j ≤ 19 ∧ Hid (n2 = vD D * 10 ^ j)) (fun _ kv => 19 - (intOf kv).toNat)
          case atStart => exact ⟨0, nn, by omega, rfl, by simp, hnn, by omega, by show _ = _; rw [HNv.out]; simp⟩
          case round =>
            obtain ⟨j, n2, hj, rfl, rfl, hn2, hDj, HP⟩ := hrel
            by_cases hlt : j < nz
            · have hekb : decide ((D.length : Int) + (j : Int) < (cc : Int) - 192) = true := decide_eq_true (by have := HNz2.out; omega)
              by_cases hbig : 19 < D.length + j + 1 ∨ 1844674407370955161 < n2
              · have HRd : Hid (RdM (bts s) bad (bts sx) true h0) := rdM_no HSf.out (fun hb h m H hl => by
                  obtain ⟨_, _, _, f1, _, f3, _⟩ := dk_fin HDk.out hb H hl
                  rw [← HNz.out] at f1 f3
                  obtain ⟨n0, n1, _⟩ := num_parts H
                  have h1 : n2 * 10 ≤ vD D * 10 ^ nz := by
                    rw [HP.out, Nat.mul_assoc, ← Nat.pow_succ]
                    exact Nat.mul_le_mul_left _ (Nat.pow_le_pow_right (by decide) (by omega))
                  omega) h0
                clear HDk HP HNz HNv
                by_cases q1 : 19 < D.length + j + 1
                · have q1b : decide ((19 : Int) < (D.length : Int) + (j : Int) + 1) = true := decide_eq_true (by omega)
                  go_wp2_with (refine st_one rfl 4 (.tmp 80) (.const (.bool true)) rfl r 1 62 _ (.bool true) rfl rfl rfl rfl (by simp) HK2.out.blk s4 ?_)
                  intro w9 b9 g9
                  have HK9 : Hid (Kq r W w9 sx true) := ⟨b9, HK2.out.gr.trans g9⟩
                  have HV9 : Hid (Blk w9 gv 38 zer) := HV2.out.kept g9 (by intro e; injection e with e; omega)
                  clear b9 g9 HK2 HV2
                  go_wp2_with (refine st_all rfl 38 (.tmp 2) (.tmp 81) rfl gv 38 zer [.int .i64 0, .int .i64 0, .int .i64 0, .string ⟨#[]⟩, .slice none 0 0, .slice none 0 0] rfl rfl HV9.out rfl sV (D6.ones rfl) ?_)
                  intro wz bz gz
                  have HBz : Hid (Blk wz gv 38 [.int .i64 0, .int .i64 0, .int .i64 0, .string ⟨#[]⟩, .slice none 0 0, .slice none 0 0]) := bz
                  have HKz : Hid (Kq r W wz sx true) := HK9.out.kept gz hgv hrW
                  clear bz gz HV9 HK9
                  go_wp2
                  exact bodyPost_ret (D6.res_row rfl _ gv 38 _ _ rfl HBz.out Tryz.underlying38 rfl sV) rfl ⟨h0, sx, true, rfl, HKz.out, nuH0, HRd.out, HSx.out⟩
                have q1b : decide ((19 : Int) < (D.length : Int) + (j : Int) + 1) = false := decide_eq_false (by omega)
                have q2b : decide ((1844674407370955161 : Int) < (n2 : Int)) = true := decide_eq_true (by omega)
                go_wp2_with (refine st_one rfl 4 (.tmp 80) (.const (.bool true)) rfl r 1 62 _ (.bool true) rfl rfl rfl rfl (by simp) HK2.out.blk s4 ?_)
                intro w9 b9 g9
                have HK9 : Hid (Kq r W w9 sx true) := ⟨b9, HK2.out.gr.trans g9⟩
                have HV9 : Hid (Blk w9 gv 38 zer) := HV2.out.kept g9 (by intro e; injection e with e; omega)
                clear b9 g9 HK2 HV2
                go_wp2_with (refine st_all rfl 38 (.tmp 2) (.tmp 81) rfl gv 38 zer [.int .i64 0, .int .i64 0, .int .i64 0, .string ⟨#[]⟩, .slice none 0 0, .slice none 0 0] rfl rfl HV9.out rfl sV (D6.ones rfl) ?_)
                intro wz bz gz
                have HBz : Hid (Blk wz gv 38 [.int .i64 0, .int .i64 0, .int .i64 0, .string ⟨#[]⟩, .slice none 0 0, .slice none 0 0]) := bz
                have HKz : Hid (Kq r W wz sx true) := HK9.out.kept gz hgv hrW
                clear bz gz HV9 HK9
                go_wp2
                exact bodyPost_ret (D6.res_row rfl _ gv 38 _ _ rfl HBz.out Tryz.underlying38 rfl sV) rfl ⟨h0, sx, true, rfl, HKz.out, nuH0, HRd.out, HSx.out⟩
              · have q1b : decide ((19 : Int) < (D.length : Int) + (j : Int) + 1) = false := decide_eq_false (by omega)
                have q2b : decide ((1844674407370955161 : Int) < (n2 : Int)) = false := decide_eq_false (by omega)
                have HP2 : Hid (n2 * 10 = vD D * 10 ^ (j + 1)) := by show _ = _; rw [HP.out, Nat.pow_succ, Nat.mul_assoc]
                clear HP
                go_wp2
                go_round
                case rel => exact ⟨j + 1, n2 * 10, by omega, (by first | (congr 1; done) | (congr 1; simp only [IntKind.wrap_u64]; omega) | (congr 1; omega)), (by first | (congr 1; done) | (congr 1; omega) | (congr 1; unfold wrap64; omega)), by omega, by omega, HP2.out⟩
                case measure => simp [intOf]; omega
            · obtain rfl : j = nz := by omega
              have hekb : decide ((D.length : Int) + (j : Int) < (cc : Int) - 192) = false := decide_eq_false (by have := HNz2.out; omega)
              obtain ⟨sc, hsc⟩ : ∃ sc : Int, (D.length : Int) + (j : Int) - ((cc : Int) - 192) = sc := ⟨_, rfl⟩
              have hs0 : decide (sc < 0) = false := decide_eq_false (by have := HNz2.out; omega)
              have HSc0 : Hid (0 ≤ sc) := by show _ ≤ _; have := HNz2.out; omega
              have HFi : Hid (∀ h m, bad = false → NumOk h → (bts s) = numB h.n h.s ++ m → bts sx = m ∧ decide (h.n < 0) = false ∧ n2 = h.n.natAbs ∧ sc = h.s ∧ h.n.natAbs ≠ 0 ∧ sc ≤ 18 ∧ -9223372036854775808 ≤ h.n ∧ h.n < 9223372036854775808) := fun h m hb H hl => by
                obtain ⟨f0, f1, f2, f3, f4, f5, f6⟩ := dk_fin HDk.out hb H hl
                obtain ⟨n0, n1, s0, s1, _⟩ := num_parts H
                rw [← HNz.out] at f3 f4
                exact ⟨f2, f1, by rw [HP.out, f3], by rw [← hsc, f4], f6, by rw [← hsc, f4]; exact s1, n0, n1⟩
              clear HDk HP HNz HNv HNz2
              by_cases hbig : 18 < sc ∨ n2 = 0 ∨ 9223372036854775807 < n2
              · have HRd : Hid (RdM (bts s) bad (bts sx) true h0) := rdM_no HSf.out (fun hb h m H hl => by
                  obtain ⟨_, g1, g2, g3, g4, g5, g6, g7⟩ := HFi.out h m hb H hl
                  have : ¬ h.n < 0 := of_decide_eq_false g1
                  omega) h0
                clear HFi
                by_cases q1 : 18 < sc
                · have q1b : decide ((18 : Int) < sc) = true := decide_eq_true q1
                  go_wp2_with (refine st_one rfl 4 (.tmp 120) (.const (.bool true)) rfl r 1 62 _ (.bool true) rfl rfl rfl rfl (by simp) HK2.out.blk s4 ?_)
                  intro w9 b9 g9
                  have HK9 : Hid (Kq r W w9 sx true) := ⟨b9, HK2.out.gr.trans g9⟩
                  have HV9 : Hid (Blk w9 gv 38 zer) := HV2.out.kept g9 (by intro e; injection e with e; omega)
                  clear b9 g9 HK2 HV2
                  go_wp2_with (refine st_all rfl 38 (.tmp 2) (.tmp 121) rfl gv 38 zer [.int .i64 0, .int .i64 0, .int .i64 0, .string ⟨#[]⟩, .slice none 0 0, .slice none 0 0] rfl rfl HV9.out rfl sV (D6.ones rfl) ?_)
                  intro wz bz gz
                  have HBz : Hid (Blk wz gv 38 [.int .i64 0, .int .i64 0, .int .i64 0, .string ⟨#[]⟩, .slice none 0 0, .slice none 0 0]) := bz
                  have HKz : Hid (Kq r W wz sx true) := HK9.out.kept gz hgv hrW
                  clear bz gz HV9 HK9
                  go_wp2
                  exact bodyPost_ret (D6.res_row rfl _ gv 38 _ _ rfl HBz.out Tryz.underlying38 rfl sV) rfl ⟨h0, sx, true, rfl, HKz.out, nuH0, HRd.out, HSx.out⟩
                have q1b : decide ((18 : Int) < sc) = false := decide_eq_false q1
                by_cases q2 : n2 = 0
                · subst q2
                  go_wp2_with (refine st_one rfl 4 (.tmp 120) (.const (.bool true)) rfl r 1 62 _ (.bool true) rfl rfl rfl rfl (by simp) HK2.out.blk s4 ?_)
                  intro w9 b9 g9
                  have HK9 : Hid (Kq r W w9 sx true) := ⟨b9, HK2.out.gr.trans g9⟩
                  have HV9 : Hid (Blk w9 gv 38 zer) := HV2.out.kept g9 (by intro e; injection e with e; omega)
                  clear b9 g9 HK2 HV2
                  go_wp2_with (refine st_all rfl 38 (.tmp 2) (.tmp 121) rfl gv 38 zer [.int .i64 0, .int .i64 0, .int .i64 0, .string ⟨#[]⟩, .slice none 0 0, .slice none 0 0] rfl rfl HV9.out rfl sV (D6.ones rfl) ?_)
                  intro wz bz gz
                  have HBz : Hid (Blk wz gv 38 [.int .i64 0, .int .i64 0, .int .i64 0, .string ⟨#[]⟩, .slice none 0 0, .slice none 0 0]) := bz
                  have HKz : Hid (Kq r W wz sx true) := HK9.out.kept gz hgv hrW
                  clear bz gz HV9 HK9
                  go_wp2
                  exact bodyPost_ret (D6.res_row rfl _ gv 38 _ _ rfl HBz.out Tryz.underlying38 rfl sV) rfl ⟨h0, sx, true, rfl, HKz.out, nuH0, HRd.out, HSx.out⟩
                have q2b : ((n2 : Int) == 0) = false := beq_eq_false_iff_ne.2 (by omega)
                have q3b : decide ((9223372036854775807 : Int) < (n2 : Int)) = true := decide_eq_true (by omega)
                go_wp2_with (refine st_one rfl 4 (.tmp 120) (.const (.bool true)) rfl r 1 62 _ (.bool true) rfl rfl rfl rfl (by simp) HK2.out.blk s4 ?_)
                intro w9 b9 g9
                have HK9 : Hid (Kq r W w9 sx true) := ⟨b9, HK2.out.gr.trans g9⟩
                have HV9 : Hid (Blk w9 gv 38 zer) := HV2.out.kept g9 (by intro e; injection e with e; omega)
                clear b9 g9 HK2 HV2
                go_wp2_with (refine st_all rfl 38 (.tmp 2) (.tmp 121) rfl gv 38 zer [.int .i64 0, .int .i64 0, .int .i64 0, .string ⟨#[]⟩, .slice none 0 0, .slice none 0 0] rfl rfl HV9.out rfl sV (D6.ones rfl) ?_)
                intro wz bz gz
                have HBz : Hid (Blk wz gv 38 [.int .i64 0, .int .i64 0, .int .i64 0, .string ⟨#[]⟩, .slice none 0 0, .slice none 0 0]) := bz
                have HKz : Hid (Kq r W wz sx true) := HK9.out.kept gz hgv hrW
                clear bz gz HV9 HK9
                go_wp2
                exact bodyPost_ret (D6.res_row rfl _ gv 38 _ _ rfl HBz.out Tryz.underlying38 rfl sV) rfl ⟨h0, sx, true, rfl, HKz.out, nuH0, HRd.out, HSx.out⟩
              have q1b : decide ((18 : Int) < sc) = false := decide_eq_false (by omega)
              have q2b : ((n2 : Int) == 0) = false := beq_eq_false_iff_ne.2 (by omega)
              have q3b : decide ((9223372036854775807 : Int) < (n2 : Int)) = false := decide_eq_false (by omega)
              obtain ⟨R, hR⟩ : ∃ R, D6.mkR (n2 : Int) sc = R := ⟨_, rfl⟩
              have HO : Hid ((R.e = 0 ∧ (R.k = 3 ∨ R.k = 4) ∧ -9223372036854775808 ≤ R.n ∧ R.n < 9223372036854775808 ∧ 0 ≤ R.s ∧ R.s ≤ 18) ∨ (R.e ≠ 0 ∧ R.k = 0 ∧ R.n = 0 ∧ R.s = 0)) := by rw [← hR]; exact mkR_out _ _
              have HNu : Hid (NuH (hdR R)) := by rw [← hR]; exact nuH_mk _ _
              have HCo : Hid (∀ h m, bad = false → NumOk h → (bts s) = numB h.n h.s ++ m → bts sx = m ∧ R = .ok h.n h.s.toNat) := fun h m hb H hl => by
                obtain ⟨g0, g1, g2, g3, g4, g5, g6, g7⟩ := HFi.out h m hb H hl
                have gn : ¬ h.n < 0 := of_decide_eq_false g1
                have gv : (n2 : Int) = h.n := by omega
                refine ⟨g0, ?_⟩
                rw [← hR, gv, g3]
                exact mkR_key H
              have K : Hid (∀ v' s' : Int, v' = (n2 : Int) → s' = sc → Calls Tryz.prog 92 #[.int .i64 v', .int .i64 s'] w2 fun e w' => e = .returned (.tuple #[.agg #[.int .i64 R.k, .int .i64 R.n, .int .i64 R.s, .string ⟨#[]⟩, .slice none 0 0, .slice none 0 0], .int .i64 R.e]) ∧ D6.Grow w2 w') := fun v' s' hv hv2 => by
                have := D6.makeR_any (n2 : Int) sc (by omega) (by omega) w2
                rw [hR] at this
                rw [hv, hv2]
                exact this
              clear hR HFi
              go_wp2_with fail
              refine (K.out _ _ (by first | omega | (unfold wrap64; omega)) (by omega)).mono ?_
              rintro e w3 ⟨rfl, g3⟩
              have g3' : Below w2.heap.size w2 w3 := g3
              have HK3 : Hid (Kq r W w3 sx false) := HK2.out.then g3'
              have HV3 : Hid (Blk w3 gv 38 zer) := HV2.out.below g3' HV2.out.lt
              have hsz3 : W.heap.size ≤ w3.heap.size := HK3.out.gr.size
              clear K g3 g3' HK2 HV2 d1
              go_wp2_with (refine al_zero rfl 38 rfl zer zV ?_)
              intro gx w4 hgx b4 g4
              have HK4 : Hid (Kq r W w4 sx false) := HK3.out.new g4
              have HV4 : Hid (Blk w4 gv 38 zer) := HV3.out.kept g4 (by simp)
              have hgvx : gv < w3.heap.size := HV3.out.lt
              clear HK3 HV3 g4
              go_wp2_with (refine st_all rfl 38 (.tmp 11) (.tmp 134) rfl gx 38 zer [.int .i64 R.k, .int .i64 R.n, .int .i64 R.s, .string ⟨#[]⟩, .slice none 0 0, .slice none 0 0] rfl rfl b4 rfl sV (D6.ones rfl) ?_)
              intro w5 b5 g5
              have HX5 : Hid (Blk w5 gx 38 [.int .i64 R.k, .int .i64 R.n, .int .i64 R.s, .string ⟨#[]⟩, .slice none 0 0, .slice none 0 0]) := b5
              have HK5 : Hid (Kq r W w5 sx false) := HK4.out.kept g5 (by omega) hrW
              have HV5 : Hid (Blk w5 gv 38 zer) := HV4.out.kept g5 (by intro e; injection e with e; omega)
              clear b5 g5 b4 HK4 HV4
              by_cases hRe : R.e = 0
              · have hne2 : (R.e != 0) = false := by simpa using hRe
                have HRd : Hid (RdM (bts s) bad (bts sx) false (hdR R)) := ⟨HSf.out, fun _ => ⟨HBd.out, fun f => f.elim⟩, fun hb h m H hl => by
                  obtain ⟨a1, a2⟩ := HCo.out h m hb H hl
                  exact ⟨rfl, by unfold hdR; rw [a2]; exact ok_hd H, a1⟩⟩
                clear HCo HO
                go_wp2_with (first
                  | refine D6.ld_all rfl 38 (.tmp 11) rfl gx 38 _ _ rfl HX5.out Tryz.underlying38 rfl sV ?_
                  | refine st_all rfl 38 (.tmp 2) (.tmp 141) rfl gv 38 zer [.int .i64 R.k, .int .i64 R.n, .int .i64 R.s, .string ⟨#[]⟩, .slice none 0 0, .slice none 0 0] rfl rfl HV5.out rfl sV (D6.ones rfl) ?_)
                intro wz bz gz
                have HBz : Hid (Blk wz gv 38 [.int .i64 R.k, .int .i64 R.n, .int .i64 R.s, .string ⟨#[]⟩, .slice none 0 0, .slice none 0 0]) := bz
                have HKz : Hid (Kq r W wz sx false) := HK5.out.kept gz hgv hrW
                clear bz gz HV5 HK5 HX5
                go_wp2
                exact bodyPost_ret (D6.res_row rfl _ gv 38 _ _ rfl HBz.out Tryz.underlying38 rfl sV) rfl ⟨hdR R, sx, false, rfl, HKz.out, HNu.out, HRd.out, HSx.out⟩
              · have hne2 : (R.e != 0) = true := by simpa using hRe
                have HRd : Hid (RdM (bts s) bad (bts sx) true (hdR R)) := rdM_no HSf.out (fun hb h m H hl => by
                  have := (HCo.out h m hb H hl).2
                  rw [this] at hRe
                  exact hRe rfl) _
                clear HCo HO
                go_wp2_with (refine st_one rfl 4 (.tmp 140) (.const (.bool true)) rfl r 1 62 _ (.bool true) rfl rfl rfl rfl (by simp) HK5.out.blk s4 ?_)
                intro w6 b6 g6
                have HK6 : Hid (Kq r W w6 sx true) := ⟨b6, HK5.out.gr.trans g6⟩
                have HV6 : Hid (Blk w6 gv 38 zer) := HV5.out.kept g6 (by intro e; injection e with e; omega)
                have HX6 : Hid (Blk w6 gx 38 [.int .i64 R.k, .int .i64 R.n, .int .i64 R.s, .string ⟨#[]⟩, .slice none 0 0, .slice none 0 0]) := HX5.out.kept g6 (by intro e; injection e with e; omega)
                clear b6 g6 HK5 HV5 HX5
                go_wp2_with (first
                  | refine D6.ld_all rfl 38 (.tmp 11) rfl gx 38 _ _ rfl HX6.out Tryz.underlying38 rfl sV ?_
                  | refine st_all rfl 38 (.tmp 2) (.tmp 141) rfl gv 38 zer [.int .i64 R.k, .int .i64 R.n, .int .i64 R.s, .string ⟨#[]⟩, .slice none 0 0, .slice none 0 0] rfl rfl HV6.out rfl sV (D6.ones rfl) ?_)
                intro wz bz gz
                have HBz : Hid (Blk wz gv 38 [.int .i64 R.k, .int .i64 R.n, .int .i64 R.s, .string ⟨#[]⟩, .slice none 0 0, .slice none 0 0]) := bz
                have HKz : Hid (Kq r W wz sx true) := HK6.out.kept gz hgv hrW
                clear bz gz HV6 HK6 HX6
                go_wp2
                exact bodyPost_ret (D6.res_row rfl _ gv 38 _ _ rfl HBz.out Tryz.underlying38 rfl sV) rfl ⟨hdR R, sx, true, rfl, HKz.out, HNu.out, HRd.out, HSx.out⟩
end Go.Proofs.YtmlfhplhiedfjaaGreatDoor
