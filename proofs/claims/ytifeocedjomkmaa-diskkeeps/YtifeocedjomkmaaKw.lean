/-
  The walk of DiskKeeps.
-/
import Derived.Test.YtifeocedjomkmaaKl
namespace Go.Proofs.Ytifeocedjomkmaa
open Go.RowKit
set_option maxHeartbeats 1000000 in
set_option maxRecDepth 100000 in
theorem keeps_walk (a0 : Option Addr) (cap : Nat) (rs : List Rw) (sy dr : Int) (w : World) (hrs : Rws w a0 rs) (hlen : rs.length * 24 ≤ 140737488351232) :
    Calls Try.prog 3 #[.slice a0 rs.length cap, .int .i64 sy, .int .i64 dr] w fun e w' => e = .returned (.bool true) ∧ Below w.heap.size w w' := by
  have HR : Hid (Rws w a0 rs) := hrs
  have HN : Hid (rs.length * 24 ≤ 140737488351232) := hlen
  have HK : Hid (∀ W, Below w.heap.size w W → Calls Try.prog 8 #[] W fun e w' => e = .returned (.bool true) ∧ Below w.heap.size w w') := fun W hB => (known_any W).mono fun _ _ ⟨e, b⟩ => ⟨e, hB.trans (b.mono hB.size)⟩
  clear hrs hlen
  go_enter Try.func3, Try.ntmps3
  go_wp2
  go_loopw [7, 8] (fun n i wr => ∃ k : Nat, k ≤ rs.length ∧ i = .int .i64 k ∧ n = .int .i64 (wt (rs.take k) : Nat) ∧ wr = w ∧ wt (rs.take k) ≤ 140737488360000) (fun _ i _ => rs.length - (intOf i).toNat)
  case atStart => exact ⟨0, by omega, rfl, by simp [wt], rfl, by simp [wt]⟩
  case round =>
    obtain ⟨k, hk, rfl, rfl, hwr, hw8⟩ := hrel
    have hwr' := hwr.symm
    subst hwr'
    clear hwr
    by_cases hlt : k < rs.length
    · by_cases h8 : wt (rs.take k) ≤ 8000
      · obtain ⟨b, off, rfl, hr⟩ : ∃ b off, a0 = some ⟨b, off, none⟩ ∧ ∀ i r, rs[i]? = some r → w.cell? ⟨b, off + i, none⟩ = some (.slice r.1 r.2.2.length r.2.1) ∧ RowAt w r := by
          rcases HR.out with h | h
          · subst h; simp at hlt
          · exact h
        obtain ⟨hc, hra⟩ := hr k _ (List.getElem?_eq_getElem hlt)
        have hlr := hra.len
        have HW : Hid (wt (rs.take (k + 1)) = wt (rs.take k) + (1 + rs[k].2.2.length)) := wt_snoc rs k hlt
        clear hr hra
        generalize rs[k].2.2.length = lr at *
        generalize rs[k].1 = x1 at *
        generalize rs[k].2.1 = x2 at *
        generalize wt (rs.take k) = t at *
        have HN' := HN.out
        go_wp2
        go_roundw
        case rel => exact ⟨k + 1, by omega, by go_num, by rw [HW.out]; go_num, by simp, by rw [HW.out]; omega⟩
        case measure => simp [intOf]; omega
      · generalize wt (rs.take k) = t at *
        go_wp2_with (go_at_call 8; refine (HK.out _ (Below.refl _ _)).mono ?_; rintro e w' ⟨rfl, hB⟩)
        go_ret
        exact ⟨rfl, hB⟩
    · obtain rfl : k = rs.length := by omega
      rw [List.take_length] at hw8 ⊢
      by_cases h8 : wt rs ≤ 8000
      · have hcl := cat_le rs
        have HT : Hid (wt rs ≤ 8000) := h8
        have HC : Hid ((cat rs).length + rs.length ≤ 8000) := by show _ ≤ _; omega
        have hl8 : rs.length ≤ 8000 := by omega
        clear hcl
        generalize wt rs = t at *
        go_wp2_with fail
        refine (new_any 1048576 w (by decide) (by decide)).mono ?_
        rintro e w1 ⟨bd, S1, rfl, d1, n1, b1⟩
        have H1 : Hid (Kp w w1 bd S1 rs sy.toNat 0 (.slice none 0 0) (.slice none 0 0)) := by
          have e0 : rs.take (min 0 sy.toNat) = [] := by rw [Nat.zero_min]; rfl
          refine ⟨⟨d1, n1, b1⟩, ⟨by simp [vals, cat], .inl ⟨rfl, by simp [cat]⟩⟩, ?_, (fun g hg => by cases hg), (fun g hg => by cases hg), (fun g hg => by cases hg)⟩
          rw [e0]
          exact ⟨by simp [vals, cat], .inl ⟨rfl, by simp [cat]⟩⟩
        clear d1 n1 b1 hw8 HT
        go_wp2
        go_loopw [11, 12, 13] (fun al su i w2 => ∃ (k : Nat) (S : Nat → Prop), k ≤ rs.length ∧ i = .int .i64 k ∧ Kp w w2 bd S rs sy.toNat k al su) (fun _ _ i _ => rs.length - (intOf i).toNat)
        case atStart => exact ⟨0, S1, by omega, rfl, H1.out⟩
        case round =>
          obtain ⟨k, S, hk, rfl, kp⟩ := hrel
          have HP : Hid (Kp w wr bd S rs sy.toNat k u11 u12) := kp
          clear kp H1
          by_cases hlt : k < rs.length
          · obtain ⟨b, off, rfl, hr⟩ : ∃ b off, a0 = some ⟨b, off, none⟩ ∧ ∀ i r, rs[i]? = some r → w.cell? ⟨b, off + i, none⟩ = some (.slice r.1 r.2.2.length r.2.1) ∧ RowAt w r := by
              rcases HR.out with h | h
              · subst h; simp at hlt
              · exact h
            obtain ⟨hc0, hra⟩ := hr k _ (List.getElem?_eq_getElem hlt)
            have hc := (HP.out.mine.below.cell (p := ⟨b, off + k, none⟩) (cell_lt hc0)).trans hc0
            have hcs := cat_snoc rs k hlt
            have hct := cat_take rs (k + 1)
            rw [hcs, List.length_append] at hct
            have HA := HP.out.append hra (by have := HC.out; omega)
            have hbd : Hid ((cat (rs.take k)).length + rs[k].2.2.length ≤ 8000) := by have := HC.out; show _ ≤ _; omega
            have hnl := hra.nil
            have HC0 : Hid (w.cell? ⟨b, off + k, none⟩ = some (.slice rs[k].1 rs[k].2.2.length rs[k].2.1)) := hc0
            have HCS : Hid (cat (rs.take (k + 1)) = cat (rs.take k) ++ rs[k].2.2) := hcs
            clear hr hra hc0 hct hcs
            generalize rs[k] = row at *
            obtain ⟨x1, x2, l⟩ := row
            simp only at hc HA HCS hbd hnl HC0
            go_wp2_with fail
            refine HA.mono ?_
            clear HA hc
            rintro e wa ⟨rfl, hm1, hal, hsu, hby⟩
            obtain ⟨S', m1, q1, q2⟩ := hm1.out
            have hca := (m1.below.cell (p := ⟨b, off + k, none⟩) (cell_lt HC0.out)).trans HC0.out
            have M1 : Hid (Mine w wa bd S' ⟨1048576, -1, [([102], ⟨cat (rs.take k) ++ l, (cat (rs.take (min k sy.toNat))).length⟩)]⟩ ∧ (∀ g, u11.ownBlock = some g → ¬ S' g) ∧ (∀ g, u12.ownBlock = some g → ¬ S' g)) := ⟨m1, q1, q2⟩
            clear hm1 m1 q1 q2
            go_wp2_with (at_builtin; go_must (refine app_at rfl (.tmp 60) (.tmp 64) rfl w.heap.size _ (cat (rs.take k)) rfl hal.out x1 _ x2 l rfl rfl hby.out hnl (by have := hbd.out; omega) M1.out.1.below.size ?_))
            intro v' wb o2 g2 loc
            have KQ : Hid (Kq w wb bd S' (cat (rs.take k) ++ l) (cat (rs.take (min k sy.toNat))) v' u12) := kq_made M1.out.1 hal.out hsu.out M1.out.2.1 M1.out.2.2 HP.out.two o2 g2 loc
            obtain ⟨ax, ac, rfl, hbx, hnx, _⟩ := o2.src
            have HL : Hid ((cat (rs.take k) ++ l).length ≤ 8000) := by have := hbd.out; rw [List.length_append]; exact this
            rw [← HCS.out] at KQ HL hbx
            rw [← HCS.out]
            clear o2 g2 loc M1 hal hsu hby hca HP hbx
            by_cases hsy : (k : Int) < sy
            · go_wp2_with fail
              refine KQ.out.sync.mono ?_
              rintro e wc ⟨rfl, hm3, hal3⟩
              obtain ⟨S3, m3, q3⟩ := hm3.out
              have M3 : Hid (Mine w wc bd S3 ⟨1048576, -1, [([102], ⟨cat (rs.take (k + 1)), (cat (rs.take (k + 1))).length⟩)]⟩ ∧ (∀ g, (Value.slice ax (cat (rs.take (k + 1))).length ac).ownBlock = some g → ¬ S3 g)) := ⟨m3, q3⟩
              have HY : Hid (Byt (wc.alloc (.cells #[] 5)) ax (cat (rs.take (k + 1)))) := by
                obtain ⟨ax', ac', e, hb', _⟩ := hal3.out.src
                injection e with e
                subst e
                exact hb'.below ((Below.refl _ _).alloc (Nat.le_refl _) _)
              have HZ : Hid (w.heap.size ≤ wc.heap.size) := m3.below.size
              clear hm3 m3 q3 KQ
              go_wp2_with (at_builtin; go_must (refine app_at rfl (.tmp 72) (.tmp 73) rfl w.heap.size _ [] rfl (own_empty wc _ HZ.out) ax _ ac (cat (rs.take (k + 1))) rfl rfl HY.out hnx (by have := HL.out; simp only [List.length_nil]; omega) (by have := HZ.out; simp; omega) ?_))
              intro v'' wd o4 g4 loc4
              have KP : Hid (Kp w wd bd S3 rs sy.toNat (k + 1) (.slice ax (cat (rs.take (k + 1))).length ac) v'') := kp_yes (by omega) M3.out.1 hal3.out M3.out.2 (by simpa using o4) g4 loc4
              clear o4 g4 loc4 M3 hal3 HY HZ
              go_wp2
              go_roundw
              case rel => exact ⟨k + 1, S3, by omega, by go_num, KP.out⟩
              case measure => simp [intOf]; omega
            · have KP : Hid (Kp w wb bd S' rs sy.toNat (k + 1) (.slice ax (cat (rs.take (k + 1))).length ac) u12) := KQ.out.no (by omega)
              clear KQ
              go_wp2
              go_roundw
              case rel => exact ⟨k + 1, S', by omega, by go_num, KP.out⟩
              case measure => simp [intOf]; omega
          · obtain rfl : k = rs.length := by omega
            have HM := HP.out
            obtain ⟨m0, o0, s0, alS, suS, two0⟩ := HM
            rw [List.take_length] at m0 o0
            obtain ⟨ax, ac, rfl, hbx, hnx, hcx⟩ := o0.src
            obtain ⟨sx, sc, rfl, _, _, hcs⟩ := s0.src
            have hKle : (cat (rs.take (min rs.length sy.toNat))).length ≤ (cat rs).length := cat_take rs _
            have hcl := HC.out
            have HD : Hid (Calls Try.prog 12 #[.pointer (some ⟨bd, 0, none⟩), .int .i64 dr] wr fun e wc => e = .returned (.tuple #[]) ∧ Hid (∃ S2, Mine w wc bd S2 ⟨1048576, -1, aCrash dr.toNat (one (rs.length = 0) (cat rs) (cat (rs.take (min rs.length sy.toNat))).length)⟩ ∧
                Own wc w.heap.size (.slice ax (cat rs).length ac) (cat rs) ∧ (∀ g, (Value.slice ax (cat rs).length ac).ownBlock = some g → ¬ S2 g))) := by
              refine (crash_disk m0.disk dr).mono ?_
              rintro e wc ⟨rfl, S2, d2, g2⟩
              obtain ⟨o1, q1⟩ := own_went o0 g2 alS
              exact ⟨rfl, S2, m0.went d2 g2, o1, q1⟩
            have HO : Hid (Oct (cat rs)) := oct_cat HR.out
            clear m0 o0 s0 alS suS two0 HP hbx
            go_wp2_with fail
            refine HD.out.mono ?_
            rintro e wc ⟨rfl, hx⟩
            obtain ⟨S2, m2, o2, q2⟩ := hx.out
            have HRD : Hid (Calls Try.prog 13 #[.pointer (some ⟨bd, 0, none⟩), .string ⟨#[102]⟩] wc fun e wd => ∃ v err, e = .returned (.tuple #[v, .int .i64 err]) ∧ Hid (Told wd wc.heap.size v err (get (aCrash dr.toNat (one (rs.length = 0) (cat rs) (cat (rs.take (min rs.length sy.toNat))).length)) [102]) ∧ Below w.heap.size w wd ∧ Own wd w.heap.size (.slice ax (cat rs).length ac) (cat rs))) := by
              refine (read_disk m2.disk ⟨#[102]⟩ (by decide)).mono ?_
              rintro e wd ⟨v, err, rfl, t3, d3, k3⟩
              exact ⟨v, err, rfl, t3, m2.below.trans (k3.below m2.below.size m2.base), o2.keptBy k3 q2⟩
            clear hx m2 o2 q2 HD
            go_wp2_with fail
            refine HRD.out.mono ?_
            clear HRD
            rintro e wd ⟨v, err, rfl, hy⟩
            obtain ⟨t3, b3, o3⟩ := hy.out
            have HB : Hid (Below w.heap.size w wd) := b3
            by_cases h0 : rs.length = 0
            · have e1 : get (aCrash dr.toNat (one (rs.length = 0) (cat rs) (cat (rs.take (min rs.length sy.toNat))).length)) [102] = none := by simp [one, h0, aCrash, get]
              rw [e1] at t3
              obtain ⟨rfl, rfl⟩ := t3
              clear hy b3 o3 e1 HC HR HN HO hnx hcx hcs hKle hcl
              generalize rs.length = len at *
              subst h0
              go_wp2_with (go_at_call 8; refine (HK.out _ HB.out).mono ?_; rintro e w' ⟨rfl, hB⟩)
              go_ret
              exact ⟨rfl, hB⟩
            · have e1 : get (aCrash dr.toNat (one (rs.length = 0) (cat rs) (cat (rs.take (min rs.length sy.toNat))).length)) [102] = some ⟨(cat rs).take (spareF dr.toNat ⟨cat rs, (cat (rs.take (min rs.length sy.toNat))).length⟩), spareF dr.toNat ⟨cat rs, (cat (rs.take (min rs.length sy.toNat))).length⟩⟩ := by simp [one, h0, aCrash, get]
              have hn1 : (cat (rs.take (min rs.length sy.toNat))).length ≤ spareF dr.toNat ⟨cat rs, (cat (rs.take (min rs.length sy.toNat))).length⟩ := by unfold spareF; simp only; omega
              rw [e1] at t3
              clear e1
              generalize spareF dr.toNat ⟨cat rs, (cat (rs.take (min rs.length sy.toNat))).length⟩ = n at *
              obtain ⟨t4, rfl⟩ := t3
              simp only at t4
              obtain ⟨ax', ac', e3, hb3, _⟩ := o3.src
              injection e3 with e3 _ e5
              subst e3 e5
              obtain ⟨bx, bc, rfl, hbb, _, _⟩ := t4.src
              have hnn : ((cat rs).take n).length ≤ (cat rs).length := by rw [List.length_take]; omega
              have hnk : (cat (rs.take (min rs.length sy.toNat))).length ≤ ((cat rs).take n).length := by rw [List.length_take]; omega
              have HS : Hid (Calls Try.prog 14 #[.slice bx ((cat rs).take n).length bc, .slice ax ((cat rs).take n).length ac] wd fun e w' => e = .returned (.bool true) ∧ Below w.heap.size w w') :=
                (same_any bx ax bc ac ((cat rs).take n) (by omega) wd hbb (byt_take hb3 n) (fun z hz => HO.out z (List.mem_of_mem_take hz))).mono (by rintro e w' ⟨rfl, q, rfl⟩; exact ⟨rfl, below_drewN HB.out q⟩)
              clear hy b3 o3 hn1 hb3 hbb t4 HC HR HN HO
              generalize ((cat rs).take n).length = nn at *
              generalize (cat (rs.take (min rs.length sy.toNat))).length = kk at *
              generalize (cat rs).length = cc at *
              generalize rs.length = len at *
              have i1 : (kk : Int) ≤ (nn : Int) := by omega
              have i2 : (nn : Int) ≤ (cc : Int) := by omega
              have i3 : (nn : Int) ≤ (ac : Int) := by omega
              have i4 : ¬ ((len : Int) = 0) := by omega
              clear hlt hk h0 hnn hnk hcx hcs hKle hcl hnx
              go_wp2_with fail
              refine HS.out.mono ?_
              rintro e we ⟨rfl, hB1⟩
              go_wp2_with fail
              refine (HK.out _ hB1).mono ?_
              rintro e wf ⟨rfl, hB⟩
              go_wp2
              go_ret
              exact ⟨rfl, hB⟩
      · generalize wt rs = t at *
        go_wp2_with (go_at_call 8; refine (HK.out _ (Below.refl _ _)).mono ?_; rintro e w' ⟨rfl, hB⟩)
        go_ret
        exact ⟨rfl, hB⟩
#print axioms keeps_walk
end Go.Proofs.Ytifeocedjomkmaa
