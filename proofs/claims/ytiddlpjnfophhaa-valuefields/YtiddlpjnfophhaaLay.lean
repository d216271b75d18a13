/-
  The document's own Lay.
-/
import Derived.Test.YtiddlpjnfophhaaLyr
namespace Go.Proofs.Ytiddlpjnfophhaa
open Go.RowKit
set_option linter.unusedVariables false
set_option maxRecDepth 8000 in
set_option maxHeartbeats 2000000 in
theorem rLay (p y : Vt) (name : ByteArray) (hwf : WfV p) (hwy : WfV y) (hws : ws p ≤ 2500) (hnk : p.1.ns.length = p.2.list.length) (na : Option Addr) (nc : Nat) (ka : Option Addr) (kc : Nat) (na2 : Option Addr) (nc2 : Nat) (ka2 : Option Addr) (kc2 : Nat) (Lp Ly : List Nat) (W : World) (hvl : VlL W p na nc ka kc Lp) (hlp : ∀ x ∈ Lp, x < W.heap.size) (hvy : VlL W y na2 nc2 ka2 kc2 Ly) (hly : ∀ x ∈ Ly, x < W.heap.size) :
    Calls Try.prog 36 #[.agg #[.int .i64 p.1.k, .int .i64 p.1.n, .int .i64 p.1.s, .string p.1.t, .slice na p.1.ns.length nc, .slice ka p.2.list.length kc], .string name, .agg #[.int .i64 y.1.k, .int .i64 y.1.n, .int .i64 y.1.s, .string y.1.t, .slice na2 y.1.ns.length nc2, .slice ka2 y.2.list.length kc2]] W fun e w' => ∃ na' nc' ka' kc', e = .returned (.agg #[.int .i64 (layV p name y).1.k, .int .i64 (layV p name y).1.n, .int .i64 (layV p name y).1.s, .string (layV p name y).1.t, .slice na' (layV p name y).1.ns.length nc', .slice ka' (layV p name y).2.list.length kc']) ∧ Hid ((∃ L, VlL w' (layV p name y) na' nc' ka' kc' L ∧ ∀ x ∈ L, x < w'.heap.size ∧ (x ∈ Lp ∨ x ∈ Ly ∨ W.heap.size ≤ x)) ∧ Below W.heap.size W w') := by
  have hv := hvl.vl
  have hv2 := hvy.vl
  obtain ⟨W3, HW3⟩ : ∃ W3, Hid (((W.alloc (.cells #[.int .i64 p.1.k, .int .i64 p.1.n, .int .i64 p.1.s, .string p.1.t, .slice na p.1.ns.length nc, .slice ka p.2.list.length kc] 25)).alloc (.cells #[.int .i64 y.1.k, .int .i64 y.1.n, .int .i64 y.1.s, .string y.1.t, .slice na2 y.1.ns.length nc2, .slice ka2 y.2.list.length kc2] 25)).alloc (.cells #[.int .i64 0, .int .i64 0, .int .i64 0, .string ⟨#[]⟩, .slice none 0 0, .slice none 0 0] 25) = W3) := ⟨_, rfl⟩
  have hkl := hwf.2.1
  have hkl2 := hwy.2.1
  have hnl : p.1.ns.length ≤ 2500 := by simp only [ws, wsH] at hws; omega
  have hpl : p.2.list.length ≤ 2500 := by have := len_ws p.2; simp only [ws] at hws; omega
  have hbW : Below W.heap.size W W3 := by rw [← HW3.out]; exact (((Below.refl _ _).alloc (Nat.le_refl _) _).alloc (by simp) _).alloc (by simp; omega) _
  have HLs0 : Lst W (six p.1 na nc ka p.2.list.length kc) (six y.1 na2 nc2 ka2 y.2.list.length kc2) (.slice none 0 0) 0 [] (.slice none 0 0) 0 [] W3 := by
    refine ⟨hbW, ?_, ?_, ?_, World.ownsRow_nil _ _ _ _, World.ownsRow_nil _ _ _ _, fun x hx => by simp [Value.ownBlock] at hx⟩
    · rw [← HW3.out]; exact ((blk_new W 25 (six p.1 na nc ka p.2.list.length kc)).alloc _).alloc _
    · rw [← HW3.out]
      have h := (blk_new (W.alloc (.cells #[.int .i64 p.1.k, .int .i64 p.1.n, .int .i64 p.1.s, .string p.1.t, .slice na p.1.ns.length nc, .slice ka p.2.list.length kc] 25)) 25 (six y.1 na2 nc2 ka2 y.2.list.length kc2)).alloc (.cells #[.int .i64 0, .int .i64 0, .int .i64 0, .string ⟨#[]⟩, .slice none 0 0, .slice none 0 0] 25)
      rw [show (W.alloc (.cells #[.int .i64 p.1.k, .int .i64 p.1.n, .int .i64 p.1.s, .string p.1.t, .slice na p.1.ns.length nc, .slice ka p.2.list.length kc] 25)).heap.size = W.heap.size + 1 by simp] at h
      exact h
    · rw [← HW3.out]
      have h := blk_new ((W.alloc (.cells #[.int .i64 p.1.k, .int .i64 p.1.n, .int .i64 p.1.s, .string p.1.t, .slice na p.1.ns.length nc, .slice ka p.2.list.length kc] 25)).alloc (.cells #[.int .i64 y.1.k, .int .i64 y.1.n, .int .i64 y.1.s, .string y.1.t, .slice na2 y.1.ns.length nc2, .slice ka2 y.2.list.length kc2] 25)) 25 zer
      rw [show ((W.alloc (.cells #[.int .i64 p.1.k, .int .i64 p.1.n, .int .i64 p.1.s, .string p.1.t, .slice na p.1.ns.length nc, .slice ka p.2.list.length kc] 25)).alloc (.cells #[.int .i64 y.1.k, .int .i64 y.1.n, .int .i64 y.1.s, .string y.1.t, .slice na2 y.1.ns.length nc2, .slice ka2 y.2.list.length kc2] 25)).heap.size = W.heap.size + 1 + 1 by simp] at h
      exact h
  have HLs3 : Hid (Lst W (six p.1 na nc ka p.2.list.length kc) (six y.1 na2 nc2 ka2 y.2.list.length kc2) (.slice none 0 0) 0 [] (.slice none 0 0) 0 [] W3) := HLs0
  obtain ⟨ss, Lk, hss, hsl⟩ : ∃ ss Lk, (Src W p.2 ss ∧ ss.length = p.2.list.length * 6 ∧ (∀ ad, ka = some ad → ∀ j u, ss[j]? = some u → ad.spot = none ∧ W.cell? (ad.add j) = some u)) ∧ (Lay W p.2 ss Lk ∧ ∀ x ∈ Lk, x ∈ Lp) := by
    obtain ⟨Ln, Lq, rfl, _, _, _, hk⟩ := hvl
    rcases hk with ⟨e, _⟩ | ⟨b, o, ks, L', rfl, rfl, _, hc, hl⟩
    · exact ⟨[], [], ⟨by rw [e]; rfl, by rw [e]; rfl, (fun ad _ j u hj => by simp at hj)⟩, by rw [e]; exact ⟨rfl, rfl⟩, fun x hx => by cases hx⟩
    · exact ⟨ks, L', ⟨hl.src, hl.len, (fun ad e j u hj => by obtain rfl := Option.some.inj e; exact ⟨rfl, by rw [Addr.add_lit]; exact hc j u hj⟩)⟩, hl, fun x hx => by simp [hx]⟩
  have HSL : Hid ((Lay W p.2 ss Lk ∧ ∀ x ∈ Lk, x ∈ Lp ∧ x < W.heap.size) ∧ VlL W y na2 nc2 ka2 kc2 Ly ∧ ∀ x ∈ Ly, x < W.heap.size) := ⟨⟨hsl.1, fun x hx => ⟨hsl.2 x hx, hlp x (hsl.2 x hx)⟩⟩, hvy, hly⟩
  have HSS : Hid (Src W p.2 ss ∧ ss.length = p.2.list.length * 6) := ⟨hss.1, hss.2.1⟩
  have HSx : Hid (∀ w', Below W.heap.size W w' → ∀ ad, ka = some ad → ∀ j u, ss[j]? = some u → w'.cell? (ad.add j) = some u) := fun w' hb ad e j u hj => by
    obtain ⟨hsp, h⟩ := hss.2.2 ad e j u hj
    obtain ⟨b, oo, sp⟩ := ad
    simp only at hsp
    subst hsp
    rw [Addr.add_lit] at h ⊢
    rw [hb.cell (p := ⟨b, oo + j, none⟩) (cell_lt h)]
    exact h
  obtain ⟨K, hK⟩ : ∃ K, cnt p.1.ns name = K := ⟨_, rfl⟩
  have hKl : K ≤ p.1.ns.length := by rw [← hK]; exact cnt_le _ _
  have HLen : Hid (K = (p.1.ns.take K).length ∧ (ss.take (K * 6)).length = K * 6 ∧ ss.length = p.2.list.length * 6) := ⟨by rw [List.length_take]; omega, by rw [List.length_take, hss.2.1]; omega, hss.2.1⟩
  have HOne : Hid ((∀ u ∈ ss.take (K * 6), u.oneCell' = true) ∧ (∀ u ∈ ss.drop (K * 6), u.oneCell' = true) ∧ ∀ u ∈ ss.drop ((K + 1) * 6), u.oneCell' = true) := ⟨fun u hu => src_one hss.1 u (List.mem_of_mem_take hu), fun u hu => src_one hss.1 u (List.mem_of_mem_drop hu), fun u hu => src_one hss.1 u (List.mem_of_mem_drop hu)⟩
  have hKc : K ≤ nc := by have := hv.nc.le; omega
  have hKk : K ≤ kc := by have := hv.kc.le; omega
  have hnc := hv.nc.le
  have hkc := hv.kc.le
  have HCl : Hid (p.2.list.length ≤ kc) := hkc
  have HCp : Hid ((na = none → nc = 0) ∧ (ka = none → kc = 0) ∧ (ka = none → K = 0)) := ⟨hv.nc.nil, hv.kc.nil, fun e => by have := hv.kc.nil e; omega⟩
  have HV : Hid (Vl W p na nc ka kc) := hv
  have HV2 : Hid (Vl W y na2 nc2 ka2 kc2) := hv2
  have HNK : Hid (p.1.ns.length = p.2.list.length) := hnk
  have HLo : Hid (∀ (i : Nat) (x : ByteArray), p.1.ns[i]? = some x → i < K → Op.bytesLess x.toList name.toList = true) := fun i x hx hi => cnt_lo hx (by rw [hK]; exact hi)
  have HSt : Hid (∀ x, p.1.ns[K]? = some x → Op.bytesLess x.toList name.toList = false) := fun x hx => cnt_stop (by rw [hK]; exact hx)
  have HKc : Hid (cnt p.1.ns name = K) := hK
  have HAr : Hid (K ≤ p.1.ns.length ∧ K ≤ p.2.list.length ∧ K ≤ nc ∧ K ≤ kc ∧ p.1.ns.length ≤ nc ∧ p.2.list.length ≤ kc ∧ p.1.ns.length ≤ 2500 ∧ p.2.list.length ≤ 2500) := ⟨hKl, by omega, hKc, hKk, hnc, hkc, hnl, hpl⟩
  clear hKl hKc hKk hnc hkc hnl hpl hkl hkl2
  clear hbW hv hv2 hvl hvy hlp hly hsl hwf hwy hws hss hK HLs0 hnk
  go_enter Try.func36, Try.ntmps36
  go_wp2
  generalize hWW : World.alloc (World.alloc (World.alloc W _) _) _ = W9
  obtain rfl : W3 = W9 := by rw [← hWW, ← HW3.out]
  clear hWW HW3
  go_loopw [7] (fun i wr => ∃ k : Nat, k ≤ K ∧ i = .int .i64 (k : Int) ∧ wr = W3) (fun i _ => K - (intOf i).toNat)
  case atStart => exact ⟨0, by omega, rfl, rfl⟩
  case round =>
    obtain ⟨k, hk, rfl, rfl⟩ := hrel
    have HLs : Hid (Lst W (six p.1 na nc ka p.2.list.length kc) (six y.1 na2 nc2 ka2 y.2.list.length kc2) (.slice none 0 0) 0 [] (.slice none 0 0) 0 [] wr) := HLs3.out
    have d4 : wr.cell? ⟨W.heap.size, 4, none⟩ = some (.slice na p.1.ns.length nc) := HLs.out.b1.cell 4
    by_cases hlo : k < K
    case pos =>
      obtain ⟨x, hx⟩ : ∃ x, p.1.ns[k]? = some x := ⟨_, List.getElem?_eq_getElem (by have := HAr.out; omega)⟩
      have hb := HLo.out k x hx hlo
      obtain ⟨bk, ok, rfl, hc⟩ : ∃ b o, na = some ⟨b, o, none⟩ ∧ wr.cell? ⟨b, o + k, none⟩ = some (.string x) := by
        rcases HV.out.nms.below HLs.out.below with e | ⟨b, o, e, hc⟩
        · rw [e] at hx; simp at hx
        · exact ⟨b, o, e, hc k x hx⟩
      have hin : k < p.1.ns.length := by have := HAr.out; omega
      have hnl2 : p.1.ns.length ≤ 2500 := HAr.out.2.2.2.2.2.2.1
      clear hx
      go_wp2
      go_roundw
      case rel => exact ⟨k + 1, by omega, by go_num, trivial⟩
      case measure => simp [intOf]; omega
    obtain rfl : k = K := by omega
    by_cases hin : k < p.1.ns.length
    case neg =>
      have HKT : Hid (cnt p.1.ns name = k ∧ lyT p name = k) := ⟨HKc.out, by unfold lyT; rw [HKc.out, List.getElem?_eq_none (by omega)]; simp⟩
      obtain ⟨W4, HW4⟩ : ∃ W4, Hid (wr.alloc (.cells #[] 9) = W4) := ⟨_, rfl⟩
      have HL0 : Hid (Lst W (six p.1 na nc ka p.2.list.length kc) (six y.1 na2 nc2 ka2 y.2.list.length kc2) (.slice (some ⟨wr.heap.size, 0, none⟩) 0 0) 0 [] (.slice none 0 0) 0 [] W4) := by
        rw [← HW4.out]
        have h := HLs.out
        refine Lst.names (vN := .slice none 0 0) (nN := 0) (xN := []) h (World.ownsRow_lit (e := 9) (size := 1) (base := W.heap.size + 3) wr #[] 0 h.room (by decide) rfl) (World.grownBy_alloc wr _ none) (.inr rfl)
      have e4 : (wr.alloc (.cells #[] 9)).cell? ⟨W.heap.size, 4, none⟩ = some (.slice na p.1.ns.length nc) := by rw [HW4.out]; exact HL0.out.b1.cell 4
      have HN4 : Hid (Nms W4 na (p.1.ns.take k)) := (HV.out.nms.below HL0.out.below).take k
      have HZ4 : Hid (W.heap.size + 3 ≤ W4.heap.size) := HL0.out.room
      have hKc : k ≤ nc := HAr.out.2.2.1
      go_wp2_with (at_builtin; go_must (generalize hWW : World.alloc wr _ = W9; obtain rfl : W4 = W9 := (by rw [← hWW, ← HW4.out]); clear hWW HW4; refine app_names2 rfl (.tmp 26) (.tmp 30) rfl (W.heap.size + 3) _ 0 [] rfl HL0.out.ownN na k nc (p.1.ns.take k) HLen.out.1 rfl HN4.out HCp.out.1 (by have := HAr.out; omega) HZ4.out ?_))
      intro v1 w5 o1 g1 a1
      have HL1 : Hid (Lst W (six p.1 na nc ka p.2.list.length kc) (six y.1 na2 nc2 ka2 y.2.list.length kc2) v1 k ((p.1.ns.take k).map Value.string) (.slice none 0 0) 0 [] w5) := HL0.out.names (by simpa using o1) g1 a1
      clear o1 g1 a1 HL0 HN4 HZ4 d4 e4 HLs
      obtain ⟨W6, HW6⟩ : ∃ W6, Hid (w5.alloc (.cells #[] 25) = W6) := ⟨_, rfl⟩
      have HL2 : Hid (Lst W (six p.1 na nc ka p.2.list.length kc) (six y.1 na2 nc2 ka2 y.2.list.length kc2) v1 k ((p.1.ns.take k).map Value.string) (.slice (some ⟨w5.heap.size, 0, none⟩) 0 0) 0 [] W6) := by
        rw [← HW6.out]
        have h := HL1.out
        exact h.kids (World.ownsRow_lit (e := 25) (size := 6) (base := W.heap.size + 3) w5 #[] 0 h.room (by decide) rfl) (World.grownBy_alloc w5 _ none) (.inr rfl)
      have d5 : (w5.alloc (.cells #[] 25)).cell? ⟨W.heap.size, 5, none⟩ = some (.slice ka p.2.list.length kc) := by rw [HW6.out]; exact HL2.out.b1.cell 5
      have HS6 : Hid (∀ ad, ka = some ad → ∀ j u, (ss.take (k * 6))[j]? = some u → W6.cell? (ad.add j) = some u) := fun ad e j u hj => by
        rw [List.getElem?_take] at hj
        split at hj
        · exact HSx.out W6 HL2.out.below ad e j u hj
        · cases hj
      have HZ6 : Hid (W.heap.size + 3 ≤ W6.heap.size) := HL2.out.room
      clear HL1
      have hKk : k ≤ kc := HAr.out.2.2.2.1
      go_wp2_with (at_builtin; go_must (generalize hWW : World.alloc w5 _ = W9; obtain rfl : W6 = W9 := (by rw [← hWW, ← HW6.out]); clear hWW HW6; refine app_src rfl (.tmp 32) (.tmp 36) rfl (W.heap.size + 3) _ 0 [] rfl HL2.out.ownK ka k kc (ss.take (k * 6)) rfl HLen.out.2.1 HS6.out (fun e => ⟨HCp.out.2.1 e, HCp.out.2.2 e⟩) HOne.out.1 (by have := HAr.out; omega) HZ6.out ?_))
      intro v2 w7 o2 g2 a2
      have HL3 : Hid (Lst W (six p.1 na nc ka p.2.list.length kc) (six y.1 na2 nc2 ka2 y.2.list.length kc2) v1 k ((p.1.ns.take k).map Value.string) v2 k (ss.take (k * 6)) w7) := HL2.out.kids (by simpa using o2) g2 a2
      clear o2 g2 a2 HL2 HS6 HZ6 d5
      obtain ⟨W8, HW8⟩ : ∃ W8, Hid (w7.alloc (.cells #[.string name] 9) = W8) := ⟨_, rfl⟩
      have HL3' : Hid (Lst W (six p.1 na nc ka p.2.list.length kc) (six y.1 na2 nc2 ka2 y.2.list.length kc2) v1 k ((p.1.ns.take k).map Value.string) v2 k (ss.take (k * 6)) W8) := by rw [← HW8.out]; exact HL3.out.alloc _
      have HN8 : Hid (Nms W8 (some ⟨w7.heap.size, 0, none⟩) [name]) := .inr ⟨w7.heap.size, 0, rfl, fun i x hx => by
        rw [← HW8.out, Nat.zero_add, World.cell?_alloc_new]
        match i, hx with
        | 0, hx => cases hx; rfl
        | i + 1, hx => simp at hx⟩
      have HZ8 : Hid (W.heap.size + 3 ≤ W8.heap.size) := HL3'.out.room
      clear HL3
      go_wp2_with (at_builtin; go_must (generalize hWW : World.alloc w7 _ = W9; obtain rfl : W8 = W9 := (by rw [← hWW, ← HW8.out]); clear hWW HW8; refine app_names2 rfl (.tmp 38) (.tmp 40) rfl (W.heap.size + 3) _ k _ rfl HL3'.out.ownN (some ⟨w7.heap.size, 0, none⟩) 1 1 [name] rfl rfl HN8.out (fun e => by cases e) (by have := HAr.out; omega) HZ8.out ?_))
      intro v3 w8 o3 g3 a3
      have HL4 : Hid (Lst W (six p.1 na nc ka p.2.list.length kc) (six y.1 na2 nc2 ka2 y.2.list.length kc2) v3 (k + 1) ((p.1.ns.take k).map Value.string ++ [Value.string name]) v2 k (ss.take (k * 6)) w8) := HL3'.out.names (by simpa using o3) g3 a3
      clear o3 g3 a3 HL3' HN8 HZ8
      have f0 : w8.cell? ⟨W.heap.size + 1, 0, none⟩ = some (.int .i64 y.1.k) := HL4.out.b2.cell 0
      have f1 : w8.cell? ⟨W.heap.size + 1, 1, none⟩ = some (.int .i64 y.1.n) := HL4.out.b2.cell 1
      have f2 : w8.cell? ⟨W.heap.size + 1, 2, none⟩ = some (.int .i64 y.1.s) := HL4.out.b2.cell 2
      have f3 : w8.cell? ⟨W.heap.size + 1, 3, none⟩ = some (.string y.1.t) := HL4.out.b2.cell 3
      have f4 : w8.cell? ⟨W.heap.size + 1, 4, none⟩ = some (.slice na2 y.1.ns.length nc2) := HL4.out.b2.cell 4
      have f5 : w8.cell? ⟨W.heap.size + 1, 5, none⟩ = some (.slice ka2 y.2.list.length kc2) := HL4.out.b2.cell 5
      obtain ⟨Wa, HWa⟩ : ∃ Wa, Hid (w8.alloc (.cells #[.int .i64 y.1.k, .int .i64 y.1.n, .int .i64 y.1.s, .string y.1.t, .slice na2 y.1.ns.length nc2, .slice ka2 y.2.list.length kc2] 25) = Wa) := ⟨_, rfl⟩
      have HL4' : Hid (Lst W (six p.1 na nc ka p.2.list.length kc) (six y.1 na2 nc2 ka2 y.2.list.length kc2) v3 (k + 1) ((p.1.ns.take k).map Value.string ++ [Value.string name]) v2 k (ss.take (k * 6)) Wa) := by rw [← HWa.out]; exact HL4.out.alloc _
      have HSa : Hid (∀ j u, (six y.1 na2 nc2 ka2 y.2.list.length kc2)[j]? = some u → Wa.cell? ⟨w8.heap.size, j, none⟩ = some u) := fun j u hj => by
        rw [← HWa.out, World.cell?_alloc_new]
        show (six y.1 na2 nc2 ka2 y.2.list.length kc2).toArray[j]? = some u
        rw [List.getElem?_toArray]
        exact hj
      have HZa : Hid (W.heap.size + 3 ≤ Wa.heap.size) := HL4'.out.room
      clear HL4
      go_wp2_with (at_builtin; go_must (generalize hWW : World.alloc w8 _ = W9; obtain rfl : Wa = W9 := (by rw [← hWW, ← HWa.out]); clear hWW HWa; refine app_kids rfl (.tmp 42) (.tmp 44) rfl (W.heap.size + 3) _ k _ rfl HL4'.out.ownK w8.heap.size 1 1 (six y.1 na2 nc2 ka2 y.2.list.length kc2) rfl rfl HSa.out (six_one _ _ _ _ _ _) (by have := HAr.out; omega) HZa.out ?_))
      intro v4 w9 o4 g4 a4
      have HL5 : Hid (Lst W (six p.1 na nc ka p.2.list.length kc) (six y.1 na2 nc2 ka2 y.2.list.length kc2) v3 (k + 1) ((p.1.ns.take k).map Value.string ++ [Value.string name]) v4 (k + 1) (ss.take (k * 6) ++ (six y.1 na2 nc2 ka2 y.2.list.length kc2)) w9) := HL4'.out.kids o4 g4 a4
      clear o4 g4 a4 HL4' HSa HZa f0 f1 f2 f3 f4 f5
      have d4 : w9.cell? ⟨W.heap.size, 4, none⟩ = some (.slice na p.1.ns.length nc) := HL5.out.b1.cell 4
      have hnl3 : p.1.ns.length ≤ 2500 := HAr.out.2.2.2.2.2.2.1
      go_wp2_with ((with_reducible refine sl_pre ?_); refine sl_part rfl 22 (.tmp 64) (.tmp 65) rfl 9 Try.underlying22 1 sz9 na p.1.ns.length nc (k) _ (by omega) rfl rfl (by have := HAr.out; omega) (by have := HAr.out; omega) ?_)
      intro A1 hA12
      have hA1 := hA12.1
      have hA2 := hA12.2
      clear hA12
      have HN9 : Hid (Nms w9 A1 (p.1.ns.drop (k))) := by
        by_cases hlt : k < p.1.ns.length
        · rcases HV.out.nms.below HL5.out.below with e | ⟨b, o, e, hc⟩
          · rw [e] at hlt; simp at hlt
          · refine .inr ⟨b, o + (k) * 1, hA2 hlt b o e, fun i x hx => ?_⟩
            rw [List.getElem?_drop] at hx
            have := hc _ x hx
            rw [show o + (k) * 1 + i = o + (k + i) by omega]
            exact this
        · left
          exact List.drop_of_length_le (by omega)
      have HA1 : Hid (A1 = none → nc - (k) = 0) := fun e => by have := HCp.out.1 (hA1 e); omega
      have HZ9 : Hid (W.heap.size + 3 ≤ w9.heap.size) := HL5.out.room
      clear hA1 hA2 d4
      go_wp2_with (at_builtin; go_must (refine app_names2 rfl (.tmp 62) (.tmp 66) rfl (W.heap.size + 3) _ (k + 1) _ rfl HL5.out.ownN A1 _ _ (p.1.ns.drop (k)) (by rw [List.length_drop]) rfl HN9.out HA1.out (by have := HAr.out; omega) HZ9.out ?_))
      intro v5 w10 o5 g5 a5
      have HL6 : Lst W (six p.1 na nc ka p.2.list.length kc) (six y.1 na2 nc2 ka2 y.2.list.length kc2) v5 (k + 1 + (p.1.ns.length - (k))) ((p.1.ns.take k).map Value.string ++ [Value.string name] ++ (p.1.ns.drop (k)).map Value.string) v4 (k + 1) (ss.take (k * 6) ++ (six y.1 na2 nc2 ka2 y.2.list.length kc2)) w10 := HL5.out.names (by simpa using o5) g5 a5
      obtain ⟨na5, nc5, rfl⟩ := own_shape HL6.ownN
      have HL6' : Hid _ := HL6
      clear o5 g5 a5 HL5 HN9 HA1 HZ9 HL6
      have HLn : Hid (k + 1 + (p.1.ns.length - (k)) = (layN p name).length ∧ ((p.1.ns.take k).map Value.string ++ [Value.string name]) ++ (p.1.ns.drop (k)).map Value.string = (layN p name).map Value.string) := by
        obtain ⟨e1, e2⟩ := HKT.out
        refine ⟨?_, ?_⟩
        · simp only [layN, e1, e2, List.length_append, List.length_take, List.length_cons, List.length_drop]; have := HAr.out; omega
        · simp [layN, e1, e2]
      go_wp2_with (refine st_one rfl 22 (.tmp 68) (.tmp 67) rfl W.heap.size 4 25 _ _ rfl rfl rfl rfl (by simp [six]) HL6'.out.b1 s22 ?_)
      intro w11 b11 g11
      have HL7 := HL6'.out.box b11 g11
      have HL7' : Hid _ := HL7
      have d5 : w11.cell? ⟨W.heap.size, 5, none⟩ = some (.slice ka p.2.list.length kc) := HL7.b1.cell 5
      clear b11 g11 HL6' HL7
      go_wp2_with ((with_reducible refine sl_pre ?_); refine sl_part rfl 23 (.tmp 71) (.tmp 72) rfl 25 Try.underlying23 6 sz25 ka p.2.list.length kc (k) _ (by omega) rfl rfl (by have := HAr.out; omega) (by have := HAr.out; omega) ?_)
      intro A1 hA12
      have hA1 := hA12.1
      have hA2 := hA12.2
      clear hA12
      have HSb : Hid (∀ ad, A1 = some ad → ∀ j u, (ss.drop ((k) * 6))[j]? = some u → w11.cell? (ad.add j) = some u) := fun ad e j u hj => by
        rw [List.getElem?_drop] at hj
        have hl := (List.getElem?_eq_some_iff.1 hj).1
        have hl2 := HLen.out.2.2
        have har := HAr.out
        have hlt : k < p.2.list.length := by omega
        rcases HV.out.slc with e0 | ⟨b, o, e0, _⟩
        · rw [e0] at hlt; simp [Fo.list] at hlt
        · rw [hA2 hlt b o e0] at e
          obtain rfl := Option.some.inj e
          have := HSx.out w11 HL7'.out.below ⟨b, o, none⟩ e0 _ u hj
          rw [Addr.add_lit] at this ⊢
          rw [show o + (k) * 6 + j = o + ((k) * 6 + j) by omega]
          exact this
      have HA1 : Hid (A1 = none → kc - (k) = 0 ∧ p.2.list.length - (k) = 0) := fun e => by
        have e1 := HCp.out.2.1 (hA1 e)
        have e2 := HCl.out
        exact ⟨by omega, by omega⟩
      have HZb : Hid (W.heap.size + 3 ≤ w11.heap.size) := HL7'.out.room
      clear hA1 hA2 d5
      go_wp2_with (at_builtin; go_must (refine app_src rfl (.tmp 69) (.tmp 73) rfl (W.heap.size + 3) _ (k + 1) _ rfl HL7'.out.ownK A1 _ _ (ss.drop ((k) * 6)) rfl (by rw [List.length_drop, HLen.out.2.2]; have := HAr.out; omega) HSb.out HA1.out HOne.out.2.1 (by have := HAr.out; omega) HZb.out ?_))
      intro v6 w12 o6 g6 a6
      have HL8 := HL7'.out.kids (xK' := ss.take (k * 6) ++ (six y.1 na2 nc2 ka2 y.2.list.length kc2) ++ ss.drop ((k) * 6)) (by simpa using o6) g6 a6
      obtain ⟨ka6, kc6, rfl⟩ := own_shape HL8.ownK
      have HL8' : Hid _ := HL8
      clear o6 g6 a6 HL7' HSb HA1 HZb HL8
      go_wp2_with (refine st_one rfl 23 (.tmp 75) (.tmp 74) rfl W.heap.size 5 25 _ _ rfl rfl rfl rfl (by simp [six]) HL8'.out.b1 s23 ?_)
      intro w13 b13 g13
      have HL9 := HL8'.out.box b13 g13
      have HL9' : Hid _ := HL9
      have HLk : Hid (k + 1 + (p.2.list.length - (k)) = (layV p name y).2.list.length) := by
        show _ = _
        rw [lay_len p name y HNK.out, ← HLn.out.1, HNK.out]
      clear b13 g13 HL8'
      have b9 := HL9.b1
      have z0 : w13.cell? ⟨W.heap.size, 0, none⟩ = some (.int .i64 p.1.k) := b9.cell 0
      have z1 : w13.cell? ⟨W.heap.size, 1, none⟩ = some (.int .i64 p.1.n) := b9.cell 1
      have z2 : w13.cell? ⟨W.heap.size, 2, none⟩ = some (.int .i64 p.1.s) := b9.cell 2
      have z3 : w13.cell? ⟨W.heap.size, 3, none⟩ = some (.string p.1.t) := b9.cell 3
      have z4 : w13.cell? ⟨W.heap.size, 4, none⟩ = some (.slice na5 (k + 1 + (p.1.ns.length - (k))) nc5) := b9.cell 4
      have z5 : w13.cell? ⟨W.heap.size, 5, none⟩ = some (.slice ka6 (k + 1 + (p.2.list.length - (k))) kc6) := b9.cell 5
      have HBz : Hid (Blk w13 (W.heap.size + 1 + 1) 25 zer) := HL9.b3
      clear b9 HL9
      go_wp2_with (refine st_all rfl 25 (.tmp 6) (.tmp 76) rfl (W.heap.size + 1 + 1) 25 zer [.int .i64 p.1.k, .int .i64 p.1.n, .int .i64 p.1.s, .string p.1.t, .slice na5 (k + 1 + (p.1.ns.length - (k))) nc5, .slice ka6 (k + 1 + (p.2.list.length - (k))) kc6] rfl rfl HBz.out rfl s25 (by intro u hu; simp only [List.mem_cons, List.not_mem_nil, or_false] at hu; rcases hu with rfl | rfl | rfl | rfl | rfl | rfl <;> rfl) ?_)
      intro w14 b14 g14
      have HB14 : Hid (Blk w14 (W.heap.size + 1 + 1) 25 [.int .i64 p.1.k, .int .i64 p.1.n, .int .i64 p.1.s, .string p.1.t, .slice na5 (k + 1 + (p.1.ns.length - (k))) nc5, .slice ka6 (k + 1 + (p.2.list.length - (k))) kc6]) := b14
      have HFin : Hid ((∃ L, VlL w14 (layV p name y) na5 nc5 ka6 kc6 L ∧ ∀ x ∈ L, x < w14.heap.size ∧ (x ∈ Lp ∨ x ∈ Ly ∨ W.heap.size ≤ x)) ∧ Below W.heap.size W w14) := by
        have h := HL9'.out
        obtain ⟨e1, e2⟩ := HKT.out
        have bl : Below W.heap.size W w14 := h.below.grown g14 h.below.size (by intro x hx; injection hx with hx; omega)
        have oN := own_kept h.ownN g14 (by omega)
        have oK := own_kept h.ownK g14 (by omega)
        rw [HLn.out.1, HLn.out.2] at oN
        rw [HLk.out] at oK
        have lN := World.ownsRow.lt oN
        have lK := World.ownsRow.lt oK
        obtain ⟨na7, nc7, Ln, ee, hnm, hcp, hob, _⟩ := nml_of oN
        injection ee with x1 _ x3
        subst x1 x3
        obtain ⟨ka7, kc7, sp, ee, hck, hrow⟩ := row_of oK
        injection ee with x1 _ x3
        subst x1 x3
        obtain ⟨⟨hl0, hl1⟩, hy0, hy1⟩ := HSL.out
        have s0 : Lay w14 p.2 ss Lk := Lay.keep _ hl0 fun x hx => bl.block x (hl1 x hx).2
        have y0 : VlL w14 y na2 nc2 ka2 kc2 Ly := hy0.keep fun x hx => bl.block x (hy1 x hx)
        obtain ⟨L1, _, ex, la, _⟩ := s0.split (k)
        obtain ⟨_, L3, ez, _, lb⟩ := s0.split (k)
        have hsrc : Lay w14 (layV p name y).2 (ss.take (k * 6) ++ (six y.1 na2 nc2 ka2 y.2.list.length kc2) ++ ss.drop ((k) * 6)) (L1 ++ (Ly ++ L3)) := by
          rw [List.append_assoc]
          have := la.app (g := .cons y.1 y.2 (p.2.drop (k))) (c2 := (six y.1 na2 nc2 ka2 y.2.list.length kc2) ++ ss.drop ((k) * 6)) (L2 := Ly ++ L3) (lay_cons.2 ⟨na2, nc2, ka2, kc2, _, Ly, L3, rfl, rfl, y0, lb⟩)
          simp only [layV, e1, e2]
          exact this
        have hsz := bl.size
        have hmem : ∀ x ∈ L1 ++ (Ly ++ L3), x < w14.heap.size ∧ (x ∈ Lp ∨ x ∈ Ly ∨ W.heap.size ≤ x) := fun x hx => by
          simp only [List.mem_append] at hx
          rcases hx with hx | hx | hx
          · have := hl1 x (by rw [ex]; simp [hx]); exact ⟨by omega, .inl this.1⟩
          · have := hy1 x hx; exact ⟨by omega, .inr (.inl hx)⟩
          · have := hl1 x (by rw [ez]; simp [hx]); exact ⟨by omega, .inl this.1⟩
        refine ⟨?_, bl⟩
        rcases hrow with hr | ⟨g, rfl, hg, _, _, _⟩
        · refine ⟨Ln ++ [], ⟨Ln, [], rfl, hnm, hcp, hck, .inl ⟨list_nil hr.1, rfl⟩⟩, fun x hx => ?_⟩
          simp only [List.append_nil] at hx
          have := lN x (hob x hx)
          exact ⟨this.2, .inr (.inr (by omega))⟩
        · refine ⟨Ln ++ (g :: (L1 ++ (Ly ++ L3))), ⟨Ln, _, rfl, hnm, hcp, hck, .inr ⟨g, 0, _, _, rfl, rfl, fun i => hg.frozen i, fun j u hj => ?_, hsrc⟩⟩, fun x hx => ?_⟩
          · rw [Nat.zero_add, hg.cell, List.getElem?_append_left (List.getElem?_eq_some_iff.1 hj).1]
            exact hj
          · rcases List.mem_append.1 hx with hx | hx
            · have := lN x (hob x hx)
              exact ⟨this.2, .inr (.inr (by omega))⟩
            · rcases List.mem_cons.1 hx with rfl | hx
              · have := lK x rfl
                exact ⟨this.2, .inr (.inr (by omega))⟩
              · exact hmem x hx
      clear b14 g14
      go_wp2
      refine bodyPost_ret (res_row rfl _ (W.heap.size + 1 + 1) 25 _ _ rfl HB14.out Try.underlying25 rfl s25) rfl ?_
      refine ⟨na5, nc5, ka6, kc6, ?_, HFin.out⟩
      rw [HLn.out.1, HLk.out]
      rfl
    obtain ⟨x, hx⟩ : ∃ x, p.1.ns[k]? = some x := ⟨_, List.getElem?_eq_getElem hin⟩
    have hb := HSt.out x hx
    obtain ⟨bk, ok, rfl, hc⟩ : ∃ b o, na = some ⟨b, o, none⟩ ∧ ∀ w', Below W.heap.size W w' → w'.cell? ⟨b, o + k, none⟩ = some (.string x) := by
      rcases HV.out.nms with e | ⟨b, o, e, hc⟩
      · rw [e] at hx; simp at hx
      · exact ⟨b, o, e, fun w' hb => (hb.cell (p := ⟨b, o + k, none⟩) (cell_lt (hc k x hx))).trans (hc k x hx)⟩
    have HXc : Hid (∀ w', Below W.heap.size W w' → w'.cell? ⟨bk, ok + k, none⟩ = some (.string x)) := hc
    have hc0 := hc wr HLs.out.below
    clear hc
    by_cases he : x.toList == name.toList
    case pos =>
      have HKT : Hid (cnt p.1.ns name = k ∧ lyT p name = k + 1) := ⟨HKc.out, by unfold lyT; rw [HKc.out, hx, show x = name from bytes_ext (by simpa using he)]; simp⟩
      have HAr2 : Hid (k + 1 ≤ p.1.ns.length ∧ k + 1 ≤ p.2.list.length) := ⟨hin, by have := HNK.out; omega⟩
      clear hx
      obtain ⟨W4, HW4⟩ : ∃ W4, Hid (wr.alloc (.cells #[] 9) = W4) := ⟨_, rfl⟩
      have HL0 : Hid (Lst W (six p.1 (some ⟨bk, ok, none⟩) nc ka p.2.list.length kc) (six y.1 na2 nc2 ka2 y.2.list.length kc2) (.slice (some ⟨wr.heap.size, 0, none⟩) 0 0) 0 [] (.slice none 0 0) 0 [] W4) := by
        rw [← HW4.out]
        have h := HLs.out
        refine Lst.names (vN := .slice none 0 0) (nN := 0) (xN := []) h (World.ownsRow_lit (e := 9) (size := 1) (base := W.heap.size + 3) wr #[] 0 h.room (by decide) rfl) (World.grownBy_alloc wr _ none) (.inr rfl)
      have e4 : (wr.alloc (.cells #[] 9)).cell? ⟨W.heap.size, 4, none⟩ = some (.slice (some ⟨bk, ok, none⟩) p.1.ns.length nc) := by rw [HW4.out]; exact HL0.out.b1.cell 4
      have HN4 : Hid (Nms W4 (some ⟨bk, ok, none⟩) (p.1.ns.take k)) := (HV.out.nms.below HL0.out.below).take k
      have HZ4 : Hid (W.heap.size + 3 ≤ W4.heap.size) := HL0.out.room
      have hKc : k ≤ nc := HAr.out.2.2.1
      go_wp2_with (at_builtin; go_must (generalize hWW : World.alloc wr _ = W9; obtain rfl : W4 = W9 := (by rw [← hWW, ← HW4.out]); clear hWW HW4; refine app_names2 rfl (.tmp 26) (.tmp 30) rfl (W.heap.size + 3) _ 0 [] rfl HL0.out.ownN (some ⟨bk, ok, none⟩) k nc (p.1.ns.take k) HLen.out.1 rfl HN4.out HCp.out.1 (by have := HAr.out; have := HAr2.out; omega) HZ4.out ?_))
      intro v1 w5 o1 g1 a1
      have HL1 : Hid (Lst W (six p.1 (some ⟨bk, ok, none⟩) nc ka p.2.list.length kc) (six y.1 na2 nc2 ka2 y.2.list.length kc2) v1 k ((p.1.ns.take k).map Value.string) (.slice none 0 0) 0 [] w5) := HL0.out.names (by simpa using o1) g1 a1
      clear o1 g1 a1 HL0 HN4 HZ4 d4 e4 HLs
      obtain ⟨W6, HW6⟩ : ∃ W6, Hid (w5.alloc (.cells #[] 25) = W6) := ⟨_, rfl⟩
      have HL2 : Hid (Lst W (six p.1 (some ⟨bk, ok, none⟩) nc ka p.2.list.length kc) (six y.1 na2 nc2 ka2 y.2.list.length kc2) v1 k ((p.1.ns.take k).map Value.string) (.slice (some ⟨w5.heap.size, 0, none⟩) 0 0) 0 [] W6) := by
        rw [← HW6.out]
        have h := HL1.out
        exact h.kids (World.ownsRow_lit (e := 25) (size := 6) (base := W.heap.size + 3) w5 #[] 0 h.room (by decide) rfl) (World.grownBy_alloc w5 _ none) (.inr rfl)
      have d5 : (w5.alloc (.cells #[] 25)).cell? ⟨W.heap.size, 5, none⟩ = some (.slice ka p.2.list.length kc) := by rw [HW6.out]; exact HL2.out.b1.cell 5
      have HS6 : Hid (∀ ad, ka = some ad → ∀ j u, (ss.take (k * 6))[j]? = some u → W6.cell? (ad.add j) = some u) := fun ad e j u hj => by
        rw [List.getElem?_take] at hj
        split at hj
        · exact HSx.out W6 HL2.out.below ad e j u hj
        · cases hj
      have HZ6 : Hid (W.heap.size + 3 ≤ W6.heap.size) := HL2.out.room
      clear HL1
      have hKk : k ≤ kc := HAr.out.2.2.2.1
      go_wp2_with (at_builtin; go_must (generalize hWW : World.alloc w5 _ = W9; obtain rfl : W6 = W9 := (by rw [← hWW, ← HW6.out]); clear hWW HW6; refine app_src rfl (.tmp 32) (.tmp 36) rfl (W.heap.size + 3) _ 0 [] rfl HL2.out.ownK ka k kc (ss.take (k * 6)) rfl HLen.out.2.1 HS6.out (fun e => ⟨HCp.out.2.1 e, HCp.out.2.2 e⟩) HOne.out.1 (by have := HAr.out; have := HAr2.out; omega) HZ6.out ?_))
      intro v2 w7 o2 g2 a2
      have HL3 : Hid (Lst W (six p.1 (some ⟨bk, ok, none⟩) nc ka p.2.list.length kc) (six y.1 na2 nc2 ka2 y.2.list.length kc2) v1 k ((p.1.ns.take k).map Value.string) v2 k (ss.take (k * 6)) w7) := HL2.out.kids (by simpa using o2) g2 a2
      clear o2 g2 a2 HL2 HS6 HZ6 d5
      obtain ⟨W8, HW8⟩ : ∃ W8, Hid (w7.alloc (.cells #[.string name] 9) = W8) := ⟨_, rfl⟩
      have HL3' : Hid (Lst W (six p.1 (some ⟨bk, ok, none⟩) nc ka p.2.list.length kc) (six y.1 na2 nc2 ka2 y.2.list.length kc2) v1 k ((p.1.ns.take k).map Value.string) v2 k (ss.take (k * 6)) W8) := by rw [← HW8.out]; exact HL3.out.alloc _
      have HN8 : Hid (Nms W8 (some ⟨w7.heap.size, 0, none⟩) [name]) := .inr ⟨w7.heap.size, 0, rfl, fun i x hx => by
        rw [← HW8.out, Nat.zero_add, World.cell?_alloc_new]
        match i, hx with
        | 0, hx => cases hx; rfl
        | i + 1, hx => simp at hx⟩
      have HZ8 : Hid (W.heap.size + 3 ≤ W8.heap.size) := HL3'.out.room
      clear HL3
      go_wp2_with (at_builtin; go_must (generalize hWW : World.alloc w7 _ = W9; obtain rfl : W8 = W9 := (by rw [← hWW, ← HW8.out]); clear hWW HW8; refine app_names2 rfl (.tmp 38) (.tmp 40) rfl (W.heap.size + 3) _ k _ rfl HL3'.out.ownN (some ⟨w7.heap.size, 0, none⟩) 1 1 [name] rfl rfl HN8.out (fun e => by cases e) (by have := HAr.out; have := HAr2.out; omega) HZ8.out ?_))
      intro v3 w8 o3 g3 a3
      have HL4 : Hid (Lst W (six p.1 (some ⟨bk, ok, none⟩) nc ka p.2.list.length kc) (six y.1 na2 nc2 ka2 y.2.list.length kc2) v3 (k + 1) ((p.1.ns.take k).map Value.string ++ [Value.string name]) v2 k (ss.take (k * 6)) w8) := HL3'.out.names (by simpa using o3) g3 a3
      clear o3 g3 a3 HL3' HN8 HZ8
      have f0 : w8.cell? ⟨W.heap.size + 1, 0, none⟩ = some (.int .i64 y.1.k) := HL4.out.b2.cell 0
      have f1 : w8.cell? ⟨W.heap.size + 1, 1, none⟩ = some (.int .i64 y.1.n) := HL4.out.b2.cell 1
      have f2 : w8.cell? ⟨W.heap.size + 1, 2, none⟩ = some (.int .i64 y.1.s) := HL4.out.b2.cell 2
      have f3 : w8.cell? ⟨W.heap.size + 1, 3, none⟩ = some (.string y.1.t) := HL4.out.b2.cell 3
      have f4 : w8.cell? ⟨W.heap.size + 1, 4, none⟩ = some (.slice na2 y.1.ns.length nc2) := HL4.out.b2.cell 4
      have f5 : w8.cell? ⟨W.heap.size + 1, 5, none⟩ = some (.slice ka2 y.2.list.length kc2) := HL4.out.b2.cell 5
      obtain ⟨Wa, HWa⟩ : ∃ Wa, Hid (w8.alloc (.cells #[.int .i64 y.1.k, .int .i64 y.1.n, .int .i64 y.1.s, .string y.1.t, .slice na2 y.1.ns.length nc2, .slice ka2 y.2.list.length kc2] 25) = Wa) := ⟨_, rfl⟩
      have HL4' : Hid (Lst W (six p.1 (some ⟨bk, ok, none⟩) nc ka p.2.list.length kc) (six y.1 na2 nc2 ka2 y.2.list.length kc2) v3 (k + 1) ((p.1.ns.take k).map Value.string ++ [Value.string name]) v2 k (ss.take (k * 6)) Wa) := by rw [← HWa.out]; exact HL4.out.alloc _
      have HSa : Hid (∀ j u, (six y.1 na2 nc2 ka2 y.2.list.length kc2)[j]? = some u → Wa.cell? ⟨w8.heap.size, j, none⟩ = some u) := fun j u hj => by
        rw [← HWa.out, World.cell?_alloc_new]
        show (six y.1 na2 nc2 ka2 y.2.list.length kc2).toArray[j]? = some u
        rw [List.getElem?_toArray]
        exact hj
      have HZa : Hid (W.heap.size + 3 ≤ Wa.heap.size) := HL4'.out.room
      clear HL4
      go_wp2_with (at_builtin; go_must (generalize hWW : World.alloc w8 _ = W9; obtain rfl : Wa = W9 := (by rw [← hWW, ← HWa.out]); clear hWW HWa; refine app_kids rfl (.tmp 42) (.tmp 44) rfl (W.heap.size + 3) _ k _ rfl HL4'.out.ownK w8.heap.size 1 1 (six y.1 na2 nc2 ka2 y.2.list.length kc2) rfl rfl HSa.out (six_one _ _ _ _ _ _) (by have := HAr.out; have := HAr2.out; omega) HZa.out ?_))
      intro v4 w9 o4 g4 a4
      have HL5 : Hid (Lst W (six p.1 (some ⟨bk, ok, none⟩) nc ka p.2.list.length kc) (six y.1 na2 nc2 ka2 y.2.list.length kc2) v3 (k + 1) ((p.1.ns.take k).map Value.string ++ [Value.string name]) v4 (k + 1) (ss.take (k * 6) ++ (six y.1 na2 nc2 ka2 y.2.list.length kc2)) w9) := HL4'.out.kids o4 g4 a4
      clear o4 g4 a4 HL4' HSa HZa f0 f1 f2 f3 f4 f5
      have d4 : w9.cell? ⟨W.heap.size, 4, none⟩ = some (.slice (some ⟨bk, ok, none⟩) p.1.ns.length nc) := HL5.out.b1.cell 4
      have hnl3 : p.1.ns.length ≤ 2500 := HAr.out.2.2.2.2.2.2.1
      have hcx := HXc.out w9 HL5.out.below
      go_wp2_with ((with_reducible refine sl_pre ?_); refine sl_part rfl 22 (.tmp 64) (.tmp 65) rfl 9 Try.underlying22 1 sz9 (some ⟨bk, ok, none⟩) p.1.ns.length nc (k + 1) _ (by omega) rfl rfl (by have := HAr.out; have := HAr2.out; omega) (by have := HAr.out; have := HAr2.out; omega) ?_)
      intro A1 hA12
      have hA1 := hA12.1
      have hA2 := hA12.2
      clear hA12
      have HN9 : Hid (Nms w9 A1 (p.1.ns.drop (k + 1))) := by
        by_cases hlt : k + 1 < p.1.ns.length
        · rcases HV.out.nms.below HL5.out.below with e | ⟨b, o, e, hc⟩
          · rw [e] at hlt; simp at hlt
          · refine .inr ⟨b, o + (k + 1) * 1, hA2 hlt b o e, fun i x hx => ?_⟩
            rw [List.getElem?_drop] at hx
            have := hc _ x hx
            rw [show o + (k + 1) * 1 + i = o + (k + 1 + i) by omega]
            exact this
        · left
          exact List.drop_of_length_le (by omega)
      have HA1 : Hid (A1 = none → nc - (k + 1) = 0) := fun e => by have := HCp.out.1 (hA1 e); omega
      have HZ9 : Hid (W.heap.size + 3 ≤ w9.heap.size) := HL5.out.room
      clear hA1 hA2 d4
      go_wp2_with (at_builtin; go_must (refine app_names2 rfl (.tmp 62) (.tmp 66) rfl (W.heap.size + 3) _ (k + 1) _ rfl HL5.out.ownN A1 _ _ (p.1.ns.drop (k + 1)) (by rw [List.length_drop]) rfl HN9.out HA1.out (by have := HAr.out; have := HAr2.out; omega) HZ9.out ?_))
      intro v5 w10 o5 g5 a5
      have HL6 : Lst W (six p.1 (some ⟨bk, ok, none⟩) nc ka p.2.list.length kc) (six y.1 na2 nc2 ka2 y.2.list.length kc2) v5 (k + 1 + (p.1.ns.length - (k + 1))) ((p.1.ns.take k).map Value.string ++ [Value.string name] ++ (p.1.ns.drop (k + 1)).map Value.string) v4 (k + 1) (ss.take (k * 6) ++ (six y.1 na2 nc2 ka2 y.2.list.length kc2)) w10 := HL5.out.names (by simpa using o5) g5 a5
      obtain ⟨na5, nc5, rfl⟩ := own_shape HL6.ownN
      have HL6' : Hid _ := HL6
      clear o5 g5 a5 HL5 HN9 HA1 HZ9 HL6
      have HLn : Hid (k + 1 + (p.1.ns.length - (k + 1)) = (layN p name).length ∧ ((p.1.ns.take k).map Value.string ++ [Value.string name]) ++ (p.1.ns.drop (k + 1)).map Value.string = (layN p name).map Value.string) := by
        obtain ⟨e1, e2⟩ := HKT.out
        refine ⟨?_, ?_⟩
        · simp only [layN, e1, e2, List.length_append, List.length_take, List.length_cons, List.length_drop]; have := HAr.out; have := HAr2.out; omega
        · simp [layN, e1, e2]
      go_wp2_with (refine st_one rfl 22 (.tmp 68) (.tmp 67) rfl W.heap.size 4 25 _ _ rfl rfl rfl rfl (by simp [six]) HL6'.out.b1 s22 ?_)
      intro w11 b11 g11
      have HL7 := HL6'.out.box b11 g11
      have HL7' : Hid _ := HL7
      have d5 : w11.cell? ⟨W.heap.size, 5, none⟩ = some (.slice ka p.2.list.length kc) := HL7.b1.cell 5
      clear b11 g11 HL6' HL7
      go_wp2_with ((with_reducible refine sl_pre ?_); refine sl_part rfl 23 (.tmp 71) (.tmp 72) rfl 25 Try.underlying23 6 sz25 ka p.2.list.length kc (k + 1) _ (by omega) rfl rfl (by have := HAr.out; have := HAr2.out; omega) (by have := HAr.out; have := HAr2.out; omega) ?_)
      intro A1 hA12
      have hA1 := hA12.1
      have hA2 := hA12.2
      clear hA12
      have HSb : Hid (∀ ad, A1 = some ad → ∀ j u, (ss.drop ((k + 1) * 6))[j]? = some u → w11.cell? (ad.add j) = some u) := fun ad e j u hj => by
        rw [List.getElem?_drop] at hj
        have hl := (List.getElem?_eq_some_iff.1 hj).1
        have hl2 := HLen.out.2.2
        have har := HAr.out
        have hlt : k + 1 < p.2.list.length := by omega
        rcases HV.out.slc with e0 | ⟨b, o, e0, _⟩
        · rw [e0] at hlt; simp [Fo.list] at hlt
        · rw [hA2 hlt b o e0] at e
          obtain rfl := Option.some.inj e
          have := HSx.out w11 HL7'.out.below ⟨b, o, none⟩ e0 _ u hj
          rw [Addr.add_lit] at this ⊢
          rw [show o + (k + 1) * 6 + j = o + ((k + 1) * 6 + j) by omega]
          exact this
      have HA1 : Hid (A1 = none → kc - (k + 1) = 0 ∧ p.2.list.length - (k + 1) = 0) := fun e => by
        have e1 := HCp.out.2.1 (hA1 e)
        have e2 := HCl.out
        exact ⟨by omega, by omega⟩
      have HZb : Hid (W.heap.size + 3 ≤ w11.heap.size) := HL7'.out.room
      clear hA1 hA2 d5
      go_wp2_with (at_builtin; go_must (refine app_src rfl (.tmp 69) (.tmp 73) rfl (W.heap.size + 3) _ (k + 1) _ rfl HL7'.out.ownK A1 _ _ (ss.drop ((k + 1) * 6)) rfl (by rw [List.length_drop, HLen.out.2.2]; have := HAr.out; have := HAr2.out; omega) HSb.out HA1.out HOne.out.2.2 (by have := HAr.out; have := HAr2.out; omega) HZb.out ?_))
      intro v6 w12 o6 g6 a6
      have HL8 := HL7'.out.kids (xK' := ss.take (k * 6) ++ (six y.1 na2 nc2 ka2 y.2.list.length kc2) ++ ss.drop ((k + 1) * 6)) (by simpa using o6) g6 a6
      obtain ⟨ka6, kc6, rfl⟩ := own_shape HL8.ownK
      have HL8' : Hid _ := HL8
      clear o6 g6 a6 HL7' HSb HA1 HZb HL8
      go_wp2_with (refine st_one rfl 23 (.tmp 75) (.tmp 74) rfl W.heap.size 5 25 _ _ rfl rfl rfl rfl (by simp [six]) HL8'.out.b1 s23 ?_)
      intro w13 b13 g13
      have HL9 := HL8'.out.box b13 g13
      have HL9' : Hid _ := HL9
      have HLk : Hid (k + 1 + (p.2.list.length - (k + 1)) = (layV p name y).2.list.length) := by
        show _ = _
        rw [lay_len p name y HNK.out, ← HLn.out.1, HNK.out]
      clear b13 g13 HL8'
      have b9 := HL9.b1
      have z0 : w13.cell? ⟨W.heap.size, 0, none⟩ = some (.int .i64 p.1.k) := b9.cell 0
      have z1 : w13.cell? ⟨W.heap.size, 1, none⟩ = some (.int .i64 p.1.n) := b9.cell 1
      have z2 : w13.cell? ⟨W.heap.size, 2, none⟩ = some (.int .i64 p.1.s) := b9.cell 2
      have z3 : w13.cell? ⟨W.heap.size, 3, none⟩ = some (.string p.1.t) := b9.cell 3
      have z4 : w13.cell? ⟨W.heap.size, 4, none⟩ = some (.slice na5 (k + 1 + (p.1.ns.length - (k + 1))) nc5) := b9.cell 4
      have z5 : w13.cell? ⟨W.heap.size, 5, none⟩ = some (.slice ka6 (k + 1 + (p.2.list.length - (k + 1))) kc6) := b9.cell 5
      have HBz : Hid (Blk w13 (W.heap.size + 1 + 1) 25 zer) := HL9.b3
      clear b9 HL9
      go_wp2_with (refine st_all rfl 25 (.tmp 6) (.tmp 76) rfl (W.heap.size + 1 + 1) 25 zer [.int .i64 p.1.k, .int .i64 p.1.n, .int .i64 p.1.s, .string p.1.t, .slice na5 (k + 1 + (p.1.ns.length - (k + 1))) nc5, .slice ka6 (k + 1 + (p.2.list.length - (k + 1))) kc6] rfl rfl HBz.out rfl s25 (by intro u hu; simp only [List.mem_cons, List.not_mem_nil, or_false] at hu; rcases hu with rfl | rfl | rfl | rfl | rfl | rfl <;> rfl) ?_)
      intro w14 b14 g14
      have HB14 : Hid (Blk w14 (W.heap.size + 1 + 1) 25 [.int .i64 p.1.k, .int .i64 p.1.n, .int .i64 p.1.s, .string p.1.t, .slice na5 (k + 1 + (p.1.ns.length - (k + 1))) nc5, .slice ka6 (k + 1 + (p.2.list.length - (k + 1))) kc6]) := b14
      have HFin : Hid ((∃ L, VlL w14 (layV p name y) na5 nc5 ka6 kc6 L ∧ ∀ x ∈ L, x < w14.heap.size ∧ (x ∈ Lp ∨ x ∈ Ly ∨ W.heap.size ≤ x)) ∧ Below W.heap.size W w14) := by
        have h := HL9'.out
        obtain ⟨e1, e2⟩ := HKT.out
        have bl : Below W.heap.size W w14 := h.below.grown g14 h.below.size (by intro x hx; injection hx with hx; omega)
        have oN := own_kept h.ownN g14 (by omega)
        have oK := own_kept h.ownK g14 (by omega)
        rw [HLn.out.1, HLn.out.2] at oN
        rw [HLk.out] at oK
        have lN := World.ownsRow.lt oN
        have lK := World.ownsRow.lt oK
        obtain ⟨na7, nc7, Ln, ee, hnm, hcp, hob, _⟩ := nml_of oN
        injection ee with x1 _ x3
        subst x1 x3
        obtain ⟨ka7, kc7, sp, ee, hck, hrow⟩ := row_of oK
        injection ee with x1 _ x3
        subst x1 x3
        obtain ⟨⟨hl0, hl1⟩, hy0, hy1⟩ := HSL.out
        have s0 : Lay w14 p.2 ss Lk := Lay.keep _ hl0 fun x hx => bl.block x (hl1 x hx).2
        have y0 : VlL w14 y na2 nc2 ka2 kc2 Ly := hy0.keep fun x hx => bl.block x (hy1 x hx)
        obtain ⟨L1, _, ex, la, _⟩ := s0.split (k)
        obtain ⟨_, L3, ez, _, lb⟩ := s0.split (k + 1)
        have hsrc : Lay w14 (layV p name y).2 (ss.take (k * 6) ++ (six y.1 na2 nc2 ka2 y.2.list.length kc2) ++ ss.drop ((k + 1) * 6)) (L1 ++ (Ly ++ L3)) := by
          rw [List.append_assoc]
          have := la.app (g := .cons y.1 y.2 (p.2.drop (k + 1))) (c2 := (six y.1 na2 nc2 ka2 y.2.list.length kc2) ++ ss.drop ((k + 1) * 6)) (L2 := Ly ++ L3) (lay_cons.2 ⟨na2, nc2, ka2, kc2, _, Ly, L3, rfl, rfl, y0, lb⟩)
          simp only [layV, e1, e2]
          exact this
        have hsz := bl.size
        have hmem : ∀ x ∈ L1 ++ (Ly ++ L3), x < w14.heap.size ∧ (x ∈ Lp ∨ x ∈ Ly ∨ W.heap.size ≤ x) := fun x hx => by
          simp only [List.mem_append] at hx
          rcases hx with hx | hx | hx
          · have := hl1 x (by rw [ex]; simp [hx]); exact ⟨by omega, .inl this.1⟩
          · have := hy1 x hx; exact ⟨by omega, .inr (.inl hx)⟩
          · have := hl1 x (by rw [ez]; simp [hx]); exact ⟨by omega, .inl this.1⟩
        refine ⟨?_, bl⟩
        rcases hrow with hr | ⟨g, rfl, hg, _, _, _⟩
        · refine ⟨Ln ++ [], ⟨Ln, [], rfl, hnm, hcp, hck, .inl ⟨list_nil hr.1, rfl⟩⟩, fun x hx => ?_⟩
          simp only [List.append_nil] at hx
          have := lN x (hob x hx)
          exact ⟨this.2, .inr (.inr (by omega))⟩
        · refine ⟨Ln ++ (g :: (L1 ++ (Ly ++ L3))), ⟨Ln, _, rfl, hnm, hcp, hck, .inr ⟨g, 0, _, _, rfl, rfl, fun i => hg.frozen i, fun j u hj => ?_, hsrc⟩⟩, fun x hx => ?_⟩
          · rw [Nat.zero_add, hg.cell, List.getElem?_append_left (List.getElem?_eq_some_iff.1 hj).1]
            exact hj
          · rcases List.mem_append.1 hx with hx | hx
            · have := lN x (hob x hx)
              exact ⟨this.2, .inr (.inr (by omega))⟩
            · rcases List.mem_cons.1 hx with rfl | hx
              · have := lK x rfl
                exact ⟨this.2, .inr (.inr (by omega))⟩
              · exact hmem x hx
      clear b14 g14
      go_wp2
      refine bodyPost_ret (res_row rfl _ (W.heap.size + 1 + 1) 25 _ _ rfl HB14.out Try.underlying25 rfl s25) rfl ?_
      refine ⟨na5, nc5, ka6, kc6, ?_, HFin.out⟩
      rw [HLn.out.1, HLk.out]
      rfl
    have he2 : (x.toList == name.toList) = false := by simpa using he
    have HKT : Hid (cnt p.1.ns name = k ∧ lyT p name = k) := ⟨HKc.out, by unfold lyT; rw [HKc.out, hx, if_neg]; intro c; injection c with c; rw [c] at he2; simp at he2⟩
    clear hx he
    obtain ⟨W4, HW4⟩ : ∃ W4, Hid (wr.alloc (.cells #[] 9) = W4) := ⟨_, rfl⟩
    have HL0 : Hid (Lst W (six p.1 (some ⟨bk, ok, none⟩) nc ka p.2.list.length kc) (six y.1 na2 nc2 ka2 y.2.list.length kc2) (.slice (some ⟨wr.heap.size, 0, none⟩) 0 0) 0 [] (.slice none 0 0) 0 [] W4) := by
      rw [← HW4.out]
      have h := HLs.out
      refine Lst.names (vN := .slice none 0 0) (nN := 0) (xN := []) h (World.ownsRow_lit (e := 9) (size := 1) (base := W.heap.size + 3) wr #[] 0 h.room (by decide) rfl) (World.grownBy_alloc wr _ none) (.inr rfl)
    have e4 : (wr.alloc (.cells #[] 9)).cell? ⟨W.heap.size, 4, none⟩ = some (.slice (some ⟨bk, ok, none⟩) p.1.ns.length nc) := by rw [HW4.out]; exact HL0.out.b1.cell 4
    have HN4 : Hid (Nms W4 (some ⟨bk, ok, none⟩) (p.1.ns.take k)) := (HV.out.nms.below HL0.out.below).take k
    have HZ4 : Hid (W.heap.size + 3 ≤ W4.heap.size) := HL0.out.room
    have hKc : k ≤ nc := HAr.out.2.2.1
    go_wp2_with (at_builtin; go_must (generalize hWW : World.alloc wr _ = W9; obtain rfl : W4 = W9 := (by rw [← hWW, ← HW4.out]); clear hWW HW4; refine app_names2 rfl (.tmp 26) (.tmp 30) rfl (W.heap.size + 3) _ 0 [] rfl HL0.out.ownN (some ⟨bk, ok, none⟩) k nc (p.1.ns.take k) HLen.out.1 rfl HN4.out HCp.out.1 (by have := HAr.out; omega) HZ4.out ?_))
    intro v1 w5 o1 g1 a1
    have HL1 : Hid (Lst W (six p.1 (some ⟨bk, ok, none⟩) nc ka p.2.list.length kc) (six y.1 na2 nc2 ka2 y.2.list.length kc2) v1 k ((p.1.ns.take k).map Value.string) (.slice none 0 0) 0 [] w5) := HL0.out.names (by simpa using o1) g1 a1
    clear o1 g1 a1 HL0 HN4 HZ4 d4 e4 HLs
    obtain ⟨W6, HW6⟩ : ∃ W6, Hid (w5.alloc (.cells #[] 25) = W6) := ⟨_, rfl⟩
    have HL2 : Hid (Lst W (six p.1 (some ⟨bk, ok, none⟩) nc ka p.2.list.length kc) (six y.1 na2 nc2 ka2 y.2.list.length kc2) v1 k ((p.1.ns.take k).map Value.string) (.slice (some ⟨w5.heap.size, 0, none⟩) 0 0) 0 [] W6) := by
      rw [← HW6.out]
      have h := HL1.out
      exact h.kids (World.ownsRow_lit (e := 25) (size := 6) (base := W.heap.size + 3) w5 #[] 0 h.room (by decide) rfl) (World.grownBy_alloc w5 _ none) (.inr rfl)
    have d5 : (w5.alloc (.cells #[] 25)).cell? ⟨W.heap.size, 5, none⟩ = some (.slice ka p.2.list.length kc) := by rw [HW6.out]; exact HL2.out.b1.cell 5
    have HS6 : Hid (∀ ad, ka = some ad → ∀ j u, (ss.take (k * 6))[j]? = some u → W6.cell? (ad.add j) = some u) := fun ad e j u hj => by
      rw [List.getElem?_take] at hj
      split at hj
      · exact HSx.out W6 HL2.out.below ad e j u hj
      · cases hj
    have HZ6 : Hid (W.heap.size + 3 ≤ W6.heap.size) := HL2.out.room
    clear HL1
    have hKk : k ≤ kc := HAr.out.2.2.2.1
    go_wp2_with (at_builtin; go_must (generalize hWW : World.alloc w5 _ = W9; obtain rfl : W6 = W9 := (by rw [← hWW, ← HW6.out]); clear hWW HW6; refine app_src rfl (.tmp 32) (.tmp 36) rfl (W.heap.size + 3) _ 0 [] rfl HL2.out.ownK ka k kc (ss.take (k * 6)) rfl HLen.out.2.1 HS6.out (fun e => ⟨HCp.out.2.1 e, HCp.out.2.2 e⟩) HOne.out.1 (by have := HAr.out; omega) HZ6.out ?_))
    intro v2 w7 o2 g2 a2
    have HL3 : Hid (Lst W (six p.1 (some ⟨bk, ok, none⟩) nc ka p.2.list.length kc) (six y.1 na2 nc2 ka2 y.2.list.length kc2) v1 k ((p.1.ns.take k).map Value.string) v2 k (ss.take (k * 6)) w7) := HL2.out.kids (by simpa using o2) g2 a2
    clear o2 g2 a2 HL2 HS6 HZ6 d5
    obtain ⟨W8, HW8⟩ : ∃ W8, Hid (w7.alloc (.cells #[.string name] 9) = W8) := ⟨_, rfl⟩
    have HL3' : Hid (Lst W (six p.1 (some ⟨bk, ok, none⟩) nc ka p.2.list.length kc) (six y.1 na2 nc2 ka2 y.2.list.length kc2) v1 k ((p.1.ns.take k).map Value.string) v2 k (ss.take (k * 6)) W8) := by rw [← HW8.out]; exact HL3.out.alloc _
    have HN8 : Hid (Nms W8 (some ⟨w7.heap.size, 0, none⟩) [name]) := .inr ⟨w7.heap.size, 0, rfl, fun i x hx => by
      rw [← HW8.out, Nat.zero_add, World.cell?_alloc_new]
      match i, hx with
      | 0, hx => cases hx; rfl
      | i + 1, hx => simp at hx⟩
    have HZ8 : Hid (W.heap.size + 3 ≤ W8.heap.size) := HL3'.out.room
    clear HL3
    go_wp2_with (at_builtin; go_must (generalize hWW : World.alloc w7 _ = W9; obtain rfl : W8 = W9 := (by rw [← hWW, ← HW8.out]); clear hWW HW8; refine app_names2 rfl (.tmp 38) (.tmp 40) rfl (W.heap.size + 3) _ k _ rfl HL3'.out.ownN (some ⟨w7.heap.size, 0, none⟩) 1 1 [name] rfl rfl HN8.out (fun e => by cases e) (by have := HAr.out; omega) HZ8.out ?_))
    intro v3 w8 o3 g3 a3
    have HL4 : Hid (Lst W (six p.1 (some ⟨bk, ok, none⟩) nc ka p.2.list.length kc) (six y.1 na2 nc2 ka2 y.2.list.length kc2) v3 (k + 1) ((p.1.ns.take k).map Value.string ++ [Value.string name]) v2 k (ss.take (k * 6)) w8) := HL3'.out.names (by simpa using o3) g3 a3
    clear o3 g3 a3 HL3' HN8 HZ8
    have f0 : w8.cell? ⟨W.heap.size + 1, 0, none⟩ = some (.int .i64 y.1.k) := HL4.out.b2.cell 0
    have f1 : w8.cell? ⟨W.heap.size + 1, 1, none⟩ = some (.int .i64 y.1.n) := HL4.out.b2.cell 1
    have f2 : w8.cell? ⟨W.heap.size + 1, 2, none⟩ = some (.int .i64 y.1.s) := HL4.out.b2.cell 2
    have f3 : w8.cell? ⟨W.heap.size + 1, 3, none⟩ = some (.string y.1.t) := HL4.out.b2.cell 3
    have f4 : w8.cell? ⟨W.heap.size + 1, 4, none⟩ = some (.slice na2 y.1.ns.length nc2) := HL4.out.b2.cell 4
    have f5 : w8.cell? ⟨W.heap.size + 1, 5, none⟩ = some (.slice ka2 y.2.list.length kc2) := HL4.out.b2.cell 5
    obtain ⟨Wa, HWa⟩ : ∃ Wa, Hid (w8.alloc (.cells #[.int .i64 y.1.k, .int .i64 y.1.n, .int .i64 y.1.s, .string y.1.t, .slice na2 y.1.ns.length nc2, .slice ka2 y.2.list.length kc2] 25) = Wa) := ⟨_, rfl⟩
    have HL4' : Hid (Lst W (six p.1 (some ⟨bk, ok, none⟩) nc ka p.2.list.length kc) (six y.1 na2 nc2 ka2 y.2.list.length kc2) v3 (k + 1) ((p.1.ns.take k).map Value.string ++ [Value.string name]) v2 k (ss.take (k * 6)) Wa) := by rw [← HWa.out]; exact HL4.out.alloc _
    have HSa : Hid (∀ j u, (six y.1 na2 nc2 ka2 y.2.list.length kc2)[j]? = some u → Wa.cell? ⟨w8.heap.size, j, none⟩ = some u) := fun j u hj => by
      rw [← HWa.out, World.cell?_alloc_new]
      show (six y.1 na2 nc2 ka2 y.2.list.length kc2).toArray[j]? = some u
      rw [List.getElem?_toArray]
      exact hj
    have HZa : Hid (W.heap.size + 3 ≤ Wa.heap.size) := HL4'.out.room
    clear HL4
    go_wp2_with (at_builtin; go_must (generalize hWW : World.alloc w8 _ = W9; obtain rfl : Wa = W9 := (by rw [← hWW, ← HWa.out]); clear hWW HWa; refine app_kids rfl (.tmp 42) (.tmp 44) rfl (W.heap.size + 3) _ k _ rfl HL4'.out.ownK w8.heap.size 1 1 (six y.1 na2 nc2 ka2 y.2.list.length kc2) rfl rfl HSa.out (six_one _ _ _ _ _ _) (by have := HAr.out; omega) HZa.out ?_))
    intro v4 w9 o4 g4 a4
    have HL5 : Hid (Lst W (six p.1 (some ⟨bk, ok, none⟩) nc ka p.2.list.length kc) (six y.1 na2 nc2 ka2 y.2.list.length kc2) v3 (k + 1) ((p.1.ns.take k).map Value.string ++ [Value.string name]) v4 (k + 1) (ss.take (k * 6) ++ (six y.1 na2 nc2 ka2 y.2.list.length kc2)) w9) := HL4'.out.kids o4 g4 a4
    clear o4 g4 a4 HL4' HSa HZa f0 f1 f2 f3 f4 f5
    have d4 : w9.cell? ⟨W.heap.size, 4, none⟩ = some (.slice (some ⟨bk, ok, none⟩) p.1.ns.length nc) := HL5.out.b1.cell 4
    have hnl3 : p.1.ns.length ≤ 2500 := HAr.out.2.2.2.2.2.2.1
    have hcx := HXc.out w9 HL5.out.below
    go_wp2_with ((with_reducible refine sl_pre ?_); refine sl_part rfl 22 (.tmp 64) (.tmp 65) rfl 9 Try.underlying22 1 sz9 (some ⟨bk, ok, none⟩) p.1.ns.length nc (k) _ (by omega) rfl rfl (by have := HAr.out; omega) (by have := HAr.out; omega) ?_)
    intro A1 hA12
    have hA1 := hA12.1
    have hA2 := hA12.2
    clear hA12
    have HN9 : Hid (Nms w9 A1 (p.1.ns.drop (k))) := by
      by_cases hlt : k < p.1.ns.length
      · rcases HV.out.nms.below HL5.out.below with e | ⟨b, o, e, hc⟩
        · rw [e] at hlt; simp at hlt
        · refine .inr ⟨b, o + (k) * 1, hA2 hlt b o e, fun i x hx => ?_⟩
          rw [List.getElem?_drop] at hx
          have := hc _ x hx
          rw [show o + (k) * 1 + i = o + (k + i) by omega]
          exact this
      · left
        exact List.drop_of_length_le (by omega)
    have HA1 : Hid (A1 = none → nc - (k) = 0) := fun e => by have := HCp.out.1 (hA1 e); omega
    have HZ9 : Hid (W.heap.size + 3 ≤ w9.heap.size) := HL5.out.room
    clear hA1 hA2 d4
    go_wp2_with (at_builtin; go_must (refine app_names2 rfl (.tmp 62) (.tmp 66) rfl (W.heap.size + 3) _ (k + 1) _ rfl HL5.out.ownN A1 _ _ (p.1.ns.drop (k)) (by rw [List.length_drop]) rfl HN9.out HA1.out (by have := HAr.out; omega) HZ9.out ?_))
    intro v5 w10 o5 g5 a5
    have HL6 : Lst W (six p.1 (some ⟨bk, ok, none⟩) nc ka p.2.list.length kc) (six y.1 na2 nc2 ka2 y.2.list.length kc2) v5 (k + 1 + (p.1.ns.length - (k))) ((p.1.ns.take k).map Value.string ++ [Value.string name] ++ (p.1.ns.drop (k)).map Value.string) v4 (k + 1) (ss.take (k * 6) ++ (six y.1 na2 nc2 ka2 y.2.list.length kc2)) w10 := HL5.out.names (by simpa using o5) g5 a5
    obtain ⟨na5, nc5, rfl⟩ := own_shape HL6.ownN
    have HL6' : Hid _ := HL6
    clear o5 g5 a5 HL5 HN9 HA1 HZ9 HL6
    have HLn : Hid (k + 1 + (p.1.ns.length - (k)) = (layN p name).length ∧ ((p.1.ns.take k).map Value.string ++ [Value.string name]) ++ (p.1.ns.drop (k)).map Value.string = (layN p name).map Value.string) := by
      obtain ⟨e1, e2⟩ := HKT.out
      refine ⟨?_, ?_⟩
      · simp only [layN, e1, e2, List.length_append, List.length_take, List.length_cons, List.length_drop]; have := HAr.out; omega
      · simp [layN, e1, e2]
    go_wp2_with (refine st_one rfl 22 (.tmp 68) (.tmp 67) rfl W.heap.size 4 25 _ _ rfl rfl rfl rfl (by simp [six]) HL6'.out.b1 s22 ?_)
    intro w11 b11 g11
    have HL7 := HL6'.out.box b11 g11
    have HL7' : Hid _ := HL7
    have d5 : w11.cell? ⟨W.heap.size, 5, none⟩ = some (.slice ka p.2.list.length kc) := HL7.b1.cell 5
    clear b11 g11 HL6' HL7
    go_wp2_with ((with_reducible refine sl_pre ?_); refine sl_part rfl 23 (.tmp 71) (.tmp 72) rfl 25 Try.underlying23 6 sz25 ka p.2.list.length kc (k) _ (by omega) rfl rfl (by have := HAr.out; omega) (by have := HAr.out; omega) ?_)
    intro A1 hA12
    have hA1 := hA12.1
    have hA2 := hA12.2
    clear hA12
    have HSb : Hid (∀ ad, A1 = some ad → ∀ j u, (ss.drop ((k) * 6))[j]? = some u → w11.cell? (ad.add j) = some u) := fun ad e j u hj => by
      rw [List.getElem?_drop] at hj
      have hl := (List.getElem?_eq_some_iff.1 hj).1
      have hl2 := HLen.out.2.2
      have har := HAr.out
      have hlt : k < p.2.list.length := by omega
      rcases HV.out.slc with e0 | ⟨b, o, e0, _⟩
      · rw [e0] at hlt; simp [Fo.list] at hlt
      · rw [hA2 hlt b o e0] at e
        obtain rfl := Option.some.inj e
        have := HSx.out w11 HL7'.out.below ⟨b, o, none⟩ e0 _ u hj
        rw [Addr.add_lit] at this ⊢
        rw [show o + (k) * 6 + j = o + ((k) * 6 + j) by omega]
        exact this
    have HA1 : Hid (A1 = none → kc - (k) = 0 ∧ p.2.list.length - (k) = 0) := fun e => by
      have e1 := HCp.out.2.1 (hA1 e)
      have e2 := HCl.out
      exact ⟨by omega, by omega⟩
    have HZb : Hid (W.heap.size + 3 ≤ w11.heap.size) := HL7'.out.room
    clear hA1 hA2 d5
    go_wp2_with (at_builtin; go_must (refine app_src rfl (.tmp 69) (.tmp 73) rfl (W.heap.size + 3) _ (k + 1) _ rfl HL7'.out.ownK A1 _ _ (ss.drop ((k) * 6)) rfl (by rw [List.length_drop, HLen.out.2.2]; have := HAr.out; omega) HSb.out HA1.out HOne.out.2.1 (by have := HAr.out; omega) HZb.out ?_))
    intro v6 w12 o6 g6 a6
    have HL8 := HL7'.out.kids (xK' := ss.take (k * 6) ++ (six y.1 na2 nc2 ka2 y.2.list.length kc2) ++ ss.drop ((k) * 6)) (by simpa using o6) g6 a6
    obtain ⟨ka6, kc6, rfl⟩ := own_shape HL8.ownK
    have HL8' : Hid _ := HL8
    clear o6 g6 a6 HL7' HSb HA1 HZb HL8
    go_wp2_with (refine st_one rfl 23 (.tmp 75) (.tmp 74) rfl W.heap.size 5 25 _ _ rfl rfl rfl rfl (by simp [six]) HL8'.out.b1 s23 ?_)
    intro w13 b13 g13
    have HL9 := HL8'.out.box b13 g13
    have HL9' : Hid _ := HL9
    have HLk : Hid (k + 1 + (p.2.list.length - (k)) = (layV p name y).2.list.length) := by
      show _ = _
      rw [lay_len p name y HNK.out, ← HLn.out.1, HNK.out]
    clear b13 g13 HL8'
    have b9 := HL9.b1
    have z0 : w13.cell? ⟨W.heap.size, 0, none⟩ = some (.int .i64 p.1.k) := b9.cell 0
    have z1 : w13.cell? ⟨W.heap.size, 1, none⟩ = some (.int .i64 p.1.n) := b9.cell 1
    have z2 : w13.cell? ⟨W.heap.size, 2, none⟩ = some (.int .i64 p.1.s) := b9.cell 2
    have z3 : w13.cell? ⟨W.heap.size, 3, none⟩ = some (.string p.1.t) := b9.cell 3
    have z4 : w13.cell? ⟨W.heap.size, 4, none⟩ = some (.slice na5 (k + 1 + (p.1.ns.length - (k))) nc5) := b9.cell 4
    have z5 : w13.cell? ⟨W.heap.size, 5, none⟩ = some (.slice ka6 (k + 1 + (p.2.list.length - (k))) kc6) := b9.cell 5
    have HBz : Hid (Blk w13 (W.heap.size + 1 + 1) 25 zer) := HL9.b3
    clear b9 HL9
    go_wp2_with (refine st_all rfl 25 (.tmp 6) (.tmp 76) rfl (W.heap.size + 1 + 1) 25 zer [.int .i64 p.1.k, .int .i64 p.1.n, .int .i64 p.1.s, .string p.1.t, .slice na5 (k + 1 + (p.1.ns.length - (k))) nc5, .slice ka6 (k + 1 + (p.2.list.length - (k))) kc6] rfl rfl HBz.out rfl s25 (by intro u hu; simp only [List.mem_cons, List.not_mem_nil, or_false] at hu; rcases hu with rfl | rfl | rfl | rfl | rfl | rfl <;> rfl) ?_)
    intro w14 b14 g14
    have HB14 : Hid (Blk w14 (W.heap.size + 1 + 1) 25 [.int .i64 p.1.k, .int .i64 p.1.n, .int .i64 p.1.s, .string p.1.t, .slice na5 (k + 1 + (p.1.ns.length - (k))) nc5, .slice ka6 (k + 1 + (p.2.list.length - (k))) kc6]) := b14
    have HFin : Hid ((∃ L, VlL w14 (layV p name y) na5 nc5 ka6 kc6 L ∧ ∀ x ∈ L, x < w14.heap.size ∧ (x ∈ Lp ∨ x ∈ Ly ∨ W.heap.size ≤ x)) ∧ Below W.heap.size W w14) := by
      have h := HL9'.out
      obtain ⟨e1, e2⟩ := HKT.out
      have bl : Below W.heap.size W w14 := h.below.grown g14 h.below.size (by intro x hx; injection hx with hx; omega)
      have oN := own_kept h.ownN g14 (by omega)
      have oK := own_kept h.ownK g14 (by omega)
      rw [HLn.out.1, HLn.out.2] at oN
      rw [HLk.out] at oK
      have lN := World.ownsRow.lt oN
      have lK := World.ownsRow.lt oK
      obtain ⟨na7, nc7, Ln, ee, hnm, hcp, hob, _⟩ := nml_of oN
      injection ee with x1 _ x3
      subst x1 x3
      obtain ⟨ka7, kc7, sp, ee, hck, hrow⟩ := row_of oK
      injection ee with x1 _ x3
      subst x1 x3
      obtain ⟨⟨hl0, hl1⟩, hy0, hy1⟩ := HSL.out
      have s0 : Lay w14 p.2 ss Lk := Lay.keep _ hl0 fun x hx => bl.block x (hl1 x hx).2
      have y0 : VlL w14 y na2 nc2 ka2 kc2 Ly := hy0.keep fun x hx => bl.block x (hy1 x hx)
      obtain ⟨L1, _, ex, la, _⟩ := s0.split (k)
      obtain ⟨_, L3, ez, _, lb⟩ := s0.split (k)
      have hsrc : Lay w14 (layV p name y).2 (ss.take (k * 6) ++ (six y.1 na2 nc2 ka2 y.2.list.length kc2) ++ ss.drop ((k) * 6)) (L1 ++ (Ly ++ L3)) := by
        rw [List.append_assoc]
        have := la.app (g := .cons y.1 y.2 (p.2.drop (k))) (c2 := (six y.1 na2 nc2 ka2 y.2.list.length kc2) ++ ss.drop ((k) * 6)) (L2 := Ly ++ L3) (lay_cons.2 ⟨na2, nc2, ka2, kc2, _, Ly, L3, rfl, rfl, y0, lb⟩)
        simp only [layV, e1, e2]
        exact this
      have hsz := bl.size
      have hmem : ∀ x ∈ L1 ++ (Ly ++ L3), x < w14.heap.size ∧ (x ∈ Lp ∨ x ∈ Ly ∨ W.heap.size ≤ x) := fun x hx => by
        simp only [List.mem_append] at hx
        rcases hx with hx | hx | hx
        · have := hl1 x (by rw [ex]; simp [hx]); exact ⟨by omega, .inl this.1⟩
        · have := hy1 x hx; exact ⟨by omega, .inr (.inl hx)⟩
        · have := hl1 x (by rw [ez]; simp [hx]); exact ⟨by omega, .inl this.1⟩
      refine ⟨?_, bl⟩
      rcases hrow with hr | ⟨g, rfl, hg, _, _, _⟩
      · refine ⟨Ln ++ [], ⟨Ln, [], rfl, hnm, hcp, hck, .inl ⟨list_nil hr.1, rfl⟩⟩, fun x hx => ?_⟩
        simp only [List.append_nil] at hx
        have := lN x (hob x hx)
        exact ⟨this.2, .inr (.inr (by omega))⟩
      · refine ⟨Ln ++ (g :: (L1 ++ (Ly ++ L3))), ⟨Ln, _, rfl, hnm, hcp, hck, .inr ⟨g, 0, _, _, rfl, rfl, fun i => hg.frozen i, fun j u hj => ?_, hsrc⟩⟩, fun x hx => ?_⟩
        · rw [Nat.zero_add, hg.cell, List.getElem?_append_left (List.getElem?_eq_some_iff.1 hj).1]
          exact hj
        · rcases List.mem_append.1 hx with hx | hx
          · have := lN x (hob x hx)
            exact ⟨this.2, .inr (.inr (by omega))⟩
          · rcases List.mem_cons.1 hx with rfl | hx
            · have := lK x rfl
              exact ⟨this.2, .inr (.inr (by omega))⟩
            · exact hmem x hx
    clear b14 g14
    go_wp2
    refine bodyPost_ret (res_row rfl _ (W.heap.size + 1 + 1) 25 _ _ rfl HB14.out Try.underlying25 rfl s25) rfl ?_
    refine ⟨na5, nc5, ka6, kc6, ?_, HFin.out⟩
    rw [HLn.out.1, HLk.out]
    rfl
end Go.Proofs.Ytiddlpjnfophhaa
